/- the walk of SpaceApart -/
import Derived.Test.YtpljdjkmemojmaaLaw21
import Derived.Test.YtpljdjkmemojmaaFlow
import Derived.Test.YtpljdjkmemojmaaKnown
set_option maxRecDepth 100000
namespace Go.Proofs.Ytpljdjkmemojmaa.Law21C
open Go.RowKit SpaceM Space Pile Pairs
open Go.Proofs.Ytpljdjkmemojmaa.Drawn

abbrev RR := Nat × Nat
/-- what was taken, and not given back, in the program's list; the slots -/
structure Rd (w wr : World) (s B : Nat) (v : Value) (f : List Bool) (L : List RR) : Prop where
  sp : SpAt wr s f
  own : OwnPr wr B 42 v (L.map two)
  held : Held f L
  l40 : f.length = 40
  below : Below w.heap.size w wr
  low : w.heap.size ≤ s
  sB : s < B
  size : B ≤ wr.heap.size
/-- while one is given back -/
structure One (w : World) (s B b o c : Nat) (f f2 : List Bool) (L : List RR) (x : Nat) (d : Nat → Bool) (W : World) : Prop where
  sp0 : d x = false → SpAt W s f
  sp1 : d x = true → SpAt W s f2
  own : OwnPr W B 42 (.slice (some ⟨b, o, none⟩) L.length c) (L.map two)
  pr : PairsAt W (some ⟨b, o, none⟩) (L.map two)
  bB : B ≤ b
  below : Below w.heap.size w W
  low : w.heap.size ≤ s
  sB : s < B
  size : B ≤ W.heap.size
section
variable {w wr W W' : World} {s B b o c x : Nat} {v : Value} {f f2 : List Bool} {L : List RR} {d : Nat → Bool}
theorem upd_other {i j : Nat} (h : i ≠ j) : Drawn.upd d i j = d j := by
  unfold Drawn.upd
  have : Nat.beq j i = false := by rw [← Bool.not_eq_true, Nat.beq_eq]; exact fun e => h e.symm
  rw [this, Bool.or_false]
theorem upd_self {i : Nat} : Drawn.upd d i i = true := by
  unfold Drawn.upd
  have : Nat.beq i i = true := by rw [Nat.beq_eq]
  rw [this, Bool.or_true]
theorem Rd.more (h : Rd w wr s B v f L) (hb : Below wr.heap.size wr W) : Rd w W s B v f L :=
  ⟨h.sp.below hb, h.own.below hb, h.held, h.l40, h.below.trans (hb.mono h.below.size), h.low, h.sB, Nat.le_trans h.size hb.size⟩
theorem Rd.form (h : Rd w wr s B v f L) : ∃ A c, v = .slice A L.length c ∧ L.length ≤ c ∧ c ≤ maxLen ∧ PairsAt wr A (L.map two) ∧ ∀ a, A = some a → B ≤ a.block := by
  obtain ⟨A, c, h1, h2, h3, h4, h5⟩ := h.own.pairs
  rw [List.length_map] at h1 h2
  exact ⟨A, c, h1, h2, h3, h4, fun a e => (h5 a e).1⟩
theorem Rd.one (h : Rd w wr s B (.slice (some ⟨b, o, none⟩) L.length c) f L) (hx : d x = false) : One w s B b o c f f2 L x d wr.drew := by
  obtain ⟨A, c', h1, _, _, h4, h5⟩ := h.form
  injection h1 with h1 _ _
  subst h1
  have h := h.more (bdraw wr 1)
  exact ⟨fun _ => h.sp, (fun e => by rw [hx] at e; cases e), h.own, h4.below (bdraw wr 1), h5 _ rfl, h.below, h.low, h.sB, h.size⟩
theorem One.skip {i : Nat} (h : One w s B b o c f f2 L x d W) (hx : i ≠ x) : One w s B b o c f f2 L x (Drawn.upd d i) W :=
  ⟨(fun e => h.sp0 (by rwa [upd_other hx] at e)), (fun e => h.sp1 (by rwa [upd_other hx] at e)), h.own, h.pr, h.bB, h.below, h.low, h.sB, h.size⟩
theorem One.go (h : One w s B b o c f f2 L x d W) (hd : SpAt W' s f2) (k : Keeps (fun k => k = s) W W') : One w s B b o c f f2 L x (Drawn.upd d x) W' := by
  have hsB := h.sB
  have hbB := h.bB
  exact ⟨(fun e => by rw [upd_self] at e; cases e), fun _ => hd, h.own.keep k (fun j e hj => by simp [Value.ownBlock] at e; omega), h.pr.keep k (fun _ a e hj => by injection e with e; subst e; simp at hj; omega),
    h.bB, below_keeps h.below k (fun j e => by rw [e]; exact h.low) h.below.size, h.low, h.sB, Nat.le_trans h.size k.size⟩
theorem Rd.kept (h : Rd w wr s B v f L) (hs : SpAt W s f) (k : Keeps (fun k => k = s) wr W) (h1 : Held f L) (h2 : f.length = 40) : Rd w W s B v f L := by
  have hsB := h.sB
  exact ⟨hs, h.own.keep k (fun j e hj => by have := (h.own.lt j e).1; omega), h1, h2, below_keeps h.below k (fun j e => by rw [e]; exact h.low) h.below.size, h.low, h.sB, Nat.le_trans h.size k.size⟩
theorem Rd.kept2 {A : Option Addr} (h : Rd w wr s B (.slice A L.length c) f L) (hs : SpAt W s f2) (k : Keeps (fun k => k = s) wr W) :
    SpAt W s f2 ∧ OwnPr W B 42 (.slice A L.length c) (L.map two) ∧ PairsAt W A (L.map two) ∧ Below w.heap.size w W ∧ B ≤ W.heap.size ∧ s < B ∧ w.heap.size ≤ s := by
  have hsB := h.sB
  obtain ⟨A', c', h1, _, _, h4, h5⟩ := h.form
  injection h1 with h1 _ _
  subst h1
  exact ⟨hs, h.own.keep k (fun j e hj => by have := (h.own.lt j e).1; omega), h4.keep k (fun _ a e hj => by have := h5 a e; omega), below_keeps h.below k (fun j e => by rw [e]; exact h.low) h.below.size, Nat.le_trans h.size k.size, hsB, h.low⟩
theorem One.rd (h : One w s B b o c f f2 L x d W) (hx : d x = true) : SpAt W s f2 ∧ PairsAt W (some ⟨b, o, none⟩) (L.map two) ∧ Below w.heap.size w W ∧ B ≤ W.heap.size := ⟨h.sp1 hx, h.pr, h.below, h.size⟩
theorem One.at (h : One w s B b o c f f2 L x d W) {kk h1 h2 : Nat} (hk : kk < L.length) (hh : L[kk] = (h1, h2)) : W.cell? ⟨b, o + kk * 2, none⟩ = some (.int .i64 (h1 : Nat)) ∧ W.cell? ⟨b, o + kk * 2 + 1, none⟩ = some (.int .i64 (h2 : Nat)) := by
  obtain ⟨b', o', e, k1, k2⟩ := h.pr kk (by simpa using hk)
  injection e with e; injection e with e1 e2; subst e1; subst e2
  rw [List.getElem_map, hh] at k1 k2
  exact ⟨k1, k2⟩
end
theorem Rd.next2 {w w6 w7 : World} {s B a n : Nat} {v57 v' : Value} {f f2 : List Bool} {L : List RR} (hsp : SpAt w6 s f2) (hx : OwnPr w6 B 42 v57 (L.map two)) (hb : Below w.heap.size w w6) (hB : B ≤ w6.heap.size) (hs : s < B) (hlow : w.heap.size ≤ s)
    (hh : Held (setAt f a n false) (L ++ [(a, n)])) (hf2 : f2 = setAt f a n false) (h40 : f.length = 40) (ha : AppdPr w6 B 42 v57 (L.map two ++ [(((a : Nat) : Int), ((n : Nat) : Int))]) v' w7) : Rd w w7 s B v' f2 (L ++ [(a, n)]) := by
  have hb7 : Below B w6 w7 := ha.below hx ⟨rfl, rfl, rfl, Nat.le_refl _, fun _ _ => rfl⟩ (Nat.le_refl _) hB
  refine ⟨hsp.belowK hb7 hs, by rw [List.map_append]; exact ha.own, by rw [hf2]; exact hh, by rw [hf2, setAt_len]; exact h40, hb.trans (hb7.mono (by omega)), hlow, hs, Nat.le_trans hB hb7.size⟩
theorem Rd.next {w w6 w7 : World} {s B : Nat} {v57 v' : Value} {f f2 : List Bool} {K M : List RR} {h1 h2 : Nat} (hsp : SpAt w6 s f2) (hx : OwnPr w6 B 42 v57 (K.map two)) (hb : Below w.heap.size w w6) (hB : B ≤ w6.heap.size) (hs : s < B) (hlow : w.heap.size ≤ s)
    (hh : Held (setAt f h1 h2 true) (K ++ M)) (hf2 : f2 = setAt f h1 h2 true) (h40 : f.length = 40) (ha : AppdPr w6 B 42 v57 (K.map two ++ M.map two) v' w7) : Rd w w7 s B v' f2 (K ++ M) := by
  have hb7 : Below B w6 w7 := ha.below hx ⟨rfl, rfl, rfl, Nat.le_refl _, fun _ _ => rfl⟩ (Nat.le_refl _) hB
  refine ⟨hsp.belowK hb7 hs, by rw [List.map_append]; exact ha.own, by rw [hf2]; exact hh, by rw [hf2, setAt_len]; exact h40, hb.trans (hb7.mono (by omega)), hlow, hs, Nat.le_trans hB hb7.size⟩
/-- an empty row without room -/
def SP.fresh (B : Nat) : Drawn.SP := ⟨fun v w => ∃ g, v = .slice (some ⟨g, 0, none⟩) 0 0 ∧ w.heap[g]? = some (.cells #[] 42 (0, 0)) ∧ B ≤ g, fun _ _ _ h hb => by
  obtain ⟨g, h1, h2, h3⟩ := h
  exact ⟨g, h1, (hb.block g (Array.getElem?_eq_some_iff.1 h2).1).trans h2, h3⟩⟩
def SP.own (B : Nat) (L : List RR) : Drawn.SP := ⟨fun v w => ∃ v0, v = v0 ∧ OwnPr w B 42 v0 (L.map two), fun _ _ _ h hb => by
  obtain ⟨v0, h1, h2⟩ := h
  exact ⟨v0, h1, h2.below hb⟩⟩
def SP.pairs (L : List RR) (n : Nat) : Drawn.SP := ⟨fun v w => ∃ A d, v = .slice A n d ∧ PairsAt w A (L.map two), fun _ _ _ h hb => by
  obtain ⟨A, d, h1, h2⟩ := h
  exact ⟨A, d, h1, h2.below hb⟩⟩
theorem arr_info : (Try.prog.info? 42).map (fun i => (i.zero, i.size, i.bytes)) = some (some (.agg #[.int .i64 0, .int .i64 0]), 2, 16) := by kernel_rfl
theorem arr_info' : ∃ i, Try.prog.info? 42 = some i ∧ i.zero = some (.agg #[.int .i64 0, .int .i64 0]) ∧ i.size = 2 ∧ i.bytes = 16 := by
  obtain ⟨i0, h, a, b, c⟩ := info_parts arr_info
  exact ⟨i0, h, a, b, c⟩
set_option maxHeartbeats 4000000 in
theorem apart_any (A : Option Addr) (l : List UInt8) (cl : Nat) (w : World) (hA : BytesAt w A l) (_h1 : l.length ≤ cl) (_h2 : cl ≤ maxLen) :
    Calls Try.prog 4 #[.slice A l.length cl] w fun e w' => e = .returned (.bool true) ∧ Below w.heap.size w w' := by
  by_cases hlong : 60 < l.length
  · have hlong' : (60 : Int) < (l.length : Int) := by omega
    have AL := Lib.hid (Law21.alive_any w)
    clear hA
    generalize l.length = ll at *
    go_enter Try.func4, Try.ntmps4
    go_wp2_with fail
    refine AL.out.mono ?_
    rintro e w1 ⟨rfl, hb1⟩
    have HB1 := Lib.hid hb1
    clear hb1
    go_wp2
    go_ret
    exact ⟨rfl, HB1.out⟩
  have hlong' : ¬ (60 : Int) < (l.length : Int) := by omega
  have HA := Lib.hid hA
  have C0 := Lib.hid (Space.new_any 40 w ⟨by decide, by decide⟩)
  obtain ⟨f0, hf0⟩ : ∃ f0, f0 = SpaceM.new 40 := ⟨_, rfl⟩
  have HF0 : Hid (Held f0 [] ∧ f0.length = 40) := Lib.hid (by rw [hf0]; exact ⟨Held.new 40, rfl⟩)
  rw [← hf0] at C0
  obtain ⟨N, hN⟩ : ∃ N, N = l.length := ⟨_, rfl⟩
  have HN := Lib.hid hN
  rw [← hN] at hlong hlong' _h1 ⊢
  obtain ⟨i0, hi, hz, hs1, hb1⟩ := arr_info'
  have HI := Lib.hid (And.intro hi (And.intro hz (And.intro hs1 hb1)))
  clear hA hf0 hN hi hz hs1 hb1
  go_enter Try.func4, Try.ntmps4
  go_wp2_with fail
  refine C0.out.mono ?_
  rintro e w1 ⟨s, rfl, hs1, hl1, hb1⟩
  obtain ⟨B, hB⟩ : ∃ B, B = w1.heap.size := ⟨_, rfl⟩
  have HRD : Hid (Rd w w1 s B (.slice none 0 0) f0 []) := Lib.hid ⟨hs1, OwnPr.nil _ _ _, HF0.out.1, HF0.out.2, hb1, hl1, by rw [hB]; exact hs1.lt, by rw [hB]; exact Nat.le_refl _⟩
  clear hs1 hl1 hb1 hB C0 HF0
  go_wp2
  go_loopw [4, 24] (fun v i wr => ∃ (k : Nat) (f : List Bool) (L : List RR), i = .int .i64 k ∧ k ≤ N ∧ L.length ≤ k ∧ Hid (Rd w wr s B v f L)) (fun _ i _ => N - (intOf i).toNat)
  case atStart => exact ⟨0, f0, [], rfl, Nat.zero_le _, Nat.le_refl _, HRD⟩
  case round =>
    obtain ⟨k, f, L, rfl, hk, hLk, HR⟩ := hrel
    rename World => wr
    rename Value => v
    obtain ⟨Ah, c, hv, hcl, hcm, hprs, hAB⟩ := HR.out.form
    subst hv
    have HPRS := Lib.hid hprs
    have HAB := Lib.hid hAB
    clear hprs hAB
    by_cases hlt : k < N
    · obtain ⟨bl, ol, hA, ex⟩ := (HA.out.below HR.out.below) k (by rw [← HN.out]; exact hlt)
      subst hA
      have hlt' : (k : Int) < (N : Int) := by omega
      generalize l[k]'(by rw [← HN.out]; exact hlt) = xb at *
      have hx256 := u8_wf xb
      obtain ⟨x, hx⟩ : ∃ x, x = xb.toNat := ⟨_, rfl⟩
      rw [← hx] at ex hx256
      clear hx
      have hi1 : IntKind.i64.wrap ((k : Int) + 1) = (k : Int) + 1 := IntWalk.i64_in _ (by omega)
      by_cases hg : 128 ≤ x ∧ 0 < L.length
      · obtain ⟨hg1, hg2⟩ := hg
        obtain ⟨b, o, hbo, _⟩ := HPRS.out 0 (by simpa using hg2)
        subst hbo
        obtain ⟨Ln, hLn⟩ : ∃ Ln, Ln = L.length := ⟨_, rfl⟩
        obtain ⟨kk, hkk⟩ : ∃ kk, kk = x % Ln := ⟨_, rfl⟩
        have hkl : kk < Ln := by rw [hkk]; exact Nat.mod_lt _ (by omega)
        have r1 : (x : Int).tmod (Ln : Int) = (kk : Int) := by rw [hkk]; rfl
        have r2 : IntKind.i64.wrap (kk : Int) = (kk : Int) := IntWalk.i64_in _ (by omega)
        have r3 : IntKind.i64.wrap (x : Int) = (x : Int) := IntWalk.i64_in _ (by omega)
        have r4 : ¬ (Ln : Int) = 0 := by omega
        have r5 : (128 : Int) ≤ (x : Int) := by omega
        have r6 : (0 : Int) < (Ln : Int) := by omega
        have r7 : IntKind.i64.wrap ((kk : Int) + 1) = ((kk + 1 : Nat) : Int) := by rw [IntWalk.i64_in _ (by omega)]; omega
        have HKK : Hid (kk < L.length) := Lib.hid (by rw [← hLn]; exact hkl)
        obtain ⟨⟨_h1', _h2'⟩, hh⟩ : ∃ p, L[kk]'HKK.out = p := ⟨_, rfl⟩
        have HH := Lib.hid hh
        have hgv := HR.out.held.give kk HKK.out
        rw [hh] at hgv
        have HGV := Lib.hid hgv
        obtain ⟨f2, hf2⟩ : ∃ f2, f2 = setAt f _h1' _h2' true := ⟨_, rfl⟩
        have hhb := HR.out.held.one _ (List.getElem_mem HKK.out)
        rw [hh] at hhb
        have h40 := HR.out.l40
        have CG : Hid (∀ W, SpAt W s f → Calls Try.prog 13 #[.pointer (some ⟨s, 0, none⟩), .int .i64 (_h1' : Nat), .int .i64 (_h2' : Nat)] W fun e w' => e = .returned (.bool true) ∧ SpAt w' s f2 ∧ Keeps (fun k => k = s) W w') := Lib.hid fun W hW => by
          have hc := give_any s (_h1' : Nat) (_h2' : Nat) f W hW ⟨by omega, by omega⟩ ⟨by omega, by omega⟩
          unfold act at hc
          rw [HGV.out.1, if_pos rfl, Int.toNat_natCast, Int.toNat_natCast, ← hf2] at hc
          exact hc
        have HF2 := Lib.hid hf2
        have HR0 := Lib.hid (And.intro HR.out.sB HR.out.low)
        have HR40 := Lib.hid h40
        have HLN := Lib.hid hLn
        rw [← hLn] at hg2 hLk hcl ⊢
        clear hLn hkk hh hgv hhb hf2 h40
        go_wp2_with fail
        refine Drawn.wp_region_known 13 [.pointer (some ⟨s, 0, none⟩), .slice (some ⟨b, o, none⟩) Ln c, .int .i64 (kk : Nat), .pointer (some ⟨b, o + kk * 2, none⟩), .pointer (some ⟨b, o + kk * 2, none⟩), .int .i64 (_h1' : Nat), .slice (some ⟨b, o, none⟩) Ln c, .int .i64 (kk : Nat), .pointer (some ⟨b, o + kk * 2, none⟩), .pointer (some ⟨b, o + kk * 2 + 1, none⟩), .int .i64 (_h2' : Nat), .bool true, .bool false] (One w s B b o c f f2 L 11) (by kernel_rfl) (by kernel_rfl) ?_ ?_ ?_
        · exact fun d hd => HR.out.one (hd 11 (by omega))
        · intro i hi d a w5 hf hI hev hdep
          rcases (show i = 0 ∨ i = 1 ∨ i = 2 ∨ i = 3 ∨ i = 4 ∨ i = 5 ∨ i = 6 ∨ i = 7 ∨ i = 8 ∨ i = 9 ∨ i = 10 ∨ i = 11 ∨ i = 12 by omega) with rfl | rfl | rfl | rfl | rfl | rfl | rfl | rfl | rfl | rfl | rfl | rfl | rfl
          · have e3 : a.tmps[3]?.getD undef = .pointer (some ⟨s, 0, none⟩) := hev 3 rfl
            refine Drawn.wpOp_known ((One w s B b o c f f2 L 11) (Drawn.upd d 0)) (v := .pointer (some ⟨s, 0, none⟩)) 40 rfl rfl rfl ?_
            have HK := Lib.hid (hI.skip (i := 0) (by decide))
            clear hev hdep hI hf
            go_simp
            first | exact HK.out | exact ⟨rfl, HK.out⟩
          · have e4 : a.tmps[4]?.getD undef = .slice (some ⟨b, o, none⟩) Ln c := hev 4 rfl
            refine Drawn.wpOp_known ((One w s B b o c f f2 L 11) (Drawn.upd d 1)) (v := .slice (some ⟨b, o, none⟩) Ln c) 41 rfl rfl rfl ?_
            have HK := Lib.hid (hI.skip (i := 1) (by decide))
            clear hev hdep hI hf
            go_simp
            first | exact HK.out | exact ⟨rfl, HK.out⟩
          · have e7 : a.tmps[7]?.getD undef = .int .i64 (kk : Nat) := hev 7 rfl
            refine Drawn.wpOp_known ((One w s B b o c f f2 L 11) (Drawn.upd d 2)) (v := .int .i64 (kk : Nat)) 42 rfl rfl rfl ?_
            have HK := Lib.hid (hI.skip (i := 2) (by decide))
            clear hev hdep hI hf
            go_simp
            first | exact HK.out | exact ⟨rfl, HK.out⟩
          · have d1 : a.tmps[41]?.getD undef = .slice (some ⟨b, o, none⟩) Ln c := (hdep 1 rfl).2
            have d2 : a.tmps[42]?.getD undef = .int .i64 (kk : Nat) := (hdep 2 rfl).2
            refine Drawn.wpOp_known ((One w s B b o c f f2 L 11) (Drawn.upd d 3)) (v := .pointer (some ⟨b, o + kk * 2, none⟩)) 43 rfl rfl rfl ?_
            have HK := Lib.hid (hI.skip (i := 3) (by decide))
            clear hev hdep hI hf
            go_simp
            first | exact HK.out | exact ⟨rfl, HK.out⟩
          · have d3 : a.tmps[43]?.getD undef = .pointer (some ⟨b, o + kk * 2, none⟩) := (hdep 3 rfl).2
            refine Drawn.wpOp_known ((One w s B b o c f f2 L 11) (Drawn.upd d 4)) (v := .pointer (some ⟨b, o + kk * 2, none⟩)) 44 rfl rfl rfl ?_
            have HK := Lib.hid (hI.skip (i := 4) (by decide))
            clear hev hdep hI hf
            go_simp
            first | exact HK.out | exact ⟨rfl, HK.out⟩
          · have d4 : a.tmps[44]?.getD undef = .pointer (some ⟨b, o + kk * 2, none⟩) := (hdep 4 rfl).2
            refine Drawn.wpOp_known ((One w s B b o c f f2 L 11) (Drawn.upd d 5)) (v := .int .i64 (_h1' : Nat)) 45 rfl rfl rfl ?_
            obtain ⟨k1, k2⟩ := hI.at HKK.out HH.out
            have HK := Lib.hid (hI.skip (i := 5) (by decide))
            clear hev hdep hI hf
            go_simp
            first | exact HK.out | exact ⟨rfl, HK.out⟩
          · have e4 : a.tmps[4]?.getD undef = .slice (some ⟨b, o, none⟩) Ln c := hev 4 rfl
            refine Drawn.wpOp_known ((One w s B b o c f f2 L 11) (Drawn.upd d 6)) (v := .slice (some ⟨b, o, none⟩) Ln c) 46 rfl rfl rfl ?_
            have HK := Lib.hid (hI.skip (i := 6) (by decide))
            clear hev hdep hI hf
            go_simp
            first | exact HK.out | exact ⟨rfl, HK.out⟩
          · have e7 : a.tmps[7]?.getD undef = .int .i64 (kk : Nat) := hev 7 rfl
            refine Drawn.wpOp_known ((One w s B b o c f f2 L 11) (Drawn.upd d 7)) (v := .int .i64 (kk : Nat)) 47 rfl rfl rfl ?_
            have HK := Lib.hid (hI.skip (i := 7) (by decide))
            clear hev hdep hI hf
            go_simp
            first | exact HK.out | exact ⟨rfl, HK.out⟩
          · have d6 : a.tmps[46]?.getD undef = .slice (some ⟨b, o, none⟩) Ln c := (hdep 6 rfl).2
            have d7 : a.tmps[47]?.getD undef = .int .i64 (kk : Nat) := (hdep 7 rfl).2
            refine Drawn.wpOp_known ((One w s B b o c f f2 L 11) (Drawn.upd d 8)) (v := .pointer (some ⟨b, o + kk * 2, none⟩)) 48 rfl rfl rfl ?_
            have HK := Lib.hid (hI.skip (i := 8) (by decide))
            clear hev hdep hI hf
            go_simp
            first | exact HK.out | exact ⟨rfl, HK.out⟩
          · have d8 : a.tmps[48]?.getD undef = .pointer (some ⟨b, o + kk * 2, none⟩) := (hdep 8 rfl).2
            refine Drawn.wpOp_known ((One w s B b o c f f2 L 11) (Drawn.upd d 9)) (v := .pointer (some ⟨b, o + kk * 2 + 1, none⟩)) 49 rfl rfl rfl ?_
            have HK := Lib.hid (hI.skip (i := 9) (by decide))
            clear hev hdep hI hf
            go_simp
            first | exact HK.out | exact ⟨rfl, HK.out⟩
          · have d9 : a.tmps[49]?.getD undef = .pointer (some ⟨b, o + kk * 2 + 1, none⟩) := (hdep 9 rfl).2
            refine Drawn.wpOp_known ((One w s B b o c f f2 L 11) (Drawn.upd d 10)) (v := .int .i64 (_h2' : Nat)) 50 rfl rfl rfl ?_
            obtain ⟨k1, k2⟩ := hI.at HKK.out HH.out
            have HK := Lib.hid (hI.skip (i := 10) (by decide))
            clear hev hdep hI hf
            go_simp
            first | exact HK.out | exact ⟨rfl, HK.out⟩
          · have d0 : a.tmps[40]?.getD undef = .pointer (some ⟨s, 0, none⟩) := (hdep 0 rfl).2
            have d5 : a.tmps[45]?.getD undef = .int .i64 (_h1' : Nat) := (hdep 5 rfl).2
            have d10 : a.tmps[50]?.getD undef = .int .i64 (_h2' : Nat) := (hdep 10 rfl).2
            refine Drawn.wpOp_known ((One w s B b o c f f2 L 11) (Drawn.upd d 11)) (v := .bool true) 51 rfl rfl rfl ?_
            have h0 := hI.sp0 hf
            have hC := CG.out w5 h0
            have HI := Lib.hid hI
            clear hev hdep hI
            go_simp
            refine hC.mono ?_
            rintro e w' ⟨rfl, hd', hq'⟩
            exact ⟨rfl, HI.out.go hd' hq'⟩
          · have d11 : a.tmps[51]?.getD undef = .bool true := (hdep 11 rfl).2
            refine Drawn.wpOp_known ((One w s B b o c f f2 L 11) (Drawn.upd d 12)) (v := .bool false) 52 rfl rfl rfl ?_
            have HK := Lib.hid (hI.skip (i := 12) (by decide))
            clear hev hdep hI hf
            go_simp
            first | exact HK.out | exact ⟨rfl, HK.out⟩
        · intro d w5 hf hI
          show Exit.then _ _ Exit.normal (Drawn.acts _ [(52, some (.bool false)), (51, some (.bool true)), (50, some (.int .i64 (_h2' : Nat))), (49, some (.pointer (some ⟨b, o + kk * 2 + 1, none⟩))), (48, some (.pointer (some ⟨b, o + kk * 2, none⟩))), (47, some (.int .i64 (kk : Nat))), (46, some (.slice (some ⟨b, o, none⟩) Ln c)), (45, some (.int .i64 (_h1' : Nat))), (44, some (.pointer (some ⟨b, o + kk * 2, none⟩))), (43, some (.pointer (some ⟨b, o + kk * 2, none⟩))), (42, some (.int .i64 (kk : Nat))), (41, some (.slice (some ⟨b, o, none⟩) Ln c)), (40, some (.pointer (some ⟨s, 0, none⟩)))]) _
          have HR5 := Lib.hid (hI.rd (hf 11 (by omega)))
          clear hI hf
          simp only [Drawn.acts]
          go_simp
          go_at_K
          go_wp2_with fail
          obtain ⟨g1, g2, g3, g4⟩ := HR5.out
          have HSP := Lib.hid g1; have HPR := Lib.hid g2; have HB5 := Lib.hid g3; have HBW := Lib.hid g4
          have HTL : Hid (((L.map two).take kk).length = kk) := Lib.hid (by rw [List.length_take, List.length_map]; have := HKK.out; omega)
          have HLM : Hid (kk < Ln ∧ Ln ≤ c ∧ Ln ≤ 60) := Lib.hid ⟨hkl, hcl, by omega⟩
          have hkc0 : kk ≤ c := by omega
          clear g1 g2 g3 g4 HR5 HR CG HPRS
          refine Drawn.wp_region_flowT 9 [SP.fresh B, Drawn.SP.is (.slice (some ⟨b, o, none⟩) Ln c), Drawn.SP.is (.int .i64 (kk : Nat)), Drawn.SP.is (.slice (some ⟨b, o, none⟩) kk c), SP.own B (L.take kk), Drawn.SP.is (.slice (some ⟨b, o, none⟩) Ln c), Drawn.SP.is (.int .i64 (kk : Nat)), Drawn.SP.is (.int .i64 ((kk + 1 : Nat) : Int)), SP.pairs (L.drop (kk + 1)) (Ln - (kk + 1))] (by kernel_rfl) (by kernel_rfl) ?_ ?_
          · intro i hi a w6 hb hev hdep
            rcases (show i = 0 ∨ i = 1 ∨ i = 2 ∨ i = 3 ∨ i = 4 ∨ i = 5 ∨ i = 6 ∨ i = 7 ∨ i = 8 by omega) with rfl | rfl | rfl | rfl | rfl | rfl | rfl | rfl | rfl
            · refine Drawn.wpOp_flow 53 rfl rfl rfl ?_
              clear hev hdep
              have hsz := hb.size
              clear hb
              go_simp
              exact ⟨_, rfl, ⟨w6.heap.size, rfl, heap_alloc_new w6 _, Nat.le_trans HBW.out hsz⟩, balloc _ _⟩
            · have e4 : a.tmps[4]?.getD undef = .slice (some ⟨b, o, none⟩) Ln c := hev 4 rfl
              refine Drawn.wpOp_flow 54 rfl rfl rfl ?_
              clear hev hdep hb
              go_simp
              exact ⟨_, rfl, rfl, Below.refl _ _⟩
            · have e7 : a.tmps[7]?.getD undef = .int .i64 (kk : Nat) := hev 7 rfl
              refine Drawn.wpOp_flow 55 rfl rfl rfl ?_
              clear hev hdep hb
              go_simp
              exact ⟨_, rfl, rfl, Below.refl _ _⟩
            · have d1 : a.tmps[54]?.getD undef = .slice (some ⟨b, o, none⟩) Ln c := hdep 1 rfl
              have d2 : a.tmps[55]?.getD undef = .int .i64 (kk : Nat) := hdep 2 rfl
              refine Drawn.wpOp_flow 56 rfl rfl rfl ?_
              clear hev hdep hb
              go_simp
              exact ⟨_, rfl, rfl, Below.refl _ _⟩
            · obtain ⟨g3, d0, x1, x2⟩ : (SP.fresh B).p (a.tmps[53]?.getD undef) w6 := hdep 0 rfl
              have d3 : a.tmps[56]?.getD undef = .slice (some ⟨b, o, none⟩) kk c := hdep 3 rfl
              refine Drawn.wpOp_flow 57 rfl rfl rfl ?_
              clear hev hdep
              have hp := (HPR.out.below hb).take kk
              have hsz := hb.size
              refine Pairs.wp_append_fresh Try.underlying41 HI.out.1 HI.out.2.1 HI.out.2.2.1 HI.out.2.2.2 rfl _ _ rfl B g3 (by simpa [Act.eval] using d0) x1 x2 (some ⟨b, o, none⟩) kk c ((L.map two).take kk) (by simpa [Act.eval] using d3) HTL.out hp (by have := HLM.out; omega) (by omega) (Nat.le_trans HBW.out hsz) ?_
              intro v7 w7 hown7 hb7
              exact ⟨_, rfl, ⟨v7, rfl, by rw [List.map_take]; exact hown7⟩, hb7⟩
            · have e4 : a.tmps[4]?.getD undef = .slice (some ⟨b, o, none⟩) Ln c := hev 4 rfl
              refine Drawn.wpOp_flow 58 rfl rfl rfl ?_
              clear hev hdep hb
              go_simp
              exact ⟨_, rfl, rfl, Below.refl _ _⟩
            · have e7 : a.tmps[7]?.getD undef = .int .i64 (kk : Nat) := hev 7 rfl
              refine Drawn.wpOp_flow 59 rfl rfl rfl ?_
              clear hev hdep hb
              go_simp
              exact ⟨_, rfl, rfl, Below.refl _ _⟩
            · have d6 : a.tmps[59]?.getD undef = .int .i64 (kk : Nat) := hdep 6 rfl
              refine Drawn.wpOp_flow 60 rfl rfl rfl ?_
              clear hev hdep hb
              go_simp
              exact ⟨_, rfl, rfl, Below.refl _ _⟩
            · have d5 : a.tmps[58]?.getD undef = .slice (some ⟨b, o, none⟩) Ln c := hdep 5 rfl
              have d7 : a.tmps[60]?.getD undef = .int .i64 ((kk + 1 : Nat) : Int) := hdep 7 rfl
              refine Drawn.wpOp_flow 61 rfl rfl rfl ?_
              clear hev hdep
              have hp := HPR.out.below hb
              clear hb
              by_cases hcc : kk + 1 = c
              · have hz : c - (kk + 1) = 0 := by omega
                have hz2 : Ln - (kk + 1) = 0 := by have := HLM.out; omega
                have hkc : (kk : Int) + 1 = (c : Int) := by omega
                have hle : c ≤ Ln := by have := HLM.out; omega
                go_simp
                refine ⟨_, rfl, ⟨_, _, rfl, ?_⟩, Below.refl _ _⟩
                rw [List.drop_of_length_le (by rw [← HLN.out]; have := HLM.out; omega)]
                exact PairsAt.nil _ _
              · have hz : ¬ c - (kk + 1) = 0 := by have := HLM.out; omega
                have hle : kk + 1 ≤ Ln := by have := HLM.out; omega
                have hne : ¬ c = kk + 1 := by omega
                have hle1 : (0 : Int) ≤ (kk : Int) + 1 ∧ (kk : Int) + 1 ≤ (Ln : Int) := by omega
                have hdr := hp.drop (kk + 1)
                rw [← List.map_drop] at hdr
                have HDR := Lib.hid hdr
                clear hp hdr
                go_simp
                exact ⟨_, rfl, ⟨_, _, rfl, HDR.out⟩, Below.refl _ _⟩
          · intro xq w6 hb hxq
            have vq1 : xq 1 = .slice (some ⟨b, o, none⟩) Ln c := hxq 1 (by omega)
            have vq2 : xq 2 = .int .i64 (kk : Nat) := hxq 2 (by omega)
            have vq3 : xq 3 = .slice (some ⟨b, o, none⟩) kk c := hxq 3 (by omega)
            obtain ⟨v57, vq4, x57⟩ : (SP.own B (L.take kk)).p (xq 4) w6 := hxq 4 (by omega)
            have vq5 : xq 5 = .slice (some ⟨b, o, none⟩) Ln c := hxq 5 (by omega)
            have vq6 : xq 6 = .int .i64 (kk : Nat) := hxq 6 (by omega)
            have vq7 : xq 7 = .int .i64 ((kk + 1 : Nat) : Int) := hxq 7 (by omega)
            obtain ⟨X6, d6, vq8, y1⟩ : (SP.pairs (L.drop (kk + 1)) (Ln - (kk + 1))).p (xq 8) w6 := hxq 8 (by omega)
            show wpList _ _ _ _ (Drawn.acts _ [(61, some (xq 8)), (60, some (xq 7)), (59, some (xq 6)), (58, some (xq 5)), (57, some (xq 4)), (56, some (xq 3)), (55, some (xq 2)), (54, some (xq 1)), (53, some (xq 0))]) _
            rw [vq1, vq2, vq3, vq4, vq5, vq6, vq7, vq8]
            clear hxq vq1 vq2 vq3 vq4 vq5 vq6 vq7 vq8
            generalize xq 0 = yq0
            clear xq
            simp only [Drawn.acts, List.drop_succ_cons, List.drop_zero]
            go_simp
            have HX := Lib.hid x57; have HY := Lib.hid y1
            have HB6 := Lib.hid (HB5.out.trans (hb.mono HB5.out.size)); have HSP6 := Lib.hid (HSP.out.below hb); have HBW6 := Lib.hid (Nat.le_trans HBW.out hb.size)
            have HLD : Hid (((L.drop (kk + 1)).map two).length = Ln - (kk + 1)) := Lib.hid (by rw [List.length_map, List.length_drop, HLN.out])
            have HLT : Hid (((L.take kk).map two).length ≤ 60) := Lib.hid (by rw [List.length_map, List.length_take]; have := HLM.out; omega)
            clear x57 y1 hb HSP HB5 HBW HPR
            go_wp2_with (at_builtin; refine wpList_append_pairs Try.underlying41 HI.out.1 HI.out.2.1 HI.out.2.2.1 HI.out.2.2.2 rfl rfl _ _ rfl B v57 _ rfl HX.out X6 (Ln - (kk + 1)) d6 ((L.drop (kk + 1)).map two) rfl HLD.out HY.out (by have := HLT.out; omega) (by omega) HBW6.out ?_; intro v' w7 ha; have HN : Hid (Rd w w7 s B v' f2 (L.take kk ++ L.drop (kk + 1))) := Lib.hid (Rd.next HSP6.out HX.out HB6.out HBW6.out HR0.out.1 HR0.out.2 HGV.out.2 HF2.out HR40.out ha); clear ha)
            go_roundw
            case rel => exact ⟨k + 1, f2, _, by go_num, by omega, by rw [List.length_append, List.length_take, List.length_drop]; have := HLN.out; omega, HN⟩
            case measure => simp [intOf] <;> omega
      · by_cases hx8 : x < 128
        · have hx8' : ¬ (128 : Int) ≤ (x : Int) := by omega
          obtain ⟨m, hm⟩ : ∃ m, m = x % 7 := ⟨_, rfl⟩
          have r1 : (x : Int).tmod 7 = (m : Int) := by rw [hm]; rfl
          have hm7 : m < 7 := by rw [hm]; exact Nat.mod_lt _ (by omega)
          have r2 : IntKind.u8.wrap (m : Int) = (m : Int) := IntWalk.u8_in _ (by omega)
          have r3 : IntKind.i64.wrap (m : Int) = (m : Int) := IntWalk.i64_in _ (by omega)
          obtain ⟨W, hW⟩ : ∃ W, W = m + 1 := ⟨_, rfl⟩
          have r4 : IntKind.i64.wrap (1 + (m : Int)) = (W : Int) := by rw [IntWalk.i64_in _ (by omega)]; omega
          have hW7 : 1 ≤ W ∧ W ≤ 7 := by omega
          have CL := Lib.hid (longest_any s f wr HR.out.sp)
          have CT := Lib.hid (fun V h => take_any s (W : Nat) f V h ⟨by omega, by omega⟩)
          unfold RetTake at CT
          have hiff := find_iff f (W : Nat) (by omega)
          have HELD := Lib.hid HR.out.held
          have HL40 := Lib.hid HR.out.l40
          obtain ⟨Ln, hLn⟩ : ∃ Ln, Ln = L.length := ⟨_, rfl⟩
          have HLN := Lib.hid hLn
          rw [← hLn] at hLk hcl ⊢
          skip
          obtain ⟨lf, hlf⟩ : ∃ lf, lf = SpaceM.longest f := ⟨_, rfl⟩
          rw [← hlf] at CL hiff
          clear hm hW hLn hlf
          rcases hfind : find f (W : Nat) with _ | a
          · have e1 : tookAt f (W : Nat) = 0 := by unfold tookAt; rw [hfind]; rfl
            have e2 : taken f (W : Nat) = f := by unfold taken; rw [hfind]
            rw [e1, e2, hfind] at CT
            rw [hfind] at hiff
            have hno : ¬ (W : Int) ≤ (lf : Int) := of_decide_eq_false hiff.symm
            have hno2 : ¬ W ≤ lf := by omega
            clear e1 e2 hiff hfind
            go_wp2_with fail
            refine CL.out.mono ?_
            rintro e w3 ⟨rfl, hb3⟩
            have HR3 := Lib.hid (HR.out.more hb3)
            clear hb3 HR CL
            go_wp2_with fail
            refine (CT.out w3 HR3.out.sp).mono ?_
            rintro e w4 ⟨rfl, hs4, hk4⟩
            have HN : Hid (Rd w w4 s B (.slice Ah Ln c) f L) := Lib.hid (by
              have h := HR3.out.kept hs4 hk4 HELD.out HL40.out
              rw [← HLN.out] at h
              exact h)
            clear hs4 hk4 CT HR3
            go_wp2
            go_roundw
            case rel => exact ⟨k + 1, f, L, by go_num, by omega, by have := HLN.out; omega, HN⟩
            case measure => simp [intOf] <;> omega
          · have e1 : tookAt f (W : Nat) = a := by unfold tookAt; rw [hfind]; rfl
            have e2 : taken f (W : Nat) = setAt f a W false := by unfold taken; rw [hfind]; rfl
            have HTK := Lib.hid (HELD.out.take hfind)
            have HFR := Lib.hid (HELD.out.far hfind)
            obtain ⟨hf1, hf2, _⟩ := find_some hfind
            have ha40 : a + W ≤ 40 := by have := HL40.out; rw [Int.toNat_natCast] at hf2; omega
            rw [e1, e2, hfind] at CT
            rw [hfind] at hiff
            have hyes : (W : Int) ≤ (lf : Int) := of_decide_eq_true hiff.symm
            have hyes2 : W ≤ lf := by omega
            obtain ⟨f2, hf2e⟩ : ∃ f2, f2 = setAt f a W false := ⟨_, rfl⟩
            have HF2 := Lib.hid hf2e
            rw [← hf2e] at CT
            rw [Int.toNat_natCast] at HTK HFR
            clear e1 e2 hiff hfind hf1 hf2 hf2e
            go_wp2_with fail
            refine CL.out.mono ?_
            rintro e w3 ⟨rfl, hb3⟩
            have HR3 := Lib.hid (HR.out.more hb3)
            clear hb3 HR CL
            go_wp2_with fail
            refine (CT.out w3 HR3.out.sp).mono ?_
            rintro e w4 ⟨rfl, hs4, hk4⟩
            have HR4 : Hid (SpAt w4 s f2 ∧ OwnPr w4 B 42 (.slice Ah Ln c) (L.map two) ∧ PairsAt w4 Ah (L.map two) ∧ Below w.heap.size w w4 ∧ B ≤ w4.heap.size ∧ s < B ∧ w.heap.size ≤ s) := Lib.hid (by
              have h := HR3.out.kept2 hs4 hk4
              rw [← HLN.out] at h
              exact h)
            clear hs4 hk4 CT HR3
            go_wp2
            go_loopw [84] (fun i wv => ∃ j : Nat, i = .int .i64 j ∧ j ≤ Ln ∧ Hid (Below w4.heap.size w4 wv)) (fun i _ => Ln - (intOf i).toNat)
            case atStart => exact ⟨0, rfl, Nat.zero_le _, Lib.hid (Below.refl _ _)⟩
            case round =>
              obtain ⟨j, rfl, hj, HJ⟩ := hrel
              rename World => wv
              by_cases hjl : j < Ln
              · obtain ⟨bh, oh, hAh, y0, y1⟩ := (HR4.out.2.2.1.below HJ.out) j (by rw [List.length_map, ← HLN.out]; exact hjl)
                subst hAh
                have hjl' : (j : Int) < (Ln : Int) := by omega
                rw [List.getElem_map] at y0 y1
                have hone := HELD.out.one _ (List.getElem_mem (show j < L.length by rw [← HLN.out]; exact hjl))
                have hfar := HFR.out _ (List.getElem_mem (show j < L.length by rw [← HLN.out]; exact hjl))
                have h40 := HL40.out
                obtain ⟨⟨q1, q2⟩, hq⟩ : ∃ p, L[j]'(by rw [← HLN.out]; exact hjl) = p := ⟨_, rfl⟩
                rw [hq] at y0 y1 hone hfar
                simp only [two] at y0 y1
                simp only at hone hfar
                have i1 : IntKind.i64.wrap ((q1 : Int) + (q2 : Int)) = ((q1 + q2 : Nat) : Int) := by rw [IntWalk.i64_in _ (by omega)]; omega
                have i2 : IntKind.i64.wrap ((a : Int) + (W : Int)) = ((a + W : Nat) : Int) := by rw [IntWalk.i64_in _ (by omega)]; omega
                have i3 : IntKind.i64.wrap ((j : Int) + 1) = (j : Int) + 1 := IntWalk.i64_in _ (by omega)
                have HJ2 : Hid (Below w4.heap.size w4 (wv.alloc (.cells #[.int .i64 (q1 : Nat), .int .i64 (q2 : Nat)] 42))) := Lib.hid (HJ.out.alloc HJ.out.size _)
                clear hq HJ
                generalize hq12 : q1 + q2 = q12 at *
                generalize haw : a + W = aw at *
                by_cases hcase : a < q12
                · have hcase2 : ¬ q1 < aw := by omega
                  clear hone hfar h40 hq12
                  go_wp2
                  go_roundw
                  case rel => exact ⟨j + 1, by go_num, by omega, HJ2⟩
                  case measure => simp [intOf] <;> omega
                · clear hone hfar h40 hq12
                  go_wp2
                  go_roundw
                  case rel => exact ⟨j + 1, by go_num, by omega, HJ2⟩
                  case measure => simp [intOf] <;> omega
              · obtain rfl : j = Ln := by omega
                have HB4 := Lib.hid (HR4.out.2.2.2.1.trans (HJ.out.mono HR4.out.2.2.2.1.size))
                have HBL := Lib.hid (balloc wv (.cells #[.int .i64 (a : Nat), .int .i64 (W : Nat)] 42))
                have HLI := Lib.hid (PairsAt.lit wv ((a : Nat), (W : Nat)) 42)
                have HOW := Lib.hid ((HR4.out.2.1.below HJ.out).below HBL.out)
                have HSP := Lib.hid ((HR4.out.1.below HJ.out).below HBL.out)
                have HB5 := Lib.hid (HB4.out.trans (HBL.out.mono HB4.out.size))
                have HBW := Lib.hid (Nat.le_trans (Nat.le_trans HR4.out.2.2.2.2.1 HJ.out.size) HBL.out.size)
                have HLT : Hid ((L.map two).length ≤ 60) := Lib.hid (by rw [List.length_map]; have := HLN.out; omega)
                have HSB := Lib.hid HR4.out.2.2.2.2.2
                have HPO := Lib.hid (HR4.out.2.2.1.below HJ.out)
                clear HJ HR4 HB4 HBL
                go_wp2_with (at_builtin; refine wpList_append_pairs Try.underlying41 HI.out.1 HI.out.2.1 HI.out.2.2.1 HI.out.2.2.2 rfl rfl _ _ rfl B (.slice Ah j c) _ rfl HOW.out (some ⟨wv.heap.size, 0, none⟩) 1 1 [((a : Nat), (W : Nat))] rfl rfl HLI.out (by have := HLT.out; omega) (by omega) HBW.out ?_; intro v' w7 ha; have HN : Hid (Rd w w7 s B v' f2 (L ++ [(a, W)])) := Lib.hid (Rd.next2 HSP.out HOW.out HB5.out HBW.out HSB.out.1 HSB.out.2 HTK.out HF2.out HL40.out ha); clear ha)
                go_roundw
                case rel => exact ⟨k + 1, f2, _, by go_num, by omega, by rw [List.length_append]; have := HLN.out; simp; omega, HN⟩
                case measure => simp [intOf] <;> omega
        · have hx8' : (128 : Int) ≤ (x : Int) := by omega
          obtain rfl : L = [] := List.eq_nil_of_length_eq_zero (by omega)
          have hkz : 0 ≤ k := Nat.zero_le _
          obtain ⟨m, hm⟩ : ∃ m, m = x % 7 := ⟨_, rfl⟩
          have r1 : (x : Int).tmod 7 = (m : Int) := by rw [hm]; rfl
          have hm7 : m < 7 := by rw [hm]; exact Nat.mod_lt _ (by omega)
          have r2 : IntKind.u8.wrap (m : Int) = (m : Int) := IntWalk.u8_in _ (by omega)
          have r3 : IntKind.i64.wrap (m : Int) = (m : Int) := IntWalk.i64_in _ (by omega)
          obtain ⟨W, hW⟩ : ∃ W, W = m + 1 := ⟨_, rfl⟩
          have r4 : IntKind.i64.wrap (1 + (m : Int)) = (W : Int) := by rw [IntWalk.i64_in _ (by omega)]; omega
          have hW7 : 1 ≤ W ∧ W ≤ 7 := by omega
          have CL := Lib.hid (longest_any s f wr HR.out.sp)
          have CT := Lib.hid (fun V h => take_any s (W : Nat) f V h ⟨by omega, by omega⟩)
          unfold RetTake at CT
          have hiff := find_iff f (W : Nat) (by omega)
          have HELD := Lib.hid HR.out.held
          have HL40 := Lib.hid HR.out.l40
          skip
          obtain ⟨lf, hlf⟩ : ∃ lf, lf = SpaceM.longest f := ⟨_, rfl⟩
          rw [← hlf] at CL hiff
          clear hm hW hlf
          rcases hfind : find f (W : Nat) with _ | a
          · have e1 : tookAt f (W : Nat) = 0 := by unfold tookAt; rw [hfind]; rfl
            have e2 : taken f (W : Nat) = f := by unfold taken; rw [hfind]
            rw [e1, e2, hfind] at CT
            rw [hfind] at hiff
            have hno : ¬ (W : Int) ≤ (lf : Int) := of_decide_eq_false hiff.symm
            have hno2 : ¬ W ≤ lf := by omega
            clear e1 e2 hiff hfind
            go_wp2_with fail
            refine CL.out.mono ?_
            rintro e w3 ⟨rfl, hb3⟩
            have HR3 := Lib.hid (HR.out.more hb3)
            clear hb3 HR CL
            go_wp2_with fail
            refine (CT.out w3 HR3.out.sp).mono ?_
            rintro e w4 ⟨rfl, hs4, hk4⟩
            have HN : Hid (Rd w w4 s B (.slice Ah 0 c) f ([] : List RR)) := Lib.hid (by
              have h := HR3.out.kept hs4 hk4 HELD.out HL40.out
              exact h)
            clear hs4 hk4 CT HR3
            go_wp2
            go_roundw
            case rel => exact ⟨k + 1, f, ([] : List RR), by go_num, by omega, by omega, HN⟩
            case measure => simp [intOf] <;> omega
          · have e1 : tookAt f (W : Nat) = a := by unfold tookAt; rw [hfind]; rfl
            have e2 : taken f (W : Nat) = setAt f a W false := by unfold taken; rw [hfind]; rfl
            have HTK := Lib.hid (HELD.out.take hfind)
            have HFR := Lib.hid (HELD.out.far hfind)
            obtain ⟨hf1, hf2, _⟩ := find_some hfind
            have ha40 : a + W ≤ 40 := by have := HL40.out; rw [Int.toNat_natCast] at hf2; omega
            rw [e1, e2, hfind] at CT
            rw [hfind] at hiff
            have hyes : (W : Int) ≤ (lf : Int) := of_decide_eq_true hiff.symm
            have hyes2 : W ≤ lf := by omega
            obtain ⟨f2, hf2e⟩ : ∃ f2, f2 = setAt f a W false := ⟨_, rfl⟩
            have HF2 := Lib.hid hf2e
            rw [← hf2e] at CT
            rw [Int.toNat_natCast] at HTK HFR
            clear e1 e2 hiff hfind hf1 hf2 hf2e
            go_wp2_with fail
            refine CL.out.mono ?_
            rintro e w3 ⟨rfl, hb3⟩
            have HR3 := Lib.hid (HR.out.more hb3)
            clear hb3 HR CL
            go_wp2_with fail
            refine (CT.out w3 HR3.out.sp).mono ?_
            rintro e w4 ⟨rfl, hs4, hk4⟩
            have HR4 : Hid (SpAt w4 s f2 ∧ OwnPr w4 B 42 (.slice Ah 0 c) (([] : List RR).map two) ∧ PairsAt w4 Ah (([] : List RR).map two) ∧ Below w.heap.size w w4 ∧ B ≤ w4.heap.size ∧ s < B ∧ w.heap.size ≤ s) := Lib.hid (by
              have h := HR3.out.kept2 hs4 hk4
              exact h)
            clear hs4 hk4 CT HR3
            go_wp2
            go_loopw [84] (fun i wv => ∃ j : Nat, i = .int .i64 j ∧ j ≤ 0 ∧ Hid (Below w4.heap.size w4 wv)) (fun i _ => 0 - (intOf i).toNat)
            case atStart => exact ⟨0, rfl, Nat.zero_le _, Lib.hid (Below.refl _ _)⟩
            case round =>
              obtain ⟨j, rfl, hj, HJ⟩ := hrel
              rename World => wv
              have hjl : ¬ j < 0 := Nat.not_lt_zero _
              · obtain rfl : j = 0 := by omega
                have HB4 := Lib.hid (HR4.out.2.2.2.1.trans (HJ.out.mono HR4.out.2.2.2.1.size))
                have HBL := Lib.hid (balloc wv (.cells #[.int .i64 (a : Nat), .int .i64 (W : Nat)] 42))
                have HLI := Lib.hid (PairsAt.lit wv ((a : Nat), (W : Nat)) 42)
                have HOW := Lib.hid ((HR4.out.2.1.below HJ.out).below HBL.out)
                have HSP := Lib.hid ((HR4.out.1.below HJ.out).below HBL.out)
                have HB5 := Lib.hid (HB4.out.trans (HBL.out.mono HB4.out.size))
                have HBW := Lib.hid (Nat.le_trans (Nat.le_trans HR4.out.2.2.2.2.1 HJ.out.size) HBL.out.size)
                have HLT : Hid ((([] : List RR).map two).length ≤ 60) := Lib.hid (by rw [List.length_map]; omega)
                have HSB := Lib.hid HR4.out.2.2.2.2.2
                have HPO := Lib.hid (HR4.out.2.2.1.below HJ.out)
                clear HJ HR4 HB4 HBL
                go_wp2_with (at_builtin; refine wpList_append_pairs Try.underlying41 HI.out.1 HI.out.2.1 HI.out.2.2.1 HI.out.2.2.2 rfl rfl _ _ rfl B (.slice Ah 0 c) _ rfl HOW.out (some ⟨wv.heap.size, 0, none⟩) 1 1 [((a : Nat), (W : Nat))] rfl rfl HLI.out (by have := HLT.out; omega) (by omega) HBW.out ?_; intro v' w7 ha; have HN : Hid (Rd w w7 s B v' f2 (([] : List RR) ++ [(a, W)])) := Lib.hid (Rd.next2 HSP.out HOW.out HB5.out HBW.out HSB.out.1 HSB.out.2 HTK.out HF2.out HL40.out ha); clear ha)
                go_roundw
                case rel => exact ⟨k + 1, f2, _, by go_num, by omega, by simp, HN⟩
                case measure => simp [intOf] <;> omega
    · have hlt' : ¬ (k : Int) < (N : Int) := by omega
      have hsum := HR.out.held.sum
      rw [HR.out.l40] at hsum
      have HST : Hid (∀ j, (hj : j < L.length) → (lens (L.take (j + 1))).sum = (lens (L.take j)).sum + L[j].2) := Lib.hid fun j hj => by rw [lens_take _ j hj, List.sum_append]; simp
      have HLE : Hid (∀ j, (lens (L.take j)).sum ≤ 40) := Lib.hid fun j => by
        have _h1 : lens (L.take j) = (lens L).take j := by unfold lens; rw [List.map_take]
        have _h2 := sum_take_le (lens L) j
        rw [_h1]
        unfold lens at *
        omega
      have HFU := Lib.hid (show L.take L.length = L from List.take_length)
      have HSU : Hid (count f + (lens L).sum = 40) := Lib.hid hsum
      have CF := Lib.hid (fun V h => free_any s f V h)
      generalize count f = cf at *
      obtain ⟨Ln, hLn⟩ : ∃ Ln, Ln = L.length := ⟨_, rfl⟩
      have HLN := Lib.hid hLn
      rw [← hLn] at hLk hcl ⊢
      clear hLn hsum
      go_wp2
      go_loopw [14, 113] (fun x i wv => ∃ j y : Nat, i = .int .i64 j ∧ j ≤ Ln ∧ x = .int .i64 y ∧ Hid (y = (lens (L.take j)).sum ∧ Below wr.heap.size wr wv)) (fun _ i _ => Ln - (intOf i).toNat)
      case atStart => exact ⟨0, 0, rfl, Nat.zero_le _, rfl, Lib.hid ⟨rfl, Below.refl _ _⟩⟩
      case round =>
        obtain ⟨j, y, rfl, hj, rfl, HJ⟩ := hrel
        rename World => wv
        by_cases hjl : j < Ln
        · obtain ⟨bh, oh, hAh, y0, y1⟩ := (HPRS.out.below HJ.out.2) j (by rw [List.length_map, ← HLN.out]; exact hjl)
          subst hAh
          have hjl' : (j : Int) < (Ln : Int) := by omega
          rw [List.getElem_map] at y0 y1
          have hst := HST.out j (by rw [← HLN.out]; exact hjl)
          have hle := HLE.out (j + 1)
          rw [hst] at hle
          rw [← HJ.out.1] at hst hle
          obtain ⟨⟨q1, q2⟩, hq⟩ : ∃ p, L[j]'(by rw [← HLN.out]; exact hjl) = p := ⟨_, rfl⟩
          rw [hq] at y0 y1 hst hle
          simp only [two] at y0 y1
          simp only at hst hle
          have i1 : IntKind.i64.wrap ((y : Int) + (q2 : Int)) = ((y + q2 : Nat) : Int) := by rw [IntWalk.i64_in _ (by omega)]; omega
          have i3 : IntKind.i64.wrap ((j : Int) + 1) = (j : Int) + 1 := IntWalk.i64_in _ (by omega)
          obtain ⟨z, hz⟩ : ∃ z, z = y + q2 := ⟨_, rfl⟩
          rw [← hz] at i1 hst
          have HJ2 : Hid (z = (lens (L.take (j + 1))).sum ∧ Below wr.heap.size wr (wv.alloc (.cells #[.int .i64 (q1 : Nat), .int .i64 (q2 : Nat)] 42))) := Lib.hid ⟨hst.symm, HJ.out.2.alloc HJ.out.2.size _⟩
          clear hq HJ hst hle hz
          go_wp2
          go_roundw
          case rel => exact ⟨j + 1, z, by go_num, by omega, rfl, HJ2⟩
          case measure => simp [intOf] <;> omega
        · obtain rfl : j = Ln := by omega
          have hy := HJ.out.1
          rw [HLN.out, HFU.out] at hy
          have hcf := HSU.out
          rw [← hy] at hcf
          have i1 : IntKind.i64.wrap ((40 : Int) - (y : Int)) = (cf : Int) := by rw [IntWalk.i64_in _ (by omega)]; omega
          have HRJ := Lib.hid (HR.out.more HJ.out.2)
          clear hy hcf HJ HR
          go_wp2_with fail
          refine (CF.out wv HRJ.out.sp).mono ?_
          rintro e w5 ⟨rfl, hb5⟩
          have HB5 := Lib.hid (HRJ.out.below.trans (hb5.mono HRJ.out.below.size))
          clear hb5 CF HRJ
          go_wp2_with fail
          refine (Law21.alive_any _).mono ?_
          rintro e w6 ⟨rfl, hb6⟩
          have HB6 := Lib.hid (HB5.out.trans (hb6.mono HB5.out.size))
          clear hb6 HB5
          go_wp2
          go_ret
          exact ⟨rfl, HB6.out⟩
end Go.Proofs.Ytpljdjkmemojmaa.Law21C
