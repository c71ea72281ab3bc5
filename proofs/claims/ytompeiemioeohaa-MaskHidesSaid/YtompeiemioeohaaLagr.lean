/- the contracts of package lagr -/
import Derived.Test.YtompeiemioeohaaPoly
import Derived.Test.YtompeiemioeohaaMA
set_option maxRecDepth 100000
namespace Go.Proofs.Ytompeiemioeohaa.Lagr
open Go.RowKit

def falses : Array Value := Array.replicate 256 (.bool false)
theorem zero_seen (w : World) : (zeroValue 122).run Try.prog w = .ok (.agg falses) w := by kernel_rfl
theorem falses_get (i : Nat) (h : i < 256) : falses[i]? = some (.bool false) := by
  unfold falses; rw [Array.getElem?_replicate, if_pos h]
/-- the places that were seen -/
structure SeenAt (w : World) (b : Nat) (l : List UInt8) : Prop where
  at_ : ∀ i, i < 256 → w.cell? ⟨b, i, none⟩ = some (.bool (LagrM.seen l i))
  fr : ∀ i, w.frozen? ⟨b, i, none⟩ = false
theorem SeenAt.start (w : World) : SeenAt (w.alloc (.cells falses 122)) w.heap.size [] := by
  refine ⟨fun i hi => ?_, fun i => ?_⟩
  · rw [World.cell?_alloc_new, falses_get _ hi, LagrM.seen_nil]
  · simp
theorem SeenAt.step {w : World} {b : Nat} {xs : List UInt8} {k : Nat} (h : SeenAt w b (xs.take k)) (hk : k < xs.length) :
    SeenAt (w.setCell ⟨b, xs[k].toNat, none⟩ (.bool true)) b (xs.take (k + 1)) := by
  refine ⟨fun i hi => ?_, fun i => ?_⟩
  · rw [cell_store (h.at_ i hi), LagrM.seen_succ _ _ hk _ hi]
    by_cases e : i = xs[k].toNat
    · rw [if_pos e, if_pos e.symm]
    · rw [if_neg e, if_neg (fun e' => e e'.symm)]
  · simp [h.fr]

theorem unlike_any (A : Option Addr) (l : List UInt8) (c : Nat) (w : World) (h : BytesAt w A l) (hl : l.length ≤ 1099511627776) :
    Calls Try.prog 80 #[.slice A l.length c] w fun e w' => e = .returned (.bool (LagrM.unl l)) ∧ Below w.heap.size w w' := by
  have hz := zero_seen
  go_enter Try.func80, Try.ntmps80
  go_wp2
  clear hz
  go_loopw [8] (fun i wr => ∃ k : Nat, k ≤ l.length ∧ i = .int .i64 k ∧ (l.take k).Nodup ∧ SeenAt wr w.heap.size (l.take k) ∧ Below w.heap.size w wr ∧ w.heap.size < wr.heap.size)
    (fun i _ => l.length - (intOf i).toNat)
  case atStart => exact ⟨0, Nat.zero_le _, rfl, List.nodup_nil, SeenAt.start w, balloc _ _, by simp⟩
  case round =>
    obtain ⟨k, hk, rfl, hnd, hs, hb, hz⟩ := hrel
    by_cases hlt : k < l.length
    · obtain ⟨b, o, hA, e⟩ := h.below hb k hlt
      subst hA
      have hc := hs.at_ l[k].toNat l[k].toNat_lt
      have hf := hs.fr l[k].toNat
      have hst := hs.step hlt
      have h1 := LagrM.nodup_step hlt hnd
      have h2 := LagrM.unl_seen hlt
      have hbb : (0 : Int) ≤ (l[k].toNat : Int) ∧ (l[k].toNat : Int) < 256 := u8_wf _
      have H1 := Lib.hid h1; have H2 := Lib.hid h2; have HST := Lib.hid hst
      clear h1 h2 hst hs hnd h
      generalize LagrM.seen (l.take k) l[k].toNat = v at *
      cases v
      · have hn := H1.out rfl
        have HN := Lib.hid hn
        clear hn
        go_wp2
        go_roundw
        case rel => exact ⟨k + 1, by omega, by go_num, HN.out, HST.out, hb.setCell (Nat.le_refl _) _, by simpa using hz⟩
        case measure => simp [intOf] <;> omega
      · have hn := H2.out rfl
        have HN := Lib.hid hn
        clear hn
        go_wp2
        go_ret
        exact ⟨ret_bool HN.out.symm, hb⟩
    · obtain rfl : k = l.length := by omega
      rw [List.take_length] at hnd
      have hu := (LagrM.unl_iff l).2 hnd
      have HU := Lib.hid hu
      clear hu hnd hs
      go_wp2
      go_ret
      exact ⟨ret_bool HU.out.symm, hb⟩

set_option maxHeartbeats 1000000 in
theorem each_thr (b0 : Nat) (A : Option Addr) (xs : List UInt8) (c : Nat) (caps : Array Value) (w : World) (I : Nat → World → Prop)
    (hl : xs.length ≤ 1048576) (h0 : I 0 w)
    (hI : ∀ k wr, I k wr → Gf.Tab wr b0 ∧ BytesAt wr A xs)
    (hkeep : ∀ k wr w', I k wr → Below wr.heap.size wr w' → I k w')
    (hstep : ∀ k wr B d, k < xs.length → I k wr → BytesAt wr B (LagrM.bas xs k) → w.heap.size ≤ wr.heap.size →
      Calls Try.prog 83 (#[.int .i64 (k : Nat), .slice B (LagrM.bas xs k).length d] ++ caps) wr fun e w' => e = .returned (.tuple #[]) ∧ I (k + 1) w' ∧ wr.heap.size ≤ w'.heap.size ∧ ∀ g, w.heap.size ≤ g → g < wr.heap.size → w'.heap[g]? = wr.heap[g]?) :
    Calls Try.prog 81 #[.pointer (some ⟨b0, 0, none⟩), .slice A xs.length c, .func (.func 82) #[] #[], .func (.func 83) #[] caps] w fun e w' => e = .returned (.tuple #[]) ∧ I xs.length w' ∧ w.heap.size ≤ w'.heap.size := by
  have HI := Lib.hid hI; have HK := Lib.hid hkeep; have HS := Lib.hid hstep; have H0 := Lib.hid h0
  clear hI hkeep hstep
  obtain ⟨t0, p0⟩ := HI.out 0 w h0
  clear h0
  go_enter Try.func81, Try.ntmps81
  go_wp2_with fail
  refine (Poly.root_new b0 A xs c w t0 p0 hl).mono ?_
  rintro e w1 ⟨R, d, rfl, hd1, hd2, hR, hb1, hnew⟩
  have i1 := HK.out 0 w w1 H0.out hb1
  have I1 := Lib.hid i1
  have hz1 := hb1.size
  clear i1 t0 p0 hb1
  have hrl : (PolyM.proot xs).length ≤ 1048577 := by rw [PolyM.proot_len]; omega
  have hrp : 0 < (PolyM.proot xs).length := by rw [PolyM.proot_len]; omega
  have HR := Lib.hid hR
  clear hR
  go_wp2_with fail
  go_loopw [18] (fun i wr => ∃ k : Nat, k ≤ xs.length ∧ i = .int .i64 k ∧ I k wr ∧ BytesAt wr R (PolyM.proot xs) ∧ w.heap.size ≤ wr.heap.size)
    (fun i _ => xs.length - (intOf i).toNat)
  case atStart => exact ⟨0, Nat.zero_le _, rfl, I1.out, HR.out, hz1⟩
  case round =>
    obtain ⟨k, hk, rfl, hi, hR, hzw⟩ := hrel
    clear HR I1
    have HI1 := Lib.hid hi
    obtain ⟨ht, hp⟩ := HI.out k wr hi
    clear hi
    by_cases hlt : k < xs.length
    · obtain ⟨b, o, hA, e1⟩ := hp k hlt
      subst hA
      have hx := PolyM.co_get xs k hlt
      have hb : LagrM.bas xs k = PolyM.scale (GfM.inv (PolyM.ev (LagrM.qbas xs k) (PolyM.co xs k))) (LagrM.qbas xs k) := rfl
      have hq : PolyM.quo (PolyM.proot xs) xs[k] = LagrM.qbas xs k := by unfold LagrM.qbas; rw [hx]
      rw [hx] at hb
      have hql : (LagrM.qbas xs k).length ≤ 1048576 := by rw [LagrM.qbas_len]; exact hl
      have HB := Lib.hid hb; have HQ := Lib.hid hq; have HT := Lib.hid ht; have HR := Lib.hid hR
      clear hx hb hq ht hp hR
      go_wp2_with fail
      have C := Poly.over_any b0 R (PolyM.proot xs) d xs[k] wr HT.out HR.out (by omega)
      rw [HQ.out] at C
      refine C.mono ?_
      clear C
      rintro e w2 ⟨Q, d2, rfl, hQ, hb2⟩
      have ht2 := HT.out.below hb2
      have hr2 := HR.out.below hb2
      have i2 := HK.out k wr w2 HI1.out hb2
      have HT := Lib.hid ht2; have HR := Lib.hid hr2; have HI2 := Lib.hid i2; have HQ2 := Lib.hid hQ
      have hz2 := hb2.size
      clear ht2 hr2 i2 hQ hb2 e1
      go_wp2_with fail
      refine (Poly.eval_any b0 Q (LagrM.qbas xs k) d2 xs[k] w2 HT.out HQ2.out (by omega)).mono ?_
      rintro e w3 ⟨rfl, hq3⟩
      have hb3 := bquiet hq3
      clear hq3
      have ht3 := HT.out.below hb3
      have hr3 := HR.out.below hb3
      have i3 := HK.out k w2 w3 HI2.out hb3
      have q3 := HQ2.out.below hb3
      have HT := Lib.hid ht3; have HR := Lib.hid hr3; have HI3 := Lib.hid i3; have HQ3 := Lib.hid q3
      have hz3 := hb3.size
      clear ht3 hr3 i3 q3 hb3
      go_wp2_with fail
      refine (Gf.inv_any b0 _ w3 HT.out).mono ?_
      rintro e w4 ⟨rfl, hq4⟩
      have hb4 := bquiet hq4
      clear hq4
      have ht4 := HT.out.below hb4
      have hr4 := HR.out.below hb4
      have i4 := HK.out k w3 w4 HI3.out hb4
      have q4 := HQ3.out.below hb4
      have HT := Lib.hid ht4; have HR := Lib.hid hr4; have HI4 := Lib.hid i4; have HQ4 := Lib.hid q4
      have hz4 := hb4.size
      clear ht4 hr4 i4 q4 hb4
      go_wp2_with fail
      refine (Poly.scale_any b0 Q (LagrM.qbas xs k) d2 _ w4 HT.out HQ4.out (by omega)).mono ?_
      rintro e w5 ⟨S, d5, rfl, hd5, hd5', hS, hb5⟩
      have hr5 := HR.out.below hb5
      have i5 := HK.out k w4 w5 HI4.out hb5
      rw [← HB.out] at hS
      have e5 : (PolyM.scale (GfM.inv (PolyM.ev (LagrM.qbas xs k) xs[k])) (LagrM.qbas xs k)).length = (LagrM.bas xs k).length := by rw [HB.out]
      rw [e5]
      have hz5 := hb5.size
      have hz : w.heap.size ≤ w5.heap.size := by omega
      have C5 := HS.out k w5 S d5 hlt i5 hS hz
      have HR5 := Lib.hid hr5; have HC5 := Lib.hid C5
      clear e5 hd5 hS hb5 hr5 i5 C5 hql
      go_wp2_with fail
      refine HC5.out.mono ?_
      rintro e w6 ⟨rfl, i6, hz6, hsame⟩
      have hr6 : BytesAt w6 R (PolyM.proot xs) := HR5.out.same fun a e => hsame a.block (hnew a e) (HR5.out.lt hrp a e)
      have HI6 := Lib.hid i6; have HR6 := Lib.hid hr6
      clear i6 hsame hr6
      go_wp2
      go_roundw
      case rel => exact ⟨k + 1, by omega, by go_num, HI6.out, HR6.out, by omega⟩
      case measure => simp [intOf] <;> omega
    · obtain rfl : k = xs.length := by omega
      go_wp2
      go_end0
      exact ⟨rfl, HI1.out, hzw⟩

/-! the closures -/
theorem thr_step (b0 bp bf bv k : Nat) (B P A2 : Option Addr) (q p ys : List UInt8) (d dp c2 : Nat) (w : World) (ht : Gf.Tab w b0) (hB : BytesAt w B q) (hq : q.length ≤ 1048576) (hP : BytesAt w P p) (hp : p.length ≤ 1048576)
    (hc1 : w.cell? ⟨bp, 0, none⟩ = some (.slice P p.length dp)) (hc2 : w.cell? ⟨bf, 0, none⟩ = some (.pointer (some ⟨b0, 0, none⟩))) (hc3 : w.cell? ⟨bv, 0, none⟩ = some (.slice A2 ys.length c2))
    (hy : BytesAt w A2 ys) (hk : k < ys.length) (_hl : ys.length ≤ 1048576) (hfr : w.frozen? ⟨bp, 0, none⟩ = false) :
    Calls Try.prog 83 #[.int .i64 (k : Nat), .slice B q.length d, .pointer (some ⟨bp, 0, none⟩), .pointer (some ⟨bf, 0, none⟩), .pointer (some ⟨bv, 0, none⟩)] w
      fun e w' => ∃ w1 P' d', e = .returned (.tuple #[]) ∧ w' = w1.setCell ⟨bp, 0, none⟩ (.slice P' (PolyM.padd p (PolyM.scale ys[k] q)).length d') ∧ BytesAt w1 P' (PolyM.padd p (PolyM.scale ys[k] q)) ∧ Below w.heap.size w w1 ∧ New w P' ∧ d' ≤ maxLen := by
  obtain ⟨b2, o2, hA, hcy⟩ := hy k hk
  subst hA
  have l1 := cell_lt hc1
  have l2 := cell_lt hc2
  have l3 := cell_lt hc3
  have l4 := cell_lt hcy
  simp only at l1 l2 l3 l4
  have hsl : (PolyM.scale ys[k] q).length ≤ 1048576 := by rw [LagrM.scale_len]; exact hq
  have HT := Lib.hid ht; have HB := Lib.hid hB; have HP := Lib.hid hP; have HY := Lib.hid hy
  clear ht hB hP hy
  generalize ys[k] = y at *
  go_enter Try.func83, Try.ntmps83
  go_wp2
  go_region_law ((first
    | (go_simp; go_at_call 84; refine (Poly.scale_new b0 _ _ _ _ _ (HT.out.drewN _) (HB.out.drewN _) (by omega)).mono ?_; rintro e w1 ⟨S, ds, rfl, _, _, hS, hb1, _⟩; have hb1 : Below w.heap.size w w1 := ⟨hb1.os, hb1.tape, hb1.output, hb1.size, hb1.block⟩; have k1 := (hb1.cell (p := ⟨bp, 0, none⟩) l1).trans hc1; have HS := Lib.hid hS; clear hS)
    | (go_simp; go_at_call 50; refine (Poly.sum_new _ _ _ _ _ _ _ (HP.out.below hb1) HS.out (by omega) (by omega)).mono ?_; rintro e w2 ⟨S2, d2, rfl, _, hd2, hS2, hb2, hn2⟩; have hbb : Below w.heap.size w w2 := bstep hb1 hb2; have k2 := (hbb.cell (p := ⟨bp, 0, none⟩) l1).trans hc1; have f2 := (hbb.frozen (p := ⟨bp, 0, none⟩) l1).trans hfr; have HS2 := Lib.hid hS2; clear hS2)))
  all_goals
    try go_wp2
    go_end0
    exact ⟨_, S2, d2, rfl, rfl, HS2.out, hbb, hn2.mono hb1.size, hd2⟩

/-- what holds behind k points, in Weights -/
structure IW (w : World) (b0 bf bx bw g : Nat) (xs : List UInt8) (x : UInt8) (k : Nat) (wr : World) : Prop where
  below : Below w.heap.size w wr
  cf : wr.cell? ⟨bf, 0, none⟩ = some (.pointer (some ⟨b0, 0, none⟩))
  cx : wr.cell? ⟨bx, 0, none⟩ = some (.int .u8 (x.toNat : Nat))
  cw : wr.cell? ⟨bw, 0, none⟩ = some (.slice (some ⟨g, 0, none⟩) xs.length xs.length)
  row : Row wr g (LagrM.wTo xs x k)
theorem IW.keep {w : World} {b0 bf bx bw g : Nat} {xs : List UInt8} {x : UInt8} {k : Nat} {wr w' : World} (h : IW w b0 bf bx bw g xs x k wr) (hb : Below wr.heap.size wr w') : IW w b0 bf bx bw g xs x k w' :=
  ⟨h.below.trans (hb.mono h.below.size), (hb.cell (p := ⟨bf, 0, none⟩) (cell_lt h.cf)).trans h.cf, (hb.cell (p := ⟨bx, 0, none⟩) (cell_lt h.cx)).trans h.cx, (hb.cell (p := ⟨bw, 0, none⟩) (cell_lt h.cw)).trans h.cw, h.row.below hb h.row.lt⟩
/-- what holds behind k points, in Through -/
structure IT (w : World) (b0 bp bf bv : Nat) (xs ys : List UInt8) (A2 : Option Addr) (c2 : Nat) (k : Nat) (wr : World) : Prop where
  below : Below w.heap.size w wr
  cf : wr.cell? ⟨bf, 0, none⟩ = some (.pointer (some ⟨b0, 0, none⟩))
  cv : wr.cell? ⟨bv, 0, none⟩ = some (.slice A2 ys.length c2)
  fr : wr.frozen? ⟨bp, 0, none⟩ = false
  cp : ∃ P d, wr.cell? ⟨bp, 0, none⟩ = some (.slice P (LagrM.psum xs ys k).length d) ∧ BytesAt wr P (LagrM.psum xs ys k) ∧ (∀ a, P = some a → a.block ≠ bp ∧ w.heap.size ≤ a.block) ∧ d ≤ maxLen
theorem IT.keep {w : World} {b0 bp bf bv : Nat} {xs ys : List UInt8} {A2 : Option Addr} {c2 k : Nat} {wr w' : World} (h : IT w b0 bp bf bv xs ys A2 c2 k wr) (hb : Below wr.heap.size wr w') : IT w b0 bp bf bv xs ys A2 c2 k w' := by
  obtain ⟨P, d, h1, h2, h3, h4⟩ := h.cp
  exact ⟨h.below.trans (hb.mono h.below.size), (hb.cell (p := ⟨bf, 0, none⟩) (cell_lt h.cf)).trans h.cf, (hb.cell (p := ⟨bv, 0, none⟩) (cell_lt h.cv)).trans h.cv, (hb.frozen (p := ⟨bp, 0, none⟩) (cell_lt h1)).trans h.fr,
    P, d, (hb.cell (p := ⟨bp, 0, none⟩) (cell_lt h1)).trans h1, h2.below hb, h3, h4⟩
theorem each_through (b0 bp bf bv : Nat) (A A2 : Option Addr) (xs ys : List UInt8) (c c2 : Nat) (w W : World) (ht : Gf.Tab w b0) (h : BytesAt w A xs) (hy : BytesAt w A2 ys) (hl : xs.length ≤ 1048576) (he : xs.length = ys.length)
    (hi : IT w b0 bp bf bv xs ys A2 c2 0 W) (n1 : bf ≠ bp) (n2 : bv ≠ bp) (hg : w.heap.size ≤ bp) (hgW : bp < W.heap.size) :
    Calls Try.prog 81 #[.pointer (some ⟨b0, 0, none⟩), .slice A xs.length c, .func (.func 82) #[] #[], .func (.func 83) #[] #[.pointer (some ⟨bp, 0, none⟩), .pointer (some ⟨bf, 0, none⟩), .pointer (some ⟨bv, 0, none⟩)]] W
      fun e w' => e = .returned (.tuple #[]) ∧ IT w b0 bp bf bv xs ys A2 c2 xs.length w' ∧ W.heap.size ≤ w'.heap.size := by
  refine each_thr b0 A xs c _ W (IT w b0 bp bf bv xs ys A2 c2) hl hi (fun k wr h' => ⟨ht.below h'.below, h.below h'.below⟩) (fun k wr w' h' hb => h'.keep hb) ?_
  intro k wr B d hk h' hB hz
  obtain ⟨P, dp, hc, hP, hne, _⟩ := h'.cp
  have lbp := cell_lt hc
  have hky : k < ys.length := by omega
  refine (thr_step b0 bp bf bv k B P A2 (LagrM.bas xs k) (LagrM.psum xs ys k) ys d dp c2 wr (ht.below h'.below) hB (by rw [LagrM.bas_len]; omega) hP (by rw [LagrM.psum_len]; omega) hc h'.cf h'.cv (hy.below h'.below) hky (by omega) h'.fr).mono ?_
  rintro e w' ⟨w1, P', d', rfl, rfl, hP', hb1, hn, hd'⟩
  have hps : LagrM.psum xs ys (k + 1) = PolyM.padd (LagrM.psum xs ys k) (PolyM.scale ys[k] (LagrM.bas xs k)) := by rw [← PolyM.co_get ys k hky]; rfl
  rw [← hps] at hP' ⊢
  have hs := hb1.size
  have hc1 := (hb1.cell (p := ⟨bp, 0, none⟩) lbp).trans hc
  have far : ∀ b v u, b ≠ bp → wr.cell? ⟨b, 0, none⟩ = some v → (w1.setCell ⟨bp, 0, none⟩ u).cell? ⟨b, 0, none⟩ = some v := fun b v u hne hc => by
    rw [World.cell?_setCell_other _ _ _ _ (by intro e; injection e with e1 _ _; exact hne e1.symm)]; exact (hb1.cell (p := ⟨b, 0, none⟩) (cell_lt hc)).trans hc
  have hsz := h'.below.size
  simp only at lbp
  refine ⟨rfl, ⟨(h'.below.trans (hb1.mono hsz)).setCell hg _, far bf _ _ n1 h'.cf, far bv _ _ n2 h'.cv, ?_, P', d', World.cell?_setCell_same _ _ _ hc1, hP'.far _ _ fun a e => ?_, fun a e => ?_, hd'⟩, by simp [World.setCell]; omega, fun j h1 h2 => ?_⟩
  · rw [World.frozen?_setCell]; exact (hb1.frozen (p := ⟨bp, 0, none⟩) lbp).trans h'.fr
  · have := hn a e; show a.block ≠ bp; omega
  · have := hn a e; exact ⟨by omega, by omega⟩
  · rw [Below.heap_setCell w1 ⟨bp, 0, none⟩ _ j (by show j ≠ bp; omega)]; exact hb1.block j h2

/-- nothing: two points are the same, or there are not as many values -/
theorem through_no (b0 : Nat) (A A2 : Option Addr) (xs ys : List UInt8) (c c2 : Nat) (w : World) (h : BytesAt w A xs) (hl : xs.length ≤ 1048576) (_hl2 : ys.length ≤ 1048576) (hu : xs.length ≠ ys.length ∨ LagrM.unl xs = false) :
    Calls Try.prog 40 #[.pointer (some ⟨b0, 0, none⟩), .slice A xs.length c, .slice A2 ys.length c2] w fun e w' => e = .returned (.tuple #[.slice none 0 0, .bool false]) ∧ Below w.heap.size w w' := by
  by_cases hne : xs.length = ys.length
  · have q : ((xs.length : Int) != (ys.length : Int)) = false := by simp [hne]
    have hu : LagrM.unl xs = false := by rcases hu with h | h; exact absurd hne h; exact h
    have HU := Lib.hid hu
    clear hu hne
    go_enter Try.func40, Try.ntmps40
    go_wp2_with fail
    have C := unlike_any A xs c _ ((h.alloc (.cells #[.pointer (some ⟨b0, 0, none⟩)] 31)).alloc (.cells #[.slice A2 ys.length c2] 24)) (by omega)
    rw [HU.out] at C
    refine C.mono ?_
    clear C
    rintro e w1 ⟨rfl, hb1⟩
    go_wp2
    go_ret2
    exact ⟨rfl, bstep (balloc _ _) (bstep (balloc _ _) hb1)⟩
  · have q : ((xs.length : Int) != (ys.length : Int)) = true := by rw [bne_iff_ne]; omega
    clear hu hne
    go_enter Try.func40, Try.ntmps40
    go_wp2
    go_ret2
    exact ⟨rfl, bstep (balloc _ _) (balloc _ _)⟩

theorem through_yes (b0 : Nat) (A A2 : Option Addr) (xs ys : List UInt8) (c c2 : Nat) (w : World) (ht : Gf.Tab w b0) (h : BytesAt w A xs) (hy : BytesAt w A2 ys) (hl : xs.length ≤ 1048576) (he : xs.length = ys.length) (hu : LagrM.unl xs = true) :
    Calls Try.prog 40 #[.pointer (some ⟨b0, 0, none⟩), .slice A xs.length c, .slice A2 ys.length c2] w fun e w' =>
      ∃ B d, e = .returned (.tuple #[.slice B (LagrM.thr xs ys).length d, .bool true]) ∧ BytesAt w' B (LagrM.thr xs ys) ∧ Below w.heap.size w w' ∧ New w B ∧ d ≤ maxLen := by
  have q : ((xs.length : Int) != (ys.length : Int)) = false := by simp [he]
  have HU := Lib.hid hu
  have HE := Lib.hid he
  clear hu he
  have hmk := fun W => make_u8 xs.length (by omega) W
  go_enter Try.func40, Try.ntmps40
  go_wp2_with fail
  have C := unlike_any A xs c _ ((h.alloc (.cells #[.pointer (some ⟨b0, 0, none⟩)] 31)).alloc (.cells #[.slice A2 ys.length c2] 24)) (by omega)
  rw [HU.out] at C
  refine C.mono ?_
  clear C
  rintro e w1 ⟨rfl, hb1⟩
  have q1 := (hb1.cell (p := ⟨w.heap.size, 0, none⟩) (by simp; omega)).trans (show _ = some (.pointer (some ⟨b0, 0, none⟩)) by simp)
  have q2 := (hb1.cell (p := ⟨w.heap.size + 1, 0, none⟩) (by simp)).trans (show _ = some (.slice A2 ys.length c2) by simp)
  have hz1 := hb1.size
  have hb1 : Below w.heap.size w w1 := bstep (balloc _ _) (bstep (balloc _ _) hb1)
  simp at hz1
  have l1 := cell_lt q1
  have l2 := cell_lt q2
  simp only at l1 l2
  have Q1 : ((w1.alloc (.cells (cells (List.replicate xs.length 0)) 5)).alloc (.cells #[.slice (some ⟨w1.heap.size, 0, none⟩) xs.length xs.length] 24)).cell? ⟨w.heap.size, 0, none⟩ = some (.pointer (some ⟨b0, 0, none⟩)) := by
    rw [World.cell?_alloc_past _ _ _ (by simp; omega), World.cell?_alloc_past _ _ _ l1]; exact q1
  have Q2 : ((w1.alloc (.cells (cells (List.replicate xs.length 0)) 5)).alloc (.cells #[.slice (some ⟨w1.heap.size, 0, none⟩) xs.length xs.length] 24)).cell? ⟨w.heap.size + 1, 0, none⟩ = some (.slice A2 ys.length c2) := by
    rw [World.cell?_alloc_past _ _ _ (by simp; omega), World.cell?_alloc_past _ _ _ l2]; exact q2
  have Q3 : ((w1.alloc (.cells (cells (List.replicate xs.length 0)) 5)).alloc (.cells #[.slice (some ⟨w1.heap.size, 0, none⟩) xs.length xs.length] 24)).cell? ⟨w1.heap.size + 1, 0, none⟩ = some (.slice (some ⟨w1.heap.size, 0, none⟩) xs.length xs.length) := by
    rw [World.cell?_alloc_at _ _ _ _ (by simp)]; rfl
  have Q5 : ((w1.alloc (.cells (cells (List.replicate xs.length 0)) 5)).alloc (.cells #[.slice (some ⟨w1.heap.size, 0, none⟩) xs.length xs.length] 24)).frozen? ⟨w1.heap.size + 1, 0, none⟩ = false := World.frozen?_alloc_at _ _ _ _ (by simp)
  have Q4 : Row ((w1.alloc (.cells (cells (List.replicate xs.length 0)) 5)).alloc (.cells #[.slice (some ⟨w1.heap.size, 0, none⟩) xs.length xs.length] 24)) w1.heap.size (LagrM.psum xs ys 0) := (Row.new _ _).alloc _
  have hb2 : Below w.heap.size w ((w1.alloc (.cells (cells (List.replicate xs.length 0)) 5)).alloc (.cells #[.slice (some ⟨w1.heap.size, 0, none⟩) xs.length xs.length] 24)) := bstep hb1 (bstep (balloc _ _) (balloc _ _))
  have hz2 : ((w1.alloc (.cells (cells (List.replicate xs.length 0)) 5)).alloc (.cells #[.slice (some ⟨w1.heap.size, 0, none⟩) xs.length xs.length] 24)).heap.size = w1.heap.size + 2 := by simp
  clear q1 q2
  have Q4 := Lib.hid Q4; have HZ := Lib.hid hz2; have Q5 := Lib.hid Q5; have Q3 := Lib.hid Q3
  clear hz2
  go_wp2_with fail
  clear hmk q
  refine (each_through b0 (w1.heap.size + 1) w.heap.size (w.heap.size + 1) A A2 xs ys c c2 w _ ht h hy hl HE.out ⟨hb2, Q1, Q2, Q5.out, some ⟨w1.heap.size, 0, none⟩, xs.length, by rw [LagrM.psum_len]; exact Q3.out, Q4.out.bytes, fun a e => by injection e with e; subst e; exact ⟨by show w1.heap.size ≠ w1.heap.size + 1; omega, by show w.heap.size ≤ w1.heap.size; omega⟩, by unfold maxLen; omega⟩ (by omega) (by omega) (by omega) (by rw [HZ.out]; omega)).mono ?_
  rintro e w3 ⟨rfl, hI, hz3⟩
  obtain ⟨P, dp, cw, hP, hne, hdp⟩ := hI.cp
  have hb3 := hI.below
  rw [LagrM.psum_done ((LagrM.unl_iff xs).1 HU.out)] at hP cw
  have HP := Lib.hid hP
  clear hP hI Q1 Q2 hb2
  go_wp2
  go_ret2
  exact ⟨P, dp, rfl, HP.out, hb3, fun a e => (hne a e).2, hdp⟩

end Go.Proofs.Ytompeiemioeohaa.Lagr
