/- the walk of SpacePlays -/
import Derived.Test.YtpljdjkmemojmaaLaw21
import Derived.Test.YtpljdjkmemojmaaActs21
import Derived.Test.YtpljdjkmemojmaaKnown
set_option maxRecDepth 100000
namespace Go.Proofs.Ytpljdjkmemojmaa.Law21
open Go.RowKit SpaceM Space R21

/-- the program's slots and the document's are the same ones -/
structure Both (w0 w : World) (s q g c : Nat) (f : List Bool) : Prop where
  sp : SpAt w s f
  m : MAt w q g c f
  below : Below w0.heap.size w0 w
structure Far (w0 : World) (s q g t : Nat) : Prop where
  a1 : s ≠ q
  a2 : s ≠ g
  t1 : t ≠ s
  t2 : t ≠ g
  l1 : w0.heap.size ≤ s
  l2 : w0.heap.size ≤ g
/-- a region in which each of the two is called once: at x the program's, at y the document's -/
structure Two (w0 : World) (s q g c t : Nat) (a : Act21) (f f2 : List Bool) (x y : Nat) (b : Nat → Bool) (w : World) : Prop where
  below : Below w0.heap.size w0 w
  act : ActLies21 w t 0 a
  d1 : b x = true → SpAt w s f2
  d10 : b x = false → SpAt w s f
  d2 : b y = true → MAt w q g c f2
  d20 : b y = false → MAt w q g c f
section
variable {w0 w w' : World} {s q g c t x y : Nat} {a : Act21} {f f2 : List Bool} {b : Nat → Bool}
theorem upd_other {i j : Nat} (h : i ≠ j) : Drawn.upd b i j = b j := by
  unfold Drawn.upd
  have : Nat.beq j i = false := by rw [← Bool.not_eq_true, Nat.beq_eq]; exact fun e => h e.symm
  rw [this, Bool.or_false]
theorem upd_self {i : Nat} : Drawn.upd b i i = true := by
  unfold Drawn.upd
  have : Nat.beq i i = true := by rw [Nat.beq_eq]
  rw [this, Bool.or_true]
theorem Two.start (hx : b x = false) (hy : b y = false) (hb : Below w0.heap.size w0 w) (ha : ActLies21 w t 0 a) (h1 : SpAt w s f) (h2 : MAt w q g c f) : Two w0 s q g c t a f f2 x y b w.drew :=
  ⟨hb.trans (bdraw w 1 |>.mono hb.size), ha.below (bdraw w 1), (fun e => by rw [hx] at e; cases e), fun _ => h1.below (bdraw w 1), (fun e => by rw [hy] at e; cases e), fun _ => h2.below (bdraw w 1)⟩
theorem Two.skip {i : Nat} (h : Two w0 s q g c t a f f2 x y b w) (hx : i ≠ x) (hy : i ≠ y) : Two w0 s q g c t a f f2 x y (Drawn.upd b i) w :=
  ⟨h.below, h.act, (fun e => h.d1 (by rwa [upd_other hx] at e)), (fun e => h.d10 (by rwa [upd_other hx] at e)), (fun e => h.d2 (by rwa [upd_other hy] at e)), (fun e => h.d20 (by rwa [upd_other hy] at e))⟩
theorem Two.d1go (h : Two w0 s q g c t a f f2 x y b w) (hd : SpAt w' s f2) (k : Keeps (fun k => k = s) w w') (hF : Far w0 s q g t) (hxy : x ≠ y) : Two w0 s q g c t a f f2 x y (Drawn.upd b x) w' := by
  have k2 : ∀ {u}, MAt w q g c u → MAt w' q g c u := fun h => h.keep k (fun e => hF.a1 e.symm) (fun e => hF.a2 e.symm)
  exact ⟨below_keeps h.below k (fun k e => by rw [e]; exact hF.l1) h.below.size, h.act.keep k hF.t1, fun _ => hd, (fun e => by rw [upd_self] at e; cases e), (fun e => k2 (h.d2 (by rwa [upd_other hxy] at e))), (fun e => k2 (h.d20 (by rwa [upd_other hxy] at e)))⟩
theorem Two.d2go (h : Two w0 s q g c t a f f2 x y b w) (hd : MAt w' q g c f2) (k : Keeps (fun k => k = g) w w') (hF : Far w0 s q g t) (hxy : x ≠ y) : Two w0 s q g c t a f f2 x y (Drawn.upd b y) w' := by
  have k1 : ∀ {u}, SpAt w s u → SpAt w' s u := fun h => h.keep k hF.a2
  exact ⟨below_keeps h.below k (fun k e => by rw [e]; exact hF.l2) h.below.size, h.act.keep k hF.t2, (fun e => k1 (h.d1 (by rwa [upd_other (fun e => hxy e.symm)] at e))), (fun e => k1 (h.d10 (by rwa [upd_other (fun e => hxy e.symm)] at e))), fun _ => hd, (fun e => by rw [upd_self] at e; cases e)⟩
end
theorem new_len (n : Int) : (SpaceM.new n).length ≤ 256 := by
  unfold SpaceM.new
  rw [List.length_replicate]
  split
  · decide
  · split
    · decide
    · omega
set_option maxHeartbeats 4000000 in
theorem plays_any (n : Int) (A : Option Addr) (l : List Act21) (cl : Nat) (ask : Int) (w : World) (hn : In21 n) (hA : ActsAt21 w A l) (_h1 : l.length ≤ cl) (_h2 : cl ≤ maxLen) (hask : In21 ask) :
    Calls Try.prog 3 #[.int .i64 n, .slice A l.length cl, .int .i64 ask] w fun e w' => e = .returned (.bool true) ∧ Below w.heap.size w w' := by
  by_cases hlong : 60 < l.length
  · have hlong' : (60 : Int) < (l.length : Int) := by omega
    have AL := Lib.hid (alive_any w)
    clear hA
    generalize l.length = ll at *
    go_enter Try.func3, Try.ntmps3
    go_wp2_with fail
    refine AL.out.mono ?_
    rintro e w1 ⟨rfl, hb1⟩
    have HB1 := Lib.hid hb1
    clear hb1
    go_wp2
    go_ret
    exact ⟨rfl, HB1.out⟩
  have hlong' : ¬ (60 : Int) < (l.length : Int) := by omega
  have HA := Lib.hid hA
  have HASK := Lib.hid hask
  obtain ⟨f0, hf0⟩ : ∃ f0, f0 = SpaceM.new n := ⟨_, rfl⟩
  have C0 := Lib.hid (Space.new_any n w hn)
  have D0 := Lib.hid (fun W => R21.new_any n W hn)
  rw [← hf0] at C0 D0
  obtain ⟨L, hL⟩ : ∃ L, L = l.length := ⟨_, rfl⟩
  have HLL := Lib.hid hL
  rw [← hL] at hlong hlong' _h1 ⊢
  clear hA hask hf0 hL hn
  go_enter Try.func3, Try.ntmps3
  go_wp2_with fail
  refine C0.out.mono ?_
  rintro e w1 ⟨s, rfl, hs1, hl1, hb1⟩
  have HS1 := Lib.hid hs1; have HB1 := Lib.hid hb1; have HLS := Lib.hid hl1
  clear hs1 hl1 hb1 C0
  go_wp2_with fail
  refine (D0.out w1).mono ?_
  rintro e w2 ⟨q, g, c, rfl, hm2, hq2, hg2, hb2⟩
  have HB2 : Hid (Both w w2 s q g c f0) := Lib.hid ⟨HS1.out.below hb2, hm2, bstep HB1.out hb2⟩
  have HFA : Hid (s ≠ q ∧ s ≠ g ∧ w.heap.size ≤ s ∧ w.heap.size ≤ g ∧ w.heap.size ≤ q) := Lib.hid ⟨by have := HS1.out.lt; omega, by have := HS1.out.lt; omega, HLS.out, by have := HB1.out.size; omega, by have := HB1.out.size; omega⟩
  clear hm2 hq2 hg2 hb2 D0 HS1 HB1 HLS
  go_wp2
  go_loopw [25] (fun i wr => ∃ (k : Nat) (f : List Bool), i = .int .i64 k ∧ k ≤ L ∧ Hid (Both w wr s q g c f)) (fun i _ => L - (intOf i).toNat)
  case atStart => exact ⟨0, f0, rfl, Nat.zero_le _, HB2⟩
  case round =>
    obtain ⟨k, f, rfl, hk, HR⟩ := hrel
    rename World => wr
    by_cases hlt : k < L
    · obtain ⟨bb, oo, hA, hact, hin⟩ := (HA.out.below HR.out.below) k (by rw [← HLL.out]; exact hlt)
      subst hA
      have hlt' : (k : Int) < (L : Int) := by omega
      generalize l[k]'(by rw [← HLL.out]; exact hlt) = av at *
      obtain ⟨ak, aa, an⟩ := av
      have k0 := hact.c0; have k1 := hact.c1; have k2 := hact.c2
      have HIN := Lib.hid hin
      have HBAl := Lib.hid (balloc wr (.cells #[.int .i64 ak, .int .i64 aa, .int .i64 an] 29))
      have HACT : Hid (ActLies21 (wr.alloc (.cells #[.int .i64 ak, .int .i64 aa, .int .i64 an] 29)) wr.heap.size 0 ⟨ak, aa, an⟩) := Lib.hid (ActLies21.new wr ⟨ak, aa, an⟩ _)
      have HFAR : Hid (Far w s q g wr.heap.size) := Lib.hid ⟨HFA.out.1, HFA.out.2.1, by have := HR.out.sp.lt; omega, by have := HR.out.m.lt.2; omega, HFA.out.2.2.1, HFA.out.2.2.2.1⟩
      clear hact hin
      simp only at k0 k1 k2
      have HSP := Lib.hid (HR.out.sp.below HBAl.out); have HMP := Lib.hid (HR.out.m.below HBAl.out); have HBA := Lib.hid (HR.out.below.trans (HBAl.out.mono HR.out.below.size))
      clear HR HBAl
      by_cases h0 : ak = 0
      · subst h0
        have C1 := Lib.hid (fun W h => Space.take_any s an f W h HIN.out.i2)
        have C2 := Lib.hid (fun W h => R21.take_any q g c an f W h HIN.out.i2)
        unfold RetTake at C1
        unfold RetTakeM at C2
        generalize taken f an = f2 at *
        generalize tookAt f an = ta at *
        generalize (find f an).isSome = tb at *
        obtain ⟨t, ht⟩ : ∃ t, t = wr.heap.size := ⟨_, rfl⟩
        have c2 := HACT.out.c2
        simp only at c2
        go_wp2_with fail
        generalize wr.alloc (.cells #[.int .i64 0, .int .i64 aa, .int .i64 an] 29) = wA at *
        rw [← ht] at HFAR HACT c2 ⊢
        clear ht
        refine (C1.out wA HSP.out).mono ?_
        rintro e w3 ⟨rfl, hs3, hk3⟩
        have c2 := (HACT.out.keep hk3 HFAR.out.t1).c2
        have HS3 := Lib.hid hs3; have HM3 := Lib.hid (HMP.out.keep hk3 (fun e => HFAR.out.a1 e.symm) (fun e => HFAR.out.a2 e.symm)); have HB3 := Lib.hid (below_keeps HBA.out hk3 (fun k e => by rw [e]; exact HFAR.out.l1) HBA.out.size)
        clear hs3 hk3 HSP HMP HBA C1 HACT
        simp only at c2
        go_wp2_with fail
        refine (C2.out w3 HM3.out).mono ?_
        rintro e w5 ⟨rfl, hm5, hk5⟩
        have HS5 := Lib.hid (HS3.out.keep hk5 HFAR.out.a2); have HM5 := Lib.hid hm5; have HB5 := Lib.hid (below_keeps HB3.out hk5 (fun k e => by rw [e]; exact HFAR.out.l2) HB3.out.size)
        clear hm5 hk5 HS3 HM3 HB3 C2 c2
        have hCF := free_any s f2 w5 HS5.out
        have HCF := Lib.hid hCF
        have HCC := Lib.hid (fun W hm => R21.count_any q g c f2 W hm)
        have HCL := Lib.hid (fun W hs => longest_any s f2 W hs)
        have HCM := Lib.hid (fun W hm => R21.longest_any q g c f2 W hm)
        generalize count f2 = cf at *
        generalize SpaceM.longest f2 = lf at *
        clear hCF
        go_wp2_with fail
        refine HCF.out.mono ?_
        rintro e w6 ⟨rfl, hb6⟩
        have HS6 := Lib.hid (HS5.out.below hb6); have HM6 := Lib.hid (HM5.out.below hb6); have HB6 := Lib.hid (HB5.out.trans (hb6.mono HB5.out.size))
        clear hb6
        go_wp2_with fail
        refine (HCC.out _ HM6.out).mono ?_
        rintro e w7 ⟨rfl, rfl⟩
        go_wp2_with fail
        refine (HCL.out _ HS6.out).mono ?_
        rintro e w8 ⟨rfl, hb8⟩
        have HS8 := Lib.hid (HS6.out.below hb8); have HM8 := Lib.hid (HM6.out.below hb8); have HB8 := Lib.hid (HB6.out.trans (hb8.mono HB6.out.size))
        clear hb8
        go_wp2_with fail
        refine (HCM.out _ HM8.out).mono ?_
        rintro e w9 ⟨rfl, rfl⟩
        have HN : Hid (Both w w9 s q g c f2) := Lib.hid ⟨HS8.out, HM8.out, HB8.out⟩
        clear HS6 HM6 HB6 HS8 HM8 HB8 HCF HCC HCL HCM
        go_wp2
        go_roundw
        case rel => exact ⟨k + 1, f2, by go_num, by omega, HN⟩
        case measure => simp [intOf] <;> omega
      by_cases _h1' : ak = 1
      · subst _h1'
        have C1 := Lib.hid (fun W h => Space.use_any s aa an f W h HIN.out.i1 HIN.out.i2)
        have C2 := Lib.hid (fun W h => R21.set_any q g c aa an false f W h HIN.out.i1 HIN.out.i2)
        generalize act f aa an false = f2 at *
        generalize may f aa an false = mb at *
        obtain ⟨t, ht⟩ : ∃ t, t = wr.heap.size := ⟨_, rfl⟩
        go_wp2_with fail
        generalize wr.alloc (.cells #[.int .i64 1, .int .i64 aa, .int .i64 an] 29) = wA at *
        rw [← ht] at HFAR HACT ⊢
        clear ht
        refine Drawn.wp_region_known 13 [.pointer (some ⟨s, 0, none⟩), .pointer (some ⟨t, 1, none⟩), .int .i64 aa, .pointer (some ⟨t, 2, none⟩), .int .i64 an, .bool mb, .pointer (some ⟨q, 0, none⟩), .pointer (some ⟨t, 1, none⟩), .int .i64 aa, .pointer (some ⟨t, 2, none⟩), .int .i64 an, .bool mb, .bool false] (Two w s q g c t ⟨1, aa, an⟩ f f2 5 11) (by kernel_rfl) (by kernel_rfl) ?_ ?_ ?_
        · exact fun b hb => Two.start (hb 5 (by omega)) (hb 11 (by omega)) HBA.out HACT.out HSP.out HMP.out
        · intro i hi b a w5 hf hI hev hdep
          rcases (show i = 0 ∨ i = 1 ∨ i = 2 ∨ i = 3 ∨ i = 4 ∨ i = 5 ∨ i = 6 ∨ i = 7 ∨ i = 8 ∨ i = 9 ∨ i = 10 ∨ i = 11 ∨ i = 12 by omega) with rfl | rfl | rfl | rfl | rfl | rfl | rfl | rfl | rfl | rfl | rfl | rfl | rfl
          · have e7 : a.tmps[7]?.getD undef = .pointer (some ⟨s, 0, none⟩) := hev 7 rfl
            refine Drawn.wpOp_known ((Two w s q g c t ⟨1, aa, an⟩ f f2 5 11) (Drawn.upd b 0)) (v := .pointer (some ⟨s, 0, none⟩)) 70 rfl rfl rfl ?_
            have HK := Lib.hid (hI.skip (i := 0) (by decide) (by decide))
            clear hev hdep hI hf
            go_simp
            first | exact HK.out | exact ⟨rfl, HK.out⟩
          · have e10 : a.tmps[10]?.getD undef = .pointer (some ⟨t, 0, none⟩) := hev 10 rfl
            refine Drawn.wpOp_known ((Two w s q g c t ⟨1, aa, an⟩ f f2 5 11) (Drawn.upd b 1)) (v := .pointer (some ⟨t, 1, none⟩)) 71 rfl rfl rfl ?_
            have HK := Lib.hid (hI.skip (i := 1) (by decide) (by decide))
            clear hev hdep hI hf
            go_simp
            first | exact HK.out | exact ⟨rfl, HK.out⟩
          · have d1 : a.tmps[71]?.getD undef = .pointer (some ⟨t, 1, none⟩) := (hdep 1 rfl).2
            refine Drawn.wpOp_known ((Two w s q g c t ⟨1, aa, an⟩ f f2 5 11) (Drawn.upd b 2)) (v := .int .i64 aa) 72 rfl rfl rfl ?_
            have k1 := hI.act.c1; have k2 := hI.act.c2
            have HK := Lib.hid (hI.skip (i := 2) (by decide) (by decide))
            clear hev hdep hI hf
            go_simp
            first | exact HK.out | exact ⟨rfl, HK.out⟩
          · have e10 : a.tmps[10]?.getD undef = .pointer (some ⟨t, 0, none⟩) := hev 10 rfl
            refine Drawn.wpOp_known ((Two w s q g c t ⟨1, aa, an⟩ f f2 5 11) (Drawn.upd b 3)) (v := .pointer (some ⟨t, 2, none⟩)) 73 rfl rfl rfl ?_
            have HK := Lib.hid (hI.skip (i := 3) (by decide) (by decide))
            clear hev hdep hI hf
            go_simp
            first | exact HK.out | exact ⟨rfl, HK.out⟩
          · have d3 : a.tmps[73]?.getD undef = .pointer (some ⟨t, 2, none⟩) := (hdep 3 rfl).2
            refine Drawn.wpOp_known ((Two w s q g c t ⟨1, aa, an⟩ f f2 5 11) (Drawn.upd b 4)) (v := .int .i64 an) 74 rfl rfl rfl ?_
            have k1 := hI.act.c1; have k2 := hI.act.c2
            have HK := Lib.hid (hI.skip (i := 4) (by decide) (by decide))
            clear hev hdep hI hf
            go_simp
            first | exact HK.out | exact ⟨rfl, HK.out⟩
          · have d0 : a.tmps[70]?.getD undef = .pointer (some ⟨s, 0, none⟩) := (hdep 0 rfl).2
            have d2 : a.tmps[72]?.getD undef = .int .i64 aa := (hdep 2 rfl).2
            have d4 : a.tmps[74]?.getD undef = .int .i64 an := (hdep 4 rfl).2
            refine Drawn.wpOp_known ((Two w s q g c t ⟨1, aa, an⟩ f f2 5 11) (Drawn.upd b 5)) (v := .bool mb) 75 rfl rfl rfl ?_
            have h0 := hI.d10 hf
            have hC := C1.out w5 h0
            have HI := Lib.hid hI
            clear hev hdep
            go_simp
            refine hC.mono ?_
            rintro e w' ⟨rfl, hd', hq'⟩
            exact ⟨rfl, HI.out.d1go hd' hq' HFAR.out (by decide)⟩
          · have e8 : a.tmps[8]?.getD undef = .pointer (some ⟨q, 0, none⟩) := hev 8 rfl
            refine Drawn.wpOp_known ((Two w s q g c t ⟨1, aa, an⟩ f f2 5 11) (Drawn.upd b 6)) (v := .pointer (some ⟨q, 0, none⟩)) 76 rfl rfl rfl ?_
            have HK := Lib.hid (hI.skip (i := 6) (by decide) (by decide))
            clear hev hdep hI hf
            go_simp
            first | exact HK.out | exact ⟨rfl, HK.out⟩
          · have e10 : a.tmps[10]?.getD undef = .pointer (some ⟨t, 0, none⟩) := hev 10 rfl
            refine Drawn.wpOp_known ((Two w s q g c t ⟨1, aa, an⟩ f f2 5 11) (Drawn.upd b 7)) (v := .pointer (some ⟨t, 1, none⟩)) 77 rfl rfl rfl ?_
            have HK := Lib.hid (hI.skip (i := 7) (by decide) (by decide))
            clear hev hdep hI hf
            go_simp
            first | exact HK.out | exact ⟨rfl, HK.out⟩
          · have d7 : a.tmps[77]?.getD undef = .pointer (some ⟨t, 1, none⟩) := (hdep 7 rfl).2
            refine Drawn.wpOp_known ((Two w s q g c t ⟨1, aa, an⟩ f f2 5 11) (Drawn.upd b 8)) (v := .int .i64 aa) 78 rfl rfl rfl ?_
            have k1 := hI.act.c1; have k2 := hI.act.c2
            have HK := Lib.hid (hI.skip (i := 8) (by decide) (by decide))
            clear hev hdep hI hf
            go_simp
            first | exact HK.out | exact ⟨rfl, HK.out⟩
          · have e10 : a.tmps[10]?.getD undef = .pointer (some ⟨t, 0, none⟩) := hev 10 rfl
            refine Drawn.wpOp_known ((Two w s q g c t ⟨1, aa, an⟩ f f2 5 11) (Drawn.upd b 9)) (v := .pointer (some ⟨t, 2, none⟩)) 79 rfl rfl rfl ?_
            have HK := Lib.hid (hI.skip (i := 9) (by decide) (by decide))
            clear hev hdep hI hf
            go_simp
            first | exact HK.out | exact ⟨rfl, HK.out⟩
          · have d9 : a.tmps[79]?.getD undef = .pointer (some ⟨t, 2, none⟩) := (hdep 9 rfl).2
            refine Drawn.wpOp_known ((Two w s q g c t ⟨1, aa, an⟩ f f2 5 11) (Drawn.upd b 10)) (v := .int .i64 an) 80 rfl rfl rfl ?_
            have k1 := hI.act.c1; have k2 := hI.act.c2
            have HK := Lib.hid (hI.skip (i := 10) (by decide) (by decide))
            clear hev hdep hI hf
            go_simp
            first | exact HK.out | exact ⟨rfl, HK.out⟩
          · have d6 : a.tmps[76]?.getD undef = .pointer (some ⟨q, 0, none⟩) := (hdep 6 rfl).2
            have d8 : a.tmps[78]?.getD undef = .int .i64 aa := (hdep 8 rfl).2
            have d10 : a.tmps[80]?.getD undef = .int .i64 an := (hdep 10 rfl).2
            refine Drawn.wpOp_known ((Two w s q g c t ⟨1, aa, an⟩ f f2 5 11) (Drawn.upd b 11)) (v := .bool mb) 81 rfl rfl rfl ?_
            have h0 := hI.d20 hf
            have hC := C2.out w5 h0
            have HI := Lib.hid hI
            clear hev hdep
            go_simp
            refine hC.mono ?_
            rintro e w' ⟨rfl, hd', hq'⟩
            exact ⟨rfl, HI.out.d2go hd' hq' HFAR.out (by decide)⟩
          · have d5 : a.tmps[75]?.getD undef = .bool mb := (hdep 5 rfl).2
            have d11 : a.tmps[81]?.getD undef = .bool mb := (hdep 11 rfl).2
            refine Drawn.wpOp_known ((Two w s q g c t ⟨1, aa, an⟩ f f2 5 11) (Drawn.upd b 12)) (v := .bool false) 82 rfl rfl rfl ?_
            have HK := Lib.hid (hI.skip (i := 12) (by decide) (by decide))
            clear hev hdep hI hf
            go_simp
            first | exact HK.out | exact ⟨rfl, HK.out⟩
        · intro b w5 hf hI
          show Exit.then _ _ Exit.normal (Drawn.acts _ [(82, some (.bool false)), (81, some (.bool mb)), (80, some (.int .i64 an)), (79, some (.pointer (some ⟨t, 2, none⟩))), (78, some (.int .i64 aa)), (77, some (.pointer (some ⟨t, 1, none⟩))), (76, some (.pointer (some ⟨q, 0, none⟩))), (75, some (.bool mb)), (74, some (.int .i64 an)), (73, some (.pointer (some ⟨t, 2, none⟩))), (72, some (.int .i64 aa)), (71, some (.pointer (some ⟨t, 1, none⟩))), (70, some (.pointer (some ⟨s, 0, none⟩)))]) _
          have HS5 := Lib.hid (hI.d1 (hf 5 (by omega))); have HM5 := Lib.hid (hI.d2 (hf 11 (by omega))); have HB5 := Lib.hid hI.below
          clear hI hf
          simp only [Drawn.acts]
          go_simp
          go_at_K
          have hCF := free_any s f2 w5 HS5.out
          have HCF := Lib.hid hCF
          have HCC := Lib.hid (fun W hm => R21.count_any q g c f2 W hm)
          have HCL := Lib.hid (fun W hs => longest_any s f2 W hs)
          have HCM := Lib.hid (fun W hm => R21.longest_any q g c f2 W hm)
          generalize count f2 = cf at *
          generalize SpaceM.longest f2 = lf at *
          clear hCF
          go_wp2_with fail
          refine HCF.out.mono ?_
          rintro e w6 ⟨rfl, hb6⟩
          have HS6 := Lib.hid (HS5.out.below hb6); have HM6 := Lib.hid (HM5.out.below hb6); have HB6 := Lib.hid (HB5.out.trans (hb6.mono HB5.out.size))
          clear hb6
          go_wp2_with fail
          refine (HCC.out _ HM6.out).mono ?_
          rintro e w7 ⟨rfl, rfl⟩
          go_wp2_with fail
          refine (HCL.out _ HS6.out).mono ?_
          rintro e w8 ⟨rfl, hb8⟩
          have HS8 := Lib.hid (HS6.out.below hb8); have HM8 := Lib.hid (HM6.out.below hb8); have HB8 := Lib.hid (HB6.out.trans (hb8.mono HB6.out.size))
          clear hb8
          go_wp2_with fail
          refine (HCM.out _ HM8.out).mono ?_
          rintro e w9 ⟨rfl, rfl⟩
          have HN : Hid (Both w w9 s q g c f2) := Lib.hid ⟨HS8.out, HM8.out, HB8.out⟩
          clear HS6 HM6 HB6 HS8 HM8 HB8 HCF HCC HCL HCM
          go_wp2
          go_roundw
          case rel => exact ⟨k + 1, f2, by go_num, by omega, HN⟩
          case measure => simp [intOf] <;> omega
      · have h0' : (ak == 0) = false := by rw [beq_eq_false_iff_ne]; exact h0
        have _h1'' : (ak == 1) = false := by rw [beq_eq_false_iff_ne]; exact _h1'
        have C1 := Lib.hid (fun W h => Space.give_any s aa an f W h HIN.out.i1 HIN.out.i2)
        have C2 := Lib.hid (fun W h => R21.set_any q g c aa an true f W h HIN.out.i1 HIN.out.i2)
        generalize act f aa an true = f2 at *
        generalize may f aa an true = mb at *
        obtain ⟨t, ht⟩ : ∃ t, t = wr.heap.size := ⟨_, rfl⟩
        go_wp2_with fail
        generalize wr.alloc (.cells #[.int .i64 ak, .int .i64 aa, .int .i64 an] 29) = wA at *
        rw [← ht] at HFAR HACT ⊢
        clear ht
        refine Drawn.wp_region_known 13 [.pointer (some ⟨s, 0, none⟩), .pointer (some ⟨t, 1, none⟩), .int .i64 aa, .pointer (some ⟨t, 2, none⟩), .int .i64 an, .bool mb, .pointer (some ⟨q, 0, none⟩), .pointer (some ⟨t, 1, none⟩), .int .i64 aa, .pointer (some ⟨t, 2, none⟩), .int .i64 an, .bool mb, .bool false] (Two w s q g c t ⟨ak, aa, an⟩ f f2 5 11) (by kernel_rfl) (by kernel_rfl) ?_ ?_ ?_
        · exact fun b hb => Two.start (hb 5 (by omega)) (hb 11 (by omega)) HBA.out HACT.out HSP.out HMP.out
        · intro i hi b a w5 hf hI hev hdep
          rcases (show i = 0 ∨ i = 1 ∨ i = 2 ∨ i = 3 ∨ i = 4 ∨ i = 5 ∨ i = 6 ∨ i = 7 ∨ i = 8 ∨ i = 9 ∨ i = 10 ∨ i = 11 ∨ i = 12 by omega) with rfl | rfl | rfl | rfl | rfl | rfl | rfl | rfl | rfl | rfl | rfl | rfl | rfl
          · have e7 : a.tmps[7]?.getD undef = .pointer (some ⟨s, 0, none⟩) := hev 7 rfl
            refine Drawn.wpOp_known ((Two w s q g c t ⟨ak, aa, an⟩ f f2 5 11) (Drawn.upd b 0)) (v := .pointer (some ⟨s, 0, none⟩)) 31 rfl rfl rfl ?_
            have HK := Lib.hid (hI.skip (i := 0) (by decide) (by decide))
            clear hev hdep hI hf
            go_simp
            first | exact HK.out | exact ⟨rfl, HK.out⟩
          · have e10 : a.tmps[10]?.getD undef = .pointer (some ⟨t, 0, none⟩) := hev 10 rfl
            refine Drawn.wpOp_known ((Two w s q g c t ⟨ak, aa, an⟩ f f2 5 11) (Drawn.upd b 1)) (v := .pointer (some ⟨t, 1, none⟩)) 32 rfl rfl rfl ?_
            have HK := Lib.hid (hI.skip (i := 1) (by decide) (by decide))
            clear hev hdep hI hf
            go_simp
            first | exact HK.out | exact ⟨rfl, HK.out⟩
          · have d1 : a.tmps[32]?.getD undef = .pointer (some ⟨t, 1, none⟩) := (hdep 1 rfl).2
            refine Drawn.wpOp_known ((Two w s q g c t ⟨ak, aa, an⟩ f f2 5 11) (Drawn.upd b 2)) (v := .int .i64 aa) 33 rfl rfl rfl ?_
            have k1 := hI.act.c1; have k2 := hI.act.c2
            have HK := Lib.hid (hI.skip (i := 2) (by decide) (by decide))
            clear hev hdep hI hf
            go_simp
            first | exact HK.out | exact ⟨rfl, HK.out⟩
          · have e10 : a.tmps[10]?.getD undef = .pointer (some ⟨t, 0, none⟩) := hev 10 rfl
            refine Drawn.wpOp_known ((Two w s q g c t ⟨ak, aa, an⟩ f f2 5 11) (Drawn.upd b 3)) (v := .pointer (some ⟨t, 2, none⟩)) 34 rfl rfl rfl ?_
            have HK := Lib.hid (hI.skip (i := 3) (by decide) (by decide))
            clear hev hdep hI hf
            go_simp
            first | exact HK.out | exact ⟨rfl, HK.out⟩
          · have d3 : a.tmps[34]?.getD undef = .pointer (some ⟨t, 2, none⟩) := (hdep 3 rfl).2
            refine Drawn.wpOp_known ((Two w s q g c t ⟨ak, aa, an⟩ f f2 5 11) (Drawn.upd b 4)) (v := .int .i64 an) 35 rfl rfl rfl ?_
            have k1 := hI.act.c1; have k2 := hI.act.c2
            have HK := Lib.hid (hI.skip (i := 4) (by decide) (by decide))
            clear hev hdep hI hf
            go_simp
            first | exact HK.out | exact ⟨rfl, HK.out⟩
          · have d0 : a.tmps[31]?.getD undef = .pointer (some ⟨s, 0, none⟩) := (hdep 0 rfl).2
            have d2 : a.tmps[33]?.getD undef = .int .i64 aa := (hdep 2 rfl).2
            have d4 : a.tmps[35]?.getD undef = .int .i64 an := (hdep 4 rfl).2
            refine Drawn.wpOp_known ((Two w s q g c t ⟨ak, aa, an⟩ f f2 5 11) (Drawn.upd b 5)) (v := .bool mb) 36 rfl rfl rfl ?_
            have h0 := hI.d10 hf
            have hC := C1.out w5 h0
            have HI := Lib.hid hI
            clear hev hdep
            go_simp
            refine hC.mono ?_
            rintro e w' ⟨rfl, hd', hq'⟩
            exact ⟨rfl, HI.out.d1go hd' hq' HFAR.out (by decide)⟩
          · have e8 : a.tmps[8]?.getD undef = .pointer (some ⟨q, 0, none⟩) := hev 8 rfl
            refine Drawn.wpOp_known ((Two w s q g c t ⟨ak, aa, an⟩ f f2 5 11) (Drawn.upd b 6)) (v := .pointer (some ⟨q, 0, none⟩)) 37 rfl rfl rfl ?_
            have HK := Lib.hid (hI.skip (i := 6) (by decide) (by decide))
            clear hev hdep hI hf
            go_simp
            first | exact HK.out | exact ⟨rfl, HK.out⟩
          · have e10 : a.tmps[10]?.getD undef = .pointer (some ⟨t, 0, none⟩) := hev 10 rfl
            refine Drawn.wpOp_known ((Two w s q g c t ⟨ak, aa, an⟩ f f2 5 11) (Drawn.upd b 7)) (v := .pointer (some ⟨t, 1, none⟩)) 38 rfl rfl rfl ?_
            have HK := Lib.hid (hI.skip (i := 7) (by decide) (by decide))
            clear hev hdep hI hf
            go_simp
            first | exact HK.out | exact ⟨rfl, HK.out⟩
          · have d7 : a.tmps[38]?.getD undef = .pointer (some ⟨t, 1, none⟩) := (hdep 7 rfl).2
            refine Drawn.wpOp_known ((Two w s q g c t ⟨ak, aa, an⟩ f f2 5 11) (Drawn.upd b 8)) (v := .int .i64 aa) 39 rfl rfl rfl ?_
            have k1 := hI.act.c1; have k2 := hI.act.c2
            have HK := Lib.hid (hI.skip (i := 8) (by decide) (by decide))
            clear hev hdep hI hf
            go_simp
            first | exact HK.out | exact ⟨rfl, HK.out⟩
          · have e10 : a.tmps[10]?.getD undef = .pointer (some ⟨t, 0, none⟩) := hev 10 rfl
            refine Drawn.wpOp_known ((Two w s q g c t ⟨ak, aa, an⟩ f f2 5 11) (Drawn.upd b 9)) (v := .pointer (some ⟨t, 2, none⟩)) 40 rfl rfl rfl ?_
            have HK := Lib.hid (hI.skip (i := 9) (by decide) (by decide))
            clear hev hdep hI hf
            go_simp
            first | exact HK.out | exact ⟨rfl, HK.out⟩
          · have d9 : a.tmps[40]?.getD undef = .pointer (some ⟨t, 2, none⟩) := (hdep 9 rfl).2
            refine Drawn.wpOp_known ((Two w s q g c t ⟨ak, aa, an⟩ f f2 5 11) (Drawn.upd b 10)) (v := .int .i64 an) 41 rfl rfl rfl ?_
            have k1 := hI.act.c1; have k2 := hI.act.c2
            have HK := Lib.hid (hI.skip (i := 10) (by decide) (by decide))
            clear hev hdep hI hf
            go_simp
            first | exact HK.out | exact ⟨rfl, HK.out⟩
          · have d6 : a.tmps[37]?.getD undef = .pointer (some ⟨q, 0, none⟩) := (hdep 6 rfl).2
            have d8 : a.tmps[39]?.getD undef = .int .i64 aa := (hdep 8 rfl).2
            have d10 : a.tmps[41]?.getD undef = .int .i64 an := (hdep 10 rfl).2
            refine Drawn.wpOp_known ((Two w s q g c t ⟨ak, aa, an⟩ f f2 5 11) (Drawn.upd b 11)) (v := .bool mb) 42 rfl rfl rfl ?_
            have h0 := hI.d20 hf
            have hC := C2.out w5 h0
            have HI := Lib.hid hI
            clear hev hdep
            go_simp
            refine hC.mono ?_
            rintro e w' ⟨rfl, hd', hq'⟩
            exact ⟨rfl, HI.out.d2go hd' hq' HFAR.out (by decide)⟩
          · have d5 : a.tmps[36]?.getD undef = .bool mb := (hdep 5 rfl).2
            have d11 : a.tmps[42]?.getD undef = .bool mb := (hdep 11 rfl).2
            refine Drawn.wpOp_known ((Two w s q g c t ⟨ak, aa, an⟩ f f2 5 11) (Drawn.upd b 12)) (v := .bool false) 43 rfl rfl rfl ?_
            have HK := Lib.hid (hI.skip (i := 12) (by decide) (by decide))
            clear hev hdep hI hf
            go_simp
            first | exact HK.out | exact ⟨rfl, HK.out⟩
        · intro b w5 hf hI
          show Exit.then _ _ Exit.normal (Drawn.acts _ [(43, some (.bool false)), (42, some (.bool mb)), (41, some (.int .i64 an)), (40, some (.pointer (some ⟨t, 2, none⟩))), (39, some (.int .i64 aa)), (38, some (.pointer (some ⟨t, 1, none⟩))), (37, some (.pointer (some ⟨q, 0, none⟩))), (36, some (.bool mb)), (35, some (.int .i64 an)), (34, some (.pointer (some ⟨t, 2, none⟩))), (33, some (.int .i64 aa)), (32, some (.pointer (some ⟨t, 1, none⟩))), (31, some (.pointer (some ⟨s, 0, none⟩)))]) _
          have HS5 := Lib.hid (hI.d1 (hf 5 (by omega))); have HM5 := Lib.hid (hI.d2 (hf 11 (by omega))); have HB5 := Lib.hid hI.below
          clear hI hf
          simp only [Drawn.acts]
          go_simp
          go_at_K
          have hCF := free_any s f2 w5 HS5.out
          have HCF := Lib.hid hCF
          have HCC := Lib.hid (fun W hm => R21.count_any q g c f2 W hm)
          have HCL := Lib.hid (fun W hs => longest_any s f2 W hs)
          have HCM := Lib.hid (fun W hm => R21.longest_any q g c f2 W hm)
          generalize count f2 = cf at *
          generalize SpaceM.longest f2 = lf at *
          clear hCF
          go_wp2_with fail
          refine HCF.out.mono ?_
          rintro e w6 ⟨rfl, hb6⟩
          have HS6 := Lib.hid (HS5.out.below hb6); have HM6 := Lib.hid (HM5.out.below hb6); have HB6 := Lib.hid (HB5.out.trans (hb6.mono HB5.out.size))
          clear hb6
          go_wp2_with fail
          refine (HCC.out _ HM6.out).mono ?_
          rintro e w7 ⟨rfl, rfl⟩
          go_wp2_with fail
          refine (HCL.out _ HS6.out).mono ?_
          rintro e w8 ⟨rfl, hb8⟩
          have HS8 := Lib.hid (HS6.out.below hb8); have HM8 := Lib.hid (HM6.out.below hb8); have HB8 := Lib.hid (HB6.out.trans (hb8.mono HB6.out.size))
          clear hb8
          go_wp2_with fail
          refine (HCM.out _ HM8.out).mono ?_
          rintro e w9 ⟨rfl, rfl⟩
          have HN : Hid (Both w w9 s q g c f2) := Lib.hid ⟨HS8.out, HM8.out, HB8.out⟩
          clear HS6 HM6 HB6 HS8 HM8 HB8 HCF HCC HCL HCM
          go_wp2
          go_roundw
          case rel => exact ⟨k + 1, f2, by go_num, by omega, HN⟩
          case measure => simp [intOf] <;> omega
    · have hlt' : ¬ (k : Int) < (L : Int) := by omega
      have hq2 := HR.out.m.c0
      have hfl := HR.out.m.few
      have HI := Lib.hid (Space.is_any s ask f wr HR.out.sp HASK.out)
      by_cases g0 : 0 ≤ ask
      · obtain ⟨j, rfl⟩ : ∃ j : Nat, ask = (j : Nat) := ⟨ask.toNat, by omega⟩
        by_cases g1 : j < f.length
        · have hv := HR.out.m.cell g1
          have hq : isF f (j : Nat) = fr f j := by unfold isF; simp
          rw [hq] at HI
          have g1' : (j : Int) < (f.length : Int) := by omega
          generalize fr f j = v at *
          generalize f.length = fl at *
          clear hq
          go_wp2_with fail
          refine HI.out.mono ?_
          rintro e w5 ⟨rfl, rfl⟩
          go_wp2_with fail
          refine (alive_any _).mono ?_
          rintro e w6 ⟨rfl, hb6⟩
          have HBF := Lib.hid (HR.out.below.trans (hb6.mono HR.out.below.size))
          clear hb6
          go_wp2
          go_ret
          exact ⟨rfl, HBF.out⟩
        · have hq : isF f (j : Nat) = false := by unfold isF; rw [fr_out (by simp; omega)]; simp
          rw [hq] at HI
          have g1' : ¬ (j : Int) < (f.length : Int) := by omega
          generalize f.length = fl at *
          clear hq
          go_wp2_with fail
          refine HI.out.mono ?_
          rintro e w5 ⟨rfl, rfl⟩
          go_wp2_with fail
          refine (alive_any _).mono ?_
          rintro e w6 ⟨rfl, hb6⟩
          have HBF := Lib.hid (HR.out.below.trans (hb6.mono HR.out.below.size))
          clear hb6
          go_wp2
          go_ret
          exact ⟨rfl, HBF.out⟩
      · have hq : isF f ask = false := by unfold isF; simp [g0]
        rw [hq] at HI
        generalize f.length = fl at *
        clear hq
        go_wp2_with fail
        refine HI.out.mono ?_
        rintro e w5 ⟨rfl, rfl⟩
        go_wp2_with fail
        refine (alive_any _).mono ?_
        rintro e w6 ⟨rfl, hb6⟩
        have HBF := Lib.hid (HR.out.below.trans (hb6.mono HR.out.below.size))
        clear hb6
        go_wp2
        go_ret
        exact ⟨rfl, HBF.out⟩
end Go.Proofs.Ytpljdjkmemojmaa.Law21
