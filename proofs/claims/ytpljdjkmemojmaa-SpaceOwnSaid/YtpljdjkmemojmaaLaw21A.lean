/- the walk of SpaceOwn -/
import Derived.Test.YtpljdjkmemojmaaLaw21
import Derived.Test.YtpljdjkmemojmaaActs21
set_option maxRecDepth 100000
namespace Go.Proofs.Ytpljdjkmemojmaa.Law21
open Go.RowKit SpaceM Space

theorem nil_take : find [] 1 = none ∧ tookAt [] 1 = 0 ∧ (find [] 1).isSome = false ∧ taken [] 1 = [] := by decide
theorem nil_give : may [] 0 1 true = false ∧ act [] 0 1 true = [] := by decide
theorem own_any (a : Act21) (at_ n : Int) (w : World) (ha : a.In) (h1 : In21 at_) (h2 : In21 n) :
    Calls Try.prog 5 #[.agg #[.int .i64 a.kind, .int .i64 a.at_, .int .i64 a.n], .int .i64 at_, .int .i64 n] w fun e w' => e = .returned (.bool true) ∧ Below w.heap.size w w' := by
  have HT0 := Lib.hid (ActLies21.new w a 29)
  have HB0 := Lib.hid (balloc w (.cells #[.int .i64 a.kind, .int .i64 a.at_, .int .i64 a.n] 29))
  obtain ⟨f0, hf0⟩ : ∃ f0, f0 = SpaceM.new 9 := ⟨_, rfl⟩
  have C0 := Lib.hid (fun W => new_any 9 W ⟨by decide, by decide⟩)
  rw [← hf0] at C0
  obtain ⟨f1, hf1⟩ : ∃ f1, f1 = act f0 a.at_ a.n false := ⟨_, rfl⟩
  have C1 := Lib.hid (fun s W h => use_any s a.at_ a.n f0 W h ha.i1 ha.i2)
  rw [← hf1] at C1
  generalize may f0 a.at_ a.n false = m1 at *
  have CF := Lib.hid (fun s W h => free_any s f1 W h)
  have hc : count f1 ≤ f1.length := count_le f1
  generalize count f1 = cf at *
  have CC := Lib.hid (fun s W h => copy_any s f1 W h)
  have CT := Lib.hid (fun s W h => take_any s 3 f1 W h ⟨by decide, by decide⟩)
  unfold RetTake at CT
  generalize taken f1 3 = f2 at *
  generalize (tookAt f1 3) = t3 at *
  generalize (find f1 3).isSome = b3 at *
  have CG := Lib.hid (fun s W h => give_any s at_ n f2 W h h1 h2)
  generalize may f2 at_ n true = m4 at *
  have CN := Lib.hid (fun W => take_nil 1 W)
  have CZ := Lib.hid (fun s W h => take_any s 1 [] W h ⟨by decide, by decide⟩)
  unfold RetTake at CZ
  rw [nil_take.2.1, nil_take.2.2.1, nil_take.2.2.2] at CZ
  have CU := Lib.hid (fun W => use_nil 0 1 W)
  have CY := Lib.hid (fun s W h => give_any s 0 1 [] W h ⟨by decide, by decide⟩ ⟨by decide, by decide⟩)
  rw [nil_give.1, nil_give.2] at CY
  have CFN := Lib.hid (fun W => free_nil W)
  have CLN := Lib.hid (fun W => longest_nil W)
  have CFZ := Lib.hid (fun s W h => free_any s [] W h)
  have hcn : count [] = 0 := rfl
  rw [hcn] at CFZ
  have CIN := Lib.hid (fun W => is_nil 0 W)
  have CCN := Lib.hid (fun W => copy_nil W)
  have hZ := zero_sp
  have HZN : ∀ W : World, Hid (SpAt (W.alloc (.cells (arr []) 47)) W.heap.size []) := fun W => Lib.hid ⟨heap_alloc_new W _, by simp⟩
  generalize arr [] = az at *
  have c1 := HT0.out.c1; have c2 := HT0.out.c2
  clear hf0 hf1 hc hcn ha h1 h2
  go_enter Try.func5, Try.ntmps5
  go_wp2_with fail
  generalize w.alloc (.cells #[.int .i64 a.kind, .int .i64 a.at_, .int .i64 a.n] 29) = W0 at *
  refine (C0.out W0).mono ?_
  rintro e w1 ⟨s, rfl, h1, hl1, hb1⟩
  have HS1 := Lib.hid h1; have HB1 := Lib.hid (bstep HB0.out hb1)
  have HL : Hid (w.heap.size ≤ s) := Lib.hid (Nat.le_trans HB0.out.size hl1)
  have ht := HT0.out.below hb1
  have c1 := ht.c1; have c2 := ht.c2
  clear h1 hl1 hb1 C0 HB0 ht HT0
  go_wp2_with fail
  refine (C1.out s w1 HS1.out).mono ?_
  rintro e w2 ⟨rfl, h2, k2⟩
  have HS2 := Lib.hid h2; have HB2 := Lib.hid (below_keeps HB1.out k2 (fun k e => by rw [e]; exact HL.out) HB1.out.size)
  clear h2 k2 C1 HS1 HB1 c1 c2
  go_wp2_with fail
  refine (CF.out s w2 HS2.out).mono ?_
  rintro e w3 ⟨rfl, hb3⟩
  have HS3 := Lib.hid (HS2.out.below hb3); have HB3 := Lib.hid (bstep HB2.out hb3)
  clear hb3 HS2 HB2
  go_wp2_with fail
  refine (CC.out s w3 HS3.out).mono ?_
  rintro e w4 ⟨x, rfl, hx4, hl4, hb4⟩
  have HS4 := Lib.hid (HS3.out.below hb4); have HX4 := Lib.hid hx4; have HB4 := Lib.hid (bstep HB3.out hb4)
  have HSX : Hid (s ≠ x ∧ w.heap.size ≤ x) := Lib.hid ⟨by have := HS3.out.lt; omega, Nat.le_trans HB3.out.size hl4⟩
  clear hx4 hl4 hb4 HS3 HB3 CC
  go_wp2_with fail
  refine (CT.out x w4 HX4.out).mono ?_
  rintro e w5 ⟨rfl, hx5, k5⟩
  have HS5 := Lib.hid (HS4.out.keep k5 HSX.out.1); have HX5 := Lib.hid hx5; have HB5 := Lib.hid (below_keeps HB4.out k5 (fun k e => by rw [e]; exact HSX.out.2) HB4.out.size)
  clear hx5 k5 HS4 HX4 HB4 CT
  go_wp2_with fail
  refine (CG.out x w5 HX5.out).mono ?_
  rintro e w6 ⟨rfl, -, k6⟩
  have HS6 := Lib.hid (HS5.out.keep k6 HSX.out.1); have HB6 := Lib.hid (below_keeps HB5.out k6 (fun k e => by rw [e]; exact HSX.out.2) HB5.out.size)
  clear k6 HS5 HX5 HB5 CG
  have HZ6 := HZN w6
  have HBZ := Lib.hid (balloc w6 (.cells az 47))
  go_wp2_with fail
  generalize w6.alloc (.cells az 47) = w7 at *
  have HS7 := Lib.hid (HS6.out.below HBZ.out); have HB7 := Lib.hid (bstep HB6.out HBZ.out)
  obtain ⟨z, hz⟩ : ∃ z, z = w6.heap.size := ⟨_, rfl⟩
  have HSZ : Hid (s ≠ z ∧ w.heap.size ≤ z) := Lib.hid ⟨by have := HS6.out.lt; omega, by have := HB6.out.size; omega⟩
  rw [← hz] at HZ6 ⊢
  clear hz HS6 HB6 HBZ
  refine (CN.out w7).mono ?_
  rintro e w8 ⟨rfl, hb8⟩
  have HS8 := Lib.hid (HS7.out.below hb8); have HZ8 := Lib.hid (HZ6.out.below hb8); have HB8 := Lib.hid (bstep HB7.out hb8)
  clear hb8 HS7 HZ6 HB7 CN
  go_wp2_with fail
  refine (CZ.out z w8 HZ8.out).mono ?_
  rintro e w9 ⟨rfl, hz9, k9⟩
  have HS9 := Lib.hid (HS8.out.keep k9 HSZ.out.1); have HZ9 := Lib.hid hz9; have HB9 := Lib.hid (below_keeps HB8.out k9 (fun k e => by rw [e]; exact HSZ.out.2) HB8.out.size)
  clear hz9 k9 HS8 HZ8 HB8 CZ
  go_wp2_with fail
  refine (CF.out s w9 HS9.out).mono ?_
  rintro e w10 ⟨rfl, hb10⟩
  have HZ10 := Lib.hid (HZ9.out.below hb10); have HB10 := Lib.hid (bstep HB9.out hb10)
  clear hb10 HS9 HZ9 HB9 CF
  go_wp2_with fail
  refine (CU.out w10).mono ?_
  rintro e w11 ⟨rfl, rfl⟩
  clear CU
  go_wp2_with fail
  refine (CY.out z _ HZ10.out).mono ?_
  rintro e w12 ⟨rfl, hz12, k12⟩
  have HZ12 := Lib.hid hz12; have HB12 := Lib.hid (below_keeps HB10.out k12 (fun k e => by rw [e]; exact HSZ.out.2) HB10.out.size)
  clear hz12 k12 HZ10 HB10 CY
  go_wp2_with fail
  refine (CFN.out w12).mono ?_
  rintro e w13 ⟨rfl, rfl⟩
  clear CFN
  go_wp2_with fail
  refine (CLN.out _).mono ?_
  rintro e w13 ⟨rfl, rfl⟩
  clear CLN
  go_wp2_with fail
  refine (CFZ.out z _ HZ12.out).mono ?_
  rintro e w14 ⟨rfl, hb14⟩
  have HB14 := Lib.hid (bstep HB12.out hb14)
  clear hb14 HZ12 HB12 CFZ
  go_wp2_with fail
  refine (CIN.out w14).mono ?_
  rintro e w15 ⟨rfl, rfl⟩
  clear CIN
  go_wp2_with fail
  refine (CCN.out _).mono ?_
  rintro e w15 ⟨rfl, rfl⟩
  clear CCN
  go_wp2_with fail
  refine (alive_any _).mono ?_
  rintro e w16 ⟨rfl, hb16⟩
  have HB16 := Lib.hid (bstep HB14.out hb16)
  clear hb16
  go_wp2
  go_ret
  exact ⟨rfl, HB16.out⟩
end Go.Proofs.Ytpljdjkmemojmaa.Law21
