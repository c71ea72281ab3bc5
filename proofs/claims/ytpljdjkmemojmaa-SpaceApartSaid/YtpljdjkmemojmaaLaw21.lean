/- the laws of layer 21: what they share -/
import Derived.Test.YtpljdjkmemojmaaMSK
import Derived.Test.YtpljdjkmemojmaaMRS
set_option maxRecDepth 100000
namespace Go.Proofs.Ytpljdjkmemojmaa.Law21
open Go.RowKit SpaceM Space

def ex0 : List Bool := [true, true, true, true]
def ex1 : List Bool := [true, false, true, true]
def ex2 : List Bool := [true, false, false, false]
theorem ex_new : SpaceM.new 4 = ex0 := by decide
theorem ex_use : may ex0 1 1 false = true ∧ act ex0 1 1 false = ex1 := by decide
theorem ex_find : find ex1 2 = some 2 := by decide
theorem ex_take : tookAt ex1 2 = 2 ∧ (find ex1 2).isSome = true ∧ taken ex1 2 = ex2 := by decide
theorem ex_count : count ex2 = 1 := by decide
theorem ex_is : isF ex2 0 = true ∧ isF ex2 1 = false := by decide
theorem alive_any (w : World) : Calls Try.prog 6 #[] w fun e w' => e = .returned (.bool true) ∧ Below w.heap.size w w' := by
  have hC0 := new_any 4 w ⟨by decide, by decide⟩
  rw [ex_new] at hC0
  have C1 := Lib.hid (fun s W h => use_any s 1 1 ex0 W h ⟨by decide, by decide⟩ ⟨by decide, by decide⟩)
  rw [ex_use.1, ex_use.2] at C1
  have C2 := Lib.hid (fun s W h => take_any s 2 ex1 W h ⟨by decide, by decide⟩)
  unfold RetTake at C2
  rw [ex_take.1, ex_take.2.1, ex_take.2.2] at C2
  have C3 := Lib.hid (fun s W h => free_any s ex2 W h)
  rw [ex_count] at C3
  have C4 := Lib.hid (fun s W h => is_any s 0 ex2 W h ⟨by decide, by decide⟩)
  have C5 := Lib.hid (fun s W h => is_any s 1 ex2 W h ⟨by decide, by decide⟩)
  rw [ex_is.1] at C4
  rw [ex_is.2] at C5
  have C0 := Lib.hid hC0
  clear hC0
  generalize ex0 = x0 at *
  generalize ex1 = x1 at *
  generalize ex2 = x2 at *
  go_enter Try.func6, Try.ntmps6
  go_wp2_with fail
  refine C0.out.mono ?_
  rintro e w1 ⟨s, rfl, h1, hl1, hb1⟩
  have H1 := Lib.hid h1; have HB1 := Lib.hid hb1; have HL := Lib.hid hl1
  clear h1 hb1 hl1
  go_wp2_with fail
  refine (C1.out s w1 H1.out).mono ?_
  rintro e w2 ⟨rfl, h2, k2⟩
  have H2 := Lib.hid h2; have HB2 := Lib.hid (below_keeps HB1.out k2 (fun k e => by rw [e]; exact HL.out) HB1.out.size)
  clear h2 k2
  go_wp2_with fail
  refine (C2.out s w2 H2.out).mono ?_
  rintro e w3 ⟨rfl, h3, k3⟩
  have H3 := Lib.hid h3; have HB3 := Lib.hid (below_keeps HB2.out k3 (fun k e => by rw [e]; exact HL.out) HB2.out.size)
  clear h3 k3
  go_wp2_with fail
  refine (C3.out s w3 H3.out).mono ?_
  rintro e w4 ⟨rfl, hb4⟩
  have H4 := Lib.hid (H3.out.below hb4); have HB4 := Lib.hid (bstep HB3.out hb4)
  clear hb4
  go_wp2_with fail
  refine (C4.out s w4 H4.out).mono ?_
  rintro e w5 ⟨rfl, rfl⟩
  go_wp2_with fail
  refine (C5.out s _ H4.out).mono ?_
  rintro e w6 ⟨rfl, rfl⟩
  go_wp2
  go_ret
  exact ⟨rfl, HB4.out⟩
end Go.Proofs.Ytpljdjkmemojmaa.Law21
