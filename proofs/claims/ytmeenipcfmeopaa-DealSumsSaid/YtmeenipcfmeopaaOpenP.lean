/- arguments opened: plans, lists of bools, lists of numbers -/
import Derived.Test.YtmeenipcfmeopaaOpenS
import Derived.Test.YtmeenipcfmeopaaInts
import Derived.Test.YtmeenipcfmeopaaPlanMath
set_option maxRecDepth 100000
namespace Go.Proofs.Ytmeenipcfmeopaa
open Go.ChangeShapes Go.WideShapes Go.ChangeAt Go.RowKit Go.Deep

section
variable {H : Type} {enc : TypeId × Value → H} {P : Program} {W : World} {base : Nat} {v : Value} {d : DataW H} {p : List MemPlace} {t e : TypeId}
theorem i64_in64 {z : Int} (h : IntKind.min .i64 ≤ z ∧ z ≤ IntKind.max .i64) : PlanM.In64 z := by
  unfold PlanM.In64; simpa [IntKind.min, IntKind.max, IntKind.signed, IntKind.bits] using h
/-- a struct whose fields are all of one cell: its cells -/
theorem open_struct {fs : Array Field} (ht : P.underlying t = some (.struct fs)) (hone : oneCellFields P fs = true) (hC : P.cellsOf t = fs.size)
    (hok : Value.okWide P W .any base t v) (h : DataW.Trod enc P W 0 (fun _ => true) true t v d p) :
    ∃ cs : Array Value, v = .agg cs ∧ cs.size = fs.size ∧ ∀ (j : Nat) (f : Field), fs[j]? = some f → ∃ (u : Value) (m : Nat) (y : DataW H × List MemPlace), cs[j]? = some u ∧ DataW.trod enc P W 0 (fun _ => true) true m f.type [u] = some y := by
  obtain ⟨cs, rfl, hs⟩ := okWide_struct ht hok
  obtain ⟨fuel, hf⟩ := h
  refine ⟨cs, rfl, by rw [hs, hC], fun j f hj => ?_⟩
  obtain ⟨u, m, y, h1, h2⟩ := trod_field ht hone hC hf hj
  exact ⟨u, m, y, by simpa [Value.cells] using h1, h2⟩
theorem open_plan {fs : Array Field} {q : TypeId} (ht : P.underlying t = some (.struct fs)) (hone : oneCellFields P fs = true) (hC : P.cellsOf t = fs.size) (h6 : fs.size = 6)
    (hi : fs.toList.all (fun f => f.type == q) = true) (hq : P.underlying q = some (.int .i64))
    (hok : Value.okWide P W .any base t v) (h : DataW.Trod enc P W 0 (fun _ => true) true t v d p) : ∃ x : PlanM.P, v = x.val ∧ x.In := by
  obtain ⟨cs, rfl, hs, hf⟩ := open_struct ht hone hC hok h
  have each : ∀ j, j < 6 → ∃ z : Int, cs[j]? = some (.int .i64 z) ∧ PlanM.In64 z := by
    intro j hj
    have hjs : j < fs.size := by omega
    obtain ⟨u, m, y, h1, h2⟩ := hf j fs[j] (Array.getElem?_eq_getElem hjs)
    have ht2 : fs[j].type = q := by
      have := List.all_eq_true.mp hi fs[j] (by simp)
      simpa using this
    rw [ht2] at h2
    obtain ⟨z, rfl, hz⟩ := trod_num hq h2
    exact ⟨z, h1, i64_in64 hz⟩
  obtain ⟨a0, e0, i0⟩ := each 0 (by omega)
  obtain ⟨a1, e1, i1⟩ := each 1 (by omega)
  obtain ⟨a2, e2, i2⟩ := each 2 (by omega)
  obtain ⟨a3, e3, i3⟩ := each 3 (by omega)
  obtain ⟨a4, e4, i4⟩ := each 4 (by omega)
  obtain ⟨a5, e5, i5⟩ := each 5 (by omega)
  refine ⟨⟨a0, a1, a2, a3, a4, a5⟩, ?_, ⟨i0, i1, i2, i3, i4, i5⟩⟩
  unfold PlanM.P.val
  congr 1
  rw [h6] at hs
  refine Array.ext_getElem? fun i => ?_
  match i with
  | 0 => rw [e0]; rfl
  | 1 => rw [e1]; rfl
  | 2 => rw [e2]; rfl
  | 3 => rw [e3]; rfl
  | 4 => rw [e4]; rfl
  | 5 => rw [e5]; rfl
  | i + 6 => rw [Array.getElem?_eq_none (by omega), Array.getElem?_eq_none (by simp)]
theorem open_bools (ht : P.underlying t = some (.slice e)) (he : P.underlying e = some .bool) (hC : P.cellsOf e = 1) (hok : Value.okWide P W .any base t v) (h : DataW.Trod enc P W 0 (fun _ => true) true t v d p) :
    ∃ (A : Option Addr) (l : List Bool) (cap : Nat), v = .slice A l.length cap ∧ l.length ≤ cap ∧ cap ≤ maxLen ∧ CellsAt W A (l.map Value.bool) := by
  obtain ⟨A, len, cap, rfl, h1, h2, hel⟩ := open_elems ht (by rw [hC]; omega) hok h
  have each : ∀ i, i < len → ∃ s : Bool, ∃ b o, A = some ⟨b, o, none⟩ ∧ W.cell? ⟨b, o + i, none⟩ = some (.bool s) := by
    intro i hi
    obtain ⟨b, o, cs, n, x, hA, hcl, hat, htr⟩ := hel i hi
    rw [hC, Nat.mul_one] at hat
    obtain ⟨s, hs, _⟩ := DataW.trod_bool he htr
    have c0 := hat 0 (by omega)
    rw [hs] at c0
    exact ⟨s, b, o, hA, c0⟩
  obtain ⟨f, hf⟩ : ∃ f : Nat → Bool, ∀ i, i < len → ∃ b o, A = some ⟨b, o, none⟩ ∧ W.cell? ⟨b, o + i, none⟩ = some (.bool (f i)) := by
    refine ⟨fun i => if hi : i < len then Classical.choose (each i hi) else false, fun i hi => ?_⟩
    simp only [hi, dif_pos]
    exact Classical.choose_spec (each i hi)
  refine ⟨A, (List.range len).map f, cap, by simp, by simpa using h1, h2, fun i hi => ?_⟩
  have hi' : i < len := by simpa using hi
  obtain ⟨b, o, hA, hc⟩ := hf i hi'
  exact ⟨b, o, hA, by rw [hc]; simp⟩
theorem open_nums (ht : P.underlying t = some (.slice e)) (he : P.underlying e = some (.int .i64)) (hC : P.cellsOf e = 1) (hok : Value.okWide P W .any base t v) (h : DataW.Trod enc P W 0 (fun _ => true) true t v d p) :
    ∃ (A : Option Addr) (l : List Int) (cap : Nat), v = .slice A l.length cap ∧ l.length ≤ cap ∧ cap ≤ maxLen ∧ IntsAt W A l ∧ ∀ x ∈ l, PlanM.In64 x := by
  obtain ⟨A, len, cap, rfl, h1, h2, hel⟩ := open_elems ht (by rw [hC]; omega) hok h
  have each : ∀ i, i < len → ∃ s : Int, (∃ b o, A = some ⟨b, o, none⟩ ∧ W.cell? ⟨b, o + i, none⟩ = some (.int .i64 s)) ∧ PlanM.In64 s := by
    intro i hi
    obtain ⟨b, o, cs, n, x, hA, hcl, hat, htr⟩ := hel i hi
    rw [hC, Nat.mul_one] at hat
    obtain ⟨s, hs, _, hw⟩ := DataW.trod_int he htr
    have c0 := hat 0 (by omega)
    rw [hs] at c0
    exact ⟨s, ⟨b, o, hA, c0⟩, i64_in64 (by simpa [Lit.wf] using hw)⟩
  obtain ⟨f, hf⟩ : ∃ f : Nat → Int, ∀ i, i < len → (∃ b o, A = some ⟨b, o, none⟩ ∧ W.cell? ⟨b, o + i, none⟩ = some (.int .i64 (f i))) ∧ PlanM.In64 (f i) := by
    refine ⟨fun i => if hi : i < len then Classical.choose (each i hi) else 0, fun i hi => ?_⟩
    simp only [hi, dif_pos]
    exact Classical.choose_spec (each i hi)
  refine ⟨A, (List.range len).map f, cap, by simp, by simpa using h1, h2, fun i hi => ?_, fun x hx => ?_⟩
  · have hi' : i < len := by rw [intV_len] at hi; simpa using hi
    obtain ⟨b, o, hA, hc⟩ := (hf i hi').1
    exact ⟨b, o, hA, by rw [hc, intV_get]; simp⟩
  · simp only [List.mem_map, List.mem_range] at hx
    obtain ⟨i, hi, rfl⟩ := hx
    exact (hf i hi).2
end
end Go.Proofs.Ytmeenipcfmeopaa
