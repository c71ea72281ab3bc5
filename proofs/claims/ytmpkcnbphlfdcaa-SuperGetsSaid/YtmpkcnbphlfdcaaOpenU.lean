/- arguments opened: what a node knows of itself -/
import Derived.Test.YtmpkcnbphlfdcaaMO
import Derived.Test.YtmpkcnbphlfdcaaSupA
set_option maxRecDepth 100000
namespace Go.Proofs.Ytmpkcnbphlfdcaa
open Go.ChangeShapes Go.WideShapes Go.ChangeAt Go.RowKit Go.Deep

section
variable {H : Type} {enc : TypeId × Value → H} {P : Program} {W : World} {base : Nat} {v : Value} {d : DataW H} {p : List MemPlace} {t : TypeId}
theorem open_sup {fs : Array Field} {q : TypeId} (ht : P.underlying t = some (.struct fs)) (hone : oneCellFields P fs = true) (hC : P.cellsOf t = fs.size) (h3 : fs.size = 3)
    (hi : fs.toList.all (fun f => f.type == q) = true) (hq : P.underlying q = some (.int .i64))
    (hok : Value.okWide P W .any base t v) (h : DataW.Trod enc P W 0 (fun _ => true) true t v d p) : ∃ x y z : Int, v = .agg #[.int .i64 x, .int .i64 y, .int .i64 z] ∧ Super.Fits ⟨x, y, z⟩ := by
  obtain ⟨cs, rfl, hs, hf⟩ := open_struct ht hone hC hok h
  have each : ∀ j, j < 3 → ∃ z : Int, cs[j]? = some (.int .i64 z) ∧ Super.I64 z := by
    intro j hj
    have hjs : j < fs.size := by omega
    obtain ⟨u, m, y, h1, h2⟩ := hf j fs[j] (Array.getElem?_eq_getElem hjs)
    have ht2 : fs[j].type = q := by
      have := List.all_eq_true.mp hi fs[j] (by simp)
      simpa using this
    rw [ht2] at h2
    obtain ⟨z, rfl, hz⟩ := trod_num hq h2
    exact ⟨z, h1, i64_in64 hz⟩
  obtain ⟨a0, e0, i0⟩ := each 0 (by omega)
  obtain ⟨a1, e1, i1⟩ := each 1 (by omega)
  obtain ⟨a2, e2, i2⟩ := each 2 (by omega)
  refine ⟨a0, a1, a2, ?_, i0, i1, i2⟩
  congr 1
  rw [h3] at hs
  refine Array.ext_getElem? fun i => ?_
  match i with
  | 0 => rw [e0]; rfl
  | 1 => rw [e1]; rfl
  | 2 => rw [e2]; rfl
  | i + 3 => rw [Array.getElem?_eq_none (by omega), Array.getElem?_eq_none (by simp)]
end
end Go.Proofs.Ytmpkcnbphlfdcaa
