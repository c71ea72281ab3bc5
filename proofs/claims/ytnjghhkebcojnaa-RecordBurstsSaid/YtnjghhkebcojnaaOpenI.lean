/- an array of two numbers, handed (what OpenA holds too: here beside it, under its own name) -/
import Derived.Test.YtnjghhkebcojnaaMO
set_option maxRecDepth 100000
namespace Go.Proofs.Ytnjghhkebcojnaa.OpenI
open Go.ChangeShapes Go.WideShapes Go.ChangeAt Go.RowKit Go.Deep

section
variable {H : Type} {enc : TypeId × Value → H} {P : Program} {W : World} {base : Nat} {v : Value} {d : DataW H} {p : List MemPlace} {t e : TypeId} {n : Nat}
theorem in64 {z : Int} (h : IntKind.min .i64 ≤ z ∧ z ≤ IntKind.max .i64) : -9223372036854775808 ≤ z ∧ z ≤ 9223372036854775807 := h
theorem okWide_array (ht : P.underlying t = some (.array n e)) (h : Value.okWide P W .any base t v) : ∃ cs, v = .agg cs ∧ cs.size = P.cellsOf t := by
  simp only [Value.okWide, ht] at h
  obtain ⟨cs, h1, h2, _⟩ := h
  exact ⟨cs, h1, h2⟩
/-- an array whose elements are of one cell -/
theorem open_array (ht : P.underlying t = some (.array n e)) (ce : P.cellsOf e = 1) (hC : P.cellsOf t = n) (hok : Value.okWide P W .any base t v) (h : DataW.Trod enc P W 0 (fun _ => true) true t v d p) :
    ∃ cs : Array Value, v = .agg cs ∧ cs.size = n ∧ ∀ i, i < n → ∃ (u : Value) (m : Nat) (y : DataW H × List MemPlace), cs[i]? = some u ∧ DataW.trod enc P W 0 (fun _ => true) true m e [u] = some y := by
  obtain ⟨cs, rfl, hs⟩ := okWide_array ht hok
  obtain ⟨fuel, hf⟩ := h
  obtain ⟨xs, m, _, _, hl, hx, hel⟩ := DataW.trod_array ht hf
  refine ⟨cs, rfl, by rw [hs, hC], fun i hi => ?_⟩
  have h1 := hel i hi
  rw [ce, Nat.mul_one] at h1
  have hcl : cs.toList.length = n := by simp; rw [hs, hC]
  have hi' : i < cs.toList.length := by omega
  have e1 : ((Value.agg cs).cells.toList.drop i).take 1 = [cs.toList[i]] := by
    show (cs.toList.drop i).take 1 = _
    rw [List.drop_eq_getElem_cons hi']; rfl
  have e2 : xs[i]? = some xs[i] := List.getElem?_eq_getElem (by omega)
  rw [e2] at h1
  refine ⟨cs.toList[i], m, xs[i], by simp [show i < cs.size by simpa using hi'], ?_⟩
  rw [← h1]
  congr 1
  exact e1.symm
/-- an array of two numbers -/
theorem open_i64s2 (ht : P.underlying t = some (.array 2 e)) (he : P.underlying e = some (.int .i64)) (ce : P.cellsOf e = 1) (hC : P.cellsOf t = 2) (hok : Value.okWide P W .any base t v) (h : DataW.Trod enc P W 0 (fun _ => true) true t v d p) :
    ∃ x0 x1 : Int, v = .agg #[.int .i64 x0, .int .i64 x1] ∧ (-9223372036854775808 ≤ x0 ∧ x0 ≤ 9223372036854775807) ∧ (-9223372036854775808 ≤ x1 ∧ x1 ≤ 9223372036854775807) := by
  obtain ⟨cs, rfl, hs, hel⟩ := open_array ht ce hC hok h
  obtain ⟨u0, m0, y0, g0, r0⟩ := hel 0 (by omega)
  obtain ⟨u1, m1, y1, g1, r1⟩ := hel 1 (by omega)
  obtain ⟨z0, rfl, h0⟩ := trod_num he r0
  obtain ⟨z1, rfl, h1⟩ := trod_num he r1
  refine ⟨z0, z1, ?_, in64 h0, in64 h1⟩
  congr 1
  refine Array.ext_getElem? fun i => ?_
  match i with
  | 0 => rw [g0]; rfl
  | 1 => rw [g1]; rfl
  | i + 2 => rw [Array.getElem?_eq_none (by omega), Array.getElem?_eq_none (by simp)]
end
end Go.Proofs.Ytnjghhkebcojnaa.OpenI
