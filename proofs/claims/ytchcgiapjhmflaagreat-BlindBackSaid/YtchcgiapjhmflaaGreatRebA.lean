/- package rebuild: what may be wrong, closure by closure -/
import Derived.Test.YtchcgiapjhmflaaGreatMP
import Derived.Test.YtchcgiapjhmflaaGreatMB
import Derived.Test.YtchcgiapjhmflaaGreatLagr
import Derived.Test.YtchcgiapjhmflaaGreatFlow
set_option maxRecDepth 100000
namespace Go.Proofs.YtchcgiapjhmflaaGreat.Rebuild
open Go.RowKit PlanM StripeM DealM RebM Plan

/-- a cell holds this -/
structure Cel (w : World) (g : Nat) (v : Value) : Prop where
  mk ::
  c : w.cell? ⟨g, 0, none⟩ = some v
theorem Cel.below {w w' : World} {g : Nat} {v : Value} (h : Cel w g v) (hb : Below w.heap.size w w') : w'.cell? ⟨g, 0, none⟩ = some v := (hb.cell (p := ⟨g, 0, none⟩) (cell_lt h.c)).trans h.c

/-- is one of them no custodian? -/
def noIs (p : P) (who : List Int) : Bool := who.any fun i => !(p.isA i)
theorem noIs_yes {p : P} {who : List Int} {i : Nat} (hi : i < who.length) (h : p.isA who[i] = false) : noIs p who = true := by
  unfold noIs
  rw [List.any_eq_true]
  exact ⟨who[i], List.getElem_mem hi, by rw [h]; rfl⟩
theorem noIs_no {p : P} {who : List Int} (h : ∀ i, (hi : i < who.length) → p.isA who[i] = true) : noIs p who = false := by
  unfold noIs
  rw [List.any_eq_false]
  intro x hx
  obtain ⟨i, hi, rfl⟩ := List.mem_iff_getElem.mp hx
  rw [h i hi]; simp
/-- is each of n bytes? -/
def allN (n : Int) (sh : List (List UInt8)) : Bool := sh.all fun s => decide ((s.length : Int) = n)
theorem allN_no {m : List (List UInt8)} {n : Int} {i : Nat} (hi : i < m.length) (h : ¬ (m[i].length : Int) = n) : allN n m = false := by
  unfold allN
  rw [List.all_eq_false]
  exact ⟨m[i], List.getElem_mem hi, by simpa using h⟩
theorem allN_yes {m : List (List UInt8)} {n : Int} (h : ∀ i, (hi : i < m.length) → (m[i].length : Int) = n) : allN n m = true := by
  unfold allN
  refine List.all_eq_true.mpr fun r hr => ?_
  obtain ⟨i, hi, rfl⟩ := List.mem_iff_getElem.mp hr
  exact decide_eq_true (h i hi)
end Go.Proofs.YtchcgiapjhmflaaGreat.Rebuild
