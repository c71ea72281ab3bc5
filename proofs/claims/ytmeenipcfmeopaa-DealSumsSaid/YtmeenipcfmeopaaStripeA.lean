/- package stripe: whether these may be all stripes of a blob -/
import Derived.Test.YtmeenipcfmeopaaParts
set_option maxRecDepth 100000
namespace Go.Proofs.Ytmeenipcfmeopaa.Stripe
open Go.RowKit PlanM StripeM Plan

/-- are all of one length? -/
def allL (m : List (List UInt8)) (L : Nat) : Bool := m.all fun r => decide (r.length = L)
theorem allL_no {m : List (List UInt8)} {L i : Nat} (hi : i < m.length) (h : m[i].length ≠ L) : allL m L = false := by
  unfold allL
  rw [List.all_eq_false]
  exact ⟨m[i], List.getElem_mem hi, by simpa using h⟩
theorem allL_yes {m : List (List UInt8)} {L : Nat} (h : ∀ i, (hi : i < m.length) → m[i].length = L) : allL m L = true := by
  unfold allL
  refine List.all_eq_true.mpr fun r hr => ?_
  obtain ⟨i, hi, rfl⟩ := List.mem_iff_getElem.mp hr
  exact decide_eq_true (h i hi)

end Go.Proofs.Ytmeenipcfmeopaa.Stripe
