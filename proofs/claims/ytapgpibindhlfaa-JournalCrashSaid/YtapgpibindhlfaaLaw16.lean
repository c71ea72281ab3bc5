/- the walks of layer 16's laws: light, alive -/
import Derived.Test.YtapgpibindhlfaaActs16
import Derived.Test.YtapgpibindhlfaaMDK
import Derived.Test.YtapgpibindhlfaaR01
import Derived.Lib.SmallJoins
set_option maxRecDepth 100000
namespace Go.Proofs.Ytapgpibindhlfaa.Law16
open Go.RowKit DiskM Disk

def lightB (l : List Act16) : Bool := (l.all fun a => decide (a.b.length ≤ 100)) && decide (l.length ≤ 60)
theorem lightB_iff (l : List Act16) : lightB l = true ↔ (∀ i, (h : i < l.length) → l[i].b.length ≤ 100) ∧ l.length ≤ 60 := by
  unfold lightB
  rw [Bool.and_eq_true, List.all_eq_true, decide_eq_true_eq]
  constructor
  · rintro ⟨h1, h2⟩; exact ⟨fun i hi => by simpa using h1 _ (List.getElem_mem hi), h2⟩
  · rintro ⟨h1, h2⟩
    refine ⟨fun r hr => ?_, h2⟩
    obtain ⟨i, hi, rfl⟩ := List.mem_iff_getElem.1 hr
    simpa using h1 i hi
/-- a disk in memory of the call's own -/
theorem own_keep {w0 w w' : World} {p g : Nat} (hb : Below w0.heap.size w0 w) (q : Keeps (PG p g) w w') (hp : w0.heap.size ≤ p) (hg : w0.heap.size ≤ g) : Below w0.heap.size w0 w' :=
  below_keeps hb q (fun k hk => by rcases hk with rfl | rfl <;> assumption) hb.size
end Go.Proofs.Ytapgpibindhlfaa.Law16
