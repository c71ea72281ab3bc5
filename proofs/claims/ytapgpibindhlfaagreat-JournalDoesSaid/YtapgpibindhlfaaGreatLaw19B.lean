/- the walk of JournalRaw -/
import Derived.Test.YtapgpibindhlfaaGreatMLJ
import Derived.Test.YtapgpibindhlfaaGreatMRJ
import Derived.Test.YtapgpibindhlfaaGreatSkip
set_option maxRecDepth 100000
namespace Go.Proofs.YtapgpibindhlfaaGreat.Law19
open Go.RowKit EntM DiskM JourM Disk Jour
open Law16 (Fine nrm nrm_write)

theorem nrm_runW (m : Dk) (cs : List Ch) : runW (nrm m) cs = (nrm (runW m cs).1, (runW m cs).2) := by
  induction cs generalizing m with
  | nil => rfl
  | cons c cs ih =>
    rw [runW_cons, runW_cons, nrm_write]
    simp only
    split
    · exact ih _
    · rfl
theorem write_still {b s : List UInt8} {n : Nat} (i : Int) (hb : b.length = 64 * n) (hs : s.length = 64) : ∃ b', ((⟨b, -1, false⟩ : Dk).write i s).1 = ⟨b', -1, false⟩ ∧ b'.length = 64 * n := by
  rcases hi : isS b i with _ | _
  · exact ⟨b, by rw [show (⟨b, -1, false⟩ : Dk).write i s = (⟨b, -1, false⟩, false) from Disk.write_no (m := ⟨b, -1, false⟩) hi], hb⟩
  · have e2 : okD s = true := decide_eq_true (.inr hs)
    have := R16.write_goes (m := ⟨b, -1, false⟩) (i := i) (d := s) hi e2 (by simp) rfl
    rw [this]
    exact ⟨setS b i.toNat (DiskM.full s), rfl, by rw [setS_len _ _ _ (isS_fit hi).1 (full_len s e2), hb]⟩
end Go.Proofs.YtapgpibindhlfaaGreat.Law19
