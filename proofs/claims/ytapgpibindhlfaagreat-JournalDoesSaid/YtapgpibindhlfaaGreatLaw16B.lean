/- the walk of DiskOwn -/
import Derived.Test.YtapgpibindhlfaaGreatLaw16A
set_option maxRecDepth 100000
namespace Go.Proofs.YtapgpibindhlfaaGreat.Law16
open Go.RowKit DiskM Disk

theorem rot_len (m : Dk) (i bit : Int) (mask : Nat) : (m.rot i bit mask).1.b.length = m.b.length := by
  unfold Dk.rot
  split
  · rename_i h
    have h1 : isS m.b i = true := by revert h; cases isS m.b i <;> simp
    have hf := (isS_fit h1).1
    have ht : (turnZ (sect m.b i.toNat) bit mask).length = 64 := by
      unfold turnZ
      split
      · exact sect_len _ _ hf
      · rw [CrcM.turn_len, sect_len _ _ hf]
    exact setS_len _ _ _ hf ht
  · rfl
/-- what is kept by a disk's calls -/
def Fine (m : Dk) : Prop := (m.dead = true → m.left = 0) ∧ -9223372036854775808 ≤ m.left ∧ m.left ≤ 9223372036854775807
theorem Fine.write {m : Dk} (h : Fine m) (i : Int) (d : List UInt8) : Fine (m.write i d).1 := by
  unfold Dk.write
  split
  · split
    · rename_i h1 h2
      refine ⟨fun _ => ?_, h.2⟩
      unfold Dk.off at h2
      by_cases hz : m.left = 0
      · exact hz
      · rw [decide_eq_false hz, Bool.false_or] at h2
        exact h.1 h2
    · refine ⟨(fun e => nomatch e), ?_⟩
      have := h.2
      show _ ≤ (if 0 < m.left then m.left - 1 else m.left) ∧ (if 0 < m.left then m.left - 1 else m.left) ≤ _
      split <;> omega
  · exact h
theorem Fine.rot {m : Dk} (h : Fine m) (i bit : Int) (mask : Nat) : Fine (m.rot i bit mask).1 := by
  unfold Dk.rot
  split
  · exact h
  · exact h

end Go.Proofs.YtapgpibindhlfaaGreat.Law16
