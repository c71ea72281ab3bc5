/- the contract of Go's bytes.Equal -/
import Derived.Test.YtjoocjkakgjgmaaMats
set_option maxRecDepth 100000
namespace Go.Proofs.Ytjoocjkakgjgmaa.Equal
open Go.RowKit

theorem equal_any (A B : Option Addr) (l m : List UInt8) (c d : Nat) (w : World) (h : BytesAt w A l) (k : BytesAt w B m) :
    Calls Try.prog 34 #[.slice A l.length c, .slice B m.length d] w fun e w' => e = .returned (.bool (decide (l = m))) ∧ w = w' := by
  have c1 := h.convert c
  have c2 := k.convert d
  clear h k
  obtain ⟨X, hX⟩ : ∃ X : ByteArray, X = ⟨l.toArray⟩ := ⟨_, rfl⟩
  obtain ⟨Y, hY⟩ : ∃ Y : ByteArray, Y = ⟨m.toArray⟩ := ⟨_, rfl⟩
  have hq : (X.toList == Y.toList) = decide (l = m) := by
    rw [hX, hY, ByteArray.toList_mk, ByteArray.toList_mk]
    rw [Bool.eq_iff_iff, beq_iff_eq]; simp
  have HQ := Lib.hid hq
  rw [← hX] at c1
  rw [← hY] at c2
  clear hX hY hq
  go_enter Try.func34, Try.ntmps34
  go_wp2
  go_ret
  exact ⟨ret_bool HQ.out, rfl⟩
end Go.Proofs.Ytjoocjkakgjgmaa.Equal
