/- layer 15's answers, plain -/
import Derived.Test.YtkponedbncifcaaCrcMath
set_option maxRecDepth 100000
namespace Go.Proofs.Ytkponedbncifcaa.SecM
open CrcM

def noughts (n : Nat) : List UInt8 := List.replicate n 0
theorem noughts_len (n : Nat) : (noughts n).length = n := List.length_replicate
/-- a payload, filled up -/
def pad (l : List UInt8) : List UInt8 := l ++ noughts (60 - l.length)
theorem pad_len (l : List UInt8) (h : l.length ≤ 60) : (pad l).length = 60 := by unfold pad; rw [List.length_append, noughts_len]; omega
theorem pad_take (l : List UInt8) : (pad l).take l.length = l := by unfold pad; exact List.take_left'  rfl
def sec (l : List UInt8) : List UInt8 := seal_ (pad l)
theorem sec_len (l : List UInt8) (h : l.length ≤ 60) : (sec l).length = 64 := by unfold sec; rw [seal_len, pad_len l h]
theorem sec_take (l : List UInt8) (h : l.length ≤ 60) : (sec l).take 60 = pad l := by
  unfold sec seal_
  rw [List.take_append_of_le_length (by rw [pad_len l h]; omega), List.take_of_length_le (by rw [pad_len l h]; omega)]
theorem sec_good (l : List UInt8) : good (sec l) = true := seal_good _
/-- is it a sealed sector? -/
def opens (b : List UInt8) : Bool := decide (b.length = 64) && good b
theorem sec_opens (l : List UInt8) (h : l.length ≤ 60) : opens (sec l) = true := by unfold opens; rw [sec_good, sec_len l h]; rfl
def clear_ (b : List UInt8) : Bool := decide (b = noughts 64)
theorem noughts_good : good (noughts 64) = false := by decide +kernel
theorem opens_clear (b : List UInt8) (h : opens b = true) : clear_ b = false := by
  unfold clear_
  refine decide_eq_false fun e => ?_
  rw [e] at h
  unfold opens at h
  rw [noughts_good] at h
  simp at h
theorem sec_clear (l : List UInt8) (h : l.length ≤ 60) : clear_ (sec l) = false := opens_clear _ (sec_opens l h)
/-- bits that turn in a sealed sector are told -/
theorem sec_burst (l : List UInt8) (h : l.length ≤ 60) (first mask : Nat) : opens (turn (sec l) first mask) = decide (turn (sec l) first mask = sec l) := by
  unfold opens
  rw [turn_len, sec_len l h]
  simp only [decide_true, Bool.true_and]
  exact burst_turn _ _ _
theorem clear_len (b : List UInt8) (h : b.length ≠ 64) : clear_ b = false := decide_eq_false fun e => h (by rw [e, noughts_len])
/-- nothing but noughts -/
theorem clear_iff (b : List UInt8) (h : b.length = 64) : clear_ b = true ↔ ∀ i, (hi : i < b.length) → b[i] = 0 := by
  unfold clear_ noughts
  rw [decide_eq_true_iff]
  constructor
  · intro e i hi
    subst e
    exact List.getElem_replicate _
  · intro e
    refine List.eq_replicate_iff.2 ⟨h, fun x hx => ?_⟩
    obtain ⟨i, hi, rfl⟩ := List.getElem_of_mem hx
    exact e i hi
end Go.Proofs.Ytkponedbncifcaa.SecM
