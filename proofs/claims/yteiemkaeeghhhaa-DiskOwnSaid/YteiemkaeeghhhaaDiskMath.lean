/- layer 16's answers, plain: a disk, whose power may fail -/
import Derived.Test.YteiemkaeeghhhaaSecMath
set_option maxRecDepth 100000
namespace Go.Proofs.Yteiemkaeeghhhaa.DiskM
open SecM CrcM

/-- all bytes, for how many more sectors there is power (below 0: for ever), and whether it has failed -/
structure Dk where
  b : List UInt8
  left : Int
  dead : Bool
def size (n : Int) : Nat := if n < 1 then 1 else if 512 < n then 512 else n.toNat
theorem size_range (n : Int) : 1 ≤ size n ∧ size n ≤ 512 := by unfold size; repeat' split
                                                               all_goals omega
def new_ (n : Int) : Dk := ⟨noughts (64 * size n), -1, false⟩
/-- is there a sector? -/
def isS (b : List UInt8) (i : Int) : Bool := decide (0 ≤ i ∧ i < ((b.length / 64 : Nat) : Int))
def sect (b : List UInt8) (i : Nat) : List UInt8 := (b.drop (64 * i)).take 64
def setS (b : List UInt8) (i : Nat) (s : List UInt8) : List UInt8 := b.take (64 * i) ++ (s ++ b.drop (64 * i + 64))
def full (d : List UInt8) : List UInt8 := if d = [] then noughts 64 else d
def okD (d : List UInt8) : Bool := decide (d.length = 0 ∨ d.length = 64)
theorem full_len (d : List UInt8) (h : okD d = true) : (full d).length = 64 := by
  unfold full
  split
  · exact noughts_len _
  · rename_i hd
    have := of_decide_eq_true h
    rcases this with h | h
    · exact absurd (List.eq_nil_of_length_eq_zero h) hd
    · exact h
def Dk.read (m : Dk) (i : Int) : List UInt8 := if isS m.b i then sect m.b i.toNat else []
/-- what a write tells -/
def Dk.may (m : Dk) (i : Int) (d : List UInt8) : Bool := isS m.b i && okD d
def Dk.off (m : Dk) : Bool := decide (m.left = 0) || m.dead
def Dk.write (m : Dk) (i : Int) (d : List UInt8) : Dk × Bool :=
  if m.may i d then
    (if m.off then (⟨m.b, m.left, true⟩, false)
     else (⟨setS m.b i.toNat (full d), if 0 < m.left then m.left - 1 else m.left, false⟩, true))
  else (m, false)
def Dk.power (m : Dk) (n : Int) : Dk := ⟨m.b, if n < 0 then -1 else n, false⟩
def turnZ (l : List UInt8) (first : Int) (mask : Nat) : List UInt8 := if first < 0 then l else turn l first.toNat mask
def Dk.rot (m : Dk) (i bit : Int) (mask : Nat) : Dk × Bool :=
  if isS m.b i && decide (0 ≤ bit) then (⟨setS m.b i.toNat (turnZ (sect m.b i.toNat) bit mask), m.left, m.dead⟩, true) else (m, false)
def Dk.wipe (m : Dk) : Dk := ⟨noughts m.b.length, m.left, m.dead⟩

theorem sect_len (b : List UInt8) (i : Nat) (h : 64 * i + 64 ≤ b.length) : (sect b i).length = 64 := by
  unfold sect; rw [List.length_take, List.length_drop]; omega
theorem setS_len (b : List UInt8) (i : Nat) (s : List UInt8) (h : 64 * i + 64 ≤ b.length) (hs : s.length = 64) : (setS b i s).length = b.length := by
  unfold setS; rw [List.length_append, List.length_append, List.length_take, List.length_drop]; omega
theorem isS_fit {b : List UInt8} {i : Int} (h : isS b i = true) : 64 * i.toNat + 64 ≤ b.length ∧ 0 ≤ i := by
  have := of_decide_eq_true h
  omega
theorem isS_nat {b : List UInt8} {i : Nat} (h : 64 * i + 64 ≤ b.length) : isS b (i : Int) = true := decide_eq_true (by omega)
theorem sect_same (b : List UInt8) (i : Nat) (s : List UInt8) (h : 64 * i + 64 ≤ b.length) (hs : s.length = 64) : sect (setS b i s) i = s := by
  unfold sect setS
  have hl : (b.take (64 * i)).length = 64 * i := by rw [List.length_take]; omega
  rw [List.drop_left' hl, List.take_left' hs]
theorem sect_other (b : List UInt8) (i j : Nat) (s : List UInt8) (h : 64 * i + 64 ≤ b.length) (hs : s.length = 64) (hij : j ≠ i) : sect (setS b i s) j = sect b j := by
  have hl := setS_len b i s h hs
  refine List.ext_getElem? fun k => ?_
  unfold sect
  simp only [List.getElem?_take, List.getElem?_drop]
  split
  · rename_i hk
    unfold setS
    have ht : (b.take (64 * i)).length = 64 * i := by rw [List.length_take]; omega
    rcases Nat.lt_or_ge j i with hji | hji
    · rw [List.getElem?_append_left (by rw [ht]; omega), List.getElem?_take, if_pos (by omega)]
    · rw [List.getElem?_append_right (by rw [ht]; omega), ht, List.getElem?_append_right (by rw [hs]; omega), hs, List.getElem?_drop]
      congr 1; omega
  · rfl
/-- disks that are the same sector by sector are the same -/
theorem sect_ext {b c : List UInt8} {n : Nat} (hb : b.length = 64 * n) (hc : c.length = 64 * n) (h : ∀ i, i < n → sect b i = sect c i) : b = c := by
  refine List.ext_getElem? fun k => ?_
  rcases Nat.lt_or_ge k (64 * n) with hk | hk
  · have e := congrArg (fun l => l[k % 64]?) (h (k / 64) (by omega))
    unfold sect at e
    simp only [List.getElem?_take, List.getElem?_drop, Nat.mod_lt k (show 64 > 0 by omega), if_true] at e
    rw [show 64 * (k / 64) + k % 64 = k from by omega] at e
    exact e
  · rw [List.getElem?_eq_none (by omega), List.getElem?_eq_none (by omega)]
theorem sect_noughts (n i : Nat) (h : i < n) : sect (noughts (64 * n)) i = noughts 64 := by
  unfold sect noughts
  rw [List.drop_replicate, List.take_replicate]
  congr 1; omega
theorem write_len (m : Dk) (i : Int) (d : List UInt8) : (m.write i d).1.b.length = m.b.length := by
  unfold Dk.write
  split
  · rename_i h
    unfold Dk.may at h
    have h1 : isS m.b i = true := by revert h; cases isS m.b i <;> simp
    have h2 : okD d = true := by revert h; cases okD d <;> simp
    split
    · rfl
    · exact setS_len _ _ _ (isS_fit h1).1 (full_len d h2)
  · rfl
end Go.Proofs.Yteiemkaeeghhhaa.DiskM
