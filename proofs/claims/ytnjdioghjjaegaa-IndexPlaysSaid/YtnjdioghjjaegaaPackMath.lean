/- plain mathematics of numbers and texts as bytes -/
import Derived.Test.YtnjdioghjjaegaaMA
set_option maxRecDepth 100000
namespace Go.Proofs.Ytnjdioghjjaegaa.PackM

/-- how many bytes a number of k has -/
def wid (k : Int) : Nat := if k < 1 then 1 else if 4 < k then 4 else k.toNat
theorem wid_range (k : Int) : 1 ≤ wid k ∧ wid k ≤ 4 := by unfold wid; repeat' split
                                                          all_goals omega
/-- the lower bytes of a number, the highest first -/
def be : Nat → Nat → List UInt8
  | 0, _ => []
  | w + 1, n => be w (n / 256) ++ [UInt8.ofNat (n % 256)]
theorem be_len (w n : Nat) : (be w n).length = w := by
  induction w generalizing n with
  | zero => rfl
  | succ w ih => simp [be, ih]
theorem be_cons (w n : Nat) : be (w + 1) n = UInt8.ofNat (n / 256 ^ w % 256) :: be w n := by
  induction w generalizing n with
  | zero => simp [be]
  | succ w ih =>
    rw [be, ih, be, List.cons_append]
    congr 3
    rw [Nat.div_div_eq_div_mul, Nat.pow_succ, Nat.mul_comm 256]
def numB (k n : Int) : List UInt8 := be (wid k) n.toNat
theorem numB_len (k n : Int) : (numB k n).length = wid k := be_len _ _
/-- what stands in the making of a number behind s steps -/
def numTo (w n s : Nat) : List UInt8 := List.replicate (w - s) 0 ++ be s n
theorem numTo_len (w n s : Nat) (h : s ≤ w) : (numTo w n s).length = w := by simp [numTo, be_len]; omega
theorem numTo_zero (w n : Nat) : numTo w n 0 = List.replicate w 0 := by simp [numTo, be]
theorem numTo_done (w n : Nat) : numTo w n w = be w n := by simp [numTo]
theorem numTo_step (w n s : Nat) (h : s < w) : (numTo w n s).set (w - s - 1) (UInt8.ofNat (n / 256 ^ s % 256)) = numTo w n (s + 1) := by
  unfold numTo
  obtain ⟨k, hk⟩ : ∃ k, w - s = k + 1 := ⟨w - s - 1, by omega⟩
  rw [hk, show w - (s + 1) = k from by omega, be_cons, List.replicate_succ']
  rw [Nat.add_sub_cancel, List.append_assoc, List.set_append_right _ _ (by simp)]
  simp
/-- the number that bytes are, the highest first -/
def val (l : List UInt8) : Nat := l.foldl (fun n b => 256 * n + b.toNat) 0
theorem val_snoc (l : List UInt8) (b : UInt8) : val (l ++ [b]) = 256 * val l + b.toNat := by simp [val]
theorem val_be (w n : Nat) : val (be w n) = n % 256 ^ w := by
  induction w generalizing n with
  | zero => simp [be, val, Nat.mod_one]
  | succ w ih =>
    rw [be, val_snoc, ih, UInt8.toNat_ofNat_of_lt' (by simp only [UInt8.size]; omega), Nat.pow_succ, Nat.mul_comm (256 ^ w), Nat.mod_mul]
    omega
theorem val_lt (l : List UInt8) : val l < 256 ^ l.length := by
  have : ∀ (l : List UInt8) (n m : Nat), n < m → l.foldl (fun n b => 256 * n + b.toNat) n < m * 256 ^ l.length := by
    intro l
    induction l with
    | nil => intro n m h; simpa using h
    | cons b l ih =>
      intro n m h
      have hb := b.toNat_lt
      have := ih (256 * n + b.toNat) (m * 256) (by omega)
      simp only [List.foldl_cons, List.length_cons, Nat.pow_succ]
      rw [Nat.mul_assoc] at this
      rw [Nat.mul_comm (256 ^ l.length)]
      exact this
  have h := this l 0 1 (by omega)
  rw [Nat.one_mul] at h
  exact h
theorem val_take (l : List UInt8) (k : Nat) (h : k < l.length) : val (l.take (k + 1)) = 256 * val (l.take k) + l[k].toNat := by
  rw [List.take_succ_eq_append_getElem h, val_snoc]
theorem pow256_le (k : Nat) (h : k ≤ 4) : 256 ^ k ≤ 4294967296 := by
  have : 256 ^ k ≤ 256 ^ 4 := Nat.pow_le_pow_right (by omega) h
  exact this
/-- a text's bytes -/
def textB (b : List UInt8) : List UInt8 := UInt8.ofNat (min b.length 255) :: b.take 255
theorem textB_len (b : List UInt8) : (textB b).length = 1 + min b.length 255 := by simp [textB]; omega

/-! a reader: where, and whether some lacked -/
structure St where
  at_ : Nat
  bad : Bool
def rawL (b : List UInt8) (s : St) (n : Int) : List UInt8 := if s.bad || decide ((b.length : Int) - s.at_ < n) then [] else (b.drop s.at_).take n.toNat
def rawS (b : List UInt8) (s : St) (n : Int) : St := if s.bad || decide ((b.length : Int) - s.at_ < n) then ⟨b.length, true⟩ else ⟨s.at_ + n.toNat, false⟩
def numV (b : List UInt8) (s : St) (k : Int) : Nat := val (rawL b s (wid k))
def numS (b : List UInt8) (s : St) (k : Int) : St := rawS b s (wid k)
def textL (b : List UInt8) (s : St) : List UInt8 := rawL b (numS b s 1) (numV b s 1)
def textS (b : List UInt8) (s : St) : St := rawS b (numS b s 1) (numV b s 1)
/-- where a reader is, it is in its bytes -/
def Ok (b : List UInt8) (s : St) : Prop := s.at_ ≤ b.length
theorem rawS_ok {b : List UInt8} {s : St} (h : Ok b s) (n : Int) : Ok b (rawS b s n) := by
  unfold rawS Ok at *
  split
  · exact Nat.le_refl _
  · rename_i hn
    simp at hn
    show s.at_ + n.toNat ≤ _
    omega
theorem rawL_len (b : List UInt8) (s : St) (n : Int) : (rawL b s n).length ≤ n.toNat := by
  unfold rawL; split
  · simp
  · simp; omega
theorem numV_lt (b : List UInt8) (s : St) (k : Int) : numV b s k < 4294967296 := by
  have h1 := val_lt (rawL b s (wid k))
  have h2 := rawL_len b s (wid k)
  have h3 := (wid_range k).2
  have h4 : 256 ^ (rawL b s (wid k)).length ≤ 4294967296 := pow256_le _ (by omega)
  unfold numV; omega
end Go.Proofs.Ytnjdioghjjaegaa.PackM
