/- package super's answers, plain: what bytes say, whatever they are -/
import Derived.Test.YtkponedbncifcaaSupMath
set_option maxRecDepth 100000
namespace Go.Proofs.Ytkponedbncifcaa.SupM
open SecM PackM CrcM

def st0 : St := ⟨0, false⟩
def st1 (b : List UInt8) : St := rawS b st0 1
def st2 (b : List UInt8) : St := numS b (st1 b) 1
def st3 (b : List UInt8) : St := numS b (st2 b) 4
def st4 (b : List UInt8) : St := numS b (st3 b) 4
/-- what bytes say, whatever they begin with -/
def saidOf (b : List UInt8) : Sp := ⟨(numV b (st2 b) 4 : Nat), (numV b (st3 b) 4 : Nat), (numV b (st1 b) 1 : Nat)⟩
/-- the ten bytes that are written of whatever there is -/
def wr (s : Sp) : List UInt8 := numB 1 83 ++ numB 1 s.S ++ numB 4 s.F ++ numB 4 s.D
theorem wid1 : wid 1 = 1 := rfl
theorem wid4 : wid 4 = 4 := rfl
theorem rawS_in (b : List UInt8) (k n : Nat) (h : k + n ≤ b.length) : rawS b ⟨k, false⟩ (n : Nat) = ⟨k + n, false⟩ := by
  unfold rawS
  rw [if_neg (by simp; omega)]
  simp
theorem rawL_in (b : List UInt8) (k n : Nat) (h : k + n ≤ b.length) : rawL b ⟨k, false⟩ (n : Nat) = (b.drop k).take n := by
  unfold rawL
  rw [if_neg (by simp; omega)]
  simp
theorem said_long (b : List UInt8) (h : 10 ≤ b.length) : saidOf b = ⟨(val ((b.drop 2).take 4) : Nat), (val ((b.drop 6).take 4) : Nat), (val ((b.drop 1).take 1) : Nat)⟩ := by
  have e1 : st1 b = ⟨1, false⟩ := rawS_in b 0 1 (by omega)
  have e2 : st2 b = ⟨2, false⟩ := by unfold st2 numS; rw [wid1, e1]; exact rawS_in b 1 1 (by omega)
  have e3 : st3 b = ⟨6, false⟩ := by unfold st3 numS; rw [wid4, e2]; exact rawS_in b 2 4 (by omega)
  unfold saidOf numV
  rw [e1, e2, e3, wid1, wid4, rawL_in b 2 4 (by omega), rawL_in b 6 4 (by omega), rawL_in b 1 1 (by omega)]
theorem wr_body (s : Sp) : wr s = body (UInt8.ofNat (s.S.toNat % 256)) s.F.toNat s.D.toNat := by
  unfold wr body numB
  rw [wid1, wid4, show (83 : Int).toNat = 83 from rfl]
  simp [be]
theorem wr_len (s : Sp) : (wr s).length = 10 := by rw [wr_body, body_len]
theorem body_said (st : UInt8) (F D : Nat) (r : List UInt8) : saidOf (body st F D ++ r) = ⟨(F % 4294967296 : Nat), (D % 4294967296 : Nat), (st.toNat : Nat)⟩ := by
  have hb := body_len st F D
  rw [said_long _ (by rw [List.length_append]; omega)]
  have e : body st F D ++ r = 83 :: st :: (be 4 F ++ (be 4 D ++ r)) := by unfold body; simp
  rw [e]
  have h1 : (83 :: st :: (be 4 F ++ (be 4 D ++ r))).drop 2 = be 4 F ++ (be 4 D ++ r) := rfl
  have h2 : (83 :: st :: (be 4 F ++ (be 4 D ++ r))).drop 6 = (be 4 F ++ (be 4 D ++ r)).drop 4 := rfl
  have h3 : ((83 :: st :: (be 4 F ++ (be 4 D ++ r))).drop 1).take 1 = [st] := rfl
  rw [h1, h2, h3, List.take_left' (be_len 4 F), List.drop_left' (be_len 4 F), List.take_left' (be_len 4 D), val_be, val_be]
  have : val [st] = st.toNat := by unfold val; simp
  rw [this]
theorem wr_said (s : Sp) : saidOf (wr s) = ⟨(s.F.toNat % 4294967296 : Nat), (s.D.toNat % 4294967296 : Nat), (s.S.toNat % 256 : Nat)⟩ := by
  have := body_said (UInt8.ofNat (s.S.toNat % 256)) s.F.toNat s.D.toNat []
  rw [List.append_nil] at this
  rw [wr_body, this, UInt8.toNat_ofNat_of_lt' (by simp only [UInt8.size]; omega)]
/-- read it is what was put, whatever reads it -/
theorem put_said (s : Sp) (h : s.May) : saidOf s.put = s := by
  obtain ⟨F, D, T⟩ := s
  unfold Sp.May blank at h
  simp only at h
  unfold Sp.put
  simp only
  by_cases h0 : T = 0
  · subst h0
    rw [if_pos rfl]
    obtain ⟨rfl, rfl⟩ : F = 0 ∧ D = 0 := by omega
    rfl
  · rw [if_neg h0]
    unfold sec seal_ pad
    rw [List.append_assoc]
    rw [body_said, UInt8.toNat_ofNat_of_lt' (by simp only [UInt8.size]; omega)]
    congr 1 <;> omega
instance : DecidableEq Sp := fun a b => decidable_of_iff (a.F = b.F ∧ a.D = b.D ∧ a.S = b.S) (by cases a; cases b; simp)
/-- told again it is the same, and it has a state -/
theorem may_iff (s : Sp) (h0 : ¬ blank s) : s.right = (decide (s = saidOf (wr s)) && (decide (s.S = 1) || decide (s.S = 2)) && decide (s.D ≤ s.F)) := by
  rw [wr_said]
  unfold Sp.right
  obtain ⟨F, D, T⟩ := s
  rw [Bool.eq_iff_iff]
  simp only [Bool.and_eq_true, Bool.or_eq_true, decide_eq_true_eq, Sp.mk.injEq]
  unfold Sp.May
  simp only [h0, false_or]
  constructor
  · rintro ⟨h1, h2, h3, h4, h5⟩
    refine ⟨⟨⟨?_, ?_, ?_⟩, ?_⟩, h4⟩ <;> omega
  · rintro ⟨⟨⟨h1, h2, h3⟩, h4⟩, h5⟩
    refine ⟨?_, ?_, ?_, h5, ?_⟩ <;> omega
/-- what Put tells -/
def putOf (s : Sp) : List UInt8 := if s.right then s.put else []
theorem putOf_len (s : Sp) : (putOf s).length ≤ 64 := by
  unfold putOf; split
  · rw [Sp.put_len]; omega
  · exact Nat.zero_le _
theorem put_wr (s : Sp) (h : s.right = true) (h0 : ¬ blank s) : s.put = sec (wr s) := by
  have hm : s.May := of_decide_eq_true h
  rw [wr_body]
  unfold Sp.May at hm
  unfold Sp.put
  have hm := hm.resolve_left h0
  rw [if_neg (by omega), Nat.mod_eq_of_lt (by omega)]
theorem put_blank (s : Sp) (h0 : blank s) : s.put = noughts 64 := if_pos h0.1
theorem right_blank (s : Sp) (h0 : blank s) : s.right = true := decide_eq_true (.inl h0)
/-- a sector says it just if it is what is put of what it says -/
theorem gets_iff (b : List UInt8) : decide (b = putOf (saidOf b)) = gets b ∧ (gets b = true → saidOf b = get_ b) ∧ (gets b = false → get_ b = ⟨0, 0, 0⟩) ∨ b = [] := by
  by_cases hb : b = []
  · exact .inr hb
  refine .inl ⟨?_, ?_, ?_⟩
  · rw [Bool.eq_iff_iff]
    rw [decide_eq_true_iff]
    constructor
    · intro h
      unfold putOf at h
      split at h
      · rename_i hr
        have := (get_put (saidOf b) (of_decide_eq_true hr)).1
        rwa [← h] at this
      · exact absurd h hb
    · intro h
      have h1 := put_get b h
      have h2 := put_said (get_ b) h1.2
      rw [h1.1] at h2
      rw [h2]
      unfold putOf
      rw [if_pos (show (get_ b).right = true from decide_eq_true h1.2), h1.1]
  · intro h
    have h1 := put_get b h
    have h2 := put_said (get_ b) h1.2
    rwa [h1.1] at h2
  · intro h
    unfold gets at h
    unfold get_
    have hc : clear_ b = false := by revert h; cases clear_ b <;> simp
    rw [hc] at h
    simp only [Bool.false_or] at h
    rw [hc, h]
    rfl
theorem said_nil : saidOf [] = ⟨0, 0, 0⟩ := by decide +kernel
theorem gets_nil : gets [] = false ∧ get_ [] = ⟨0, 0, 0⟩ := by decide +kernel
end Go.Proofs.Ytkponedbncifcaa.SupM
