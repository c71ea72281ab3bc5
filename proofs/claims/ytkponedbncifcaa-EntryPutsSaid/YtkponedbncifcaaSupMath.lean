/- layer 17's answers, plain -/
import Derived.Test.YtkponedbncifcaaSecMath
import Derived.Test.YtkponedbncifcaaPackMath
set_option maxRecDepth 100000
namespace Go.Proofs.Ytkponedbncifcaa.SupM
open SecM PackM CrcM

theorem be_val_w : ∀ (w : Nat) (l : List UInt8), l.length = w → be w (val l) = l := by
  intro w
  induction w with
  | zero => intro l h; rw [List.eq_nil_of_length_eq_zero h]; rfl
  | succ w ih =>
    intro l h
    have hl : l ≠ [] := fun e => by rw [e] at h; simp at h
    have e := List.dropLast_concat_getLast hl
    have hd := ih l.dropLast (by rw [List.length_dropLast]; omega)
    generalize l.dropLast = m at *
    generalize l.getLast hl = b at *
    rw [← e, be, val_snoc]
    have hb := b.toNat_lt
    rw [show (256 * val m + b.toNat) / 256 = val m from by omega, hd, show (256 * val m + b.toNat) % 256 = b.toNat from by omega]
    congr 2
    exact UInt8.ofNat_toNat
theorem be_val' (w : Nat) (l : List UInt8) (h : l.length = w) : be w (val l) = l := be_val_w w l h
/-- what a node knows of itself -/
structure Sp where
  F : Int
  D : Int
  S : Int
def blank (s : Sp) : Prop := s.S = 0 ∧ s.F = 0 ∧ s.D = 0
def Sp.May (s : Sp) : Prop := blank s ∨ (1 ≤ s.S ∧ s.S ≤ 2 ∧ 0 ≤ s.D ∧ s.D ≤ s.F ∧ s.F < 4294967296)
instance (s : Sp) : Decidable s.May := by unfold Sp.May blank; infer_instance
def Sp.right (s : Sp) : Bool := decide s.May
/-- the ten bytes that say it -/
def body (st : UInt8) (F D : Nat) : List UInt8 := [83, st] ++ (be 4 F ++ be 4 D)
theorem body_len (st : UInt8) (F D : Nat) : (body st F D).length = 10 := by unfold body; simp [be_len]
def Sp.put (s : Sp) : List UInt8 := if s.S = 0 then noughts 64 else sec (body (UInt8.ofNat s.S.toNat) s.F.toNat s.D.toNat)
theorem Sp.put_len (s : Sp) : s.put.length = 64 := by
  unfold Sp.put; split
  · exact noughts_len _
  · exact sec_len _ (by rw [body_len]; omega)
/-- does a payload say it? -/
def says (p : List UInt8) : Bool := decide (p.getD 0 0 = 83 ∧ 1 ≤ (p.getD 1 0).toNat ∧ (p.getD 1 0).toNat ≤ 2 ∧ p.drop 10 = noughts 50 ∧ val ((p.drop 6).take 4) ≤ val ((p.drop 2).take 4))
def ofP (p : List UInt8) : Sp := ⟨val ((p.drop 2).take 4), val ((p.drop 6).take 4), (p.getD 1 0).toNat⟩
/-- a sector that says it, and what -/
def gets (b : List UInt8) : Bool := clear_ b || (opens b && says (b.take 60))
def get_ (b : List UInt8) : Sp := if clear_ b then ⟨0, 0, 0⟩ else if opens b && says (b.take 60) then ofP (b.take 60) else ⟨0, 0, 0⟩

theorem body_parts (st : UInt8) (F D : Nat) (hF : F < 4294967296) (hD : D < 4294967296) : (pad (body st F D)).getD 0 0 = 83 ∧ (pad (body st F D)).getD 1 0 = st ∧
    val (((pad (body st F D)).drop 2).take 4) = F ∧ val (((pad (body st F D)).drop 6).take 4) = D ∧ (pad (body st F D)).drop 10 = noughts 50 := by
  have e : pad (body st F D) = 83 :: st :: (be 4 F ++ (be 4 D ++ noughts 50)) := by
    unfold pad; rw [body_len]; unfold body; simp
  rw [e]
  refine ⟨rfl, rfl, ?_, ?_, ?_⟩
  · rw [show (83 :: st :: (be 4 F ++ (be 4 D ++ noughts 50))).drop 2 = be 4 F ++ (be 4 D ++ noughts 50) from rfl, List.take_left' (be_len 4 F), val_be]
    exact Nat.mod_eq_of_lt hF
  · rw [show (83 :: st :: (be 4 F ++ (be 4 D ++ noughts 50))).drop 6 = (be 4 F ++ (be 4 D ++ noughts 50)).drop 4 from rfl, List.drop_left' (be_len 4 F), List.take_left' (be_len 4 D), val_be]
    exact Nat.mod_eq_of_lt hD
  · rw [show (83 :: st :: (be 4 F ++ (be 4 D ++ noughts 50))).drop 10 = (be 4 F ++ (be 4 D ++ noughts 50)).drop 8 from rfl, ← List.append_assoc, List.drop_left' (by simp [be_len])]
/-- read it is what was put -/
theorem get_put (s : Sp) (h : s.May) : gets s.put = true ∧ get_ s.put = s := by
  obtain ⟨F, D, T⟩ := s
  unfold Sp.May blank at h
  simp only at h
  unfold Sp.put gets get_
  simp only
  by_cases h0 : T = 0
  · subst h0
    rw [if_pos rfl, show clear_ (noughts 64) = true from decide_eq_true rfl]
    simp
    omega
  · rw [if_neg h0]
    have h1 : 1 ≤ T ∧ T ≤ 2 ∧ 0 ≤ D ∧ D ≤ F ∧ F < 4294967296 := by
      rcases h with h | h
      · exact absurd h.1 h0
      · exact h
    obtain ⟨t1, t2, d0, df, f⟩ := h1
    have hb : (body (UInt8.ofNat T.toNat) F.toNat D.toNat).length ≤ 60 := by rw [body_len]; omega
    obtain ⟨p0, p1, p2, p3, p4⟩ := body_parts (UInt8.ofNat T.toNat) F.toNat D.toNat (by omega) (by omega)
    have hT : (UInt8.ofNat T.toNat).toNat = T.toNat := UInt8.toNat_ofNat_of_lt' (by simp only [UInt8.size]; omega)
    have hs : says (pad (body (UInt8.ofNat T.toNat) F.toNat D.toNat)) = true := by
      unfold says
      rw [p0, p1, p2, p3, p4, hT]
      exact decide_eq_true ⟨rfl, by omega, by omega, rfl, by omega⟩
    rw [sec_clear _ hb, sec_opens _ hb, sec_take _ hb, hs]
    refine ⟨rfl, ?_⟩
    simp only [Bool.and_self, if_true, Bool.false_eq_true, if_false]
    unfold ofP
    rw [p1, p2, p3, hT]
    rw [Int.toNat_of_nonneg (by omega), Int.toNat_of_nonneg (by omega), Int.toNat_of_nonneg (by omega)]
/-- what says it is what is put of it -/
theorem put_get (b : List UInt8) (h : gets b = true) : (get_ b).put = b ∧ (get_ b).May := by
  unfold gets at h
  unfold get_
  by_cases hc : clear_ b = true
  · rw [if_pos hc]
    unfold clear_ at hc
    have := of_decide_eq_true hc
    refine ⟨?_, .inl ⟨rfl, rfl, rfl⟩⟩
    unfold Sp.put
    rw [if_pos rfl, this]
  · have hc' : clear_ b = false := by simpa using hc
    rw [hc'] at h
    simp only [Bool.false_or] at h
    rw [if_neg hc, if_pos h]
    have ho : opens b = true := by revert h; cases opens b <;> simp
    have hs : says (b.take 60) = true := by revert h; cases says (b.take 60) <;> simp
    unfold opens at ho
    have h64 : b.length = 64 := by revert ho; cases hd : decide (b.length = 64) <;> simp; intro _; exact of_decide_eq_true hd
    have hg : good b = true := by revert ho; cases good b <;> simp
    have hb : seal_ (b.take 60) = b := by have := (good_iff b (by omega)).1 hg; rwa [h64] at this
    have h60 : (b.take 60).length = 60 := by rw [List.length_take]; omega
    generalize b.take 60 = p at *
    unfold says at hs
    obtain ⟨q0, q1, q2, q3, q4⟩ := of_decide_eq_true hs
    have l1 := val_lt ((p.drop 2).take 4)
    have l2 := val_lt ((p.drop 6).take 4)
    have n1 : ((p.drop 2).take 4).length = 4 := by rw [List.length_take, List.length_drop]; omega
    have n2 : ((p.drop 6).take 4).length = 4 := by rw [List.length_take, List.length_drop]; omega
    rw [n1] at l1; rw [n2] at l2
    have l1' : val ((p.drop 2).take 4) < 4294967296 := l1
    have l2' : val ((p.drop 6).take 4) < 4294967296 := l2
    refine ⟨?_, .inr ⟨?_, ?_, ?_, ?_, ?_⟩⟩
    · unfold Sp.put ofP
      simp only
      rw [if_neg (by omega), Int.toNat_natCast, Int.toNat_natCast, Int.toNat_natCast, UInt8.ofNat_toNat]
      have e : pad (body (p.getD 1 0) (val ((p.drop 2).take 4)) (val ((p.drop 6).take 4))) = p := by
        unfold pad
        rw [body_len]
        unfold body
        rw [be_val' 4 _ n1, be_val' 4 _ n2, ← q3, ← q0]
        match p, h60 with
        | a :: c :: p', h60 =>
          show [a, c] ++ (p'.take 4 ++ (p'.drop 4).take 4) ++ p'.drop 8 = a :: c :: p'
          have : p'.drop 8 = (p'.drop 4).drop 4 := by rw [List.drop_drop]
          rw [this, List.append_assoc, List.append_assoc, List.take_append_drop, List.take_append_drop]
          rfl
      unfold sec
      rw [e, hb]
    · show (1 : Int) ≤ ((p.getD 1 0).toNat : Int); omega
    · show ((p.getD 1 0).toNat : Int) ≤ 2; omega
    · show (0 : Int) ≤ ((val ((p.drop 6).take 4) : Nat) : Int); omega
    · show ((val ((p.drop 6).take 4) : Nat) : Int) ≤ ((val ((p.drop 2).take 4) : Nat) : Int); omega
    · show ((val ((p.drop 2).take 4) : Nat) : Int) < 4294967296; omega
end Go.Proofs.Ytkponedbncifcaa.SupM
