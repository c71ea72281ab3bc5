/- plain mathematics of Gauss's way: a column at a time, both halves alike -/
import Derived.Test.YtmkadcnommoihaaMatList
namespace Go.Proofs.Ytmkadcnommoihaa.MatM
open GfM PolyM LagrM

/-- row c is taken out of the rows ahead of k, as often as cs tells -/
def elim (cs : Nat → UInt8) (c : Nat) : Nat → Mat → Mat
  | 0, m => m
  | k + 1, m => if k = c then elim cs c k m else addR (elim cs c k m) k c (cs k)
theorem elim_at (cs : Nat → UInt8) (c k : Nat) (m : Mat) (i j : Nat) : elim cs c k m i j = if i < k ∧ i ≠ c then GfM.add (m i j) (mul (cs i) (m c j)) else m i j := by
  induction k generalizing i j with
  | zero => rw [if_neg (by omega)]; rfl
  | succ k ih =>
    unfold elim
    by_cases hk : k = c
    · rw [if_pos hk, ih]
      by_cases h : i < k ∧ i ≠ c
      · rw [if_pos h, if_pos ⟨by omega, h.2⟩]
      · rw [if_neg h, if_neg (by omega)]
    · rw [if_neg hk]
      unfold addR setRow
      by_cases e : i = k
      · rw [if_pos e]
        show GfM.add (elim cs c k m k j) (mul (cs k) (elim cs c k m c j)) = _
        rw [ih, ih, if_neg (by omega), if_neg (by omega), if_pos (by omega), e]
      · rw [if_neg e, ih]
        by_cases h : i < k ∧ i ≠ c
        · rw [if_pos h, if_pos (by omega)]
        · rw [if_neg h, if_neg (by omega)]
theorem Done.elim {n : Nat} {a left right : Mat} (h : Done n a left right) (cs : Nat → UInt8) {c : Nat} (hc : c < n) (k : Nat) (hk : k ≤ n) : Done n a (elim cs c k left) (elim cs c k right) := by
  induction k with
  | zero => exact h
  | succ k ih =>
    unfold MatM.elim
    by_cases e : k = c
    · rw [if_pos e, if_pos e]; exact ih (by omega)
    · rw [if_neg e, if_neg e]; exact (ih (by omega)).addR (by omega) hc e _
/-- a row of the right size is brought to its place and made one that begins with 1 -/
def pivot (m : Mat) (c r : Nat) (x : UInt8) : Mat := scaleR (swapR m c r) c x
theorem pivot_at (m : Mat) (c r : Nat) (x : UInt8) (i j : Nat) : pivot m c r x i j = if i = c then mul x (m r j) else if i = r then m c j else m i j := by
  unfold pivot scaleR setRow swapR
  by_cases h : i = c
  · rw [if_pos h, if_pos h, if_pos rfl]
  · rw [if_neg h, if_neg h, if_neg h]
    by_cases h2 : i = r
    · rw [if_pos h2, if_pos h2]
    · rw [if_neg h2, if_neg h2]
/-- a column more -/
theorem gauss_step {n : Nat} {a left right : Mat} (h : Done n a left right) {c r : Nat} (hcols : Cols n c left) (hc : c < n) (hr : c ≤ r) (hr2 : r < n) (hx : inv (left r c) ≠ 0) :
    Done n a (elim (fun i => pivot left c r (inv (left r c)) i c) c n (pivot left c r (inv (left r c)))) (elim (fun i => pivot left c r (inv (left r c)) i c) c n (pivot right c r (inv (left r c)))) ∧
    Cols n (c + 1) (elim (fun i => pivot left c r (inv (left r c)) i c) c n (pivot left c r (inv (left r c)))) := by
  have hne : left r c ≠ 0 := fun h0 => hx (by rw [h0, inv_zero])
  have k1 : Done n a (pivot left c r (inv (left r c))) (pivot right c r (inv (left r c))) := (h.swap hc hr2).scale hc hx
  have k2 : Cols n c (pivot left c r (inv (left r c))) := (hcols.swapR (Nat.le_refl _) hr hc hr2).scaleR (Nat.le_refl _) hc _
  have e1 : pivot left c r (inv (left r c)) c c = 1 := by
    rw [pivot_at, if_pos rfl, mulc]; exact mul_inv_cancel hne
  generalize pivot left c r (inv (left r c)) = L at *
  refine ⟨k1.elim _ hc n (Nat.le_refl _), fun i j hi hj => ?_⟩
  rw [elim_at]
  by_cases ej : j = c
  · subst ej
    by_cases h : i < n ∧ i ≠ j
    · rw [if_pos h, e1, mul1, adds]; unfold one; rw [if_neg h.2]
    · have : i = j := by omega
      subst this
      rw [if_neg h, e1]; unfold one; rw [if_pos rfl]
  · by_cases h : i < n ∧ i ≠ c
    · rw [if_pos h, k2 i j hi (by omega), k2 c j hc (by omega)]
      have : one c j = 0 := by unfold one; rw [if_neg (Ne.symm ej)]
      rw [this, mul0, add0]
    · rw [if_neg h]; exact k2 i j hi (by omega)
/-- the rows of a square -/
def matL (n : Nat) (m : Mat) : List (List UInt8) := (List.range n).map fun i => tab n (m i)
theorem matL_len (n : Nat) (m : Mat) : (matL n m).length = n := by simp [matL]
theorem matL_get (n : Nat) (m : Mat) (i : Nat) (h : i < (matL n m).length) : (matL n m)[i] = tab n (m i) := by simp [matL]
theorem matL_sq (n : Nat) (m : Mat) : Sq (matL n m) n := ⟨matL_len _ _, (allW_iff _ _).2 fun i h => by rw [matL_get, tab_len]⟩
theorem matL_mat (n : Nat) (m : Mat) : EqN n (mat (matL n m)) m := fun i j hi hj => by
  unfold mat; rw [rowAt_get _ _ (by rw [matL_len]; exact hi), matL_get, co_tab, if_pos hj]
theorem matL_of {a : List (List UInt8)} {n : Nat} (h : Sq a n) : matL n (mat a) = a := (matL_sq n _).ext h (matL_mat n _)
theorem matL_unit (n : Nat) : matL n one = unitL n := (matL_sq n _).ext (Sq.unit n) ((matL_mat n _).trans (mat_unit n).symm)
/-- a column -/
def colL (m : List (List UInt8)) (c : Nat) : List UInt8 := m.map fun r => co r c
theorem colL_len (m : List (List UInt8)) (c : Nat) : (colL m c).length = m.length := by simp [colL]
theorem colL_co (m : List (List UInt8)) (c i : Nat) : co (colL m c) i = mat m i c := by
  unfold mat
  by_cases h : i < m.length
  · rw [co_get _ _ (by rw [colL_len]; exact h), rowAt_get _ _ h]; simp [colL]
  · rw [co_ge _ _ (by rw [colL_len]; omega), rowAt_ge _ _ (by omega), co_ge _ _ (by simp)]
theorem colL_tab (m : List (List UInt8)) (c : Nat) : colL m c = tab m.length (fun i => mat m i c) :=
  list_ext (by rw [colL_len, tab_len]) fun i => by
    rw [colL_co, co_tab]
    by_cases h : i < m.length
    · rw [if_pos h]
    · rw [if_neg h]; unfold mat; rw [rowAt_ge _ _ (by omega), co_ge _ _ (by simp)]
/-- a product, by columns -/
theorem dot_col (r : List UInt8) (b : List (List UInt8)) (k : Nat) (h : r.length = b.length) : dot (colL b k) r = dotc r b k := by
  rw [dot_sum, colL_len, h, Nat.min_self]
  unfold dotc
  exact xsum_congr _ fun j _ => by rw [colL_co, mulc]
theorem mulRow_cols (r : List UInt8) (b : List (List UInt8)) (h : r.length = b.length) : ((List.range (wd b)).map (colL b)).map (fun q => dot q r) = mulRow b r := by
  unfold mulRow tab
  rw [List.map_map]
  exact List.map_congr_left fun k _ => dot_col r b k h
end Go.Proofs.Ytmkadcnommoihaa.MatM
