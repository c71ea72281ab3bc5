/- plain mathematics of lists of lists of bytes -/
import Derived.Test.YtmeenipcfmeopaaMatMath
set_option maxRecDepth 100000
namespace Go.Proofs.Ytmeenipcfmeopaa.MatM
open GfM PolyM LagrM

def rowAt (m : List (List UInt8)) (i : Nat) : List UInt8 := m.getD i []
theorem rowAt_get (m : List (List UInt8)) (i : Nat) (h : i < m.length) : rowAt m i = m[i] := by simp [rowAt, List.getD, h]
theorem rowAt_ge (m : List (List UInt8)) (i : Nat) (h : m.length ≤ i) : rowAt m i = [] := by simp [rowAt, List.getD, List.getElem?_eq_none h]
def mat (m : List (List UInt8)) : Mat := fun i j => co (rowAt m i) j
def wd (m : List (List UInt8)) : Nat := (rowAt m 0).length
/-- all rows have so many bytes -/
def allW (m : List (List UInt8)) (n : Nat) : Bool := m.all fun r => r.length == n
theorem allW_iff (m : List (List UInt8)) (n : Nat) : allW m n = true ↔ ∀ i, (h : i < m.length) → m[i].length = n := by
  unfold allW
  rw [List.all_eq_true]
  constructor
  · intro h i hi; simpa using h _ (List.getElem_mem hi)
  · intro h r hr
    obtain ⟨i, hi, rfl⟩ := List.mem_iff_getElem.1 hr
    simpa using h i hi
theorem allW_not {m : List (List UInt8)} {n i : Nat} (h : i < m.length) (hn : m[i].length ≠ n) : allW m n = false := by
  rcases hb : allW m n with _ | _
  · rfl
  · exact absurd ((allW_iff m n).1 hb i h) hn
theorem allW_take {m : List (List UInt8)} {n k : Nat} (hk : k < m.length) (h : allW (m.take k) n = true) (h2 : m[k].length = n) : allW (m.take (k + 1)) n = true := by
  unfold allW at h ⊢
  rw [List.take_succ_eq_append_getElem hk, List.all_append, h]
  simpa using h2
def width (m : List (List UInt8)) : Int := if m.length = 0 then 0 else if allW m (wd m) then wd m else -1
theorem width_nil : width [] = 0 := rfl
theorem width_of {m : List (List UInt8)} (h : allW m (wd m) = true) : width m = wd m := by
  unfold width
  split
  · rename_i h0
    have : m = [] := List.eq_nil_of_length_eq_zero h0
    subst this; rfl
  · first | rfl | rw [if_pos h]
theorem width_bad {m : List (List UInt8)} (h : allW m (wd m) = false) : width m = -1 := by
  unfold width
  rw [if_neg (by intro h0; have : m = [] := List.eq_nil_of_length_eq_zero h0; subst this; cases h), if_neg (by rw [h]; simp)]
theorem width_range (m : List (List UInt8)) : -1 ≤ width m ∧ width m ≤ wd m := by
  rcases h : allW m (wd m) with _ | _
  · rw [width_bad h]; omega
  · rw [width_of h]; omega
theorem map_take_succ {α : Type} (f : List UInt8 → α) (m : List (List UInt8)) (k : Nat) (h : k < m.length) : (m.take (k + 1)).map f = (m.take k).map f ++ [f m[k]] := by
  rw [List.take_succ_eq_append_getElem h, List.map_append]; rfl
theorem mat_map {f : List UInt8 → List UInt8} (_hf : f [] = [] ∨ True) (m : List (List UInt8)) (i : Nat) (h : i < m.length) : rowAt (m.map f) i = f (rowAt m i) := by
  rw [rowAt_get _ _ (by simpa using h), rowAt_get _ _ h, List.getElem_map]

/-! products -/
def dotc (r : List UInt8) (b : List (List UInt8)) (k : Nat) : UInt8 := xsum (fun j => mul (co r j) (mat b j k)) b.length
def mulRow (b : List (List UInt8)) (r : List UInt8) : List UInt8 := tab (wd b) (dotc r b)
def mulL (a b : List (List UInt8)) : List (List UInt8) := a.map (mulRow b)
def mulOk (a b : List (List UInt8)) : Bool := allW b (wd b) && allW a b.length
theorem mulL_len (a b : List (List UInt8)) : (mulL a b).length = a.length := by simp [mulL]
theorem mulRow_len (b : List (List UInt8)) (r : List UInt8) : (mulRow b r).length = wd b := by simp [mulRow]

/-! the unit matrix -/
def unitRow (n i : Nat) : List UInt8 := tab n (one i)
def unitTo (n k : Nat) : List (List UInt8) := (List.range k).map (unitRow n)
def unitL (n : Nat) : List (List UInt8) := unitTo n n
theorem unitTo_len (n k : Nat) : (unitTo n k).length = k := by simp [unitTo]
theorem unitTo_succ (n k : Nat) : unitTo n (k + 1) = unitTo n k ++ [unitRow n k] := by simp [unitTo, List.range_succ]
theorem unitRow_len (n i : Nat) : (unitRow n i).length = n := by simp [unitRow]
theorem unitL_len (n : Nat) : (unitL n).length = n := unitTo_len n n
theorem unitL_row (n i : Nat) (h : i < n) : rowAt (unitL n) i = unitRow n i := by
  rw [rowAt_get _ _ (by rw [unitL_len]; exact h)]
  simp [unitL, unitTo]
theorem mat_unit (n : Nat) : EqN n (mat (unitL n)) one := fun i j hi hj => by
  unfold mat; rw [unitL_row n i hi]; unfold unitRow; rw [co_tab, if_pos hj]
theorem unitL_all (n : Nat) : allW (unitL n) n = true := (allW_iff _ _).2 fun i h => by
  have h' : i < n := by rw [unitL_len] at h; exact h
  rw [← rowAt_get _ _ h, unitL_row n i h', unitRow_len]

/-! lists of lists of one size -/
def Sq (m : List (List UInt8)) (n : Nat) : Prop := m.length = n ∧ allW m n = true
theorem Sq.row {m : List (List UInt8)} {n : Nat} (h : Sq m n) {i : Nat} (hi : i < n) : (rowAt m i).length = n := by
  rw [rowAt_get _ _ (by rw [h.1]; exact hi)]; exact (allW_iff _ _).1 h.2 i (by rw [h.1]; exact hi)
theorem Sq.wd {m : List (List UInt8)} {n : Nat} (h : Sq m n) : wd m = n := by
  rcases Nat.eq_zero_or_pos n with h0 | h0
  · have : m = [] := List.eq_nil_of_length_eq_zero (by rw [h.1, h0])
    subst this; rw [h0]; rfl
  · exact h.row h0
theorem Sq.unit (n : Nat) : Sq (unitL n) n := ⟨unitL_len n, unitL_all n⟩
theorem Sq.ext {m m' : List (List UInt8)} {n : Nat} (h : Sq m n) (h' : Sq m' n) (e : EqN n (mat m) (mat m')) : m = m' := by
  refine List.ext_getElem (by rw [h.1, h'.1]) fun i h1 h2 => ?_
  have hi : i < n := by rw [h.1] at h1; exact h1
  rw [← rowAt_get _ _ h1, ← rowAt_get _ _ h2]
  refine list_ext (by rw [h.row hi, h'.row hi]) fun k => ?_
  by_cases hk : k < n
  · exact e i k hi hk
  · rw [co_ge _ _ (by rw [h.row hi]; omega), co_ge _ _ (by rw [h'.row hi]; omega)]
theorem Sq.mulOk {a b : List (List UInt8)} {n : Nat} (ha : Sq a n) (hb : Sq b n) : mulOk a b = true := by
  unfold MatM.mulOk; rw [hb.wd, hb.2, hb.1, ha.2]; rfl
theorem Sq.mul {a b : List (List UInt8)} {n : Nat} (ha : Sq a n) (hb : Sq b n) : Sq (mulL a b) n := by
  refine ⟨by rw [mulL_len, ha.1], (allW_iff _ _).2 fun i h => ?_⟩
  simp only [mulL, List.getElem_map]
  rw [mulRow_len, hb.wd]
theorem Sq.mat_mul {a b : List (List UInt8)} {n : Nat} (ha : Sq a n) (hb : Sq b n) : EqN n (mat (mulL a b)) (mm n (mat a) (mat b)) := fun i j hi hj => by
  unfold mat mulL
  rw [mat_map (.inr trivial) _ _ (by rw [ha.1]; exact hi)]
  unfold mulRow
  rw [co_tab, if_pos (by rw [hb.wd]; exact hj)]
  unfold dotc
  rw [hb.1]; rfl
theorem Sq.undo {a b : List (List UInt8)} {n : Nat} (ha : Sq a n) (hb : Sq b n) (h : Undo n (mat a) (mat b)) : mulL a b = unitL n ∧ mulL b a = unitL n :=
  ⟨(ha.mul hb).ext (Sq.unit n) ((ha.mat_mul hb).trans (h.1.trans (mat_unit n).symm)), (hb.mul ha).ext (Sq.unit n) ((hb.mat_mul ha).trans (h.2.trans (mat_unit n).symm))⟩

/-! without the first row and a column -/
def cutCol (k : Nat) (r : List UInt8) : List UInt8 := r.take k ++ r.drop (k + 1)
def withoutL (a : List (List UInt8)) (k : Nat) : List (List UInt8) := (a.drop 1).map (cutCol k)
theorem cutCol_len (k : Nat) (r : List UInt8) (h : k < r.length) : (cutCol k r).length = r.length - 1 := by simp [cutCol]; omega
theorem co_cutCol (k : Nat) (r : List UInt8) (h : k < r.length) (j : Nat) : co (cutCol k r) j = co r (skip k j) := by
  unfold cutCol skip co
  by_cases hj : j < k
  · rw [if_pos hj]
    simp only [List.getD]
    rw [List.getElem?_append_left (by simp; omega), List.getElem?_take, if_pos hj]
  · rw [if_neg hj]
    simp only [List.getD]
    rw [List.getElem?_append_right (by simp; omega), List.getElem?_drop, List.length_take, Nat.min_eq_left (by omega)]
    congr 2; omega
theorem withoutL_len (a : List (List UInt8)) (k : Nat) : (withoutL a k).length = a.length - 1 := by simp [withoutL]
theorem Sq.without {a : List (List UInt8)} {n : Nat} (h : Sq a (n + 1)) {k : Nat} (hk : k < n + 1) : Sq (withoutL a k) n := by
  refine ⟨by rw [withoutL_len, h.1]; rfl, (allW_iff _ _).2 fun i hi => ?_⟩
  have hi' : i + 1 < a.length := by rw [withoutL_len] at hi; omega
  have hr : a[1 + i].length = n + 1 := (allW_iff _ _).1 h.2 (1 + i) (by omega)
  simp only [withoutL, List.getElem_map, List.getElem_drop]
  rw [cutCol_len _ _ (by rw [hr]; exact hk), hr]; rfl
theorem Sq.mat_without {a : List (List UInt8)} {n : Nat} (h : Sq a (n + 1)) {k : Nat} (hk : k < n + 1) : EqN n (mat (withoutL a k)) (minor (mat a) k) := fun i j hi _ => by
  have hi' : i + 1 < a.length := by rw [h.1]; omega
  unfold mat minor
  rw [rowAt_get _ _ (by rw [withoutL_len, h.1]; exact hi)]
  simp only [withoutL, List.getElem_map, List.getElem_drop]
  have hr : a[1 + i].length = n + 1 := (allW_iff _ _).1 h.2 (1 + i) (by omega)
  rw [co_cutCol _ _ (by rw [hr]; exact hk), rowAt_get _ _ hi']
  simp only [Nat.add_comm 1 i]
theorem det_sq {a : List (List UInt8)} {n : Nat} (h : Sq a (n + 1)) : det (n + 1) (mat a) = xsum (fun k => mul (co (rowAt a 0) k) (det n (mat (withoutL a k)))) (n + 1) := by
  rw [show det (n + 1) (mat a) = xsum (fun k => mul (mat a 0 k) (det n (minor (mat a) k))) (n + 1) from rfl]
  exact xsum_congr _ fun k hk => by rw [det_congr (h.mat_without hk)]; rfl
def withoutTo (a : List (List UInt8)) (k j : Nat) : List (List UInt8) := ((a.drop 1).take (j - 1)).map (cutCol k)
theorem withoutTo_one (a : List (List UInt8)) (k : Nat) : withoutTo a k 1 = [] := by simp [withoutTo]
theorem withoutTo_succ (a : List (List UInt8)) (k j : Nat) (h0 : 1 ≤ j) (h : j < a.length) : withoutTo a k (j + 1) = withoutTo a k j ++ [cutCol k a[j]] := by
  obtain ⟨i, rfl⟩ : ∃ i, j = i + 1 := ⟨j - 1, by omega⟩
  unfold withoutTo
  simp only [Nat.add_sub_cancel]
  rw [map_take_succ _ _ _ (show i < (a.drop 1).length by simp; omega)]
  simp only [List.getElem_drop, Nat.add_comm 1 i]
theorem withoutTo_done (a : List (List UInt8)) (k : Nat) : withoutTo a k a.length = withoutL a k := by
  unfold withoutTo withoutL
  rw [List.take_of_length_le (by simp)]
theorem withoutTo_len (a : List (List UInt8)) (k j : Nat) : (withoutTo a k j).length ≤ j := by simp [withoutTo]; omega
end Go.Proofs.Ytmeenipcfmeopaa.MatM
