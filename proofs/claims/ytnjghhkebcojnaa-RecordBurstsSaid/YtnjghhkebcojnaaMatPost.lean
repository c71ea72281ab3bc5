/- what the calls of package matrix tell -/
import Derived.Test.YtnjghhkebcojnaaMats
set_option maxRecDepth 100000
namespace Go.Proofs.Ytnjghhkebcojnaa
open Go.RowKit
namespace MatM
open GfM PolyM LagrM
def mulV (a b : List (List UInt8)) : List (List UInt8) := if mulOk a b then mulL a b else []
def applyV (a : List (List UInt8)) (v : List UInt8) : List UInt8 := if allW a v.length then a.map fun r => dot r v else []
theorem applyV_len (a : List (List UInt8)) (v : List UInt8) : (applyV a v).length = if allW a v.length then a.length else 0 := by
  unfold applyV; split <;> simp
def powL (xs : List UInt8) (n : Nat) : List (List UInt8) := xs.map fun x => tab n (npow x)
theorem powL_len (xs : List UInt8) (n : Nat) : (powL xs n).length = xs.length := by simp [powL]
theorem powL_row (xs : List UInt8) (n i : Nat) (h : i < xs.length) : rowAt (powL xs n) i = tab n (npow xs[i]) := by
  rw [rowAt_get _ _ (by rw [powL_len]; exact h)]; simp [powL]
theorem powL_sq (xs : List UInt8) : Sq (powL xs xs.length) xs.length := ⟨powL_len _ _, (allW_iff _ _).2 fun i h => by
  have h' : i < xs.length := by rw [powL_len] at h; exact h
  rw [← rowAt_get _ _ h, powL_row _ _ _ h', tab_len]⟩
theorem powL_mat (xs : List UInt8) : EqN xs.length (mat (powL xs xs.length)) (vand xs) := fun i j hi hj => by
  unfold mat vand; rw [powL_row _ _ _ hi, co_tab, if_pos hj, co_get _ _ hi]
/-- a product with the unit matrix -/
theorem mulRow_unit (n : Nat) (r : List UInt8) (h : r.length = n) : mulRow (unitL n) r = r := by
  refine list_ext (by rw [mulRow_len, (Sq.unit n).wd, h]) fun k => ?_
  by_cases hk : k < n
  · unfold mulRow
    rw [co_tab, if_pos (by rw [(Sq.unit n).wd]; exact hk)]
    unfold dotc
    rw [unitL_len]
    rw [xsum_one _ _ k hk (fun j hj hne => by rw [mat_unit n j k hj hk]; unfold one; rw [if_neg hne, mul0]), mat_unit n k k hk hk]
    unfold one; rw [if_pos rfl, mul1]
  · rw [co_ge _ _ (by rw [mulRow_len, (Sq.unit n).wd]; omega), co_ge _ _ (by omega)]
theorem mulV_unit {a : List (List UInt8)} {n : Nat} (h : allW a n = true) : mulOk a (unitL n) = true ∧ mulV a (unitL n) = a := by
  have hok : mulOk a (unitL n) = true := by
    unfold mulOk; rw [(Sq.unit n).wd, unitL_all, unitL_len, h]; rfl
  refine ⟨hok, ?_⟩
  unfold mulV
  rw [if_pos hok]
  refine List.ext_getElem (by rw [mulL_len]) fun i h1 h2 => ?_
  simp only [mulL, List.getElem_map]
  exact mulRow_unit n _ ((allW_iff _ _).1 h i h2)
/-- is there an inverse -/
def invOk (a : List (List UInt8)) : Bool := allW a a.length && decide (det a.length (mat a) ≠ 0)
theorem invOk_sq {a : List (List UInt8)} (h : invOk a = true) : Sq a a.length ∧ det a.length (mat a) ≠ 0 := by
  unfold invOk at h
  rw [Bool.and_eq_true, decide_eq_true_eq] at h
  exact ⟨⟨rfl, h.1⟩, h.2⟩
theorem mv_apply {b : List (List UInt8)} {n : Nat} (hb : Sq b n) (v : List UInt8) (hv : v.length = n) {i : Nat} (hi : i < n) : dot (rowAt b i) v = mv n (mat b) (co v) i := by
  rw [dot_sum, hb.row hi, hv, Nat.min_self]; rfl
/-- the inverse of the powers tells the polynomial -/
theorem powers_back {xs : List UInt8} (h : xs.Nodup) (ys : List UInt8) (hl : xs.length = ys.length) {b : List (List UInt8)} (hb : Sq b xs.length) (hu : Undo xs.length (mat (powL xs xs.length)) (mat b)) : applyV b ys = thr xs ys := by
  have hall : allW b ys.length = true := by rw [← hl]; exact hb.2
  unfold applyV
  rw [if_pos hall]
  have hu' : Undo xs.length (vand xs) (mat b) := ⟨(mm_congr (powL_mat xs).symm (EqN.refl _ _)).trans hu.1, (mm_congr (EqN.refl _ _) (powL_mat xs).symm).trans hu.2⟩
  refine list_ext (by rw [List.length_map, hb.1, thr_len]) fun k => ?_
  by_cases hk : k < xs.length
  · rw [co_get _ _ (by rw [List.length_map, hb.1]; exact hk), List.getElem_map, ← rowAt_get b k (by rw [hb.1]; exact hk), mv_apply hb ys hl.symm hk]
    exact vand_back h ys hu' hk
  · rw [co_ge _ _ (by rw [List.length_map, hb.1]; omega), co_ge _ _ (by rw [thr_len]; omega)]
theorem undo_unique {n : Nat} {a b c : Mat} (h1 : Undo n a b) (h2 : Undo n a c) : EqN n b c := by
  have k1 : EqN n (mm n b (mm n a c)) b := (mm_congr (EqN.refl n b) h2.1).trans (mm_one n b)
  rw [← mm_assoc] at k1
  exact k1.symm.trans ((mm_congr h1.2 (EqN.refl n c)).trans (one_mm n c))
def fewB (m : List (List UInt8)) : Bool := (m.all fun r => decide (r.length ≤ 8)) && decide (m.length ≤ 8)
theorem fewB_iff (m : List (List UInt8)) : fewB m = true ↔ (∀ i, (h : i < m.length) → m[i].length ≤ 8) ∧ m.length ≤ 8 := by
  unfold fewB
  rw [Bool.and_eq_true, List.all_eq_true, decide_eq_true_eq]
  constructor
  · rintro ⟨h1, h2⟩; exact ⟨fun i hi => by simpa using h1 _ (List.getElem_mem hi), h2⟩
  · rintro ⟨h1, h2⟩
    refine ⟨fun r hr => ?_, h2⟩
    obtain ⟨i, hi, rfl⟩ := List.mem_iff_getElem.1 hr
    simpa using h1 i hi
theorem fewB_wd {m : List (List UInt8)} (h : fewB m = true) : wd m ≤ 8 := by
  rcases Nat.eq_zero_or_pos m.length with h0 | h0
  · have : m = [] := List.eq_nil_of_length_eq_zero h0
    subst this; exact Nat.zero_le _
  · unfold wd; rw [rowAt_get _ _ h0]; exact ((fewB_iff m).1 h).1 0 h0
end MatM

def MulPost (w : World) (a b : List (List UInt8)) (e : Ending) (w' : World) : Prop :=
  ∃ A c, e = .returned (.tuple #[.slice A (MatM.mulV a b).length c, .bool (MatM.mulOk a b)]) ∧ RowsAt w' A (MatM.mulV a b) ∧ Below w.heap.size w w'
def ApplyPost (w : World) (a : List (List UInt8)) (v : List UInt8) (e : Ending) (w' : World) : Prop :=
  ∃ A c, e = .returned (.tuple #[.slice A (MatM.applyV a v).length c, .bool (MatM.allW a v.length)]) ∧ BytesAt w' A (MatM.applyV a v) ∧ Below w.heap.size w w'
/-- the inverse, or nothing; where a list of as many lists of as many bytes has none, a row that is not 0 is made 0 -/
def InvPost (w : World) (a : List (List UInt8)) (e : Ending) (w' : World) : Prop :=
  ∃ (A : Option Addr) (c : Nat) (b : List (List UInt8)), e = .returned (.tuple #[.slice A b.length c, .bool (MatM.invOk a)]) ∧ RowsAt w' A b ∧ Below w.heap.size w w' ∧
    (MatM.invOk a = true → MatM.Sq b a.length ∧ MatM.Undo a.length (MatM.mat a) (MatM.mat b)) ∧
    (MatM.invOk a = false → b = [] ∧ (MatM.allW a a.length = true → ∃ (x : Nat → UInt8) (c : Nat), c < a.length ∧ x c = 1 ∧ ∀ i, i < a.length → MatM.mv a.length (MatM.mat a) x i = 0))
end Go.Proofs.Ytnjghhkebcojnaa
