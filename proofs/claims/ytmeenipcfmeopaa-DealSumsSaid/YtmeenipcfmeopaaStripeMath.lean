/- layer 9's answers, plain -/
import Derived.Test.YtmeenipcfmeopaaPlanMath
import Derived.Test.YtmeenipcfmeopaaPolyMath
set_option maxRecDepth 100000
namespace Go.Proofs.Ytmeenipcfmeopaa.StripeM
open PolyM PlanM

/-- stripe k of a blob, L bytes -/
def row (L : Nat) (b : List UInt8) (k : Nat) : List UInt8 := tab L fun j => co b (k * L + j)
def cutTo (L : Nat) (b : List UInt8) (k : Nat) : List (List UInt8) := (List.range k).map (row L b)
def cut (p : P) (b : List UInt8) : List (List UInt8) := cutTo p.L.toNat b (p.stripes b.length)
/-- byte i of stripes -/
def byteAt (L : Nat) (l : List (List UInt8)) (i : Nat) : UInt8 := co (l.getD (i / L) []) (i % L)
def join (L : Nat) (l : List (List UInt8)) (size : Nat) : List UInt8 := tab size (byteAt L l)
def fits (p : P) (l : List (List UInt8)) (size : Int) : Bool := decide (l.length = p.stripes size) && l.all fun r => decide (r.length = p.L.toNat)

theorem row_len (L : Nat) (b : List UInt8) (k : Nat) : (row L b k).length = L := tab_len _ _
theorem cutTo_len (L : Nat) (b : List UInt8) (k : Nat) : (cutTo L b k).length = k := by unfold cutTo; simp
theorem cutTo_zero (L : Nat) (b : List UInt8) : cutTo L b 0 = [] := rfl
theorem cutTo_succ (L : Nat) (b : List UInt8) (k : Nat) : cutTo L b (k + 1) = cutTo L b k ++ [row L b k] := by unfold cutTo; rw [List.range_succ, List.map_append]; rfl
theorem cutTo_get (L : Nat) (b : List UInt8) (n k : Nat) (h : k < (cutTo L b n).length) : (cutTo L b n)[k] = row L b k := by simp [cutTo]
theorem cutTo_getD (L : Nat) (b : List UInt8) (n k : Nat) (h : k < n) : (cutTo L b n).getD k [] = row L b k := by
  rw [← List.getElem_eq_getD (h := by rw [cutTo_len]; exact h), cutTo_get]
/-- the row as it is filled -/
def fillTo (L : Nat) (b : List UInt8) (k t : Nat) : List UInt8 := tab L fun j => if j < t then co b (k * L + j) else 0
theorem fillTo_len (L : Nat) (b : List UInt8) (k t : Nat) : (fillTo L b k t).length = L := tab_len _ _
theorem fillTo_zero (L : Nat) (b : List UInt8) (k : Nat) : fillTo L b k 0 = List.replicate L 0 := by unfold fillTo; rw [← tab_rep]; exact tab_congr fun i _ => by rw [if_neg (by omega)]
theorem fillTo_all (L : Nat) (b : List UInt8) (k : Nat) : fillTo L b k L = row L b k := tab_congr fun i hi => by rw [if_pos hi]
theorem fillTo_succ (L : Nat) (b : List UInt8) (k t : Nat) (h : t < L) : fillTo L b k (t + 1) = (fillTo L b k t).set t (co b (k * L + t)) := by
  unfold fillTo
  rw [tab_set _ _ _ _ h]
  refine tab_congr fun i _ => ?_
  by_cases e : i = t
  · subst e; rw [if_pos (by omega), if_pos rfl]
  · rw [if_neg e]
    by_cases e2 : i < t
    · rw [if_pos (by omega), if_pos e2]
    · rw [if_neg (by omega), if_neg e2]
theorem fillTo_same (L : Nat) (b : List UInt8) (k t : Nat) (h : b.length ≤ k * L + t) : fillTo L b k (t + 1) = fillTo L b k t := by
  unfold fillTo
  refine tab_congr fun i _ => ?_
  by_cases e : i = t
  · subst e; rw [if_pos (by omega), if_neg (by omega), co_ge _ _ h]
  · by_cases e2 : i < t
    · rw [if_pos (by omega), if_pos e2]
    · rw [if_neg (by omega), if_neg e2]
/-- stripes joined are the blob -/
theorem join_cut (L n : Nat) (b : List UInt8) (hn : b.length ≤ n * L) : join L (cutTo L b n) b.length = b := by
  unfold join
  conv => rhs; rw [← tab_of b]
  refine tab_congr fun i hi => ?_
  have hL : 0 < L := by
    rcases Nat.eq_zero_or_pos L with h | h
    · subst h; rw [Nat.mul_zero] at hn; omega
    · exact h
  unfold byteAt
  have hk : i / L < n := by rw [Nat.div_lt_iff_lt_mul hL]; omega
  rw [cutTo_getD _ _ _ _ hk]
  unfold row
  rw [co_tab, if_pos (Nat.mod_lt _ hL)]
  congr 1
  rw [Nat.mul_comm]; exact Nat.div_add_mod _ _
theorem stripes_enough (p : P) (n : Nat) (hL : 1 ≤ p.L) (hn : n ≤ 240) : n ≤ p.stripes n * p.L.toNat := by
  rcases Nat.eq_zero_or_pos n with h | h
  · omega
  · unfold P.stripes
    rw [if_neg (by omega)]
    obtain ⟨l, hl⟩ : ∃ l : Nat, p.L = l := ⟨p.L.toNat, by omega⟩
    rw [hl, Int.toNat_natCast]
    have e : ((n : Int) + l - 1) / (l : Int) = (((n + l - 1) / l : Nat) : Int) := by
      rw [Int.natCast_ediv]; congr 1; omega
    rw [e, Int.toNat_natCast]
    have := Nat.div_add_mod (n + l - 1) l
    have h2 := Nat.mod_lt (n + l - 1) (show l > 0 by omega)
    rw [Nat.mul_comm] at this
    omega
theorem stripes_le (p : P) (size : Int) (hL : 1 ≤ p.L) : p.stripes size ≤ 240 := by
  unfold P.stripes
  split
  · omega
  · rename_i h
    have : (size + p.L - 1) / p.L ≤ 240 := stripes_end hL (by omega)
    omega
theorem cut_fits (p : P) (b : List UInt8) : fits p (cut p b) b.length = true := by
  unfold fits cut
  rw [cutTo_len]
  simp only [decide_true, Bool.true_and, List.all_eq_true]
  intro r hr
  unfold cutTo at hr
  simp only [List.mem_map] at hr
  obtain ⟨k, _, rfl⟩ := hr
  rw [row_len]; simp
theorem join_back (p : P) (b : List UInt8) (hL : 1 ≤ p.L) (hb : b.length ≤ 240) : join p.L.toNat (cut p b) b.length = b := join_cut _ _ _ (stripes_enough p b.length hL hb)
theorem fits_len {p : P} {l : List (List UInt8)} {size : Int} (h : fits p l size = true) : l.length = p.stripes size := by
  unfold fits at h; rw [Bool.and_eq_true] at h; exact of_decide_eq_true h.1
theorem fits_row {p : P} {l : List (List UInt8)} {size : Int} (h : fits p l size = true) {i : Nat} (hi : i < l.length) : l[i].length = p.L.toNat := by
  unfold fits at h; rw [Bool.and_eq_true] at h
  exact of_decide_eq_true (List.all_eq_true.mp h.2 _ (List.getElem_mem hi))
theorem fits_no_len {p : P} {l : List (List UInt8)} {size : Int} (h : l.length ≠ p.stripes size) : fits p l size = false := by
  unfold fits; rw [decide_eq_false h]; rfl
theorem fits_no_row {p : P} {l : List (List UInt8)} {size : Int} {i : Nat} (hi : i < l.length) (h : l[i].length ≠ p.L.toNat) : fits p l size = false := by
  unfold fits
  rw [Bool.and_eq_false_iff]
  right
  rw [List.all_eq_false]
  exact ⟨l[i], List.getElem_mem hi, by simpa using h⟩
theorem fits_yes {p : P} {l : List (List UInt8)} {size : Int} (h : l.length = p.stripes size) (h2 : ∀ i, (hi : i < l.length) → l[i].length = p.L.toNat) : fits p l size = true := by
  unfold fits
  rw [Bool.and_eq_true]
  refine ⟨decide_eq_true h, List.all_eq_true.mpr fun r hr => ?_⟩
  obtain ⟨i, hi, rfl⟩ := List.mem_iff_getElem.mp hr
  exact decide_eq_true (h2 i hi)

/-- what the program tells: the stripes, and an error's number -/
def cutE (p : P) (b : List UInt8) : Int := if p.right then (if 240 < b.length then 7 else 0) else 1
def cutA (p : P) (b : List UInt8) : List (List UInt8) := if cutE p b = 0 then cut p b else []
def joinE (p : P) (l : List (List UInt8)) (size : Int) : Int := if p.right then (if size < 0 ∨ 240 < size then 2 else if fits p l size then 0 else 3) else 1
def joinA (p : P) (l : List (List UInt8)) (size : Int) : List UInt8 := if joinE p l size = 0 then join p.L.toNat l size.toNat else []
end Go.Proofs.Ytmeenipcfmeopaa.StripeM
