/- stores into bytes and into rows that the call has gathered -/
import Derived.Test.YthmllbijfgimcaaMats
import Derived.Test.YthmllbijfgimcaaFoot
set_option maxRecDepth 100000
namespace Go.Proofs.Ythmllbijfgimcaa
open Go.RowKit

theorem Own.form {w : World} {base : Nat} {v : Value} {l : List UInt8} (h : Own w base v l) (h0 : 0 < l.length) : ∃ g cap, v = .slice (some ⟨g, 0, none⟩) l.length cap ∧ base ≤ g ∧ l.length ≤ cap ∧ cap ≤ maxLen := by
  rcases h.2 with ⟨_, h2⟩ | ⟨g, cap, cur, h1, h2, _, h4, h5, _⟩
  · omega
  · exact ⟨g, cap, h1, h2, h4, h5⟩
/-- a store into bytes of the call's own -/
theorem Own.store {w : World} {base g n c : Nat} {l : List UInt8} (h : Own w base (.slice (some ⟨g, 0, none⟩) n c) l) {x : Nat} (hx : x < l.length) (y : UInt8) :
    w.cell? ⟨g, x, none⟩ = some (.int .u8 (l[x].toNat : Nat)) ∧ w.frozen? ⟨g, x, none⟩ = false ∧ Own (w.setCell ⟨g, x, none⟩ (.int .u8 (y.toNat : Nat))) base (.slice (some ⟨g, 0, none⟩) n c) (l.set x y) := by
  rcases h.2 with ⟨h1, _⟩ | ⟨g', cap, cur, h1, h2, h3, h4, h5, h6, h7⟩
  · injection h1 with h1; cases h1
  · injection h1 with h1 h1n h1c
    injection h1 with h1; injection h1 with h1; subst h1; subst h1n; subst h1c
    have hx' : x < cur.size := by rw [h6]; omega
    have hv : (cur.toList)[x]? = some (.int .u8 (l[x].toNat : Nat)) := by
      have := vals_get l x hx
      rw [← h7, List.getElem?_take, if_pos (by omega)] at this
      exact this
    refine ⟨?_, by simp [World.frozen?, h3], ⟨?_, .inr ⟨g, c, cur.setIfInBounds x (.int .u8 (y.toNat : Nat)), by rw [List.length_set], h2, ?_, by rw [List.length_set]; exact h4, h5, by rw [Array.size_setIfInBounds]; exact h6, ?_⟩⟩⟩
    · rw [cell_of_row w g x cur 5 (0, 0) h3, ← Array.getElem?_toList]; exact hv
    · rw [vals_len, Nat.mul_one]
    · simp [World.setCell, Array.getElem?_modify, h3]
    · rw [Array.toList_setIfInBounds, List.length_set, List.take_set, h7]
      unfold vals
      rw [List.map_set]
/-- a list that is put together place by place, the first j places told -/
def fillTo {α : Type} (d : α) (l : List α) (j : Nat) : List α := l.take j ++ List.replicate (l.length - j) d
section
variable {α : Type} (d : α) (l : List α)
theorem fillTo_len {j : Nat} (h : j ≤ l.length) : (fillTo d l j).length = l.length := by unfold fillTo; simp; omega
theorem fillTo_zero : fillTo d l 0 = List.replicate l.length d := by unfold fillTo; simp
theorem fillTo_done : fillTo d l l.length = l := by unfold fillTo; simp
theorem fillTo_succ {k : Nat} (h : k < l.length) : (fillTo d l k).set k l[k] = fillTo d l (k + 1) := by
  unfold fillTo
  have hl : (l.take k).length = k := by rw [List.length_take]; omega
  have hr : List.replicate (l.length - k) d = d :: List.replicate (l.length - (k + 1)) d := by
    rw [show l.length - k = (l.length - (k + 1)) + 1 from by omega, List.replicate_succ]
  rw [List.set_append_right _ _ (by omega), hl, Nat.sub_self, hr, List.set_cons_zero, List.take_succ_eq_append_getElem h, List.append_assoc]; rfl
end
/-- an append's footprint: the list's own block, if it lies below -/
theorem Keeps.own {F : Nat → Prop} {a w w' : World} {r : Option Nat} (h : Keeps F a w) (hg : w.grownBy w' r) (hr : ∀ k, r = some k → F k ∨ a.heap.size ≤ k) : Keeps F a w' :=
  ⟨hg.os.trans h.os, hg.tape.trans h.tape, hg.output.trans h.output, Nat.le_trans h.size hg.size, fun i hi hn => (hg.block i (Nat.lt_of_lt_of_le hi h.size) (fun e => by
    rcases hr i e.symm with h1 | h1
    · exact hn h1
    · omega)).trans (h.block i hi hn)⟩
end Go.Proofs.Ythmllbijfgimcaa
