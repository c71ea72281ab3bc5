/- lists of pairs of the call's own: one pair, or one number of a pair, is written in place -/
import Derived.Test.YthmllbijfgimcaaPairs
import Derived.Deep.MidRow
set_option maxRecDepth 100000
namespace Go.Proofs.Ythmllbijfgimcaa.Pairs
open Go.RowKit

theorem flat_set1 : ∀ (l : List I2) (k : Nat) (h : k < l.length) (z : Int), (flat l).set (k * 2) (.int .i64 z) = flat (l.set k (z, l[k].2)) := fun l => by
  induction l with
  | nil => intro k h; simp at h
  | cons x l ih =>
    intro k h z
    rcases k with _ | k
    · rfl
    · have := ih k (by simpa using h) z
      rw [show (k + 1) * 2 = k * 2 + 1 + 1 by omega, flat_cons, List.set_cons_succ, List.set_cons_succ, this]
      rfl
theorem flat_set2 : ∀ (l : List I2) (k : Nat) (h : k < l.length) (z : Int), (flat l).set (k * 2 + 1) (.int .i64 z) = flat (l.set k (l[k].1, z)) := fun l => by
  induction l with
  | nil => intro k h; simp at h
  | cons x l ih =>
    intro k h z
    rcases k with _ | k
    · rfl
    · have := ih k (by simpa using h) z
      rw [show (k + 1) * 2 + 1 = k * 2 + 1 + 1 + 1 by omega, flat_cons, List.set_cons_succ, List.set_cons_succ, this]
      rfl
section
variable {w : World} {base g n c : Nat} {e : TypeId} {l : List I2}
theorem OwnPr.block (h : OwnPr w base e (.slice (some ⟨g, 0, none⟩) n c) l) : ∃ cur : Array Value, w.heap[g]? = some (.cells cur e (0, 0)) ∧ l.length = n ∧ n ≤ c ∧ cur.size = c * 2 ∧ cur.toList.take (n * 2) = flat l := by
  rcases h.2 with ⟨e1, _⟩ | ⟨g', cap, cur, e1, _, h3, h4, h5, h6, h7⟩
  · cases e1
  · injection e1 with e1 e2 e3
    injection e1 with e1; injection e1 with e1; subst e1; subst e3; subst e2
    exact ⟨cur, h3, rfl, h4, h6, h7⟩
theorem OwnPr.write (h : OwnPr w base e (.slice (some ⟨g, 0, none⟩) n c) l) (j : Nat) (z : Int) {l' : List I2} (hl : l'.length = l.length) (hf : (flat l).set j (.int .i64 z) = flat l') : OwnPr (w.setCell ⟨g, j, none⟩ (.int .i64 z)) base e (.slice (some ⟨g, 0, none⟩) n c) l' := by
  rcases h.2 with ⟨e1, _⟩ | ⟨g', cap, cur, e1, hb, h3, h4, h5, h6, h7⟩
  · cases e1
  · injection e1 with e1 e2 e3
    injection e1 with e1; injection e1 with e1; subst e1; subst e3; subst e2
    have hs : (w.setCell ⟨g, j, none⟩ (.int .i64 z)).heap[g]? = _ := heap_setCell_same w g j _ _ _ h3
    refine ⟨by rw [flat_len], .inr ⟨g, c, _, by rw [hl], hb, hs, by rw [hl]; exact h4, h5, by simpa using h6, ?_⟩⟩
    rw [hl, Array.toList_setIfInBounds, List.take_set, h7, hf]
theorem OwnPr.set1 (h : OwnPr w base e (.slice (some ⟨g, 0, none⟩) n c) l) {k : Nat} (hk : k < l.length) (z : Int) : OwnPr (w.setCell ⟨g, k * 2, none⟩ (.int .i64 z)) base e (.slice (some ⟨g, 0, none⟩) n c) (l.set k (z, l[k].2)) :=
  h.write _ z (by rw [List.length_set]) (flat_set1 l k hk z)
theorem OwnPr.set2 (h : OwnPr w base e (.slice (some ⟨g, 0, none⟩) n c) l) {k : Nat} (hk : k < l.length) (x : I2) : OwnPr (w.setCells g (k * 2) [.int .i64 x.1, .int .i64 x.2]) base e (.slice (some ⟨g, 0, none⟩) n c) (l.set k x) := by
  have h1 := h.set1 hk x.1
  have hk2 : k < (l.set k (x.1, l[k].2)).length := by rw [List.length_set]; exact hk
  have h2 := h1.write (k * 2 + 1) x.2 (l' := l.set k x) (by rw [List.length_set, List.length_set]) (by
    rw [flat_set2 _ k hk2, List.set_set]; simp)
  exact h2
theorem OwnPr.at_ (h : OwnPr w base e (.slice (some ⟨g, 0, none⟩) n c) l) {k : Nat} (hk : k < l.length) : w.cell? ⟨g, k * 2, none⟩ = some (.int .i64 l[k].1) ∧ w.cell? ⟨g, k * 2 + 1, none⟩ = some (.int .i64 l[k].2) := by
  obtain ⟨A, d, hv, _, _, hp, _⟩ := h.pairs
  injection hv with hv _ _
  subst hv
  obtain ⟨b, o, e1, c0, c1⟩ := hp k hk
  injection e1 with e1; injection e1 with q1 q2; subst q1; subst q2
  rw [Nat.zero_add] at c0 c1
  exact ⟨c0, c1⟩
theorem OwnPr.fr (h : OwnPr w base e (.slice (some ⟨g, 0, none⟩) n c) l) (i : Nat) : w.frozen? ⟨g, i, none⟩ = false := by
  obtain ⟨cur, h3, _⟩ := h.block
  simp [World.frozen?, h3]
theorem OwnPr.there (h : OwnPr w base e (.slice (some ⟨g, 0, none⟩) n c) l) {k : Nat} (hk : k < l.length) : w.there g (k * 2) 2 := fun j hj => by
  obtain ⟨c0, c1⟩ := h.at_ hk
  rcases (show j = 0 ∨ j = 1 by omega) with rfl | rfl
  · exact ⟨by rw [Nat.add_zero, c0]; rfl, h.fr _⟩
  · exact ⟨by rw [c1]; rfl, h.fr _⟩
theorem keeps_set2 (w : World) (g o : Nat) (a b : Value) : Keeps (fun k => k = g) w (w.setCells g o [a, b]) :=
  (Keeps.set (fun k => k = g) w ⟨g, o, none⟩ a rfl).trans (.set (fun k => k = g) _ ⟨g, o + 1, none⟩ b rfl)
end
end Go.Proofs.Ythmllbijfgimcaa.Pairs
