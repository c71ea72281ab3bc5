/- stores into bytes and into rows that the call has gathered -/
import Derived.Test.YtpljdjkmemojmaaMats
import Derived.Test.YtpljdjkmemojmaaFoot
set_option maxRecDepth 100000
namespace Go.Proofs.Ytpljdjkmemojmaa
open Go.RowKit

theorem Own.form {w : World} {base : Nat} {v : Value} {l : List UInt8} (h : Own w base v l) (h0 : 0 < l.length) : ∃ g cap, v = .slice (some ⟨g, 0, none⟩) l.length cap ∧ base ≤ g ∧ l.length ≤ cap ∧ cap ≤ maxLen := by
  rcases h.2 with ⟨_, h2⟩ | ⟨g, cap, cur, h1, h2, _, h4, h5, _⟩
  · omega
  · exact ⟨g, cap, h1, h2, h4, h5⟩
theorem OwnM.form {w : World} {base : Nat} {v : Value} {m : List (List UInt8)} (h : OwnM w base v m) (h0 : 0 < m.length) : ∃ g cap, v = .slice (some ⟨g, 0, none⟩) m.length cap ∧ base ≤ g ∧ g < w.heap.size ∧ m.length ≤ cap ∧ cap ≤ maxLen := by
  obtain ⟨vs, h, _⟩ := h
  rcases h.2 with ⟨_, h2⟩ | ⟨g, cap, cur, h1, h2, h3, h4, h5, _⟩
  · omega
  · exact ⟨g, cap, h1, h2, (Array.getElem?_eq_some_iff.1 h3).1, h4, h5⟩
/-- a store into bytes of the call's own -/
theorem Own.store {w : World} {base g n c : Nat} {l : List UInt8} (h : Own w base (.slice (some ⟨g, 0, none⟩) n c) l) {x : Nat} (hx : x < l.length) (y : UInt8) :
    w.cell? ⟨g, x, none⟩ = some (.int .u8 (l[x].toNat : Nat)) ∧ w.frozen? ⟨g, x, none⟩ = false ∧ Own (w.setCell ⟨g, x, none⟩ (.int .u8 (y.toNat : Nat))) base (.slice (some ⟨g, 0, none⟩) n c) (l.set x y) := by
  rcases h.2 with ⟨h1, _⟩ | ⟨g', cap, cur, h1, h2, h3, h4, h5, h6, h7⟩
  · injection h1 with h1; cases h1
  · injection h1 with h1 h1n h1c
    injection h1 with h1; injection h1 with h1; subst h1; subst h1n; subst h1c
    have hx' : x < cur.size := by rw [h6]; omega
    have hv : (cur.toList)[x]? = some (.int .u8 (l[x].toNat : Nat)) := by
      have := vals_get l x hx
      rw [← h7, List.getElem?_take, if_pos (by omega)] at this
      exact this
    refine ⟨?_, by simp [World.frozen?, h3], ⟨?_, .inr ⟨g, c, cur.setIfInBounds x (.int .u8 (y.toNat : Nat)), by rw [List.length_set], h2, ?_, by rw [List.length_set]; exact h4, h5, by rw [Array.size_setIfInBounds]; exact h6, ?_⟩⟩⟩
    · rw [cell_of_row w g x cur 5 (0, 0) h3, ← Array.getElem?_toList]; exact hv
    · rw [vals_len, Nat.mul_one]
    · simp [World.setCell, Array.getElem?_modify, h3]
    · rw [Array.toList_setIfInBounds, List.length_set, List.take_set, h7]
      unfold vals
      rw [List.map_set]
/-- a store of a row into rows that the call has gathered -/
theorem OwnM.store {w : World} {base : Nat} {v : Value} {m : List (List UInt8)} (h : OwnM w base v m) {i : Nat} (hi : i < m.length) {r : List UInt8} {A : Option Addr} {c rn : Nat} (hrn : r.length = rn) (hr : BytesAt w A r) (h1 : r.length ≤ c) (h2 : c ≤ maxLen) (hne : ∀ a, A = some a → v.ownBlock ≠ some a.block) :
    ∃ g cap, v = .slice (some ⟨g, 0, none⟩) m.length cap ∧ base ≤ g ∧ (∃ u, w.cell? ⟨g, i, none⟩ = some u) ∧ w.frozen? ⟨g, i, none⟩ = false ∧ OwnM (w.setCell ⟨g, i, none⟩ (.slice A rn c)) base v (m.set i r) := by
  subst hrn
  obtain ⟨vs, k1, k2⟩ := h
  rcases k1.2 with ⟨e1, e2⟩ | ⟨g, cap, cur, e1, e2, e3, e4, e5, e6, e7⟩
  · omega
  · subst e1
    have hx' : i < cur.size := by rw [e6]; omega
    have keep : ∀ (l : List UInt8) (B : Option Addr), BytesAt w B l → (0 < l.length → ∀ a, B = some a → Value.ownBlock (.slice (some ⟨g, 0, none⟩) m.length cap) ≠ some a.block) → BytesAt (w.setCell ⟨g, i, none⟩ (.slice A r.length c)) B l := fun l B hB hn => by
      by_cases h0 : 0 < l.length
      · refine hB.far _ _ fun a e e' => hn h0 a e ?_
        show some g = some a.block
        rw [e']
      · have : l = [] := List.eq_nil_of_length_eq_zero (by omega)
        subst this; exact BytesAt.nil _ _
    refine ⟨g, cap, rfl, e2, ⟨cur[i], ?_⟩, by simp [World.frozen?, e3], vs.set i (.slice A r.length c), ⟨?_, .inr ⟨g, cap, cur.setIfInBounds i (.slice A r.length c), by rw [List.length_set], e2, ?_, by rw [List.length_set]; exact e4, e5, by rw [Array.size_setIfInBounds]; exact e6, ?_⟩⟩, fun k hk => ?_⟩
    · rw [cell_of_row w g i cur 40 (0, 0) e3]; simp [hx']
    · rw [List.length_set, List.length_set]; exact k1.1
    · simp [World.setCell, Array.getElem?_modify, e3]
    · rw [Array.toList_setIfInBounds, List.length_set, List.take_set, e7]
    · have hk' : k < m.length := by rw [List.length_set] at hk; exact hk
      have hvs : vs.length = m.length := by have := k1.1; omega
      by_cases e : i = k
      · subst e
        rw [List.getElem_set_self]
        exact ⟨_, A, c, by rw [List.getElem?_set_self (by omega)], rfl, h1, h2, keep r A hr (fun _ => hne), fun _ => hne⟩
      · obtain ⟨u, B, d, q1, q2, q3, q4, q5, q6⟩ := k2 k hk'
        rw [List.getElem_set_ne e]
        exact ⟨u, B, d, by rw [List.getElem?_set_ne e]; exact q1, q2, q3, q4, keep _ _ q5 q6, q6⟩

/-- a list that is put together place by place, the first j places told -/
def fillTo {α : Type} (d : α) (l : List α) (j : Nat) : List α := l.take j ++ List.replicate (l.length - j) d
section
variable {α : Type} (d : α) (l : List α)
theorem fillTo_len {j : Nat} (h : j ≤ l.length) : (fillTo d l j).length = l.length := by unfold fillTo; simp; omega
theorem fillTo_zero : fillTo d l 0 = List.replicate l.length d := by unfold fillTo; simp
theorem fillTo_done : fillTo d l l.length = l := by unfold fillTo; simp
theorem fillTo_succ {k : Nat} (h : k < l.length) : (fillTo d l k).set k l[k] = fillTo d l (k + 1) := by
  unfold fillTo
  have hl : (l.take k).length = k := by rw [List.length_take]; omega
  have hr : List.replicate (l.length - k) d = d :: List.replicate (l.length - (k + 1)) d := by
    rw [show l.length - k = (l.length - (k + 1)) + 1 from by omega, List.replicate_succ]
  rw [List.set_append_right _ _ (by omega), hl, Nat.sub_self, hr, List.set_cons_zero, List.take_succ_eq_append_getElem h, List.append_assoc]; rfl
end
/-- rows that were made, none told yet -/
theorem OwnM.nils (w : World) (base n : Nat) (hb : base ≤ w.heap.size) (hn : n ≤ maxLen) : OwnM (w.alloc (.cells (List.replicate n (Value.slice none 0 0)).toArray 40)) base (.slice (some ⟨w.heap.size, 0, none⟩) n n) (List.replicate n []) := by
  refine ⟨List.replicate n (.slice none 0 0), ⟨by simp, .inr ⟨w.heap.size, n, (List.replicate n (Value.slice none 0 0)).toArray, by simp, hb, heap_alloc_new w _, by simp, hn, by simp, by simp⟩⟩, fun i hi => ?_⟩
  have hi' : i < n := by simpa using hi
  refine ⟨_, none, 0, by rw [List.getElem?_replicate, if_pos hi'], by simp, by simp, Nat.zero_le _, ?_, fun h => by simp at h⟩
  rw [List.getElem_replicate]; exact BytesAt.nil _ _

/-- an append's footprint: the list's own block, if it lies below -/
theorem Keeps.own {F : Nat → Prop} {a w w' : World} {r : Option Nat} (h : Keeps F a w) (hg : w.grownBy w' r) (hr : ∀ k, r = some k → F k ∨ a.heap.size ≤ k) : Keeps F a w' :=
  ⟨hg.os.trans h.os, hg.tape.trans h.tape, hg.output.trans h.output, Nat.le_trans h.size hg.size, fun i hi hn => (hg.block i (Nat.lt_of_lt_of_le hi h.size) (fun e => by
    rcases hr i e.symm with h1 | h1
    · exact hn h1
    · omega)).trans (h.block i hi hn)⟩
end Go.Proofs.Ytpljdjkmemojmaa
