/- plain mathematics of merged texts: a map's keys, sorted, are the document's -/
import Derived.Test.YtnjdioghjjaegaaLabelMath
import Derived.Sort.KeysCollected
import Derived.Maps.Views
set_option maxRecDepth 100000
namespace Go.Proofs.Ytnjdioghjjaegaa.LabM
open Go.Maps

theorem less_lt (a b : List UInt8) : less a b = true ↔ a < b := by
  induction a generalizing b with
  | nil =>
    rcases b with _ | ⟨y, b⟩
    · simp [less]
    · simp [less]
  | cons x a ih =>
    rcases b with _ | ⟨y, b⟩
    · simp [less_nil]
    · rw [less, List.cons_lt_cons_iff]
      by_cases e : x = y
      · rw [if_pos e, ih]
        subst e
        constructor
        · exact fun h => .inr ⟨rfl, h⟩
        · rintro (h | ⟨_, h⟩)
          · exact absurd (UInt8.lt_iff_toNat_lt.1 h) (by omega)
          · exact h
      · rw [if_neg e, decide_eq_true_eq]
        constructor
        · exact fun h => .inl (UInt8.lt_iff_toNat_lt.2 h)
        · rintro (h | ⟨h, _⟩)
          · exact UInt8.lt_iff_toNat_lt.1 h
          · exact absurd h e
theorem bytes_inj {s t : ByteArray} (h : s.data.toList = t.data.toList) : s = t := by
  cases s; cases t
  simp at h
  rw [h]
theorem lessS_tri (s t : ByteArray) : lessS s t = true ∨ s = t ∨ lessS t s = true := by
  rcases less_tri s.data.toList t.data.toList with h | h | h
  · exact .inl h
  · exact .inr (.inl (bytes_inj h))
  · exact .inr (.inr h)
theorem ahead_cons (x : ByteArray) (l : List ByteArray) (s : ByteArray) : ahead (x :: l) s = if lessS x s = true then ahead l s + 1 else 0 := by
  unfold ahead
  rw [List.takeWhile_cons]
  split <;> simp_all
theorem add_cons (x : ByteArray) (l : List ByteArray) (s : ByteArray) : add (x :: l) s = if lessS x s = true then x :: add l s else if x = s then x :: l else s :: x :: l := by
  unfold add
  rw [ahead_cons]
  by_cases h : lessS x s = true
  · rw [if_pos h, if_pos h]
    simp only [List.getElem?_cons_succ]
    split <;> simp
  · rw [if_neg h, if_neg h]
    simp only [List.getElem?_cons_zero]
    by_cases e : x = s
    · simp [e]
    · simp [e]
theorem mem_add (l : List ByteArray) (s x : ByteArray) : x ∈ add l s ↔ x ∈ l ∨ x = s := by
  induction l with
  | nil => simp [add, ahead]
  | cons y l ih =>
    rw [add_cons]
    split
    · rw [List.mem_cons, ih, List.mem_cons]; constructor
      · rintro (h | h | h)
        · exact .inl (.inl h)
        · exact .inl (.inr h)
        · exact .inr h
      · rintro ((h | h) | h)
        · exact .inl h
        · exact .inr (.inl h)
        · exact .inr (.inr h)
    · split
      · rename_i e
        constructor
        · exact fun h => .inl h
        · rintro (h | h)
          · exact h
          · rw [h, ← e]; exact List.mem_cons_self
      · rw [List.mem_cons]; constructor
        · rintro (h | h)
          · exact .inr h
          · exact .inl h
        · rintro (h | h)
          · exact .inr h
          · exact .inl h
def Up (l : List ByteArray) : Prop := l.Pairwise fun a b => lessS a b = true
theorem up_add {l : List ByteArray} (h : Up l) (s : ByteArray) : Up (add l s) := by
  induction l with
  | nil => simp [add, ahead, Up]
  | cons y l ih =>
    obtain ⟨h1, h2⟩ := List.pairwise_cons.1 h
    rw [add_cons]
    split
    · rename_i hy
      refine List.pairwise_cons.2 ⟨fun z hz => ?_, ih h2⟩
      rcases (mem_add l s z).1 hz with hz | hz
      · exact h1 z hz
      · rw [hz]; exact hy
    · rename_i hy
      split
      · exact h
      · rename_i hne
        have hs : lessS s y = true := by
          rcases lessS_tri y s with h | h | h
          · exact absurd h hy
          · exact absurd h hne
          · exact h
        refine List.pairwise_cons.2 ⟨fun z hz => ?_, h⟩
        rcases List.mem_cons.1 hz with hz | hz
        · rw [hz]; exact hs
        · exact less_trans hs (h1 z hz)
theorem mem_addAll (l ss : List ByteArray) (x : ByteArray) : x ∈ addAll l ss ↔ x ∈ l ∨ x ∈ ss := by
  induction ss generalizing l with
  | nil => simp [addAll]
  | cons s ss ih =>
    show x ∈ addAll (add l s) ss ↔ _
    rw [ih, mem_add, List.mem_cons, or_assoc]
theorem up_addAll {l : List ByteArray} (h : Up l) (ss : List ByteArray) : Up (addAll l ss) := by
  induction ss generalizing l with
  | nil => exact h
  | cons s ss ih => exact ih (up_add h s)
theorem merge_flat (ls : List (List ByteArray)) : merge ls = addAll [] ls.flatten := by
  unfold merge addAll
  rw [List.foldl_flatten]
theorem up_merge (ls : List (List ByteArray)) : Up (merge ls) := by rw [merge_flat]; exact up_addAll List.Pairwise.nil _
theorem mem_merge (ls : List (List ByteArray)) (x : ByteArray) : x ∈ merge ls ↔ x ∈ ls.flatten := by rw [merge_flat, mem_addAll]; simp
def bytesOf (l : List ByteArray) : List (List UInt8) := l.map fun s => s.data.toList
theorem bytesOf_lt {l : List ByteArray} (h : Up l) : (bytesOf l).Pairwise fun a b => a < b := by
  unfold bytesOf
  rw [List.pairwise_map]
  exact h.imp fun {a b} h => (less_lt _ _).1 h
theorem nodup_of_lt {l : List (List UInt8)} (h : l.Pairwise fun a b => a < b) : l.Nodup := h.imp fun {a b} h e => by subst e; exact absurd h (List.lt_irrefl a)
theorem sort_self {l : List (List UInt8)} (h : l.Pairwise fun a b => a < b) : l.mergeSort leB = l := by
  refine List.mergeSort_of_pairwise (h.imp fun {a b} h => ?_)
  simp only [leB, decide_eq_true_eq]
  exact List.le_of_lt h
theorem strs_setOf {H : Type} (u : DataW H) (xs : List (List UInt8)) (es : List (Lit × DataW H)) (he : setOf u (xs.map Lit.string) = .map es) : ∀ p ∈ es, ∃ x, p.1 = .string x := by
  have key : ∀ (ys : List (List UInt8)) (fs : List (Lit × DataW H)), (∀ p ∈ fs, ∃ x, p.1 = Lit.string x) → ∃ gs : List (Lit × DataW H), (ys.map Lit.string).foldl (fun (m : DataW H) x => m.put x u) (DataW.map fs) = DataW.map gs ∧ ∀ p ∈ gs, ∃ x, p.1 = Lit.string x := by
    intro ys
    induction ys with
    | nil => exact fun fs hf => ⟨fs, rfl, hf⟩
    | cons y ys ih =>
      intro fs hf
      rw [List.map_cons, List.foldl_cons]
      refine ih _ fun p hp => ?_
      rcases List.mem_cons.1 ((WideShapes.insert_perm (Lit.string y, u) _).mem_iff.1 hp) with h | h
      · exact ⟨y, by rw [h]⟩
      · exact hf p (List.mem_filter.1 h).1
  obtain ⟨gs, h1, h2⟩ := key xs [] (fun p hp => absurd hp (by simp))
  unfold setOf at he
  rw [h1] at he
  injection he with he
  rw [← he]
  exact h2
/-- what a map of the texts has as its keys, sorted -/
theorem sorted_keys {H : Type} (u : DataW H) (xs : List (List UInt8)) (l : List ByteArray) (h : Up l) (hm : ∀ x, x ∈ bytesOf l ↔ x ∈ xs) (ss : List (List UInt8)) (hs : ss.Perm (strKeys (setOf u (xs.map Lit.string)))) :
    ss.mergeSort leB = bytesOf l ∧ ss.length = l.length := by
  have hk : ∀ x ∈ xs.map Lit.string, WideAt.IsKeyLit x := fun x hx => by
    obtain ⟨y, _, rfl⟩ := List.mem_map.1 hx
    trivial
  obtain ⟨es, hes, hp⟩ := tidy_setOf u _ hk
  have hlt := bytesOf_lt h
  have hstr := fun p hp' => strs_setOf u xs es hes p hp'
  have hperm : (bytesOf l).Perm (strKeys (setOf u (xs.map Lit.string))) := by
    rw [hes]
    refine perm_strKeys hp hstr (nodup_of_lt hlt) fun x => ?_
    rw [← hes, has_setOf u _ _ hk, List.any_map, hm x, List.any_eq_true]
    constructor
    · exact fun hx => ⟨x, hx, by simp [Lit.sameKey]⟩
    · rintro ⟨y, hy, e⟩
      simp [Lit.sameKey] at e
      rw [← e]; exact hy
  have hp2 := hs.trans hperm.symm
  refine ⟨?_, by rw [hp2.length_eq]; simp [bytesOf]⟩
  rw [mergeSort_of_perm hp2, sort_self hlt]
theorem size_keys {H : Type} (u : DataW H) (xs : List (List UInt8)) : Maps.size (setOf u (xs.map Lit.string)) ≤ xs.length := by
  have hk : ∀ x ∈ xs.map Lit.string, WideAt.IsKeyLit x := fun x hx => by
    obtain ⟨y, _, rfl⟩ := List.mem_map.1 hx
    trivial
  rw [size_setOf u _ hk]
  have : ∀ (ks acc : List Lit), (ks.foldl addKey acc).length ≤ acc.length + ks.length := by
    intro ks
    induction ks with
    | nil => intro acc; simp
    | cons k ks ih =>
      intro acc
      rw [List.foldl_cons, List.length_cons]
      refine Nat.le_trans (ih _) ?_
      unfold addKey
      split
      · omega
      · rw [List.length_append]; simp; omega
  have h2 := this (xs.map Lit.string) []
  simpa using h2
end Go.Proofs.Ytnjdioghjjaegaa.LabM
