/- plain mathematics of names: texts as lists of bytes -/
import Derived.Test.YtjoocjkakgjgmaaMem
import Derived.Test.YtjoocjkakgjgmaaMMA
set_option maxRecDepth 100000
namespace Go.Proofs.Ytjoocjkakgjgmaa.LabM

def okc (i : Nat) (c : UInt8) : Bool := (decide (97 ≤ c.toNat) && decide (c.toNat ≤ 122)) || (decide (48 ≤ c.toNat) && decide (c.toNat ≤ 57)) || (decide (c.toNat = 45) && decide (i ≠ 0))
/-- is it a name -/
def right (s : List UInt8) : Bool := decide (1 ≤ s.length) && decide (s.length ≤ 16) && (List.range s.length).all fun i => okc i (s.getD i 0)
theorem right_iff (s : List UInt8) : right s = true ↔ 1 ≤ s.length ∧ s.length ≤ 16 ∧ ∀ i, (h : i < s.length) → okc i s[i] = true := by
  unfold right
  simp only [Bool.and_eq_true, decide_eq_true_eq, List.all_eq_true, List.mem_range]
  constructor
  · rintro ⟨⟨h1, h2⟩, h3⟩
    refine ⟨h1, h2, fun i hi => ?_⟩
    have := h3 i hi
    rwa [List.getD, List.getElem?_eq_getElem hi, Option.getD_some] at this
  · rintro ⟨h1, h2, h3⟩
    refine ⟨⟨h1, h2⟩, fun i hi => ?_⟩
    rw [List.getD, List.getElem?_eq_getElem hi, Option.getD_some]
    exact h3 i hi
theorem right_short {s : List UInt8} (h : s.length < 1 ∨ 16 < s.length) : right s = false := by
  rcases hb : right s with _ | _
  · rfl
  · have := (right_iff s).1 hb; omega
theorem right_at {s : List UInt8} {i : Nat} (h : i < s.length) (hc : okc i s[i] = false) : right s = false := by
  rcases hb : right s with _ | _
  · rfl
  · have := ((right_iff s).1 hb).2.2 i h; rw [hc] at this; cases this
/-- which of two texts is less -/
def less : List UInt8 → List UInt8 → Bool
  | _, [] => false
  | [], _ :: _ => true
  | x :: a, y :: b => if x = y then less a b else decide (x.toNat < y.toNat)
theorem less_nil (a : List UInt8) : less a [] = false := by cases a <;> rfl
theorem less_take {a b : List UInt8} {k : Nat} (ha : k ≤ a.length) (hb : k ≤ b.length) (h : a.take k = b.take k) : less a b = less (a.drop k) (b.drop k) := by
  induction k generalizing a b with
  | zero => rfl
  | succ k ih =>
    rcases a with _ | ⟨x, a⟩
    · simp at ha
    rcases b with _ | ⟨y, b⟩
    · simp at hb
    simp only [List.take_succ_cons, List.cons.injEq] at h
    obtain ⟨rfl, h⟩ := h
    rw [less, if_pos rfl, ih (by simpa using ha) (by simpa using hb) h]
    rfl
theorem less_at {a b : List UInt8} {k : Nat} (ha : k < a.length) (hb : k < b.length) (h : a.take k = b.take k) (hne : a[k] ≠ b[k]) : less a b = decide (a[k].toNat < b[k].toNat) := by
  rw [less_take (by omega) (by omega) h, List.drop_eq_getElem_cons ha, List.drop_eq_getElem_cons hb, less, if_neg hne]
theorem less_end {a b : List UInt8} {k : Nat} (ha : k ≤ a.length) (hb : k ≤ b.length) (h : a.take k = b.take k) (hend : k = a.length ∨ k = b.length) : less a b = decide (a.length < b.length) := by
  rw [less_take ha hb h]
  rcases hend with e | e
  · rw [List.drop_eq_nil_of_le (by omega)]
    by_cases hk : k < b.length
    · rw [List.drop_eq_getElem_cons hk, less, decide_eq_true (by omega)]
    · rw [List.drop_eq_nil_of_le (by omega), less, decide_eq_false (by omega)]
  · rw [List.drop_eq_nil_of_le (show b.length ≤ k by omega), less_nil, decide_eq_false (by omega)]
theorem less_irrefl (a : List UInt8) : less a a = false := by
  induction a with
  | nil => rfl
  | cons x a ih => rw [less, if_pos rfl, ih]
theorem less_tri (a b : List UInt8) : less a b = true ∨ a = b ∨ less b a = true := by
  induction a generalizing b with
  | nil => rcases b with _ | ⟨y, b⟩; exact .inr (.inl rfl); exact .inl rfl
  | cons x a ih =>
    rcases b with _ | ⟨y, b⟩
    · exact .inr (.inr rfl)
    · by_cases e : x = y
      · subst e
        rcases ih b with h | h | h
        · exact .inl (by rw [less, if_pos rfl]; exact h)
        · exact .inr (.inl (by rw [h]))
        · exact .inr (.inr (by rw [less, if_pos rfl]; exact h))
      · have hn : x.toNat ≠ y.toNat := fun h => e (UInt8.toNat_inj.1 h)
        rcases Nat.lt_or_ge x.toNat y.toNat with h | h
        · exact .inl (by rw [less, if_neg e]; exact decide_eq_true h)
        · exact .inr (.inr (by rw [less, if_neg (Ne.symm e)]; exact decide_eq_true (by omega)))
theorem less_trans {a b c : List UInt8} (h1 : less a b = true) (h2 : less b c = true) : less a c = true := by
  induction a generalizing b c with
  | nil =>
    rcases c with _ | ⟨z, c⟩
    · rw [less_nil] at h2; cases h2
    · rfl
  | cons x a ih =>
    rcases b with _ | ⟨y, b⟩
    · rw [less_nil] at h1; cases h1
    rcases c with _ | ⟨z, c⟩
    · rw [less_nil] at h2; cases h2
    rw [less] at h1 h2 ⊢
    by_cases e1 : x = y
    · subst e1
      rw [if_pos rfl] at h1
      by_cases e2 : x = z
      · rw [if_pos e2] at h2 ⊢; exact ih h1 h2
      · rw [if_neg e2] at h2 ⊢; exact h2
    · rw [if_neg e1, decide_eq_true_eq] at h1
      by_cases e2 : y = z
      · subst e2
        rw [if_neg e1]; exact decide_eq_true h1
      · rw [if_neg e2, decide_eq_true_eq] at h2
        have : x ≠ z := fun e => by subst e; omega
        rw [if_neg this]; exact decide_eq_true (by omega)
theorem less_asymm {a b : List UInt8} (h : less a b = true) : less b a = false := by
  rcases hb : less b a with _ | _
  · rfl
  · have := less_trans h hb; rw [less_irrefl] at this; cases this

/-! a name as bytes -/
def putB (s : List UInt8) : List UInt8 := if right s = true then UInt8.ofNat s.length :: (s ++ List.replicate (16 - s.length) 0) else List.replicate 17 0
theorem right_len {s : List UInt8} (h : right s = true) : 1 ≤ s.length ∧ s.length ≤ 16 := ⟨((right_iff s).1 h).1, ((right_iff s).1 h).2.1⟩
theorem putB_len (s : List UInt8) : (putB s).length = 17 := by
  unfold putB; split
  · rename_i h; have := right_len h; simp; omega
  · simp
def putTo (s : List UInt8) (k : Nat) : List UInt8 := UInt8.ofNat s.length :: (s.take k ++ List.replicate (16 - k) 0)
theorem putTo_len (s : List UInt8) (k : Nat) (h : k ≤ s.length) (h2 : s.length ≤ 16) : (putTo s k).length = 17 := by simp [putTo]; omega
theorem putTo_step (s : List UInt8) (k : Nat) (h : k < s.length) (h2 : s.length ≤ 16) : (putTo s k).set (1 + k) s[k] = putTo s (k + 1) := by
  unfold putTo
  rw [Nat.add_comm 1 k, List.set_cons_succ, List.set_append_right _ _ (by simp; omega), List.length_take, Nat.min_eq_left (by omega), Nat.sub_self, List.take_succ_eq_append_getElem h]
  obtain ⟨m, hm⟩ : ∃ m, 16 - k = m + 1 := ⟨15 - k, by omega⟩
  rw [hm, show 16 - (k + 1) = m from by omega, List.replicate_succ, List.set_cons_zero, List.append_assoc]; rfl
theorem putTo_done (s : List UInt8) (h : right s = true) : putTo s s.length = putB s := by unfold putTo putB; rw [if_pos h, List.take_length]
/-- the name that 17 bytes are, and whether they are one's -/
def nameAt (b : List UInt8) : List UInt8 := (b.drop 1).take (b.getD 0 0).toNat
def getOk (b : List UInt8) : Bool := decide ((b.getD 0 0).toNat ≤ 16) && right (nameAt b) && (b.drop (1 + (b.getD 0 0).toNat)).all fun x => x == 0
theorem getOk_iff (b : List UInt8) : getOk b = true ↔ (b.getD 0 0).toNat ≤ 16 ∧ right (nameAt b) = true ∧ ∀ i, (h : i < b.length) → 1 + (b.getD 0 0).toNat ≤ i → b[i] = 0 := by
  unfold getOk
  simp only [Bool.and_eq_true, decide_eq_true_eq, List.all_eq_true, beq_iff_eq, and_assoc]
  constructor
  · rintro ⟨h1, h2, h3⟩
    refine ⟨h1, h2, fun i hi hn => h3 _ ?_⟩
    rw [List.mem_iff_getElem]
    exact ⟨i - (1 + (b.getD 0 0).toNat), by rw [List.length_drop]; omega, by rw [List.getElem_drop]; congr 1; omega⟩
  · rintro ⟨h1, h2, h3⟩
    refine ⟨h1, h2, fun x hx => ?_⟩
    obtain ⟨i, hi, rfl⟩ := List.mem_iff_getElem.1 hx
    rw [List.getElem_drop]
    rw [List.length_drop] at hi
    exact h3 _ (by omega) (by omega)
theorem getOk_not {b : List UInt8} (h : ¬ ((b.getD 0 0).toNat ≤ 16 ∧ right (nameAt b) = true ∧ ∀ i, (h : i < b.length) → 1 + (b.getD 0 0).toNat ≤ i → b[i] = 0)) : getOk b = false := by
  rcases hb : getOk b with _ | _
  · rfl
  · exact absurd ((getOk_iff b).1 hb) h
def getS (b : List UInt8) : ByteArray := if getOk b = true then ⟨(nameAt b).toArray⟩ else ⟨#[]⟩
/-- what is read of what was put -/
theorem get_put {s : List UInt8} (h : right s = true) : getOk (putB s) = true ∧ nameAt (putB s) = s := by
  obtain ⟨h1, h2⟩ := right_len h
  have e : putB s = UInt8.ofNat s.length :: (s ++ List.replicate (16 - s.length) 0) := by unfold putB; rw [if_pos h]
  have e0 : ((putB s).getD 0 0).toNat = s.length := by
    rw [e]; simp only [List.getD_cons_zero]
    rw [UInt8.toNat_ofNat_of_lt' (by simp only [UInt8.size]; omega)]
  have en : nameAt (putB s) = s := by
    unfold nameAt; rw [e0, e, List.drop_succ_cons, List.drop_zero, List.take_left]
  refine ⟨(getOk_iff _).2 ⟨by omega, by rw [en]; exact h, fun i hi hn => ?_⟩, en⟩
  rw [e0] at hn
  obtain ⟨j, rfl⟩ : ∃ j, i = j + 1 := ⟨i - 1, by omega⟩
  simp only [e, List.getElem_cons_succ]
  rw [List.getElem_append_right (by omega)]
  simp
theorem get_none {s : List UInt8} (h : right s = false) : getOk (putB s) = false := by
  refine getOk_not fun h' => ?_
  have e : putB s = List.replicate 17 0 := by unfold putB; rw [if_neg (by rw [h]; simp)]
  have : right (nameAt (putB s)) = false := by rw [e]; decide +kernel
  rw [this] at h'
  exact absurd h'.2.1 (by simp)

/-! rising lists -/
def lessS (a b : ByteArray) : Bool := less a.data.toList b.data.toList
/-- how many at the beginning are less than s -/
def ahead (l : List ByteArray) (s : ByteArray) : Nat := (l.takeWhile fun x => lessS x s).length
theorem ahead_le (l : List ByteArray) (s : ByteArray) : ahead l s ≤ l.length := (List.takeWhile_sublist _).length_le
theorem ahead_eq {l : List ByteArray} {s : ByteArray} {k : Nat} (hk : k ≤ l.length) (h1 : ∀ j, (h : j < l.length) → j < k → lessS l[j] s = true) (h2 : (h : k < l.length) → lessS l[k] s = false) : ahead l s = k := by
  induction l generalizing k with
  | nil => simp at hk; subst hk; rfl
  | cons x l ih =>
    rcases k with _ | k
    · have := h2 (by simp)
      unfold ahead
      rw [List.takeWhile_cons]
      simp only [List.getElem_cons_zero] at this
      rw [this]; rfl
    · have h0 := h1 0 (by simp) (by omega)
      simp only [List.getElem_cons_zero] at h0
      have := ih (k := k) (by simpa using hk) (fun j hj hjk => by have := h1 (j + 1) (by simpa using hj) (by omega); simpa using this) (fun h => by have := h2 (by simpa using h); simpa using this)
      unfold ahead at this ⊢
      rw [List.takeWhile_cons, h0]
      simp [this]
def add (l : List ByteArray) (s : ByteArray) : List ByteArray := if l[ahead l s]? = some s then l else l.take (ahead l s) ++ [s] ++ l.drop (ahead l s)
theorem add_len (l : List ByteArray) (s : ByteArray) : (add l s).length ≤ l.length + 1 := by
  unfold add; split
  · omega
  · have := ahead_le l s; simp; omega
def addAll (l : List ByteArray) (ss : List ByteArray) : List ByteArray := ss.foldl add l
theorem addAll_take (l ss : List ByteArray) (k : Nat) (h : k < ss.length) : addAll l (ss.take (k + 1)) = add (addAll l (ss.take k)) ss[k] := by
  unfold addAll; rw [List.take_succ_eq_append_getElem h, List.foldl_append]; rfl
theorem addAll_len (l ss : List ByteArray) : (addAll l ss).length ≤ l.length + ss.length := by
  induction ss generalizing l with
  | nil => simp [addAll]
  | cons s ss ih => have h1 := ih (add l s); have h2 := add_len l s; simp only [addAll, List.foldl_cons, List.length_cons] at h1 ⊢; omega
def merge (ls : List (List ByteArray)) : List ByteArray := ls.foldl addAll []
def after (l : List ByteArray) (s : ByteArray) : List ByteArray := l.filter fun x => lessS s x
theorem after_take (l : List ByteArray) (s : ByteArray) (k : Nat) (h : k < l.length) : after (l.take (k + 1)) s = after (l.take k) s ++ (if lessS s l[k] = true then [l[k]] else []) := by
  unfold after; rw [List.take_succ_eq_append_getElem h, List.filter_append]
  congr 1
  by_cases e : lessS s l[k] = true
  · rw [if_pos e, List.filter_cons, if_pos e]; rfl
  · rw [if_neg e, List.filter_cons, if_neg e]; rfl
theorem after_len (l : List ByteArray) (s : ByteArray) : (after l s).length ≤ l.length := List.length_filter_le _ _
theorem add_mem {l : List ByteArray} {s x : ByteArray} (h : x ∈ add l s) : x ∈ l ∨ x = s := by
  unfold add at h
  split at h
  · exact .inl h
  · simp only [List.append_assoc, List.mem_append, List.mem_singleton] at h
    rcases h with h | h | h
    · exact .inl (List.mem_of_mem_take h)
    · exact .inr h
    · exact .inl (List.mem_of_mem_drop h)
theorem addAll_mem {l ss : List ByteArray} {x : ByteArray} (h : x ∈ addAll l ss) : x ∈ l ∨ x ∈ ss := by
  induction ss generalizing l with
  | nil => exact .inl h
  | cons s ss ih =>
    rcases ih (l := add l s) h with h | h
    · rcases add_mem h with h | h
      · exact .inl h
      · exact .inr (by rw [h]; exact List.mem_cons_self)
    · exact .inr (List.mem_cons_of_mem _ h)
def mergeTo (ls : List (List ByteArray)) (k : Nat) : List ByteArray := (ls.take k).foldl addAll []
theorem mergeTo_succ (ls : List (List ByteArray)) (k : Nat) (h : k < ls.length) : mergeTo ls (k + 1) = addAll (mergeTo ls k) ls[k] := by
  unfold mergeTo; rw [List.take_succ_eq_append_getElem h, List.foldl_append]; rfl
theorem mergeTo_done (ls : List (List ByteArray)) : mergeTo ls ls.length = merge ls := by unfold mergeTo merge; rw [List.take_length]
theorem mergeTo_len (ls : List (List ByteArray)) (h : ∀ i, (hi : i < ls.length) → ls[i].length ≤ 1000) (k : Nat) (hk : k ≤ ls.length) : (mergeTo ls k).length ≤ 1000 * k := by
  induction k with
  | zero => simp [mergeTo]
  | succ k ih =>
    rw [mergeTo_succ ls k (by omega)]
    have h1 := addAll_len (mergeTo ls k) ls[k]
    have h2 := h k (by omega)
    have h3 := ih (by omega)
    omega
theorem mergeTo_mem {ls : List (List ByteArray)} {k : Nat} (hk : k ≤ ls.length) {x : ByteArray} (h : x ∈ mergeTo ls k) : ∃ i, ∃ hi : i < ls.length, x ∈ ls[i] := by
  induction k with
  | zero => simp [mergeTo] at h
  | succ k ih =>
    rw [mergeTo_succ ls k (by omega)] at h
    rcases addAll_mem h with h | h
    · exact ih (by omega) h
    · exact ⟨k, by omega, h⟩
def farB (l : List ByteArray) : Bool := !(decide (l.length ≤ 60) && l.all fun s => decide (s.size ≤ 40))
theorem farB_no {l : List ByteArray} (h : farB l = false) : l.length ≤ 60 ∧ ∀ x ∈ l, x.size ≤ 40 := by
  unfold farB at h
  simp only [Bool.not_eq_false', Bool.and_eq_true, decide_eq_true_eq, List.all_eq_true] at h
  exact h
theorem farB_at {l : List ByteArray} {i : Nat} (h : i < l.length) (hx : 40 < l[i].size) : farB l = true := by
  rcases hb : farB l with _ | _
  · have := (farB_no hb).2 _ (List.getElem_mem h); omega
  · rfl
theorem farB_end {l : List ByteArray} (h : ∀ i, (hi : i < l.length) → i < 100 → l[i].size ≤ 40) : farB l = decide (60 < l.length) := by
  unfold farB
  by_cases hl : l.length ≤ 60
  · rw [decide_eq_true hl, decide_eq_false (by omega), Bool.true_and]
    have : (l.all fun s => decide (s.size ≤ 40)) = true := by
      rw [List.all_eq_true]
      intro x hx
      obtain ⟨i, hi, rfl⟩ := List.mem_iff_getElem.1 hx
      exact decide_eq_true (h i hi (by omega))
    rw [this]; rfl
  · rw [decide_eq_false hl, decide_eq_true (by omega)]; rfl
def sameT (a b : List ByteArray) : Bool := decide (a = b)
theorem sameT_self (a : List ByteArray) : sameT a a = true := by simp [sameT]
theorem sameT_len {a b : List ByteArray} (h : a.length ≠ b.length) : sameT a b = false := decide_eq_false fun e => h (by rw [e])
theorem sameT_at {a b : List ByteArray} {i : Nat} (ha : i < a.length) (hb : i < b.length) (h : a[i] ≠ b[i]) : sameT a b = false := decide_eq_false fun e => h (by subst e; rfl)
def strV (l : List ByteArray) : List Value := l.map Value.string
theorem strV_len (l : List ByteArray) : (strV l).length = l.length := by simp [strV]
theorem strV_get (l : List ByteArray) (i : Nat) (h : i < (strV l).length) : (strV l)[i] = .string (l[i]'(by rw [← strV_len]; exact h)) := by simp [strV]
theorem strV_one (l : List ByteArray) : ∀ u ∈ strV l, u.oneCell' = true := by intro u hu; simp [strV] at hu; obtain ⟨s, _, rfl⟩ := hu; rfl
end Go.Proofs.Ytjoocjkakgjgmaa.LabM
