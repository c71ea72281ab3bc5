/- merged: SpaceMath, SpcMath -/


/- layer 21's answers, plain: which slots are free -/
namespace Go.Proofs.Ythmllbijfgimcaa.SpaceM

def fr (f : List Bool) (i : Nat) : Bool := f.getD i false
/-- how many slots from one on are free -/
def long (f : List Bool) (a : Nat) : Nat := ((f.drop a).takeWhile id).length
def setAt (f : List Bool) (a n : Nat) (v : Bool) : List Bool := (List.range f.length).map fun i => if a ≤ i ∧ i < a + n then v else fr f i
def count (f : List Bool) : Nat := (f.filter id).length
def longest (f : List Bool) : Nat := (List.range f.length).foldl (fun n i => if n < long f i then long f i else n) 0
def find (f : List Bool) (n : Int) : Option Nat := if n < 1 then none else (List.range f.length).find? fun a => decide (n ≤ long f a)
def may (f : List Bool) (a n : Int) (v : Bool) : Bool := decide (1 ≤ n ∧ 0 ≤ a ∧ a < f.length ∧ n ≤ f.length - a) && (List.range n.toNat).all fun j => fr f (a.toNat + j) != v
def new (n : Int) : List Bool := List.replicate (if n < 1 then 1 else if 256 < n then 256 else n).toNat true

theorem takeWhile_le (l : List Bool) (n : Nat) : n ≤ (l.takeWhile id).length ↔ ∀ j, j < n → l.getD j false = true := by
  induction l generalizing n with
  | nil =>
    constructor
    · intro h j hj; simp at h; omega
    · intro h
      rcases n with _ | n
      · simp
      · have := h 0 (by omega); simp at this
  | cons b l ih =>
    rcases b with _ | _
    · constructor
      · intro h j hj; simp at h; omega
      · intro h
        rcases n with _ | n
        · simp
        · have := h 0 (by omega); simp at this
    · simp only [List.takeWhile_cons, id_eq, if_true, List.length_cons]
      rcases n with _ | n
      · exact ⟨fun _ j hj => by omega, fun _ => Nat.zero_le _⟩
      · have := ih n
        constructor
        · intro h j hj
          rcases j with _ | j
          · simp
          · have := this.1 (by omega) j (by omega); simpa using this
        · intro h
          have := this.2 fun j hj => by have := h (j + 1) (by omega); simpa using this
          omega
theorem fr_out {f : List Bool} {i : Nat} (h : f.length ≤ i) : fr f i = false := by unfold fr; simp [List.getD, List.getElem?_eq_none h]
theorem fr_lt {f : List Bool} {i : Nat} (h : fr f i = true) : i < f.length := by
  rcases Nat.lt_or_ge i f.length with h' | h'
  · exact h'
  · rw [fr_out h'] at h; cases h
theorem long_spec (f : List Bool) (a n : Nat) : n ≤ long f a ↔ ∀ j, j < n → fr f (a + j) = true := by
  unfold long
  rw [takeWhile_le]
  have e : ∀ j, (f.drop a).getD j false = fr f (a + j) := fun j => by unfold fr; simp [List.getD, List.getElem?_drop]
  exact ⟨fun h j hj => by rw [← e]; exact h j hj, fun h j hj => by rw [e]; exact h j hj⟩
theorem setAt_len (f : List Bool) (a n : Nat) (v : Bool) : (setAt f a n v).length = f.length := by unfold setAt; simp
theorem fr_setAt (f : List Bool) (a n : Nat) (v : Bool) (i : Nat) : fr (setAt f a n v) i = if i < f.length then (if a ≤ i ∧ i < a + n then v else fr f i) else false := by
  by_cases h : i < f.length
  · rw [if_pos h]
    unfold setAt fr
    simp [List.getD, h]
  · rw [if_neg h]
    exact fr_out (by rw [setAt_len]; omega)
theorem ext {f g : List Bool} (hl : f.length = g.length) (h : ∀ i, i < f.length → fr f i = fr g i) : f = g := by
  refine List.ext_getElem hl fun i h1 h2 => ?_
  have := h i h1
  unfold fr at this
  simpa [List.getD, h1, h2] using this
theorem setAt_zero (f : List Bool) (a : Nat) (v : Bool) : setAt f a 0 v = f := by
  refine ext (setAt_len _ _ _ _) fun i hi => ?_
  rw [setAt_len] at hi
  rw [fr_setAt, if_pos hi, if_neg (by omega)]
theorem setAt_succ (f : List Bool) (a n : Nat) (v : Bool) : setAt f a (n + 1) v = (setAt f a n v).set (a + n) v := by
  refine List.ext_getElem (by rw [List.length_set, setAt_len, setAt_len]) fun i h1 h2 => ?_
  have hi : i < f.length := by rw [setAt_len] at h1; exact h1
  rw [List.getElem_set]
  have e : ∀ m (h : i < (setAt f a m v).length), (setAt f a m v)[i] = fr (setAt f a m v) i := fun m h => by unfold fr; simp [List.getD, h]
  rw [e, fr_setAt, if_pos hi]
  by_cases h : a + n = i
  · rw [if_pos h, if_pos (by omega)]
  · rw [if_neg h, e, fr_setAt, if_pos hi]
    by_cases h3 : a ≤ i ∧ i < a + n
    · rw [if_pos h3, if_pos (by omega)]
    · rw [if_neg h3, if_neg (by omega)]
theorem count_set {l : List Bool} {i : Nat} (hi : i < l.length) (v : Bool) : count (l.set i v) + (if l[i] then 1 else 0) = count l + (if v then 1 else 0) := by
  induction l generalizing i with
  | nil => simp at hi
  | cons b l ih =>
    rcases i with _ | i
    · unfold count
      rcases b with _ | _ <;> rcases v with _ | _ <;> simp
    · have := ih (i := i) (by simpa using hi)
      unfold count at this ⊢
      rw [List.set_cons_succ, List.filter_cons, List.filter_cons]
      rcases b with _ | _
      · simp only [id_eq, Bool.false_eq_true, if_false, List.getElem_cons_succ]; exact this
      · simp only [id_eq, if_true, List.getElem_cons_succ, List.length_cons]; omega
/-- n slots that are free are free no more -/
theorem count_take {f : List Bool} {a n : Nat} (h : ∀ j, j < n → fr f (a + j) = true) : count (setAt f a n false) + n = count f := by
  induction n with
  | zero => rw [setAt_zero]; rfl
  | succ n ih =>
    have hlt : a + n < f.length := fr_lt (h n (by omega))
    have h1 : fr (setAt f a n false) (a + n) = true := by rw [fr_setAt, if_pos hlt, if_neg (by omega)]; exact h n (by omega)
    have hl : a + n < (setAt f a n false).length := by rw [setAt_len]; exact hlt
    have h2 : (setAt f a n false)[a + n] = true := by unfold fr at h1; simpa [List.getD, hl] using h1
    have := count_set hl false
    rw [h2] at this
    rw [setAt_succ]
    have := ih fun j hj => h j (by omega)
    simp at *
    omega
theorem count_give {f : List Bool} {a n : Nat} (hl : a + n ≤ f.length) (h : ∀ j, j < n → fr f (a + j) = false) : count (setAt f a n true) = count f + n := by
  induction n with
  | zero => rw [setAt_zero]; rfl
  | succ n ih =>
    have hlt : a + n < f.length := by omega
    have h1 : fr (setAt f a n true) (a + n) = false := by rw [fr_setAt, if_pos hlt, if_neg (by omega)]; exact h n (by omega)
    have hl' : a + n < (setAt f a n true).length := by rw [setAt_len]; exact hlt
    have h2 : (setAt f a n true)[a + n] = false := by unfold fr at h1; simpa [List.getD, hl'] using h1
    have := count_set hl' true
    rw [h2] at this
    rw [setAt_succ]
    have := ih (by omega) fun j hj => h j (by omega)
    simp at *
    omega
theorem may_spec (f : List Bool) (a n : Int) (v : Bool) : may f a n v = true ↔ (1 ≤ n ∧ 0 ≤ a ∧ a < f.length ∧ n ≤ f.length - a) ∧ ∀ j, j < n.toNat → fr f (a.toNat + j) = !v := by
  unfold may
  rw [Bool.and_eq_true, decide_eq_true_iff, List.all_eq_true]
  refine and_congr Iff.rfl ⟨fun h j hj => ?_, fun h j hj => ?_⟩
  · have := h j (List.mem_range.mpr hj)
    revert this
    cases fr f (a.toNat + j) <;> cases v <;> simp
  · rw [h j (List.mem_range.mp hj)]; cases v <;> rfl
theorem find_some {f : List Bool} {n : Int} {a : Nat} (h : find f n = some a) : 1 ≤ n ∧ a + n.toNat ≤ f.length ∧ ∀ j, j < n.toNat → fr f (a + j) = true := by
  unfold find at h
  by_cases h1 : n < 1
  · rw [if_pos h1] at h; cases h
  · rw [if_neg h1] at h
    have h2 := List.find?_some h
    have h3 : n.toNat ≤ long f a := by have := of_decide_eq_true h2; omega
    have h4 := (long_spec f a n.toNat).1 h3
    have := fr_lt (h4 (n.toNat - 1) (by omega))
    exact ⟨by omega, by omega, h4⟩
theorem find_may {f : List Bool} {n : Int} {a : Nat} (h : find f n = some a) : may f a n false = true := by
  obtain ⟨h1, h2, h3⟩ := find_some h
  exact (may_spec f a n false).2 ⟨⟨h1, by omega, by omega, by omega⟩, fun j hj => h3 j (by simpa using hj)⟩
theorem foldl_max (g : Nat → Nat) (l : List Nat) (n : Nat) : n ≤ l.foldl (fun n i => if n < g i then g i else n) n ∧ (∀ i ∈ l, g i ≤ l.foldl (fun n i => if n < g i then g i else n) n) ∧
    (l.foldl (fun n i => if n < g i then g i else n) n = n ∨ ∃ i ∈ l, l.foldl (fun n i => if n < g i then g i else n) n = g i) := by
  induction l generalizing n with
  | nil => exact ⟨Nat.le_refl _, fun i h => (by cases h), .inl rfl⟩
  | cons x l ih =>
    rw [List.foldl_cons]
    obtain ⟨h1, h2, h3⟩ := ih (if n < g x then g x else n)
    have hx : n ≤ (if n < g x then g x else n) ∧ g x ≤ (if n < g x then g x else n) := by split <;> omega
    refine ⟨by omega, fun i hi => ?_, ?_⟩
    · rcases List.mem_cons.mp hi with rfl | hi
      · omega
      · exact h2 i hi
    · rcases h3 with h3 | ⟨i, hi, h3⟩
      · rw [h3]
        split
        · exact .inr ⟨x, List.mem_cons_self, rfl⟩
        · exact .inl rfl
      · exact .inr ⟨i, List.mem_cons_of_mem _ hi, h3⟩
theorem longest_le {f : List Bool} {a : Nat} (h : a < f.length) : long f a ≤ longest f := (foldl_max (long f) (List.range f.length) 0).2.1 a (List.mem_range.mpr h)
theorem longest_at (f : List Bool) : longest f = 0 ∨ ∃ a, a < f.length ∧ longest f = long f a := by
  rcases (foldl_max (long f) (List.range f.length) 0).2.2 with h | ⟨i, hi, h⟩
  · exact .inl h
  · exact .inr ⟨i, List.mem_range.mp hi, h⟩
/-- n slots are found just if the longest free run has as many -/
theorem find_iff (f : List Bool) (n : Int) (h1 : 1 ≤ n) : (find f n).isSome = decide (n ≤ longest f) := by
  unfold find
  rw [if_neg (by omega)]
  rw [Bool.eq_iff_iff, decide_eq_true_iff, List.find?_isSome]
  constructor
  · rintro ⟨a, ha, hd⟩
    have := of_decide_eq_true hd
    have := longest_le (List.mem_range.mp ha)
    omega
  · intro h
    rcases longest_at f with h2 | ⟨a, ha, h2⟩
    · omega
    · exact ⟨a, List.mem_range.mpr ha, decide_eq_true (by omega)⟩

/-! what was taken, and not given back -/
structure Held (f : List Bool) (l : List (Nat × Nat)) : Prop where
  one : ∀ h ∈ l, 1 ≤ h.2 ∧ h.1 + h.2 ≤ f.length
  no : ∀ h ∈ l, ∀ j, j < h.2 → fr f (h.1 + j) = false
  apart : l.Pairwise fun h k => h.1 + h.2 ≤ k.1 ∨ k.1 + k.2 ≤ h.1
  sum : count f + (l.map (·.2)).sum = f.length
theorem Held.new (n : Int) : Held (new n) [] := ⟨fun h e => (by cases e), fun h e => (by cases e), List.Pairwise.nil, by
  have : ∀ k, count (List.replicate k true) = k := fun k => by unfold count; rw [List.filter_replicate]; simp
  unfold SpaceM.new; rw [this]; simp⟩
/-- what is taken lies apart from what was -/
theorem Held.far {f : List Bool} {l : List (Nat × Nat)} (h : Held f l) {n : Int} {a : Nat} (hf : find f n = some a) : ∀ k ∈ l, k.1 + k.2 ≤ a ∨ a + n.toNat ≤ k.1 := fun k hk => by
  obtain ⟨h1, h2, h3⟩ := find_some hf
  obtain ⟨q1, q2⟩ := h.one k hk
  rcases Nat.lt_or_ge a (k.1 + k.2) with c1 | c1
  · rcases Nat.lt_or_ge k.1 (a + n.toNat) with c2 | c2
    · exfalso
      rcases Nat.le_total a k.1 with c3 | c3
      · have e1 := h.no k hk 0 (by omega)
        have e2 := h3 (k.1 - a) (by omega)
        rw [show a + (k.1 - a) = k.1 + 0 by omega, e1] at e2; cases e2
      · have e1 := h.no k hk (a - k.1) (by omega)
        have e2 := h3 0 (by omega)
        rw [show k.1 + (a - k.1) = a + 0 by omega, e2] at e1; cases e1
    · exact .inr c2
  · exact .inl c1
theorem Held.take {f : List Bool} {l : List (Nat × Nat)} (h : Held f l) {n : Int} {a : Nat} (hf : find f n = some a) : Held (setAt f a n.toNat false) (l ++ [(a, n.toNat)]) := by
  obtain ⟨h1, h2, h3⟩ := find_some hf
  have hfar := h.far hf
  refine ⟨fun k hk => ?_, fun k hk j hj => ?_, ?_, ?_⟩
  · rw [setAt_len]
    rcases List.mem_append.mp hk with hk | hk
    · exact h.one k hk
    · rw [List.mem_singleton.mp hk]; exact ⟨by show 1 ≤ n.toNat; omega, h2⟩
  · rw [fr_setAt]
    split
    · split
      · rfl
      · rcases List.mem_append.mp hk with hk | hk
        · exact h.no k hk j hj
        · rename_i hno
          obtain rfl := List.mem_singleton.mp hk
          exact absurd ⟨Nat.le_add_right _ _, Nat.add_lt_add_left hj _⟩ hno
    · rfl
  · rw [List.pairwise_append]
    refine ⟨h.apart, List.pairwise_singleton _ _, fun x hx y hy => ?_⟩
    rw [List.mem_singleton.mp hy]
    exact hfar x hx
  · have h4 := count_take h3
    have h5 := h.sum
    rw [setAt_len, List.map_append, List.sum_append]
    simp
    omega
theorem Held.give {f : List Bool} {l : List (Nat × Nat)} (h : Held f l) (k : Nat) (hk : k < l.length) : may f (l[k].1 : Nat) (l[k].2 : Nat) true = true ∧ Held (setAt f l[k].1 l[k].2 true) (l.take k ++ l.drop (k + 1)) := by
  have hmem := List.getElem_mem hk
  obtain ⟨q1, q2⟩ := h.one _ hmem
  have hno := h.no _ hmem
  have hsub : ∀ x ∈ l.take k ++ l.drop (k + 1), x ∈ l ∧ (x.1 + x.2 ≤ l[k].1 ∨ l[k].1 + l[k].2 ≤ x.1) := fun x hx => by
    have hp := h.apart
    rw [← List.take_append_drop k l, List.drop_eq_getElem_cons hk, List.pairwise_append, List.pairwise_cons] at hp
    obtain ⟨_, ⟨hp2, _⟩, hp3⟩ := hp
    rcases List.mem_append.mp hx with hx | hx
    · exact ⟨List.mem_of_mem_take hx, hp3 x hx _ List.mem_cons_self⟩
    · refine ⟨List.mem_of_mem_drop hx, ?_⟩
      rcases hp2 x hx with c | c
      · exact .inr c
      · exact .inl c
  refine ⟨(may_spec _ _ _ _).2 ⟨⟨by omega, by omega, by omega, by omega⟩, fun j hj => ?_⟩, fun x hx => ?_, fun x hx j hj => ?_, ?_, ?_⟩
  · rw [Int.toNat_natCast]; rw [Int.toNat_natCast] at hj; exact hno j hj
  · rw [setAt_len]; exact h.one x (hsub x hx).1
  · obtain ⟨m1, m2⟩ := hsub x hx
    rw [fr_setAt]
    split
    · rw [if_neg (by omega)]; exact h.no x m1 j hj
    · rfl
  · have hp := h.apart
    rw [← List.take_append_drop k l, List.drop_eq_getElem_cons hk, List.pairwise_append, List.pairwise_cons] at hp
    obtain ⟨p1, ⟨_, p2⟩, p3⟩ := hp
    exact List.pairwise_append.mpr ⟨p1, p2, fun x hx y hy => p3 x hx y (List.mem_cons_of_mem _ hy)⟩
  · have h4 := count_give q2 hno
    have h5 := h.sum
    have e : (l.map (·.2)).sum = ((l.take k ++ l.drop (k + 1)).map (·.2)).sum + l[k].2 := by
      have e0 : l = l.take k ++ l[k] :: l.drop (k + 1) := by rw [← List.drop_eq_getElem_cons hk, List.take_append_drop]
      have := congrArg (fun l => (l.map (·.2)).sum) e0
      simp only [List.map_append, List.map_cons, List.sum_append, List.sum_cons] at this ⊢
      omega
    rw [setAt_len, h4]
    omega
end Go.Proofs.Ythmllbijfgimcaa.SpaceM

/- layer 21's answers, plain: the free runs, one behind the other; what is found is the first run that has as many -/
namespace Go.Proofs.Ythmllbijfgimcaa.SpaceM

/-- a free run begins here -/
def isStart (f : List Bool) (a : Nat) : Bool := fr f a && (a == 0 || !fr f (a - 1))
def runsTo (f : List Bool) (a : Nat) : List (Nat × Nat) := ((List.range a).filter (isStart f)).map fun i => (i, long f i)
def runs (f : List Bool) : List (Nat × Nat) := runsTo f f.length
theorem isStart_iff (f : List Bool) (a : Nat) : isStart f a = true ↔ fr f a = true ∧ (a = 0 ∨ fr f (a - 1) = false) := by
  unfold isStart; simp
theorem long_pos {f : List Bool} {a : Nat} : 0 < long f a ↔ fr f a = true := by
  have := long_spec f a 1
  constructor
  · intro h; exact this.1 (by omega) 0 (by omega)
  · intro h
    have := this.2 fun j hj => by
      obtain rfl : j = 0 := by omega
      exact h
    omega
theorem long_le (f : List Bool) (a : Nat) (h : a ≤ f.length) : a + long f a ≤ f.length := by
  unfold long
  have := (List.takeWhile_sublist id (l := f.drop a)).length_le
  rw [List.length_drop] at this
  omega
/-- the slot behind a free run is not free, or there is none -/
theorem long_end (f : List Bool) (a : Nat) : fr f (a + long f a) = false := by
  rcases Bool.eq_false_or_eq_true (fr f (a + long f a)) with h | h
  · exfalso
    have := (long_spec f a (long f a + 1)).2 fun j hj => by
      rcases Nat.lt_or_ge j (long f a) with h1 | h1
      · exact (long_spec f a (long f a)).1 (Nat.le_refl _) j h1
      · obtain rfl : j = long f a := by omega
        exact h
    omega
  · exact h
theorem runsTo_zero (f : List Bool) : runsTo f 0 = [] := rfl
theorem runsTo_succ (f : List Bool) (a : Nat) : runsTo f (a + 1) = runsTo f a ++ if isStart f a then [(a, long f a)] else [] := by
  unfold runsTo
  rw [List.range_succ, List.filter_append, List.map_append]
  congr 1
  by_cases h : isStart f a = true
  · simp [h]
  · simp [h]
theorem runsTo_skip (f : List Bool) (a k : Nat) (h : ∀ i, i < k → isStart f (a + i) = false) : runsTo f (a + k) = runsTo f a := by
  induction k with
  | zero => rfl
  | succ k ih => rw [← Nat.add_assoc, runsTo_succ, h k (by omega), ih fun i hi => h i (by omega)]; simp
/-- where a run may begin: the run, if there is one, and the slot behind it -/
theorem runsTo_step (f : List Bool) (a : Nat) (hp : a = 0 ∨ fr f (a - 1) = false) : runsTo f (a + long f a + 1) = runsTo f a ++ if 0 < long f a then [(a, long f a)] else [] := by
  have hend := long_end f a
  by_cases h : 0 < long f a
  · rw [if_pos h]
    have hs : isStart f a = true := (isStart_iff f a).2 ⟨long_pos.1 h, hp⟩
    have e : a + long f a + 1 = (a + 1) + long f a := by omega
    rw [e, runsTo_skip, runsTo_succ, if_pos hs]
    intro i hi
    rcases Bool.eq_false_or_eq_true (isStart f (a + 1 + i)) with q | q
    · exfalso
      obtain ⟨q1, q2⟩ := (isStart_iff f _).1 q
      have := (long_spec f a (long f a)).1 (Nat.le_refl _) i (by omega)
      rcases q2 with q2 | q2
      · omega
      · rw [show a + 1 + i - 1 = a + i by omega, this] at q2; cases q2
    · exact q
  · have h0 : long f a = 0 := by omega
    rw [if_neg h, h0, runsTo_succ]
    have : isStart f a = false := by
      rcases Bool.eq_false_or_eq_true (isStart f a) with q | q
      · have := ((isStart_iff f a).1 q).1
        rw [h0, Nat.add_zero] at hend
        rw [this] at hend; cases hend
      · exact q
    rw [this]; simp
theorem runsTo_out (f : List Bool) (a : Nat) (h : f.length ≤ a) : runsTo f a = runs f := by
  obtain ⟨k, rfl⟩ : ∃ k, a = f.length + k := ⟨a - f.length, by omega⟩
  exact runsTo_skip f _ k fun i _ => by
    rcases Bool.eq_false_or_eq_true (isStart f (f.length + i)) with q | q
    · have := fr_lt ((isStart_iff f _).1 q).1; omega
    · exact q
/-- from run to run -/
theorem runs_ind (f : List Bool) (P : Nat → Prop) (h0 : P 0) (hs : ∀ a, a < f.length → (a = 0 ∨ fr f (a - 1) = false) → P a → P (a + long f a + 1)) : ∃ a, f.length ≤ a ∧ P a := by
  have main : ∀ k a, f.length - a ≤ k → (a = 0 ∨ fr f (a - 1) = false) → P a → ∃ a, f.length ≤ a ∧ P a := by
    intro k
    induction k with
    | zero => intro a hk _ h; exact ⟨a, by omega, h⟩
    | succ k ih =>
      intro a hk hp h
      rcases Nat.lt_or_ge a f.length with hl | hl
      · refine ih (a + long f a + 1) (by omega) (.inr ?_) (hs a hl hp h)
        rw [show a + long f a + 1 - 1 = a + long f a by omega]; exact long_end f a
      · exact ⟨a, hl, h⟩
  exact main f.length 0 (by omega) (.inl rfl) h0
theorem count_app (l m : List Bool) : count (l ++ m) = count l + count m := by unfold count; rw [List.filter_append, List.length_append]
theorem take_more (f : List Bool) (a : Nat) : f.take (a + 1) = f.take a ++ if a < f.length then [fr f a] else [] := by
  by_cases h : a < f.length
  · rw [if_pos h, List.take_succ_eq_append_getElem h]
    unfold fr; simp [List.getD, h]
  · rw [if_neg h, List.append_nil, List.take_of_length_le (by omega), List.take_of_length_le (by omega)]
theorem count_one (f : List Bool) (a : Nat) : count (f.take (a + 1)) = count (f.take a) + if fr f a then 1 else 0 := by
  rw [take_more, count_app]
  by_cases h : a < f.length
  · rw [if_pos h]; cases fr f a <;> rfl
  · rw [if_neg h, fr_out (by omega)]; rfl
theorem count_run (f : List Bool) (a k : Nat) (h : ∀ j, j < k → fr f (a + j) = true) : count (f.take (a + k)) = count (f.take a) + k := by
  induction k with
  | zero => rfl
  | succ k ih => rw [← Nat.add_assoc, count_one, h k (by omega), if_pos rfl, ih fun j hj => h j (by omega)]; omega
def lens (l : List (Nat × Nat)) : List Nat := l.map (·.2)
/-- the runs have all that is free -/
theorem runs_sum (f : List Bool) : (lens (runs f)).sum = count f := by
  obtain ⟨a, ha, h⟩ := runs_ind f (fun a => (lens (runsTo f a)).sum = count (f.take a)) (by simp [runsTo_zero, lens, count]) fun a hl hp ih => by
    rw [count_one, long_end, count_run f a _ ((long_spec f a _).1 (Nat.le_refl _)), runsTo_step f a hp, ← ih]
    unfold lens
    split <;> simp <;> omega
  rw [runsTo_out f a ha, List.take_of_length_le ha] at h
  exact h
theorem mem_runs (f : List Bool) (r : Nat × Nat) : r ∈ runs f ↔ isStart f r.1 = true ∧ r.2 = long f r.1 := by
  unfold runs runsTo
  rw [List.mem_map]
  constructor
  · rintro ⟨i, hi, rfl⟩
    exact ⟨(List.mem_filter.1 hi).2, rfl⟩
  · rintro ⟨h1, h2⟩
    exact ⟨r.1, List.mem_filter.2 ⟨List.mem_range.2 (fr_lt ((isStart_iff f _).1 h1).1), h1⟩, by rw [← h2]⟩
theorem runs_sorted (f : List Bool) : (runs f).Pairwise fun r s => r.1 < s.1 := by
  unfold runs runsTo
  rw [List.pairwise_map]
  exact List.pairwise_lt_range.filter _
theorem runs_len (f : List Bool) : (runs f).length ≤ f.length := by
  unfold runs runsTo
  rw [List.length_map]
  exact Nat.le_trans (List.length_filter_le _ _) (by simp)
theorem runs_fit {f : List Bool} {r : Nat × Nat} (h : r ∈ runs f) : 1 ≤ r.2 ∧ r.1 + r.2 ≤ f.length := by
  obtain ⟨h1, h2⟩ := (mem_runs f r).1 h
  have h3 := ((isStart_iff f _).1 h1).1
  have h4 := long_pos.2 h3
  have h5 := long_le f r.1 (by have := fr_lt h3; omega)
  omega
/-- each slot that is free lies in a run that has as many from it on, or more -/
theorem run_of (f : List Bool) (a : Nat) (h : fr f a = true) : ∃ b, b ≤ a ∧ isStart f b = true ∧ a + long f a = b + long f b := by
  induction a with
  | zero => exact ⟨0, Nat.le_refl _, (isStart_iff f 0).2 ⟨h, .inl rfl⟩, rfl⟩
  | succ a ih =>
    rcases Bool.eq_false_or_eq_true (fr f a) with q | q
    · obtain ⟨b, hb, h1, h2⟩ := ih q
      refine ⟨b, by omega, h1, ?_⟩
      rw [← h2]
      have e1 : long f (a + 1) + 1 ≤ long f a := (long_spec f a _).2 fun j hj => by
        rcases j with _ | j
        · exact q
        · have := (long_spec f (a + 1) (long f (a + 1))).1 (Nat.le_refl _) j (by omega)
          rw [show a + 1 + j = a + (j + 1) by omega] at this; exact this
      have e2 : long f a - 1 ≤ long f (a + 1) := (long_spec f (a + 1) _).2 fun j hj => by
        have := (long_spec f a (long f a)).1 (Nat.le_refl _) (j + 1) (by omega)
        rw [show a + (j + 1) = a + 1 + j by omega] at this; exact this
      omega
    · exact ⟨a + 1, Nat.le_refl _, (isStart_iff f _).2 ⟨h, .inr q⟩, rfl⟩
def most (l : List Nat) : Nat := l.foldl max 0
theorem most_spec (l : List Nat) (n : Nat) : n ≤ l.foldl max n ∧ (∀ x ∈ l, x ≤ l.foldl max n) ∧ (l.foldl max n = n ∨ l.foldl max n ∈ l) := by
  induction l generalizing n with
  | nil => exact ⟨Nat.le_refl _, fun x h => (by cases h), .inl rfl⟩
  | cons x l ih =>
    rw [List.foldl_cons]
    obtain ⟨h1, h2, h3⟩ := ih (max n x)
    refine ⟨by omega, fun y hy => ?_, ?_⟩
    · rcases List.mem_cons.1 hy with rfl | hy
      · omega
      · exact h2 y hy
    · rcases h3 with h3 | h3
      · rw [h3]
        rcases Nat.le_total n x with q | q
        · exact .inr (by rw [Nat.max_eq_right q]; exact List.mem_cons_self)
        · exact .inl (Nat.max_eq_left q)
      · exact .inr (List.mem_cons_of_mem _ h3)
/-- the longest run is the longest -/
theorem runs_most (f : List Bool) : most (lens (runs f)) = longest f := by
  obtain ⟨_, h2, h3⟩ := most_spec (lens (runs f)) 0
  refine Nat.le_antisymm ?_ ?_
  · rcases h3 with h3 | h3
    · unfold most; omega
    · unfold lens at h3
      rw [List.mem_map] at h3
      obtain ⟨r, hr, e⟩ := h3
      obtain ⟨q1, q2⟩ := (mem_runs f r).1 hr
      have := longest_le (f := f) (a := r.1) (fr_lt ((isStart_iff f _).1 q1).1)
      unfold most lens; omega
  · rcases longest_at f with h | ⟨a, ha, h⟩
    · omega
    · rw [h]
      rcases Nat.eq_zero_or_pos (long f a) with z | z
      · omega
      · obtain ⟨b, hb, h4, h5⟩ := run_of f a (long_pos.1 z)
        have := h2 (long f b) (List.mem_map.2 ⟨(b, long f b), (mem_runs f _).2 ⟨h4, rfl⟩, rfl⟩)
        unfold most; omega
/-- slots of a run's beginning may be used just if it has as many -/
theorem may_run {f : List Bool} {r : Nat × Nat} (hr : r ∈ runs f) (n : Int) : may f (r.1 : Nat) n false = decide (1 ≤ n ∧ n ≤ r.2) := by
  obtain ⟨h1, h2⟩ := (mem_runs f r).1 hr
  have hf := runs_fit hr
  rw [Bool.eq_iff_iff, may_spec, decide_eq_true_iff, Int.toNat_natCast]
  constructor
  · rintro ⟨⟨k1, k2, k3, k4⟩, k5⟩
    have := (long_spec f r.1 n.toNat).2 k5
    exact ⟨k1, by omega⟩
  · rintro ⟨k1, k2⟩
    exact ⟨⟨k1, by omega, by omega, by omega⟩, (long_spec f r.1 n.toNat).1 (by omega)⟩
theorem find_range {n : Nat} {p q : Nat → Bool} (h1 : ∀ a, p a = true → q a = true) (h2 : ∀ a, q a = true → (∀ b, b < a → q b = false) → p a = true) : (List.range n).find? p = (List.range n).find? q := by
  rcases hq : (List.range n).find? q with _ | a
  · rw [List.find?_eq_none] at hq ⊢
    exact fun x hx hp => hq x hx (h1 x hp)
  · rw [List.find?_range_eq_some] at hq ⊢
    obtain ⟨q1, q2, q3⟩ := hq
    refine ⟨h2 a q1 fun b hb => by have := q3 b hb; simpa using this, q2, fun b hb => ?_⟩
    have := q3 b hb
    rcases Bool.eq_false_or_eq_true (p b) with e | e
    · rw [h1 b e] at this; cases this
    · rw [e]; rfl
/-- what is found is the first run whose slots may be used -/
theorem find_runs (f : List Bool) (n : Int) : find f n = ((runs f).find? fun r => may f (r.1 : Nat) n false).map (·.1) := by
  unfold find
  by_cases h1 : n < 1
  · rw [if_pos h1, List.find?_eq_none.2, Option.map_none]
    intro r hr
    rw [may_run hr, decide_eq_false (by omega)]; simp
  · rw [if_neg h1]
    have e : (runs f).find? (fun r => may f (r.1 : Nat) n false) = (runs f).find? (fun r => decide (n ≤ long f r.1)) := by
      have main : ∀ l : List (Nat × Nat), (∀ r ∈ l, r ∈ runs f) → l.find? (fun r => may f (r.1 : Nat) n false) = l.find? (fun r => decide (n ≤ long f r.1)) := by
        intro l
        induction l with
        | nil => intro _; rfl
        | cons r l ih =>
          intro h
          have hr := h r List.mem_cons_self
          have e : may f (r.1 : Nat) n false = decide (n ≤ long f r.1) := by
            rw [may_run hr, ← ((mem_runs f r).1 hr).2, decide_eq_decide]; omega
          rw [List.find?_cons, List.find?_cons, ih fun s hs => h s (List.mem_cons_of_mem _ hs), e]
      exact main _ fun _ h => h
    rw [e]
    unfold runs runsTo
    rw [List.find?_map, List.find?_filter, Option.map_map]
    have e2 : ((fun x : Nat × Nat => x.1) ∘ fun i => (i, long f i)) = id := rfl
    rw [e2, Option.map_id]
    symm
    refine find_range (fun a h => ?_) fun a h hb => ?_
    · exact (of_decide_eq_true h).2
    · refine decide_eq_true ⟨?_, h⟩
      have hq := of_decide_eq_true h
      have hf := long_pos.1 (by omega : 0 < long f a)
      refine (isStart_iff f a).2 ⟨hf, ?_⟩
      rcases a with _ | a
      · exact .inl rfl
      · refine .inr ?_
        rcases Bool.eq_false_or_eq_true (fr f (a + 1 - 1)) with q | q
        · exfalso
          have e1 : long f (a + 1) + 1 ≤ long f a := (long_spec f a _).2 fun j hj => by
            rcases j with _ | j
            · exact q
            · have := (long_spec f (a + 1) (long f (a + 1))).1 (Nat.le_refl _) j (by omega)
              rw [show a + 1 + j = a + (j + 1) by omega] at this; exact this
          have := of_decide_eq_false (hb a (by omega))
          omega
        · exact q
/-- what Take leaves, and tells -/
def taken (f : List Bool) (n : Int) : List Bool := match find f n with | some a => setAt f a n.toNat false | none => f
def tookAt (f : List Bool) (n : Int) : Nat := (find f n).getD 0
end Go.Proofs.Ythmllbijfgimcaa.SpaceM
