/- merged: CptMath, GapMath, CptMathB -/
import Derived.Test.YthmllbijfgimcaaMMP

/- layer 23's answers, plain: runs put together -/
namespace Go.Proofs.Ythmllbijfgimcaa.CptM

/-- n slots from a on -/
abbrev R := Int × Int
/-- a run that is there -/
def In (r : R) : Prop := 0 ≤ r.1 ∧ r.1 ≤ 255 ∧ 1 ≤ r.2 ∧ r.2 ≤ 256 - r.1
instance (r : R) : Decidable (In r) := by unfold In; exact inferInstance
/-- no two have a slot in common, all are there -/
def Ok (l : List R) : Prop := (∀ r ∈ l, In r) ∧ l.Pairwise fun r s => r.1 + r.2 ≤ s.1 ∨ s.1 + s.2 ≤ r.1
def Apart (l : List R) : Prop := (∀ r ∈ l, In r) ∧ l.Pairwise fun r s => r.1 + r.2 ≤ s.1
def Rising (l : List R) : Prop := ∀ k, (h : k + 1 < l.length) → (l[k]'(by omega)).1 < l[k + 1].1
def to (l : List R) (k : Nat) : Int := ((l.take k).map (·.2)).sum
abbrev Mv := Int × Int × Int
def movesTo (l : List R) (k : Nat) : List Mv := (List.range k).filterMap fun i => (l[i]?).bind fun r => if to l i ≠ r.1 then some (r.1, to l i, r.2) else none
def moves (l : List R) : List Mv := movesTo l l.length
/-- the runs, those ahead of the j-th where they go -/
def packed (l : List R) (j : Nat) : List R := (List.range l.length).map fun i => let r := (l[i]?).getD (0, 0); if i < j then (to l i, r.2) else r

theorem Apart.ok {l : List R} (h : Apart l) : Ok l := ⟨h.1, h.2.imp fun h => .inl h⟩
theorem Apart.rising {l : List R} (h : Apart l) : Rising l := fun k hk => by
  have h1 := List.pairwise_iff_getElem.mp h.2 k (k + 1) (by omega) hk (by omega)
  have h2 := (h.1 _ (List.getElem_mem (show k < l.length by omega))).2.2.1
  omega
theorem Rising.lt {l : List R} (h : Rising l) : ∀ (d i : Nat) (hd : i + d + 1 < l.length), (l[i]'(by omega)).1 < l[i + d + 1].1 := fun d => by
  induction d with
  | zero => intro i hi; exact h i hi
  | succ d ih =>
    intro i hi
    have h1 := ih i (by omega)
    have h2 := h (i + d + 1) hi
    have e : i + (d + 1) + 1 = i + d + 1 + 1 := by omega
    simp only [e]
    omega
/-- apart, in a test's words: all there, no two with a slot in common, each one behind the one ahead -/
theorem apart_iff (l : List R) : Apart l ↔ Ok l ∧ Rising l := by
  refine ⟨fun h => ⟨h.ok, h.rising⟩, fun ⟨h1, h2⟩ => ⟨h1.1, List.pairwise_iff_getElem.mpr fun i j hi hj hij => ?_⟩⟩
  have h3 := List.pairwise_iff_getElem.mp h1.2 i j hi hj hij
  have h4 := h2.lt (j - i - 1) i (by omega)
  have e : i + (j - i - 1) + 1 = j := by omega
  simp only [e] at h4
  have h5 := (h1.1 _ (List.getElem_mem hi)).2.2.1
  have h6 := (h1.1 _ (List.getElem_mem hj)).2.2.1
  rcases h3 with h3 | h3
  · exact h3
  · omega
theorem to_zero (l : List R) : to l 0 = 0 := rfl
theorem to_succ (l : List R) (k : Nat) (h : k < l.length) : to l (k + 1) = to l k + l[k].2 := by
  unfold to
  rw [List.take_succ_eq_append_getElem h, List.map_append, List.sum_append]
  simp only [List.map_cons, List.map_nil, List.sum_cons, List.sum_nil]
  omega
theorem to_le {l : List R} (h : Apart l) : ∀ k, (hk : k < l.length) → to l k ≤ l[k].1 := fun k => by
  induction k with
  | zero => intro hk; have := (h.1 _ (List.getElem_mem hk)).1; rw [to_zero]; exact this
  | succ k ih =>
    intro hk
    rw [to_succ l k (by omega)]
    have h1 := ih (by omega)
    have h2 := List.pairwise_iff_getElem.mp h.2 k (k + 1) (by omega) hk (by omega)
    omega
theorem to_mono {l : List R} (h : ∀ r ∈ l, In r) (i : Nat) : ∀ d, i + d ≤ l.length → to l i ≤ to l (i + d) := fun d => by
  induction d with
  | zero => intro _; exact Int.le_refl _
  | succ d ih =>
    intro hd
    have h1 := ih (by omega)
    rw [show i + (d + 1) = i + d + 1 by omega, to_succ l (i + d) (by omega)]
    have := (h _ (List.getElem_mem (show i + d < l.length by omega))).2.2.1
    omega
theorem to_nonneg {l : List R} (h : ∀ r ∈ l, In r) (k : Nat) (hk : k ≤ l.length) : 0 ≤ to l k := by
  have := to_mono h 0 k (by omega)
  rw [to_zero, Nat.zero_add] at this; exact this
theorem packed_len (l : List R) (j : Nat) : (packed l j).length = l.length := by unfold packed; simp
theorem packed_get (l : List R) (j i : Nat) (h : i < (packed l j).length) : (packed l j)[i] = if i < j then (to l i, (l[i]'(by rw [packed_len] at h; exact h)).2) else l[i]'(by rw [packed_len] at h; exact h) := by
  have h' : i < l.length := by rw [packed_len] at h; exact h
  have e : ∀ (f : Nat → R) (h : i < ((List.range l.length).map f).length), ((List.range l.length).map f)[i] = f i := fun f h => by rw [List.getElem_map, List.getElem_range]
  refine (e _ h).trans ?_
  simp only [List.getElem?_eq_getElem h', Option.getD_some]
theorem packed_zero (l : List R) : packed l 0 = l := List.ext_getElem (packed_len _ _) fun i h1 h2 => by rw [packed_get, if_neg (by omega)]
/-- one more is where it goes -/
theorem packed_succ (l : List R) (j : Nat) (hj : j < l.length) : packed l (j + 1) = (packed l j).set j (to l j, l[j].2) := by
  refine List.ext_getElem (by rw [List.length_set, packed_len, packed_len]) fun i h1 h2 => ?_
  rw [List.getElem_set, packed_get, packed_get]
  by_cases e : j = i
  · subst e; rw [if_pos rfl, if_pos (by omega)]
  · rw [if_neg e]
    by_cases e2 : i < j
    · rw [if_pos (by omega), if_pos e2]
    · rw [if_neg (by omega), if_neg e2]
/-- one that is where it goes stays -/
theorem packed_stay (l : List R) (j : Nat) (hj : j < l.length) (h : to l j = l[j].1) : packed l (j + 1) = packed l j := by
  rw [packed_succ l j hj]
  refine List.ext_getElem (by rw [List.length_set]) fun i h1 h2 => ?_
  rw [List.getElem_set]
  by_cases e : j = i
  · subst e; rw [if_pos rfl, packed_get, if_neg (by omega), h]
  · rw [if_neg e]
/-- at any time they are apart -/
theorem packed_apart {l : List R} (h : Apart l) (j : Nat) : Apart (packed l j) := by
  refine ⟨fun r hr => ?_, List.pairwise_iff_getElem.mpr fun i k hi hk hik => ?_⟩
  · obtain ⟨i, hi, rfl⟩ := List.mem_iff_getElem.mp hr
    have hil : i < l.length := by rw [packed_len] at hi; exact hi
    rw [packed_get]
    have h1 := h.1 _ (List.getElem_mem hil)
    have h2 := to_le h i hil
    have h3 := to_nonneg h.1 i (by omega)
    unfold In at *
    split
    · simp only; omega
    · exact h1
  · have hil : i < l.length := by rw [packed_len] at hi; exact hi
    have hkl : k < l.length := by rw [packed_len] at hk; exact hk
    rw [packed_get, packed_get]
    have h1 := List.pairwise_iff_getElem.mp h.2 i k hil hkl hik
    have h2 := to_mono h.1 (i + 1) (k - (i + 1)) (by omega)
    rw [show i + 1 + (k - (i + 1)) = k by omega, to_succ l i hil] at h2
    have h3 := to_le h k hkl
    by_cases c1 : i < j
    · rw [if_pos c1]
      by_cases c2 : k < j
      · rw [if_pos c2]; simp only; omega
      · rw [if_neg c2]; simp only; omega
    · rw [if_neg c1, if_neg (by omega)]; exact h1
/-- of runs apart, none two begin at the same slot -/
theorem apart_one {l : List R} (h : Apart l) {i k : Nat} (hi : i < l.length) (hk : k < l.length) (e : l[i].1 = l[k].1) : i = k := by
  rcases Nat.lt_trichotomy i k with c | c | c
  · have h1 := List.pairwise_iff_getElem.mp h.2 i k hi hk c
    have h2 := (h.1 _ (List.getElem_mem hi)).2.2.1
    omega
  · exact c
  · have h1 := List.pairwise_iff_getElem.mp h.2 k i hk hi c
    have h2 := (h.1 _ (List.getElem_mem hk)).2.2.1
    omega
theorem packed_end (l : List R) (k : Nat) (hk : k < l.length) : ((packed l l.length)[k]'(by rw [packed_len]; exact hk)).1 = to (packed l l.length) k := by
  rw [packed_get, if_pos hk]
  show to l k = _
  have : ∀ m, m ≤ l.length → to (packed l l.length) m = to l m := fun m => by
    induction m with
    | zero => intro _; rfl
    | succ m ih =>
      intro hm
      rw [to_succ l m (by omega), to_succ _ m (by rw [packed_len]; omega), ih (by omega), packed_get, if_pos (by omega)]
  exact (this k (by omega)).symm
theorem movesTo_zero (l : List R) : movesTo l 0 = [] := rfl
theorem movesTo_move (l : List R) (k : Nat) (hk : k < l.length) (h : to l k ≠ l[k].1) : movesTo l (k + 1) = movesTo l k ++ [(l[k].1, to l k, l[k].2)] := by
  unfold movesTo
  rw [List.range_succ, List.filterMap_append]
  simp [hk, h]
theorem movesTo_stay (l : List R) (k : Nat) (hk : k < l.length) (h : to l k = l[k].1) : movesTo l (k + 1) = movesTo l k := by
  unfold movesTo
  rw [List.range_succ, List.filterMap_append]
  simp [hk, h]
/-- a move goes down -/
theorem moves_down {l : List R} (h : Apart l) (k : Nat) (hk : k < l.length) (hne : to l k ≠ l[k].1) : to l k < l[k].1 ∧ 0 ≤ to l k := by
  have := to_le h k hk
  have := to_nonneg h.1 k (by omega)
  omega
end Go.Proofs.Ythmllbijfgimcaa.CptM

/- layer 23's gaps, plain: slot by slot (the document's way), and from run to run, they are the free runs of SpcMath -/
namespace Go.Proofs.Ythmllbijfgimcaa.SpaceM

/-- one more slot: the last run longer, or a new one -/
def gapStep (L : List (Nat × Nat)) (a : Nat) (b : Bool) : List (Nat × Nat) :=
  if b = true then (match L.getLast? with
    | some r => if r.1 + r.2 = a then L.dropLast ++ [(r.1, r.2 + 1)] else L ++ [(a, 1)]
    | none => L ++ [(a, 1)]) else L
/-- the free runs, as far as slot a -/
def clip (f : List Bool) (a : Nat) : List (Nat × Nat) := ((List.range a).filter (isStart f)).map fun i => (i, min (long f i) (a - i))
theorem long_stop {f : List Bool} {i b : Nat} (hb : fr f b = false) (hi : i ≤ b) : i + long f i ≤ b := by
  rcases Nat.lt_or_ge b (i + long f i) with h | h
  · exfalso
    have := (long_spec f i (long f i)).1 (Nat.le_refl _) (b - i) (by omega)
    rw [show i + (b - i) = b by omega, hb] at this; cases this
  · exact h
theorem starts_last (f : List Bool) : ∀ a, 0 < a → fr f (a - 1) = true → ∃ S i0, (List.range a).filter (isStart f) = S ++ [i0] ∧ i0 < a ∧ isStart f i0 = true ∧ (∀ j, i0 ≤ j → j < a → fr f j = true) ∧ ∀ i ∈ S, i < i0 := fun a => by
  induction a with
  | zero => intro h; omega
  | succ a ih =>
    intro _ hf
    have hf : fr f a = true := hf
    rw [List.range_succ, List.filter_append]
    by_cases hs : isStart f a = true
    · refine ⟨(List.range a).filter (isStart f), a, by simp [hs], by omega, hs, fun j h1 h2 => ?_, fun i hi => ?_⟩
      · obtain rfl : j = a := by omega
        exact hf
      · have := (List.mem_filter.1 hi).1
        exact List.mem_range.1 this
    · have h1 : 0 < a ∧ fr f (a - 1) = true := by
        have hn := fun q => hs ((isStart_iff f a).2 ⟨hf, q⟩)
        refine ⟨?_, ?_⟩
        · rcases Nat.eq_zero_or_pos a with h | h
          · exact absurd (.inl h) hn
          · exact h
        · rcases h : fr f (a - 1) with _ | _
          · exact absurd (.inr h) hn
          · rfl
      obtain ⟨S, i0, h2, h3, h4, h5, h6⟩ := ih h1.1 h1.2
      refine ⟨S, i0, ?_, by omega, h4, fun j k1 k2 => ?_, h6⟩
      · rw [h2]
        have : isStart f a = false := by simpa using hs
        simp [this]
      · rcases Nat.lt_or_ge j a with h | h
        · exact h5 j k1 h
        · obtain rfl : j = a := by omega
          exact hf
theorem clip_step (f : List Bool) (a : Nat) : clip f (a + 1) = gapStep (clip f a) a (fr f a) := by
  rcases hf : fr f a with _ | _
  · have hs : isStart f a = false := by unfold isStart; rw [hf]; rfl
    unfold gapStep clip
    rw [if_neg (by simp), List.range_succ, List.filter_append, List.map_append]
    simp only [List.filter_cons, hs, Bool.false_eq_true, if_false, List.filter_nil, List.map_nil, List.append_nil]
    refine List.map_congr_left fun i hi => ?_
    have h1 := List.mem_range.1 (List.mem_filter.1 hi).1
    have h2 := long_stop hf (Nat.le_of_lt h1)
    rw [Nat.min_eq_left (by omega), Nat.min_eq_left (by omega)]
  · unfold gapStep
    rw [if_pos rfl]
    by_cases hp : 0 < a ∧ fr f (a - 1) = true
    · obtain ⟨S, i0, h2, h3, h4, h5, h6⟩ := starts_last f a hp.1 hp.2
      have hs : isStart f a = false := by
        rcases h : isStart f a with _ | _
        · rfl
        · rcases ((isStart_iff f a).1 h).2 with q | q
          · omega
          · rw [hp.2] at q; cases q
      have hl0 : a + 1 ≤ i0 + long f i0 := by
        have := (long_spec f i0 (a + 1 - i0)).2 fun j hj => by
          rcases Nat.lt_or_ge (i0 + j) a with h | h
          · exact h5 _ (by omega) h
          · rw [show i0 + j = a by omega]; exact hf
        omega
      have hS : ∀ i ∈ S, i + long f i < a := fun i hi => by
        have h7 := h6 i hi
        rcases ((isStart_iff f i0).1 h4).2 with q | q
        · omega
        · have := long_stop q (show i ≤ i0 - 1 by omega); omega
      have e1 : clip f a = (S.map fun i => (i, long f i)) ++ [(i0, a - i0)] := by
        unfold clip
        rw [h2, List.map_append]
        refine (congr (congrArg HAppend.hAppend (List.map_congr_left fun i hi => ?_)) ?_)
        · have := hS i hi; rw [Nat.min_eq_left (by omega)]
        · simp; omega
      have e2 : clip f (a + 1) = (S.map fun i => (i, long f i)) ++ [(i0, a + 1 - i0)] := by
        unfold clip
        rw [List.range_succ, List.filter_append, h2]
        simp only [List.filter_cons, hs, Bool.false_eq_true, if_false, List.filter_nil, List.append_nil]
        rw [List.map_append]
        refine (congr (congrArg HAppend.hAppend (List.map_congr_left fun i hi => ?_)) ?_)
        · have := hS i hi; rw [Nat.min_eq_left (by omega)]
        · simp; omega
      rw [e1, e2, List.getLast?_append]
      simp only [List.getLast?_singleton, Option.some_or]
      rw [if_pos (by omega), List.dropLast_concat, show a - i0 + 1 = a + 1 - i0 by omega]
    · have hs : isStart f a = true := (isStart_iff f a).2 ⟨hf, by
        rcases Nat.eq_zero_or_pos a with h | h
        · exact .inl h
        · right
          rcases q : fr f (a - 1) with _ | _
          · rfl
          · exact absurd ⟨h, q⟩ hp⟩
      have hl : ∀ i, i < a → i + long f i < a := fun i hi => by
        rcases ((isStart_iff f a).1 hs).2 with q | q
        · omega
        · have := long_stop q (show i ≤ a - 1 by omega); omega
      have hla : 0 < long f a := long_pos.2 hf
      have e1 : clip f a = ((List.range a).filter (isStart f)).map fun i => (i, long f i) := by
        unfold clip
        refine List.map_congr_left fun i hi => ?_
        have := hl i (List.mem_range.1 (List.mem_filter.1 hi).1)
        rw [Nat.min_eq_left (by omega)]
      have e2 : clip f (a + 1) = clip f a ++ [(a, 1)] := by
        rw [e1]
        unfold clip
        rw [List.range_succ, List.filter_append, List.map_append]
        refine (congr (congrArg HAppend.hAppend (List.map_congr_left fun i hi => ?_)) ?_)
        · have := hl i (List.mem_range.1 (List.mem_filter.1 hi).1)
          rw [Nat.min_eq_left (by omega)]
        · simp [hs]; omega
      rw [e2]
      rcases hg : (clip f a).getLast? with _ | r
      · rfl
      · have hm := List.mem_of_getLast? hg
        rw [e1] at hm
        obtain ⟨i, hi, rfl⟩ := List.mem_map.1 hm
        have := hl i (List.mem_range.1 (List.mem_filter.1 hi).1)
        simp only
        rw [if_neg (by omega)]
theorem clip_zero (f : List Bool) : clip f 0 = [] := rfl
/-- slot by slot they are the free runs -/
theorem clip_runs (f : List Bool) : clip f f.length = runs f := by
  unfold clip runs runsTo
  refine List.map_congr_left fun i hi => ?_
  have h1 := List.mem_range.1 (List.mem_filter.1 hi).1
  have := long_le f i (by omega)
  rw [Nat.min_eq_left (by omega)]
/-- from run to run: what lies ahead of each, from the end of the one ahead of it, below s -/
def betw (s : Nat) : Nat → List (Nat × Nat) → List (Nat × Nat)
  | e, [] => if e < s then [(e, s - e)] else []
  | e, r :: l => (if e < min r.1 s then [(e, min r.1 s - e)] else []) ++ betw s (r.1 + r.2) l
theorem long_is {f : List Bool} {a n : Nat} (h1 : ∀ j, j < n → fr f (a + j) = true) (h2 : fr f (a + n) = false) : long f a = n := by
  have h3 := (long_spec f a n).2 h1
  have h4 := long_stop h2 (Nat.le_add_right a n)
  omega
theorem runsTo_none (f : List Bool) (a b : Nat) (hab : a ≤ b) (h : ∀ i, a ≤ i → i < b → fr f i = false) : runsTo f b = runsTo f a := by
  obtain ⟨k, rfl⟩ : ∃ k, b = a + k := ⟨b - a, by omega⟩
  refine runsTo_skip f a k fun i hi => ?_
  unfold isStart; rw [h (a + i) (by omega) (by omega)]; rfl
theorem runs_betw (f : List Bool) : ∀ (l : List (Nat × Nat)) (e : Nat), (e = 0 ∨ fr f (e - 1) = false) →
    (∀ i, e ≤ i → (fr f i = true ↔ i < f.length ∧ ∀ r ∈ l, ¬ (r.1 ≤ i ∧ i < r.1 + r.2))) → (∀ r ∈ l, 0 < r.2) → (∀ r ∈ l, e ≤ r.1) → (l.Pairwise fun r s => r.1 + r.2 ≤ s.1) →
    runs f = runsTo f e ++ betw f.length e l := by
  intro l
  induction l with
  | nil =>
    intro e he hfr _ _ _
    by_cases hes : e < f.length
    · have hl : long f e = f.length - e := long_is (fun j hj => (hfr _ (by omega)).2 ⟨by omega, fun r hr => by cases hr⟩) (by
        rcases h : fr f (e + (f.length - e)) with _ | _
        · rfl
        · have := ((hfr _ (by omega)).1 h).1; omega)
      have h1 := runsTo_step f e he
      rw [hl, show e + (f.length - e) + 1 = f.length + 1 by omega, runsTo_out f _ (by omega), if_pos (by omega)] at h1
      rw [h1]
      unfold betw
      rw [if_pos hes]
    · rw [← runsTo_out f e (by omega)]
      unfold betw
      rw [if_neg hes, List.append_nil]
  | cons r l ih =>
    intro e he hfr hn hge hp
    obtain ⟨hp1, hp2⟩ := List.pairwise_cons.1 hp
    have hr0 := hn r List.mem_cons_self
    have hre := hge r List.mem_cons_self
    have hno : ∀ i, r.1 ≤ i → i < r.1 + r.2 → fr f i = false := fun i h1 h2 => by
      rcases h : fr f i with _ | _
      · rfl
      · exact absurd ⟨h1, h2⟩ (((hfr i (by omega)).1 h).2 r List.mem_cons_self)
    have hyes : ∀ i, e ≤ i → i < min r.1 f.length → fr f i = true := fun i h1 h2 => (hfr i h1).2 ⟨by omega, fun s hs => by
      rcases List.mem_cons.1 hs with rfl | hs
      · omega
      · have := hp1 s hs; omega⟩
    have hnext := ih (r.1 + r.2) (.inr (hno _ (by omega) (by omega))) (fun i hi => by
      rw [hfr i (by omega)]
      constructor
      · exact fun h => ⟨h.1, fun s hs => h.2 s (List.mem_cons_of_mem _ hs)⟩
      · exact fun h => ⟨h.1, fun s hs => by
          rcases List.mem_cons.1 hs with rfl | hs
          · omega
          · exact h.2 s hs⟩) (fun s hs => hn s (List.mem_cons_of_mem _ hs)) (fun s hs => hp1 s hs) hp2
    rw [hnext]
    have key : runsTo f (r.1 + r.2) = runsTo f e ++ if e < min r.1 f.length then [(e, min r.1 f.length - e)] else [] := by
      by_cases hlt : e < min r.1 f.length
      · have hl : long f e = min r.1 f.length - e := long_is (fun j hj => hyes _ (by omega) (by omega)) (by
          rcases Nat.lt_or_ge r.1 f.length with q | q
          · rw [Nat.min_eq_left (by omega), show e + (r.1 - e) = r.1 by omega]; exact hno _ (Nat.le_refl _) (by omega)
          · rcases h : fr f (e + (min r.1 f.length - e)) with _ | _
            · rfl
            · have := ((hfr _ (by omega)).1 h).1; omega)
        have h1 := runsTo_step f e he
        rw [hl, if_pos (by omega), show e + (min r.1 f.length - e) + 1 = min r.1 f.length + 1 by omega] at h1
        rw [if_pos hlt, ← h1]
        refine runsTo_none f _ _ (by omega) fun i h2 h3 => ?_
        rcases Nat.lt_or_ge i r.1 with q | q
        · rcases h : fr f i with _ | _
          · rfl
          · have := ((hfr i (by omega)).1 h).1; omega
        · exact hno i q h3
      · rw [if_neg hlt, List.append_nil]
        refine runsTo_none f _ _ (by omega) fun i h2 h3 => ?_
        rcases Nat.lt_or_ge i r.1 with q | q
        · rcases h : fr f i with _ | _
          · rfl
          · have := ((hfr i (by omega)).1 h).1; omega
        · exact hno i q h3
    rw [key, List.append_assoc]
    rfl
/-- the free runs are what lies between runs apart -/
theorem gaps_betw (f : List Bool) (l : List (Nat × Nat)) (hfr : ∀ i, fr f i = true ↔ i < f.length ∧ ∀ r ∈ l, ¬ (r.1 ≤ i ∧ i < r.1 + r.2)) (hn : ∀ r ∈ l, 0 < r.2) (hp : l.Pairwise fun r s => r.1 + r.2 ≤ s.1) : runs f = betw f.length 0 l :=
  runs_betw f l 0 (.inl rfl) (fun i _ => hfr i) hn (fun _ _ => Nat.zero_le _) hp
end Go.Proofs.Ythmllbijfgimcaa.SpaceM

/- layer 23's answers, plain: run by run (the program's ways), slot by slot (the document's) -/
namespace Go.Proofs.Ythmllbijfgimcaa.CptM

instance (l : List R) : Decidable (Apart l) := by unfold Apart; exact inferInstance
instance (l : List R) : Decidable (Ok l) := by unfold Ok; exact inferInstance
theorem Apart.take {l : List R} (h : Apart l) (k : Nat) : Apart (l.take k) := ⟨fun r hr => h.1 r (List.mem_of_mem_take hr), h.2.sublist (List.take_sublist _ _)⟩
theorem Ok.take {l : List R} (h : Ok l) (k : Nat) : Ok (l.take k) := ⟨fun r hr => h.1 r (List.mem_of_mem_take hr), h.2.sublist (List.take_sublist _ _)⟩
theorem apart_nil : Apart [] := ⟨fun _ h => (by cases h), .nil⟩
theorem ok_nil : Ok [] := ⟨fun _ h => (by cases h), .nil⟩
theorem last_mem (l : List R) (k : Nat) (h : k < l.length) : l[k] ∈ l.take (k + 1) := by
  rw [List.take_succ_eq_append_getElem h]; exact List.mem_append_right _ (List.mem_singleton.2 rfl)
theorem last_app (l : List R) (x : R) : x ∈ l ++ [x] := List.mem_append_right _ (List.mem_singleton.2 rfl)
/-- behind the first k -/
def endOf (l : List R) : Nat → Int
  | 0 => 0
  | k + 1 => ((l[k]?).getD (0, 0)).1 + ((l[k]?).getD (0, 0)).2
theorem endOf_succ (l : List R) (k : Nat) (h : k < l.length) : endOf l (k + 1) = l[k].1 + l[k].2 := by
  show ((l[k]?).getD (0, 0)).1 + ((l[k]?).getD (0, 0)).2 = _; rw [List.getElem?_eq_getElem h]; rfl
theorem endOf_in {l : List R} {k : Nat} (h : Apart (l.take k)) (hk : k ≤ l.length) : 0 ≤ endOf l k ∧ endOf l k ≤ 256 := by
  rcases k with _ | k
  · exact ⟨Int.le_refl _, by show (0 : Int) ≤ 256; omega⟩
  · rw [endOf_succ l k (by omega)]
    have := h.1 l[k] (last_mem l k (by omega))
    unfold In at this; omega
theorem apart_succ {l : List R} {k : Nat} (hk : k < l.length) (h : Apart (l.take k)) : Apart (l.take (k + 1)) ↔ endOf l k ≤ l[k].1 ∧ 1 ≤ l[k].2 ∧ l[k].2 ≤ 256 - l[k].1 := by
  have he := endOf_in h (by omega)
  rw [List.take_succ_eq_append_getElem hk]
  unfold Apart
  rw [List.pairwise_append]
  constructor
  · rintro ⟨h1, h2, -, h3⟩
    have h4 := h1 l[k] (last_app _ _)
    unfold In at h4
    refine ⟨?_, by omega, by omega⟩
    rcases k with _ | k
    · exact h4.1
    · rw [endOf_succ l k (by omega)]
      exact h3 l[k] (last_mem l k (by omega)) _ (List.mem_singleton.2 rfl)
  · rintro ⟨h1, h2, h3⟩
    refine ⟨fun r hr => ?_, h.2, by simp, fun r hr s hs => ?_⟩
    · rcases List.mem_append.1 hr with q | q
      · exact h.1 r q
      · obtain rfl : r = l[k] := by simpa using q
        unfold In; omega
    · obtain rfl : s = l[k] := by simpa using hs
      obtain ⟨i, hi, rfl⟩ := List.mem_iff_getElem.1 hr
      have hi' : i < k := by simp at hi; omega
      rw [List.getElem_take]
      obtain ⟨j, rfl⟩ : ∃ j, k = j + 1 := ⟨k - 1, by omega⟩
      rw [endOf_succ l j (by omega)] at h1
      by_cases e : i = j
      · subst e; omega
      · have h5 := List.pairwise_iff_getElem.1 h.2 i j (by simp; omega) (by simp; omega) (by omega)
        rw [List.getElem_take, List.getElem_take] at h5
        have h6 := (h.1 l[j] (last_mem l j (by omega))).2.2.1
        omega
/-- a slot of a run -/
def has (r : R) (i : Nat) : Prop := r.1 ≤ i ∧ (i : Int) < r.1 + r.2
theorem apart_has {r s : R} (hr : In r) (hs : In s) : (r.1 + r.2 ≤ s.1 ∨ s.1 + s.2 ≤ r.1) ↔ ∀ i, has r i → ¬ has s i := by
  unfold In at hr hs
  constructor
  · intro h i h1 h2
    unfold has at h1 h2; omega
  · intro h
    have h1 := h r.1.toNat
    have h2 := h s.1.toNat
    unfold has at h1 h2
    omega
theorem ok_succ {l : List R} {k : Nat} (hk : k < l.length) : Ok (l.take (k + 1)) ↔ Ok (l.take k) ∧ In l[k] ∧ ∀ r ∈ l.take k, ∀ i, has r i → ¬ has l[k] i := by
  rw [List.take_succ_eq_append_getElem hk]
  unfold Ok
  rw [List.pairwise_append]
  constructor
  · rintro ⟨h1, h2, -, h3⟩
    exact ⟨⟨fun r hr => h1 r (List.mem_append_left _ hr), h2⟩, h1 _ (last_app _ _), fun r hr => (apart_has (h1 r (List.mem_append_left _ hr)) (h1 _ (last_app _ _))).1 (h3 r hr _ (List.mem_singleton.2 rfl))⟩
  · rintro ⟨⟨h1, h2⟩, h3, h4⟩
    refine ⟨fun r hr => ?_, h2, by simp, fun r hr s hs => ?_⟩
    · rcases List.mem_append.1 hr with q | q
      · exact h1 r q
      · obtain rfl : r = l[k] := by simpa using q
        exact h3
    · obtain rfl : s = l[k] := by simpa using hs
      exact (apart_has (h1 r hr) h3).2 (h4 r hr)
/-- the document's map of slots: from 0 on where there is a run -/
def Cov (m : List Int) (l : List R) : Prop := m.length = 256 ∧ ∀ i, (h : i < m.length) → (0 ≤ m[i] ↔ ∃ r ∈ l, has r i)
/-- while a run's slots are written, from a up to i -/
def CovTo (m : List Int) (l : List R) (a i : Nat) : Prop := m.length = 256 ∧ ∀ j, (h : j < m.length) → (0 ≤ m[j] ↔ (∃ r ∈ l, has r j) ∨ (a ≤ j ∧ j < i))
theorem Cov.start {m : List Int} {l : List R} (h : Cov m l) (a : Nat) : CovTo m l a a := ⟨h.1, fun j hj => (h.2 j hj).trans ⟨.inl, fun q => q.resolve_right (by omega)⟩⟩
theorem CovTo.step {m : List Int} {l : List R} {a i : Nat} (h : CovTo m l a i) (hi : a ≤ i) {k : Int} (hk : 0 ≤ k) : CovTo (m.set i k) l a (i + 1) := by
  refine ⟨by rw [List.length_set]; exact h.1, fun j hj => ?_⟩
  rw [List.getElem_set]
  by_cases e : i = j
  · subst e; rw [if_pos rfl]; exact ⟨fun _ => .inr (by omega), fun _ => hk⟩
  · rw [if_neg e, h.2 j (by simpa using hj)]
    constructor
    · exact fun q => q.imp id (by omega)
    · exact fun q => q.imp id (by omega)
theorem CovTo.stop {m : List Int} {l : List R} {a k n : Nat} (h : CovTo m (l.take k) a (a + n)) (hk : k < l.length) (e : l[k] = ((a : Int), (n : Int))) : Cov m (l.take (k + 1)) := by
  refine ⟨h.1, fun j hj => (h.2 j hj).trans ?_⟩
  rw [List.take_succ_eq_append_getElem hk, e]
  constructor
  · rintro (⟨r, h1, h2⟩ | h1)
    · exact ⟨r, List.mem_append_left _ h1, h2⟩
    · exact ⟨_, List.mem_append_right _ (List.mem_singleton.2 rfl), by unfold has; simp; omega⟩
  · rintro ⟨r, h1, h2⟩
    rcases List.mem_append.1 h1 with q | q
    · exact .inl ⟨r, q, h2⟩
    · obtain rfl := List.mem_singleton.1 q
      unfold has at h2; simp at h2
      exact .inr (by omega)
theorem Cov.none : Cov (List.replicate 256 (-1)) [] := ⟨List.length_replicate, fun i h => by rw [List.getElem_replicate]; simp⟩
/-- a slot that is had already -/
theorem CovTo.hit {m : List Int} {l : List R} {a n k i : Nat} (h : CovTo m (l.take k) a i) (hk : k < l.length) (e : l[k] = ((a : Int), (n : Int))) (hi : a ≤ i) (hin : i < a + n) (him : i < m.length) (h0 : 0 ≤ m[i]) : ¬ Ok l := fun hok => by
  have h1 := (ok_succ hk).1 (hok.take (k + 1))
  rcases (h.2 i him).1 h0 with ⟨r, h2, h3⟩ | h2
  · exact h1.2.2 r h2 i h3 (by rw [e]; unfold has; simp; omega)
  · omega
/-- that no slot was had -/
def Free (l : List R) (a i : Nat) : Prop := ∀ r ∈ l, ∀ j, a ≤ j → j < i → ¬ has r j
theorem Free.step {m : List Int} {l : List R} {a i : Nat} (h : CovTo m l a i) (hf : Free l a i) (_hi : a ≤ i) (him : i < m.length) (h0 : ¬ 0 ≤ m[i]) : Free l a (i + 1) := fun r hr j h1 h2 h3 => by
  by_cases e : j = i
  · subst e; exact h0 ((h.2 j him).2 (.inl ⟨r, hr, h3⟩))
  · exact hf r hr j h1 (by omega) h3
theorem Free.stop {l : List R} {a n k : Nat} (hf : Free (l.take k) a (a + n)) (hk : k < l.length) (e : l[k] = ((a : Int), (n : Int))) (hin : In l[k]) (ho : Ok (l.take k)) : Ok (l.take (k + 1)) :=
  (ok_succ hk).2 ⟨ho, hin, fun r hr i h1 h2 => hf r hr i (by rw [e] at h2; unfold has at h2; simp at h2; omega) (by rw [e] at h2; unfold has at h2; simp at h2; omega) h1⟩
theorem not_in {l : List R} {k : Nat} (hk : k < l.length) (h : ¬ In l[k]) : ¬ Ok l := fun q => h (q.1 _ (List.getElem_mem hk))
/-- rising, as far as run k -/
def RiseTo (l : List R) (k : Nat) : Prop := ∀ j, (h : j + 1 < l.length) → j + 1 < k → (l[j]'(by omega)).1 < l[j + 1].1
theorem RiseTo.one (l : List R) : RiseTo l 1 := fun j _ h => by omega
theorem RiseTo.succ {l : List R} {k : Nat} (h1 : 1 ≤ k) (hk : k < l.length) : RiseTo l (k + 1) ↔ RiseTo l k ∧ (l[k - 1]'(by omega)).1 < l[k].1 := by
  constructor
  · intro h
    refine ⟨fun j q1 q2 => h j q1 (by omega), ?_⟩
    have := h (k - 1) (by omega) (by omega)
    simp only [show k - 1 + 1 = k by omega] at this
    exact this
  · rintro ⟨h2, h3⟩ j q1 q2
    by_cases e : j + 1 < k
    · exact h2 j q1 e
    · obtain rfl : j = k - 1 := by omega
      simp only [show k - 1 + 1 = k by omega]
      exact h3
theorem RiseTo.all {l : List R} {k : Nat} (hk : l.length ≤ k) : RiseTo l k ↔ Rising l := ⟨fun h j q => h j q (by omega), fun h j q _ => h j q⟩
/-- natural numbers as the program's -/
def nat2 (r : Nat × Nat) : R := ((r.1 : Int), (r.2 : Int))
theorem apart_nat {l : List R} (h : Apart l) : ∃ L : List (Nat × Nat), l = L.map nat2 ∧ (∀ r ∈ L, 0 < r.2 ∧ r.1 + r.2 ≤ 256) ∧ L.Pairwise fun r s => r.1 + r.2 ≤ s.1 := by
  have e : l = (l.map fun r => (r.1.toNat, r.2.toNat)).map nat2 := by
    rw [List.map_map]
    refine (List.map_id l).symm.trans (List.map_congr_left fun r hr => ?_)
    have := h.1 r hr
    unfold In at this
    simp only [Function.comp, nat2, id]
    refine Prod.ext ?_ ?_ <;> simp <;> omega
  refine ⟨_, e, fun r hr => ?_, ?_⟩
  · obtain ⟨s, hs, rfl⟩ := List.mem_map.1 hr
    have := h.1 s hs
    unfold In at this
    simp only; omega
  · rw [List.pairwise_map]
    refine h.2.imp_of_mem fun {r s} hr hs q => ?_
    have h1 := h.1 r hr
    have h2 := h.1 s hs
    unfold In at h1 h2
    simp only; omega
/-- the slots below s that are free -/
def free (m : List Int) (s : Nat) : List Bool := (m.take s).map fun z => decide (z < 0)
theorem free_len {m : List Int} {s : Nat} (h : s ≤ m.length) : (free m s).length = s := by unfold free; simp; omega
theorem free_at {m : List Int} {s i : Nat} (h : s ≤ m.length) (hi : i < s) : SpaceM.fr (free m s) i = decide (m[i]'(by omega) < 0) := by
  unfold SpaceM.fr free
  rw [List.getD_eq_getElem?_getD, List.getElem?_map, List.getElem?_take, if_pos hi, List.getElem?_eq_getElem (by omega)]
  rfl
theorem free_gaps {m : List Int} {s : Nat} {L : List (Nat × Nat)} (hs : s ≤ 256) (hm : Cov m (L.map nat2)) (hn : ∀ r ∈ L, 0 < r.2 ∧ r.1 + r.2 ≤ 256) (hp : L.Pairwise fun r s => r.1 + r.2 ≤ s.1) : SpaceM.runs (free m s) = SpaceM.betw s 0 L := by
  have hl := hm.1
  have hfl : (free m s).length = s := free_len (by omega)
  have := SpaceM.gaps_betw (free m s) L (fun i => ?_) (fun r hr => (hn r hr).1) hp
  · rw [hfl] at this; exact this
  · rw [hfl]
    by_cases hi : i < s
    · rw [free_at (by omega) hi, decide_eq_true_iff]
      have h1 := hm.2 i (by omega)
      constructor
      · refine fun h => ⟨hi, fun r hr q => ?_⟩
        have := h1.2 ⟨nat2 r, List.mem_map_of_mem hr, by unfold has nat2; simp; omega⟩
        omega
      · rintro ⟨-, h⟩
        rcases Int.lt_or_le (m[i]'(by omega)) 0 with q | q
        · exact q
        · obtain ⟨r, hr, h2⟩ := h1.1 q
          obtain ⟨x, hx, rfl⟩ := List.mem_map.1 hr
          unfold has nat2 at h2; simp at h2
          exact absurd (by omega) (h x hx)
    · constructor
      · intro h
        have := SpaceM.fr_lt h
        omega
      · omega
/-- what comes of one gap -/
def gap1 (a b : Nat) : List (Nat × Nat) := if a < b then [(a, b - a)] else []
theorem betw_nil (s e : Nat) : SpaceM.betw s e [] = gap1 e s := rfl
theorem betw_cons (s e : Nat) (r : Nat × Nat) (l : List (Nat × Nat)) : SpaceM.betw s e (r :: l) = gap1 e (min r.1 s) ++ SpaceM.betw s (r.1 + r.2) l := rfl
/-- behind the first k, told in natural numbers -/
def endN (L : List (Nat × Nat)) : Nat → Nat
  | 0 => 0
  | k + 1 => ((L[k]?).getD (0, 0)).1 + ((L[k]?).getD (0, 0)).2
theorem endN_succ (L : List (Nat × Nat)) (k : Nat) (h : k < L.length) : endN L (k + 1) = L[k].1 + L[k].2 := by
  show ((L[k]?).getD (0, 0)).1 + ((L[k]?).getD (0, 0)).2 = _; rw [List.getElem?_eq_getElem h]; rfl
theorem betw_step (s : Nat) (L : List (Nat × Nat)) (k : Nat) (h : k < L.length) : SpaceM.betw s (endN L k) (L.drop k) = gap1 (endN L k) (min L[k].1 s) ++ SpaceM.betw s (endN L (k + 1)) (L.drop (k + 1)) := by
  rw [List.drop_eq_getElem_cons h, betw_cons, endN_succ L k h]
/-- moves: what has come is a beginning of all -/
theorem movesTo_split (l : List R) (k : Nat) (hk : k ≤ l.length) : ∃ t, moves l = movesTo l k ++ t := by
  obtain ⟨d, hd⟩ : ∃ d, l.length = k + d := ⟨l.length - k, by omega⟩
  unfold moves
  rw [hd]
  clear hd
  induction d with
  | zero => exact ⟨[], by simp⟩
  | succ d ih =>
    obtain ⟨t, ht⟩ := ih
    have : ∃ u, movesTo l (k + (d + 1)) = movesTo l (k + d) ++ u := by
      unfold movesTo
      rw [show k + (d + 1) = k + d + 1 by omega, List.range_succ, List.filterMap_append]
      exact ⟨_, rfl⟩
    obtain ⟨u, hu⟩ := this
    exact ⟨t ++ u, by rw [hu, ht, List.append_assoc]⟩
theorem movesTo_len (l : List R) : ∀ k, k ≤ l.length → (movesTo l k).length ≤ k := fun k => by
  induction k with
  | zero => intro _; rw [movesTo_zero]; exact Nat.le_refl _
  | succ k ih =>
    intro hk
    by_cases h : to l k = l[k].1
    · rw [movesTo_stay l k (by omega) h]; have := ih (by omega); omega
    · rw [movesTo_move l k (by omega) h, List.length_append]; have := ih (by omega); simp; omega
theorem moves_at (l : List R) (k : Nat) (hk : k < l.length) (h : to l k ≠ l[k].1) : ∃ h2 : (movesTo l k).length < (moves l).length, (moves l)[(movesTo l k).length] = (l[k].1, to l k, l[k].2) := by
  obtain ⟨t, ht⟩ := movesTo_split l (k + 1) (by omega)
  rw [movesTo_move l k hk h] at ht
  refine ⟨by rw [ht]; simp, ?_⟩
  simp only [ht]
  rw [List.getElem_append_left (by simp), List.getElem_append_right (by omega)]
  simp
theorem movesTo_mono (l : List R) (k d : Nat) (h : k + d ≤ l.length) : (movesTo l k).length ≤ (movesTo l (k + d)).length := by
  induction d with
  | zero => exact Nat.le_refl _
  | succ d ih =>
    refine Nat.le_trans (ih (by omega)) ?_
    by_cases q : to l (k + d) = l[k + d].1
    · rw [show k + (d + 1) = k + d + 1 by omega, movesTo_stay l _ (by omega) q]; exact Nat.le_refl _
    · rw [show k + (d + 1) = k + d + 1 by omega, movesTo_move l _ (by omega) q]; simp
/-- while no move comes, all stays -/
theorem packed_still (l : List R) (k d : Nat) (h : k + d ≤ l.length) (e : (movesTo l (k + d)).length = (movesTo l k).length) : packed l (k + d) = packed l k := by
  induction d with
  | zero => rfl
  | succ d ih =>
    have h1 := movesTo_mono l k d (by omega)
    have h2 := movesTo_mono l (k + d) 1 (by omega)
    rw [show k + (d + 1) = k + d + 1 by omega] at e ⊢
    by_cases q : to l (k + d) = l[k + d].1
    · rw [packed_stay l _ (by omega) q]; exact ih (by omega) (by omega)
    · rw [movesTo_move l _ (by omega) q] at e
      simp at e; omega
/-- the j-th move, and the runs when it comes -/
theorem move_here (l : List R) (k0 j : Nat) (hk : k0 ≤ l.length) (h0 : (movesTo l k0).length = j) (hj : j < (moves l).length) :
    ∃ k, ∃ h : k < l.length, to l k ≠ l[k].1 ∧ (movesTo l k).length = j ∧ packed l k = packed l k0 ∧ (moves l)[j] = (l[k].1, to l k, l[k].2) := by
  obtain ⟨d, hd⟩ : ∃ d, d = l.length - k0 := ⟨_, rfl⟩
  induction d generalizing k0 with
  | zero =>
    obtain rfl : k0 = l.length := by omega
    unfold moves at hj; omega
  | succ d ih =>
    by_cases q : to l k0 = l[k0].1
    · have e := movesTo_stay l k0 (by omega) q
      obtain ⟨k, h1, h2, h3, h4, h5⟩ := ih (k0 + 1) (by omega) (by rw [e]; exact h0) (by omega)
      exact ⟨k, h1, h2, h3, h4.trans (packed_stay l k0 (by omega) q), h5⟩
    · obtain ⟨h1, h2⟩ := moves_at l k0 (by omega) q
      subst h0
      exact ⟨k0, by omega, q, rfl, rfl, h2⟩
theorem packed_done (l : List R) (k0 : Nat) (hk : k0 ≤ l.length) (h0 : (movesTo l k0).length = (moves l).length) : packed l k0 = packed l l.length := by
  have := packed_still l k0 (l.length - k0) (by omega) (by rw [show k0 + (l.length - k0) = l.length by omega]; exact h0.symm)
  rw [show k0 + (l.length - k0) = l.length by omega] at this
  exact this.symm
/-- the run that moves lies where it lay, and no other one begins there -/
theorem packed_here (l : List R) (k : Nat) (hk : k < l.length) : (packed l k)[k]'(by rw [packed_len]; exact hk) = l[k] := by
  rw [packed_get, if_neg (by omega)]
theorem packed_only {l : List R} (h : Apart l) {k i : Nat} (hk : k < l.length) (hi : i < (packed l k).length) : (packed l k)[i].1 = l[k].1 ↔ i = k := by
  constructor
  · intro e
    rw [← packed_here l k hk] at e
    exact apart_one (packed_apart h k) hi (by rw [packed_len]; exact hk) e
  · rintro rfl
    rw [packed_here l i hk]
theorem to_in {l : List R} (h : Apart l) (k : Nat) (hk : k ≤ l.length) : 0 ≤ to l k ∧ to l k ≤ 256 := by
  refine ⟨to_nonneg h.1 k hk, ?_⟩
  rcases k with _ | k
  · rw [to_zero]; omega
  · rw [to_succ l k (by omega)]
    have h1 := to_le h k (by omega)
    have h2 := h.1 _ (List.getElem_mem (show k < l.length by omega))
    unfold In at h2; omega
end Go.Proofs.Ythmllbijfgimcaa.CptM
