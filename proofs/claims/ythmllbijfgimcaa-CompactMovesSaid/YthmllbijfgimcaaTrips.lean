/- lists of structs of three ints: in memory, gathered, appended -/
import Derived.Test.YthmllbijfgimcaaPairs
set_option maxRecDepth 100000
namespace Go.Proofs.Ythmllbijfgimcaa.Trips
open Go.RowKit

abbrev I3 := Int × Int × Int
def flat (l : List I3) : List Value := l.flatMap fun x => [.int .i64 x.1, .int .i64 x.2.1, .int .i64 x.2.2]
theorem flat_nil : flat [] = [] := rfl
theorem flat_cons (x : I3) (l : List I3) : flat (x :: l) = .int .i64 x.1 :: .int .i64 x.2.1 :: .int .i64 x.2.2 :: flat l := rfl
theorem flat_app (l m : List I3) : flat (l ++ m) = flat l ++ flat m := by unfold flat; rw [List.flatMap_append]
theorem flat_len (l : List I3) : (flat l).length = l.length * 3 := by
  induction l with
  | nil => rfl
  | cons x l ih => rw [flat_cons, List.length_cons, List.length_cons, List.length_cons, ih, List.length_cons]; omega
theorem flat_one (l : List I3) : ∀ u ∈ flat l, u.oneCell' = true := by
  intro u hu
  unfold flat at hu
  rw [List.mem_flatMap] at hu
  obtain ⟨x, _, hx⟩ := hu
  simp at hx
  rcases hx with rfl | rfl | rfl <;> rfl
theorem flat_at (l : List I3) (i : Nat) (h : i < l.length) : (flat l)[i * 3]? = some (.int .i64 l[i].1) ∧ (flat l)[i * 3 + 1]? = some (.int .i64 l[i].2.1) ∧ (flat l)[i * 3 + 2]? = some (.int .i64 l[i].2.2) := by
  induction l generalizing i with
  | nil => simp at h
  | cons x l ih =>
    rcases i with _ | i
    · exact ⟨rfl, rfl, rfl⟩
    · have := ih i (by simpa using h)
      rw [flat_cons, show (i + 1) * 3 = i * 3 + 1 + 1 + 1 by omega]
      simpa using this
/-- the cells behind an address hold these pairs, two cells each -/
def TripsAt (w : World) (A : Option Addr) (l : List I3) : Prop :=
  ∀ i, (h : i < l.length) → ∃ b o, A = some ⟨b, o, none⟩ ∧ w.cell? ⟨b, o + i * 3, none⟩ = some (.int .i64 l[i].1) ∧ w.cell? ⟨b, o + i * 3 + 1, none⟩ = some (.int .i64 l[i].2.1) ∧ w.cell? ⟨b, o + i * 3 + 2, none⟩ = some (.int .i64 l[i].2.2)
section
variable {w w' : World} {A : Option Addr} {l : List I3}
theorem TripsAt.nil (w : World) (A : Option Addr) : TripsAt w A [] := fun i hi => absurd hi (by simp)
theorem TripsAt.below (h : TripsAt w A l) (hb : Below w.heap.size w w') : TripsAt w' A l := fun i hi => by
  obtain ⟨b, o, hA, h0, h1, h2⟩ := h i hi
  exact ⟨b, o, hA, (hb.cell (p := ⟨b, o + i * 3, none⟩) (cell_lt h0)).trans h0, (hb.cell (p := ⟨b, o + i * 3 + 1, none⟩) (cell_lt h1)).trans h1, (hb.cell (p := ⟨b, o + i * 3 + 2, none⟩) (cell_lt h2)).trans h2⟩
theorem TripsAt.belowK {D : Nat} (h : TripsAt w A l) (hb : Below D w w') (hn : 0 < l.length → ∀ a, A = some a → a.block < D) : TripsAt w' A l := fun i hi => by
  obtain ⟨b, o, hA, h0, h1, h2⟩ := h i hi
  have := hn (by omega) _ hA
  exact ⟨b, o, hA, (hb.cell (p := ⟨b, o + i * 3, none⟩) this).trans h0, (hb.cell (p := ⟨b, o + i * 3 + 1, none⟩) this).trans h1, (hb.cell (p := ⟨b, o + i * 3 + 2, none⟩) this).trans h2⟩
theorem TripsAt.keep {F : Nat → Prop} (h : TripsAt w A l) (q : Keeps F w w') (hn : 0 < l.length → ∀ a, A = some a → ¬ F a.block) : TripsAt w' A l := fun i hi => by
  obtain ⟨b, o, hA, h0, h1, h2⟩ := h i hi
  have := hn (by omega) _ hA
  exact ⟨b, o, hA, q.cell h0 this, q.cell h1 this, q.cell h2 this⟩
theorem TripsAt.lit (w : World) (x : I3) (t : TypeId) : TripsAt (w.alloc (.cells #[.int .i64 x.1, .int .i64 x.2.1, .int .i64 x.2.2] t)) (some ⟨w.heap.size, 0, none⟩) [x] := fun i hi => by
  obtain rfl : i = 0 := by simp at hi; omega
  exact ⟨w.heap.size, 0, rfl, by simp, by simp, by simp⟩
theorem TripsAt.cell (h : TripsAt w A l) (h0 : 0 < l.length) : ∃ b o, A = some ⟨b, o, none⟩ ∧ ∀ j u, (flat l)[j]? = some u → w.cell? ((⟨b, o, none⟩ : Addr).add j) = some u := by
  obtain ⟨b, o, hA, _⟩ := h 0 h0
  refine ⟨b, o, hA, fun j u hj => ?_⟩
  have hjl : j < l.length * 3 := by
    rw [← flat_len]
    rcases Nat.lt_or_ge j (flat l).length with q | q
    · exact q
    · rw [List.getElem?_eq_none q] at hj; cases hj
  have hadd : (⟨b, o, none⟩ : Addr).add j = ⟨b, o + j, none⟩ := by unfold Addr.add; split <;> simp_all
  rw [hadd]
  have hi : j / 3 < l.length := by omega
  obtain ⟨b', o', e, k0, k1, k2⟩ := h (j / 3) hi
  rw [hA] at e; injection e with e; injection e with e1 e2; subst e1; subst e2
  obtain ⟨f0, f1, f2⟩ := flat_at l (j / 3) hi
  rcases (show j = j / 3 * 3 ∨ j = j / 3 * 3 + 1 ∨ j = j / 3 * 3 + 2 by omega) with q | q | q
  · rw [← q] at f0 k0
    rw [k0, ← hj, f0]
  · rw [← q] at f1
    rw [show o + j / 3 * 3 + 1 = o + j by omega] at k1
    rw [k1, ← hj, f1]
  · rw [← q] at f2
    rw [show o + j / 3 * 3 + 2 = o + j by omega] at k2
    rw [k2, ← hj, f2]
end

/-- a list of pairs that the call has gathered, of elements of type e -/
def OwnTr (w : World) (base : Nat) (e : TypeId) (v : Value) (l : List I3) : Prop := w.ownsRow base e 3 v l.length (flat l)
section
variable {w w' : World} {base : Nat} {e : TypeId} {v v' : Value} {l l' : List I3}
theorem OwnTr.nil (w : World) (base : Nat) (e : TypeId) : OwnTr w base e (.slice none 0 0) [] := World.ownsRow_nil _ _ _ _
theorem OwnTr.empty (w : World) (base : Nat) (e : TypeId) (h : base ≤ w.heap.size) : OwnTr (w.alloc (.cells #[] e)) base e (.slice (some ⟨w.heap.size, 0, none⟩) 0 0) [] :=
  ⟨rfl, .inr ⟨w.heap.size, 0, #[], rfl, h, heap_alloc_new w _, Nat.le_refl _, Nat.zero_le _, rfl, rfl⟩⟩
theorem OwnTr.keep {F : Nat → Prop} (h : OwnTr w base e v l) (q : Keeps F w w') (hF : ∀ k, v.ownBlock = some k → ¬ F k) : OwnTr w' base e v l := by
  refine ⟨h.1, ?_⟩
  rcases h.2 with h2 | ⟨g, cap, cur, rfl, h2, h3, h4⟩
  · exact .inl h2
  · exact .inr ⟨g, cap, cur, rfl, h2, (q.block g (Array.getElem?_eq_some_iff.1 h3).1 (hF g rfl)).trans h3, h4⟩
theorem OwnTr.below (h : OwnTr w base e v l) (hb : Below w.heap.size w w') : OwnTr w' base e v l := h.keep (F := fun _ => False) (.of_below _ hb) fun _ _ => id
theorem OwnTr.lt (h : OwnTr w base e v l) : ∀ k, v.ownBlock = some k → base ≤ k ∧ k < w.heap.size := World.ownsRow.lt h
theorem OwnTr.trips (h : OwnTr w base e v l) : ∃ A c, v = .slice A l.length c ∧ l.length ≤ c ∧ c ≤ maxLen ∧ TripsAt w A l ∧ (∀ a, A = some a → base ≤ a.block ∧ a.block < w.heap.size ∧ v.ownBlock = some a.block) := by
  have hlt := h.lt
  rcases h.2 with ⟨rfl, hn⟩ | ⟨g, cap, cur, rfl, hg, h3, h4, h5, h6, h7⟩
  · have : l = [] := List.eq_nil_of_length_eq_zero hn
    subst this
    exact ⟨none, 0, rfl, Nat.le_refl _, Nat.zero_le _, TripsAt.nil _ _, fun a e => by cases e⟩
  · have at_ : ∀ j, j < l.length * 3 → w.cell? ⟨g, 0 + j, none⟩ = (flat l)[j]? := fun j hj => by
      rw [Nat.zero_add, cell_of_row w g j cur e (0, 0) h3, ← h7, List.getElem?_take, if_pos hj]; simp
    refine ⟨_, _, rfl, h4, h5, fun i hi => ⟨g, 0, rfl, ?_, ?_, ?_⟩, fun a e => by injection e with e; subst e; exact ⟨hg, (hlt g rfl).2, rfl⟩⟩
    · rw [at_ _ (by omega)]; exact (flat_at l i hi).1
    · rw [Nat.add_assoc, at_ _ (by omega)]; exact (flat_at l i hi).2.1
    · rw [Nat.add_assoc, at_ _ (by omega)]; exact (flat_at l i hi).2.2
end
structure AppdTr (w : World) (base : Nat) (e : TypeId) (v : Value) (l : List I3) (v' : Value) (w' : World) : Prop where
  own : OwnTr w' base e v' l
  grow : w.grownBy w' v.ownBlock
  place : v'.ownBlock = v.ownBlock ∨ v'.ownBlock = some w.heap.size
theorem AppdTr.below {w w' w0 : World} {base B : Nat} {e : TypeId} {v v' : Value} {l xs : List I3} (a : AppdTr w base e v l v' w') (hown : OwnTr w base e v xs) (hb : Below B w0 w) (hB : B ≤ base) (hs : B ≤ w.heap.size) : Below B w0 w' :=
  hb.grown a.grow hs fun k hk => Nat.le_trans hB (hown.lt k hk).1
theorem run_append_trips {t ty e : TypeId} {i : TypeInfo} {z : Value} {bytes : Nat} (ht : Try.prog.underlying t = some (.slice e)) (hi : Try.prog.info? e = some i) (hz : i.zero = some z) (hsize : i.size = 3) (hby : i.bytes = bytes) (hzs : z.cells.size = 3)
    {w : World} {base : Nat} {v : Value} {xs : List I3} (hown : OwnTr w base e v xs) {A : Option Addr} {c m : Nat} {ys : List I3} (hy : ys.length = m) (hA : TripsAt w A ys)
    (hl : xs.length + m < 1099511627776) (hb : bytes ≤ 64) (hbase : base ≤ w.heap.size) :
    ∃ v' w', (Builtin.append_ #[t, t] ty #[v, .slice A m c]).run Try.prog w = .ok v' w' ∧ AppdTr w base e v (xs ++ ys) v' w' := by
  have hbytes : (xs.length + m) * bytes ≤ 140737488355328 := Nat.le_trans (Nat.mul_le_mul_left _ hb) (by omega)
  rcases A with _ | a
  · have : ys = [] := by
      rcases ys with _ | ⟨x, ys⟩
      · rfl
      · obtain ⟨b, o, e, _⟩ := hA 0 (by simp); cases e
    subst this
    subst hy
    refine ⟨v, w, ?_, by rw [List.append_nil]; exact hown, grow_refl _ _, .inl rfl⟩
    rcases hown.2 with ⟨rfl, _⟩ | ⟨g, cap, cur, rfl, _, _, hnc, _⟩
    · simp [Builtin.append_, run_underlying ht, sizeOf, typeInfo, hi, Builtin.lenOf, Builtin.firstCells]
    · simp [Builtin.append_, run_underlying ht, sizeOf, typeInfo, hi, Builtin.lenOf, Builtin.firstCells, hnc, storeCells]
  · have hfl : (flat ys).length = m * 3 := by rw [flat_len, hy]
    have hnews : ∀ j u, (flat ys)[j]? = some u → w.cell? (a.add j) = some u := by
      by_cases h0 : 0 < ys.length
      · obtain ⟨b, o, e, hc⟩ := hA.cell h0
        injection e with e; subst e
        exact hc
      · have : ys = [] := List.eq_nil_of_length_eq_zero (by omega)
        subst this
        exact fun j u hj => by simp [flat] at hj
    obtain ⟨v', w', hrun, r1, r2, r3⟩ := run_append_own (P := Try.prog) w base t ty e i z 3 bytes ht hi hz hsize hby hzs (by omega) v xs.length (flat xs) hown a m c (flat ys) hfl hnews (flat_one ys) (by unfold maxLen; omega) hbytes hbase
    refine ⟨v', w', hrun, ?_, r2, ?_⟩
    · unfold OwnTr; rw [flat_app, List.length_append, hy]; exact r1
    by_cases h0 : 0 < m
    · exact Pairs.place_s ht hi hz hsize hby hown hfl h0 hnews (flat_one ys) (by unfold maxLen; omega) hbytes hrun
    · obtain rfl : m = 0 := by omega
      have : ys = [] := List.eq_nil_of_length_eq_zero hy
      subst this
      rcases hown.2 with ⟨rfl, h0'⟩ | ⟨g, cap, cur, rfl, hbg, hg, hnc, hcm, hcs, htake⟩
      · have : v' = .slice none 0 0 := r3.2 ⟨rfl, rfl⟩
        subst this; exact .inl rfl
      · have hr := run_append_room (P := Try.prog) w t ty e i ht hi g xs.length cap cur hg a 0 c [] (by simp) (fun j u h => by simp at h) (fun u h => by simp at h) (by omega) (by rw [hsize, hcs]; simp; omega)
        rw [hr] at hrun
        injection hrun with e1 e2
        subst e1
        exact .inl rfl
theorem wpList_append_trips {t e : TypeId} {i : TypeInfo} {z : Value} {bytes : Nat} (ht : Try.prog.underlying t = some (.slice e)) (hi : Try.prog.info? e = some i) (hz : i.zero = some z) (hsize : i.size = 3) (hby : i.bytes = bytes) (hzs : z.cells.size = 3)
    {ops : Array Oper} {rest : List Oper} {o : Oper} {a : Act} {w : World} {Q : Exit → Act → World → Prop} (hgd : o.guard = none) (s x : Operand)
    (ho : o.op = .call { callee := .builtin .append, args := #[s, x], argTypes := #[t, t] })
    (base : Nat) (v : Value) (xs : List I3) (hs : a.eval s = v) (hown : OwnTr w base e v xs) (A : Option Addr) (m c : Nat) (ys : List I3) (hx : a.eval x = .slice A m c) (hy : ys.length = m) (hA : TripsAt w A ys)
    (hl : xs.length + m < 1099511627776) (hb : bytes ≤ 64) (hbase : base ≤ w.heap.size)
    (h : ∀ v' w', AppdTr w base e v (xs ++ ys) v' w' → wpList Try.prog ops Q rest (a.put o.dst v') w') : wpList Try.prog ops Q (o :: rest) a w :=
  wpList_plain hgd fun _ hK => by
    obtain ⟨v', w', hrun, k2⟩ := run_append_trips (ty := o.type) ht hi hz hsize hby hzs hown hy hA hl hb hbase (c := c)
    unfold Oper.wp execOp
    simp only [ho, resolve, invoke, builtin, Sem.run_bind, Sem.run_pure, Result.andThen_ok, List.map_toArray, List.map_cons, List.map_nil, hs, hx, hrun]
    exact hK _ _ (h v' w' k2)
end Go.Proofs.Ythmllbijfgimcaa.Trips
