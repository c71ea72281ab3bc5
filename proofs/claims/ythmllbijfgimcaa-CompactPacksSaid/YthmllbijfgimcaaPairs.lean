/- lists of pairs of numbers (structs of two ints, arrays of two ints): in memory, gathered, appended -/
import Derived.Test.YthmllbijfgimcaaCells
set_option maxRecDepth 100000
namespace Go.Proofs.Ythmllbijfgimcaa.Pairs
open Go.RowKit

abbrev I2 := Int × Int
def flat (l : List I2) : List Value := l.flatMap fun x => [.int .i64 x.1, .int .i64 x.2]
theorem flat_nil : flat [] = [] := rfl
theorem flat_cons (x : I2) (l : List I2) : flat (x :: l) = .int .i64 x.1 :: .int .i64 x.2 :: flat l := rfl
theorem flat_app (l m : List I2) : flat (l ++ m) = flat l ++ flat m := by unfold flat; rw [List.flatMap_append]
theorem flat_len (l : List I2) : (flat l).length = l.length * 2 := by
  induction l with
  | nil => rfl
  | cons x l ih => rw [flat_cons, List.length_cons, List.length_cons, ih, List.length_cons]; omega
theorem flat_one (l : List I2) : ∀ u ∈ flat l, u.oneCell' = true := by
  intro u hu
  unfold flat at hu
  rw [List.mem_flatMap] at hu
  obtain ⟨x, _, hx⟩ := hu
  simp at hx
  rcases hx with rfl | rfl <;> rfl
theorem flat_at (l : List I2) (i : Nat) (h : i < l.length) : (flat l)[i * 2]? = some (.int .i64 l[i].1) ∧ (flat l)[i * 2 + 1]? = some (.int .i64 l[i].2) := by
  induction l generalizing i with
  | nil => simp at h
  | cons x l ih =>
    rcases i with _ | i
    · exact ⟨rfl, rfl⟩
    · have := ih i (by simpa using h)
      rw [flat_cons, show (i + 1) * 2 = i * 2 + 1 + 1 by omega]
      simpa using this
/-- the cells behind an address hold these pairs, two cells each -/
def PairsAt (w : World) (A : Option Addr) (l : List I2) : Prop :=
  ∀ i, (h : i < l.length) → ∃ b o, A = some ⟨b, o, none⟩ ∧ w.cell? ⟨b, o + i * 2, none⟩ = some (.int .i64 l[i].1) ∧ w.cell? ⟨b, o + i * 2 + 1, none⟩ = some (.int .i64 l[i].2)
section
variable {w w' : World} {A : Option Addr} {l : List I2}
theorem PairsAt.nil (w : World) (A : Option Addr) : PairsAt w A [] := fun i hi => absurd hi (by simp)
theorem PairsAt.below (h : PairsAt w A l) (hb : Below w.heap.size w w') : PairsAt w' A l := fun i hi => by
  obtain ⟨b, o, hA, h0, h1⟩ := h i hi
  exact ⟨b, o, hA, (hb.cell (p := ⟨b, o + i * 2, none⟩) (cell_lt h0)).trans h0, (hb.cell (p := ⟨b, o + i * 2 + 1, none⟩) (cell_lt h1)).trans h1⟩
theorem PairsAt.belowK {D : Nat} (h : PairsAt w A l) (hb : Below D w w') (hn : 0 < l.length → ∀ a, A = some a → a.block < D) : PairsAt w' A l := fun i hi => by
  obtain ⟨b, o, hA, h0, h1⟩ := h i hi
  have := hn (by omega) _ hA
  exact ⟨b, o, hA, (hb.cell (p := ⟨b, o + i * 2, none⟩) this).trans h0, (hb.cell (p := ⟨b, o + i * 2 + 1, none⟩) this).trans h1⟩
theorem PairsAt.keep {F : Nat → Prop} (h : PairsAt w A l) (q : Keeps F w w') (hn : 0 < l.length → ∀ a, A = some a → ¬ F a.block) : PairsAt w' A l := fun i hi => by
  obtain ⟨b, o, hA, h0, h1⟩ := h i hi
  have := hn (by omega) _ hA
  exact ⟨b, o, hA, q.cell h0 this, q.cell h1 this⟩
theorem PairsAt.lit (w : World) (x : I2) (t : TypeId) : PairsAt (w.alloc (.cells #[.int .i64 x.1, .int .i64 x.2] t)) (some ⟨w.heap.size, 0, none⟩) [x] := fun i hi => by
  obtain rfl : i = 0 := by simp at hi; omega
  exact ⟨w.heap.size, 0, rfl, by simp, by simp⟩
theorem PairsAt.cell (h : PairsAt w A l) (h0 : 0 < l.length) : ∃ b o, A = some ⟨b, o, none⟩ ∧ ∀ j u, (flat l)[j]? = some u → w.cell? ((⟨b, o, none⟩ : Addr).add j) = some u := by
  obtain ⟨b, o, hA, _⟩ := h 0 h0
  refine ⟨b, o, hA, fun j u hj => ?_⟩
  have hjl : j < l.length * 2 := by
    rw [← flat_len]
    rcases Nat.lt_or_ge j (flat l).length with q | q
    · exact q
    · rw [List.getElem?_eq_none q] at hj; cases hj
  have hadd : (⟨b, o, none⟩ : Addr).add j = ⟨b, o + j, none⟩ := by unfold Addr.add; split <;> simp_all
  rw [hadd]
  have hi : j / 2 < l.length := by omega
  obtain ⟨b', o', e, k0, k1⟩ := h (j / 2) hi
  rw [hA] at e; injection e with e; injection e with e1 e2; subst e1; subst e2
  obtain ⟨f0, f1⟩ := flat_at l (j / 2) hi
  rcases (show j = j / 2 * 2 ∨ j = j / 2 * 2 + 1 by omega) with q | q
  · rw [← q] at f0 k0
    rw [k0, ← hj, f0]
  · rw [← q] at f1
    rw [show o + j / 2 * 2 + 1 = o + j by omega] at k1
    rw [k1, ← hj, f1]
theorem PairsAt.take (h : PairsAt w A l) (k : Nat) : PairsAt w A (l.take k) := fun i hi => by
  have hi' : i < l.length := by simp at hi; omega
  obtain ⟨b, o, hA, h0, h1⟩ := h i hi'
  exact ⟨b, o, hA, by rw [List.getElem_take]; exact h0, by rw [List.getElem_take]; exact h1⟩
theorem PairsAt.drop {b o : Nat} (h : PairsAt w (some ⟨b, o, none⟩) l) (k : Nat) : PairsAt w (some ⟨b, o + k * 2, none⟩) (l.drop k) := fun i hi => by
  have hi' : k + i < l.length := by simp at hi; omega
  obtain ⟨b2, o2, hA, h0, h1⟩ := h (k + i) hi'
  injection hA with hA; injection hA with e1 e2; subst e1; subst e2
  refine ⟨b, o + k * 2, rfl, ?_, ?_⟩
  · rw [List.getElem_drop, show o + k * 2 + i * 2 = o + (k + i) * 2 by omega]; exact h0
  · rw [List.getElem_drop, show o + k * 2 + i * 2 + 1 = o + (k + i) * 2 + 1 by omega]; exact h1
end

section
variable {w : World} {base : Nat}
theorem place_s {t ty e : TypeId} {i : TypeInfo} {z : Value} {size bytes : Nat} (ht : Try.prog.underlying t = some (.slice e)) (hi : Try.prog.info? e = some i) (hz : i.zero = some z) (hsize : i.size = size) (hby : i.bytes = bytes)
    {v : Value} {n : Nat} {xs : List Value} (hown : w.ownsRow base e size v n xs) {a : Addr} {c m : Nat} {news : List Value} (hl : news.length = m * size) (hm : 0 < m) (hnews : ∀ j u, news[j]? = some u → w.cell? (a.add j) = some u) (hone : ∀ u ∈ news, u.oneCell' = true) (h63 : n + m ≤ maxLen) (hbytes : (n + m) * bytes ≤ 140737488355328)
    {v' : Value} {w' : World} (hrun : (Builtin.append_ #[t, t] ty #[v, .slice (some a) m c]).run Try.prog w = .ok v' w') : v'.ownBlock = v.ownBlock ∨ v'.ownBlock = some w.heap.size := by
  have hsmall : n + m ≤ 9223372036854775807 := by simp only [maxLen] at h63; omega
  subst hsize
  subst hby
  rcases hown.2 with ⟨rfl, rfl⟩ | ⟨g, cap, cur, rfl, hbg, hg, hnc, hcm, hcs, htake⟩
  · have hr := run_append_nil (P := Try.prog) w t ty e i z ht hi hz a m c news hl hnews hm (by omega) (by have hb := hbytes; simp only [Nat.zero_add] at hb; omega)
    rw [hr] at hrun
    injection hrun with e1 e2
    subst e1
    exact .inr rfl
  · by_cases hroom : n + m ≤ cap
    · have hfit : n * i.size + news.length ≤ cur.size := by rw [hl, hcs, ← Nat.add_mul]; exact Nat.mul_le_mul_right _ hroom
      have hr := run_append_room (P := Try.prog) w t ty e i ht hi g n cap cur hg a m c news hl hnews hone hroom hfit
      rw [hr] at hrun
      injection hrun with e1 e2
      subst e1
      exact .inl rfl
    · have holds : ∀ j u, xs[j]? = some u → w.cell? ((⟨g, 0, none⟩ : Addr).add j) = some u := hown.cells (g := g) rfl
      have hr := run_append_grow (P := Try.prog) w t ty e i z ht hi hz ⟨g, 0, none⟩ n cap xs hown.1 holds a m c news hl hnews (by omega) (by omega) (growslice_fits (by omega) hbytes)
      rw [hr] at hrun
      injection hrun with e1 e2
      subst e1
      exact .inr rfl
end
/-- a list of pairs that the call has gathered, of elements of type e -/
def OwnPr (w : World) (base : Nat) (e : TypeId) (v : Value) (l : List I2) : Prop := w.ownsRow base e 2 v l.length (flat l)
section
variable {w w' : World} {base : Nat} {e : TypeId} {v v' : Value} {l l' : List I2}
theorem OwnPr.nil (w : World) (base : Nat) (e : TypeId) : OwnPr w base e (.slice none 0 0) [] := World.ownsRow_nil _ _ _ _
theorem OwnPr.empty (w : World) (base : Nat) (e : TypeId) (h : base ≤ w.heap.size) : OwnPr (w.alloc (.cells #[] e)) base e (.slice (some ⟨w.heap.size, 0, none⟩) 0 0) [] :=
  ⟨rfl, .inr ⟨w.heap.size, 0, #[], rfl, h, heap_alloc_new w _, Nat.le_refl _, Nat.zero_le _, rfl, rfl⟩⟩
theorem OwnPr.keep {F : Nat → Prop} (h : OwnPr w base e v l) (q : Keeps F w w') (hF : ∀ k, v.ownBlock = some k → ¬ F k) : OwnPr w' base e v l := by
  refine ⟨h.1, ?_⟩
  rcases h.2 with h2 | ⟨g, cap, cur, rfl, h2, h3, h4⟩
  · exact .inl h2
  · exact .inr ⟨g, cap, cur, rfl, h2, (q.block g (Array.getElem?_eq_some_iff.1 h3).1 (hF g rfl)).trans h3, h4⟩
theorem OwnPr.below (h : OwnPr w base e v l) (hb : Below w.heap.size w w') : OwnPr w' base e v l := h.keep (F := fun _ => False) (.of_below _ hb) fun _ _ => id
theorem OwnPr.lt (h : OwnPr w base e v l) : ∀ k, v.ownBlock = some k → base ≤ k ∧ k < w.heap.size := World.ownsRow.lt h
theorem OwnPr.pairs (h : OwnPr w base e v l) : ∃ A c, v = .slice A l.length c ∧ l.length ≤ c ∧ c ≤ maxLen ∧ PairsAt w A l ∧ (∀ a, A = some a → base ≤ a.block ∧ a.block < w.heap.size ∧ v.ownBlock = some a.block) := by
  have hlt := h.lt
  rcases h.2 with ⟨rfl, hn⟩ | ⟨g, cap, cur, rfl, hg, h3, h4, h5, h6, h7⟩
  · have : l = [] := List.eq_nil_of_length_eq_zero hn
    subst this
    exact ⟨none, 0, rfl, Nat.le_refl _, Nat.zero_le _, PairsAt.nil _ _, fun a e => by cases e⟩
  · refine ⟨_, _, rfl, h4, h5, fun i hi => ⟨g, 0, rfl, ?_, ?_⟩, fun a e => by injection e with e; subst e; exact ⟨hg, (hlt g rfl).2, rfl⟩⟩
    · have := (flat_at l i hi).1
      rw [← h7, List.getElem?_take, if_pos (by omega)] at this
      rw [Nat.zero_add, cell_of_row w g (i * 2) cur e (0, 0) h3, ← this]; simp
    · have := (flat_at l i hi).2
      rw [← h7, List.getElem?_take, if_pos (by omega)] at this
      rw [Nat.zero_add, cell_of_row w g (i * 2 + 1) cur e (0, 0) h3, ← this]; simp
end
structure AppdPr (w : World) (base : Nat) (e : TypeId) (v : Value) (l : List I2) (v' : Value) (w' : World) : Prop where
  own : OwnPr w' base e v' l
  grow : w.grownBy w' v.ownBlock
  place : v'.ownBlock = v.ownBlock ∨ v'.ownBlock = some w.heap.size
theorem AppdPr.below {w w' w0 : World} {base B : Nat} {e : TypeId} {v v' : Value} {l xs : List I2} (a : AppdPr w base e v l v' w') (hown : OwnPr w base e v xs) (hb : Below B w0 w) (hB : B ≤ base) (hs : B ≤ w.heap.size) : Below B w0 w' :=
  hb.grown a.grow hs fun k hk => Nat.le_trans hB (hown.lt k hk).1
theorem run_append_pairs {t ty e : TypeId} {i : TypeInfo} {z : Value} {bytes : Nat} (ht : Try.prog.underlying t = some (.slice e)) (hi : Try.prog.info? e = some i) (hz : i.zero = some z) (hsize : i.size = 2) (hby : i.bytes = bytes) (hzs : z.cells.size = 2)
    {w : World} {base : Nat} {v : Value} {xs : List I2} (hown : OwnPr w base e v xs) {A : Option Addr} {c m : Nat} {ys : List I2} (hy : ys.length = m) (hA : PairsAt w A ys)
    (hl : xs.length + m < 1099511627776) (hb : bytes ≤ 64) (hbase : base ≤ w.heap.size) :
    ∃ v' w', (Builtin.append_ #[t, t] ty #[v, .slice A m c]).run Try.prog w = .ok v' w' ∧ AppdPr w base e v (xs ++ ys) v' w' := by
  have hbytes : (xs.length + m) * bytes ≤ 140737488355328 := Nat.le_trans (Nat.mul_le_mul_left _ hb) (by omega)
  rcases A with _ | a
  · have : ys = [] := by
      rcases ys with _ | ⟨x, ys⟩
      · rfl
      · obtain ⟨b, o, e, _⟩ := hA 0 (by simp); cases e
    subst this
    subst hy
    refine ⟨v, w, ?_, by rw [List.append_nil]; exact hown, grow_refl _ _, .inl rfl⟩
    rcases hown.2 with ⟨rfl, _⟩ | ⟨g, cap, cur, rfl, _, _, hnc, _⟩
    · simp [Builtin.append_, run_underlying ht, sizeOf, typeInfo, hi, Builtin.lenOf, Builtin.firstCells]
    · simp [Builtin.append_, run_underlying ht, sizeOf, typeInfo, hi, Builtin.lenOf, Builtin.firstCells, hnc, storeCells]
  · have hfl : (flat ys).length = m * 2 := by rw [flat_len, hy]
    have hnews : ∀ j u, (flat ys)[j]? = some u → w.cell? (a.add j) = some u := by
      by_cases h0 : 0 < ys.length
      · obtain ⟨b, o, e, hc⟩ := hA.cell h0
        injection e with e; subst e
        exact hc
      · have : ys = [] := List.eq_nil_of_length_eq_zero (by omega)
        subst this
        exact fun j u hj => by simp [flat] at hj
    obtain ⟨v', w', hrun, r1, r2, r3⟩ := run_append_own (P := Try.prog) w base t ty e i z 2 bytes ht hi hz hsize hby hzs (by omega) v xs.length (flat xs) hown a m c (flat ys) hfl hnews (flat_one ys) (by unfold maxLen; omega) hbytes hbase
    refine ⟨v', w', hrun, ?_, r2, ?_⟩
    · unfold OwnPr; rw [flat_app, List.length_append, hy]; exact r1
    by_cases h0 : 0 < m
    · exact place_s ht hi hz hsize hby hown hfl h0 hnews (flat_one ys) (by unfold maxLen; omega) hbytes hrun
    · obtain rfl : m = 0 := by omega
      have : ys = [] := List.eq_nil_of_length_eq_zero hy
      subst this
      rcases hown.2 with ⟨rfl, h0'⟩ | ⟨g, cap, cur, rfl, hbg, hg, hnc, hcm, hcs, htake⟩
      · have : v' = .slice none 0 0 := r3.2 ⟨rfl, rfl⟩
        subst this; exact .inl rfl
      · have hr := run_append_room (P := Try.prog) w t ty e i ht hi g xs.length cap cur hg a 0 c [] (by simp) (fun j u h => by simp at h) (fun u h => by simp at h) (by omega) (by rw [hsize, hcs]; simp; omega)
        rw [hr] at hrun
        injection hrun with e1 e2
        subst e1
        exact .inl rfl
theorem wpList_append_pairs {t e : TypeId} {i : TypeInfo} {z : Value} {bytes : Nat} (ht : Try.prog.underlying t = some (.slice e)) (hi : Try.prog.info? e = some i) (hz : i.zero = some z) (hsize : i.size = 2) (hby : i.bytes = bytes) (hzs : z.cells.size = 2)
    {ops : Array Oper} {rest : List Oper} {o : Oper} {a : Act} {w : World} {Q : Exit → Act → World → Prop} (hgd : o.guard = none) (s x : Operand)
    (ho : o.op = .call { callee := .builtin .append, args := #[s, x], argTypes := #[t, t] })
    (base : Nat) (v : Value) (xs : List I2) (hs : a.eval s = v) (hown : OwnPr w base e v xs) (A : Option Addr) (m c : Nat) (ys : List I2) (hx : a.eval x = .slice A m c) (hy : ys.length = m) (hA : PairsAt w A ys)
    (hl : xs.length + m < 1099511627776) (hb : bytes ≤ 64) (hbase : base ≤ w.heap.size)
    (h : ∀ v' w', AppdPr w base e v (xs ++ ys) v' w' → wpList Try.prog ops Q rest (a.put o.dst v') w') : wpList Try.prog ops Q (o :: rest) a w :=
  wpList_plain hgd fun _ hK => by
    obtain ⟨v', w', hrun, k2⟩ := run_append_pairs (ty := o.type) ht hi hz hsize hby hzs hown hy hA hl hb hbase (c := c)
    unfold Oper.wp execOp
    simp only [ho, resolve, invoke, builtin, Sem.run_bind, Sem.run_pure, Result.andThen_ok, List.map_toArray, List.map_cons, List.map_nil, hs, hx, hrun]
    exact hK _ _ (h v' w' k2)
/-- an append onto an empty row that has no room: nothing that there was is written -/
theorem run_append_fresh {t ty e : TypeId} {i : TypeInfo} {z : Value} {bytes : Nat} (ht : Try.prog.underlying t = some (.slice e)) (hi : Try.prog.info? e = some i) (hz : i.zero = some z) (hsize : i.size = 2) (hby : i.bytes = bytes) (hzs : z.cells.size = 2)
    {w : World} {base g : Nat} (hg : w.heap[g]? = some (.cells #[] e (0, 0))) (hbg : base ≤ g) {A : Option Addr} {c m : Nat} {ys : List I2} (hy : ys.length = m) (hA : PairsAt w A ys)
    (hl : m < 1099511627776) (hb : bytes ≤ 64) (hbase : base ≤ w.heap.size) :
    ∃ v' w', (Builtin.append_ #[t, t] ty #[.slice (some ⟨g, 0, none⟩) 0 0, .slice A m c]).run Try.prog w = .ok v' w' ∧ OwnPr w' base e v' ys ∧ Below w.heap.size w w' := by
  have hown : OwnPr w base e (.slice (some ⟨g, 0, none⟩) 0 0) [] := ⟨rfl, .inr ⟨g, 0, #[], rfl, hbg, hg, Nat.le_refl _, Nat.zero_le _, rfl, rfl⟩⟩
  obtain ⟨v', w', hrun, ha⟩ := run_append_pairs (ty := ty) ht hi hz hsize hby hzs hown hy hA (by simp; omega) hb hbase (c := c)
  refine ⟨v', w', hrun, by have := ha.own; rw [List.nil_append] at this; exact this, ?_⟩
  rcases A with _ | a
  · have : ys = [] := by
      rcases ys with _ | ⟨x, ys⟩
      · rfl
      · obtain ⟨b, o, e, _⟩ := hA 0 (by simp); cases e
    subst this
    subst hy
    have hr : (Builtin.append_ #[t, t] ty #[.slice (some ⟨g, 0, none⟩) 0 0, .slice none ([] : List I2).length c]).run Try.prog w = .ok (.slice (some ⟨g, 0, none⟩) 0 0) w := by
      simp [Builtin.append_, run_underlying ht, sizeOf, typeInfo, hi, Builtin.lenOf, Builtin.firstCells, storeCells]
    rw [hr] at hrun
    injection hrun with _ e2
    subst e2
    exact Below.refl _ _
  · have hfl : (flat ys).length = m * i.size := by rw [flat_len, hy, hsize]
    by_cases h0 : 0 < m
    · obtain ⟨b, o, e, hnews⟩ := hA.cell (by omega)
      injection e with e; subst e
      have hbytes : m * bytes ≤ 140737488355328 := Nat.le_trans (Nat.mul_le_mul_left _ hb) (by omega)
      have hr := run_append_grow (P := Try.prog) w t ty e i z ht hi hz ⟨g, 0, none⟩ 0 0 [] (by simp) (fun j u h => by simp at h) ⟨b, o, none⟩ m c (flat ys) hfl hnews (by omega) (by omega) (growslice_fits (by omega) (by rw [hby, Nat.zero_add]; exact hbytes))
      rw [hr] at hrun
      injection hrun with _ e2
      subst e2
      exact bstep (bdraw w 1) (balloc _ _)
    · obtain rfl : m = 0 := by omega
      have : ys = [] := List.eq_nil_of_length_eq_zero hy
      subst this
      have hr := run_append_room (P := Try.prog) w t ty e i ht hi g 0 0 #[] hg a 0 c [] (by simp) (fun j u h => by simp at h) (fun u h => by simp at h) (by omega) (by simp)
      rw [hr] at hrun
      injection hrun with _ e2
      subst e2
      have hsr := setRow_heap w g #[] (((#[] : Array Value).toList.take (0 * i.size) ++ ([] : List Value) ++ (#[] : Array Value).toList.drop (0 * i.size + ([] : List Value).length)).toArray) e (0, 0) hg
      refine ⟨rfl, rfl, rfl, by simp [World.setRow], fun k _ => ?_⟩
      by_cases e : k = g
      · subst e
        rw [hsr, hg]; simp
      · show (w.heap.modify g _)[k]? = w.heap[k]?
        rw [Array.getElem?_modify, if_neg (fun e' => e e'.symm)]
theorem wp_append_fresh {t e : TypeId} {i : TypeInfo} {z : Value} {bytes : Nat} (ht : Try.prog.underlying t = some (.slice e)) (hi : Try.prog.info? e = some i) (hz : i.zero = some z) (hsize : i.size = 2) (hby : i.bytes = bytes) (hzs : z.cells.size = 2)
    {o : Oper} {a : Act} {w : World} {K : Act → World → Prop} {Q : Exit → Act → World → Prop} (s x : Operand)
    (ho : o.op = .call { callee := .builtin .append, args := #[s, x], argTypes := #[t, t] })
    (base g : Nat) (hs : a.eval s = .slice (some ⟨g, 0, none⟩) 0 0) (hg : w.heap[g]? = some (.cells #[] e (0, 0))) (hbg : base ≤ g) (A : Option Addr) (m c : Nat) (ys : List I2) (hx : a.eval x = .slice A m c) (hy : ys.length = m) (hA : PairsAt w A ys)
    (hl : m < 1099511627776) (hb : bytes ≤ 64) (hbase : base ≤ w.heap.size)
    (h : ∀ v' w', OwnPr w' base e v' ys → Below w.heap.size w w' → K (a.put o.dst v') w') : o.wp Try.prog a w K Q := by
  obtain ⟨v', w', hrun, k2, k3⟩ := run_append_fresh (ty := o.type) ht hi hz hsize hby hzs hg hbg hy hA hl hb hbase (c := c)
  unfold Oper.wp execOp
  simp only [ho, resolve, invoke, builtin, Sem.run_bind, Sem.run_pure, Result.andThen_ok, List.map_toArray, List.map_cons, List.map_nil, hs, hx, hrun]
  exact h v' w' k2 k3
end Go.Proofs.Ythmllbijfgimcaa.Pairs
