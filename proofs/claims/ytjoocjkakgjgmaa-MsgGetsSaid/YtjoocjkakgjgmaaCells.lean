/- lists of values of one cell each, of whatever type: in memory, gathered, appended -/
import Derived.Test.YtjoocjkakgjgmaaApp
set_option maxRecDepth 100000
namespace Go.Proofs.Ytjoocjkakgjgmaa
open Go.RowKit

section
variable {w w' : World} {A : Option Addr} {vs : List Value}
theorem CellsAt.nil (w : World) (A : Option Addr) : CellsAt w A [] := fun i hi => absurd hi (by simp)
theorem CellsAt.below (h : CellsAt w A vs) (hb : Below w.heap.size w w') : CellsAt w' A vs := fun i hi => by
  obtain ⟨b, o, hA, hc⟩ := h i hi
  exact ⟨b, o, hA, (hb.cell (p := ⟨b, o + i, none⟩) (cell_lt hc)).trans hc⟩
theorem CellsAt.drewN (h : CellsAt w A vs) (n : Nat) : CellsAt (w.drewN n) A vs := h
theorem CellsAt.keep {F : Nat → Prop} (h : CellsAt w A vs) (q : Keeps F w w') (hn : 0 < vs.length → ∀ a, A = some a → ¬ F a.block) : CellsAt w' A vs := fun i hi => by
  obtain ⟨b, o, hA, hc⟩ := h i hi
  exact ⟨b, o, hA, q.cell hc (hn (by omega) ⟨b, o, none⟩ hA)⟩
theorem CellsAt.take (h : CellsAt w A vs) (k : Nat) : CellsAt w A (vs.take k) := fun i hi => by
  have hi' : i < vs.length := by simp at hi; omega
  obtain ⟨b, o, hA, hc⟩ := h i hi'
  exact ⟨b, o, hA, by rw [List.getElem_take]; exact hc⟩
theorem CellsAt.drop {b o : Nat} (h : CellsAt w (some ⟨b, o, none⟩) vs) (k : Nat) : CellsAt w (some ⟨b, o + k, none⟩) (vs.drop k) := fun i hi => by
  have hi' : k + i < vs.length := by simp at hi; omega
  obtain ⟨b2, o2, hA, hc⟩ := h (k + i) hi'
  injection hA with hA; injection hA with h1 h2; subst h1; subst h2
  exact ⟨b, o + k, rfl, by rw [List.getElem_drop, Nat.add_assoc]; exact hc⟩
theorem CellsAt.lt (h : CellsAt w A vs) (h0 : 0 < vs.length) : ∀ a, A = some a → a.block < w.heap.size := fun a e => by
  obtain ⟨b, o, hA, hc⟩ := h 0 h0
  rw [e] at hA; injection hA with hA; subst hA
  exact cell_lt hc
/-- a literal's cells -/
theorem CellsAt.lit (w : World) (vs : Array Value) (t : TypeId) : CellsAt (w.alloc (.cells vs t)) (some ⟨w.heap.size, 0, none⟩) vs.toList := fun i hi => by
  refine ⟨w.heap.size, 0, rfl, ?_⟩
  rw [Nat.zero_add, World.cell?_alloc_new]; simp at hi; simp [hi]
end

/-- what an append onto a list of the call's own gives -/
structure AppdV (w : World) (base : Nat) (e : TypeId) (v : Value) (n : Nat) (xs : List Value) (v' : Value) (w' : World) : Prop where
  own : w'.ownsRow base e 1 v' n xs
  grow : w.grownBy w' v.ownBlock
  place : v'.ownBlock = v.ownBlock ∨ v'.ownBlock = some w.heap.size
theorem run_append_cells {t ty e : TypeId} {i : TypeInfo} {z : Value} {bytes : Nat} (ht : Try.prog.underlying t = some (.slice e)) (hi : Try.prog.info? e = some i) (hz : i.zero = some z) (hsize : i.size = 1) (hby : i.bytes = bytes) (hzs : z.cells.size = 1)
    {w : World} {base : Nat} {v : Value} {n : Nat} {xs : List Value} (hown : w.ownsRow base e 1 v n xs) {A : Option Addr} {c m : Nat} {ys : List Value} (hy : ys.length = m) (hA : CellsAt w A ys) (hone : ∀ u ∈ ys, u.oneCell' = true)
    (hl : n + m < 1099511627776) (hb : bytes ≤ 64) (hbase : base ≤ w.heap.size) :
    ∃ v' w', (Builtin.append_ #[t, t] ty #[v, .slice A m c]).run Try.prog w = .ok v' w' ∧ AppdV w base e v (n + m) (xs ++ ys) v' w' := by
  have hbytes : (n + m) * bytes ≤ 140737488355328 := Nat.le_trans (Nat.mul_le_mul_left _ hb) (by omega)
  rcases A with _ | a
  · have : ys = [] := by
      rcases ys with _ | ⟨x, ys⟩
      · rfl
      · obtain ⟨b, o, e, _⟩ := hA 0 (by simp); cases e
    subst this
    subst hy
    refine ⟨v, w, ?_, by rw [List.append_nil]; exact hown, grow_refl _ _, .inl rfl⟩
    rcases hown.2 with ⟨rfl, _⟩ | ⟨g, cap, cur, rfl, _, _, hnc, _⟩
    · simp [Builtin.append_, run_underlying ht, sizeOf, typeInfo, hi, Builtin.lenOf, Builtin.firstCells]
    · simp [Builtin.append_, run_underlying ht, sizeOf, typeInfo, hi, Builtin.lenOf, Builtin.firstCells, hnc, storeCells]
  · have hnews : ∀ j u, ys[j]? = some u → w.cell? (a.add j) = some u := by
      intro j u hj
      have hjl : j < ys.length := by
        rcases Nat.lt_or_ge j ys.length with hlt | hge
        · exact hlt
        · rw [List.getElem?_eq_none hge] at hj; cases hj
      obtain ⟨b, o, e, hc⟩ := hA j hjl
      injection e with e; subst e
      rw [List.getElem?_eq_getElem hjl] at hj
      injection hj with hj; subst hj
      have hadd : (⟨b, o, none⟩ : Addr).add j = ⟨b, o + j, none⟩ := by unfold Addr.add; split <;> simp_all
      rw [hadd]; exact hc
    obtain ⟨v', w', hrun, r1, r2, r3⟩ := run_append_own (P := Try.prog) w base t ty e i z 1 bytes ht hi hz hsize hby hzs (by omega) v n xs hown a m c ys (by rw [hy, Nat.mul_one]) hnews hone (by unfold maxLen; omega) hbytes hbase
    refine ⟨v', w', hrun, r1, r2, ?_⟩
    by_cases h0 : 0 < m
    · exact append_place_l ht hi hz hsize hby hown hy h0 hnews hone (by unfold maxLen; omega) hbytes hrun
    · obtain rfl : m = 0 := by omega
      have : ys = [] := List.eq_nil_of_length_eq_zero hy
      subst this
      rcases hown.2 with ⟨rfl, h0'⟩ | ⟨g, cap, cur, rfl, hbg, hg, hnc, hcm, hcs, htake⟩
      · have : v' = .slice none 0 0 := r3.2 ⟨rfl, rfl⟩
        subst this; exact .inl rfl
      · have hr := run_append_room (P := Try.prog) w t ty e i ht hi g n cap cur hg a 0 c [] (by simp) (fun j u h => by simp at h) (fun u h => by simp at h) (by omega) (by rw [hsize, hcs]; simp; omega)
        rw [hr] at hrun
        injection hrun with e1 e2
        subst e1
        exact .inl rfl
section
variable {w w' : World} {base : Nat} {e : TypeId} {v v' : Value} {n : Nat} {xs : List Value}
theorem ownV_nil (w : World) (base : Nat) (e : TypeId) : w.ownsRow base e 1 (.slice none 0 0) 0 [] := World.ownsRow_nil _ _ _ _
theorem ownV_empty (w : World) (base : Nat) (e : TypeId) (h : base ≤ w.heap.size) : (w.alloc (.cells #[] e)).ownsRow base e 1 (.slice (some ⟨w.heap.size, 0, none⟩) 0 0) 0 [] :=
  ⟨rfl, .inr ⟨w.heap.size, 0, #[], rfl, h, heap_alloc_new w _, Nat.le_refl _, Nat.zero_le _, rfl, rfl⟩⟩
theorem ownV_keep {F : Nat → Prop} (h : w.ownsRow base e 1 v n xs) (q : Keeps F w w') (hF : ∀ k, v.ownBlock = some k → ¬ F k) : w'.ownsRow base e 1 v n xs := by
  refine ⟨h.1, ?_⟩
  rcases h.2 with h2 | ⟨g, cap, cur, rfl, h2, h3, h4⟩
  · exact .inl h2
  · refine .inr ⟨g, cap, cur, rfl, h2, (q.block g ?_ (hF g rfl)).trans h3, h4⟩
    rcases Nat.lt_or_ge g w.heap.size with hlt | hge
    · exact hlt
    · rw [Array.getElem?_eq_none hge] at h3; cases h3
theorem ownV_below (h : w.ownsRow base e 1 v n xs) (hb : Below w.heap.size w w') : w'.ownsRow base e 1 v n xs :=
  ownV_keep (F := fun _ => False) h (.of_below _ hb) fun _ _ => id
/-- what was gathered, as a list in memory -/
theorem ownV_cells (h : w.ownsRow base e 1 v n xs) : ∃ A c, v = .slice A n c ∧ n ≤ c ∧ c ≤ maxLen ∧ xs.length = n ∧ CellsAt w A xs ∧ ∀ a, A = some a → base ≤ a.block := by
  have hl : xs.length = n := by have := h.1; omega
  rcases h.2 with ⟨rfl, rfl⟩ | ⟨g, cap, cur, rfl, hg, h3, h4, h5, h6, h7⟩
  · have : xs = [] := List.eq_nil_of_length_eq_zero hl
    subst this
    exact ⟨none, 0, rfl, Nat.le_refl _, Nat.zero_le _, rfl, CellsAt.nil _ _, fun a e => by cases e⟩
  · refine ⟨_, _, rfl, h4, h5, hl, fun i hi => ⟨g, 0, rfl, ?_⟩, fun a e => by injection e with e; subst e; exact hg⟩
    rw [Nat.zero_add, cell_of_row w g i cur e (0, 0) h3, ← List.getElem?_eq_getElem hi, ← h7, Nat.mul_one, List.getElem?_take, if_pos (by omega)]
    simp
theorem AppdV.below (a : AppdV w base e v n xs v' w') {w0 : World} {B : Nat} {m : Nat} {ys : List Value} (hown : w.ownsRow base e 1 v m ys) (hb : Below B w0 w) (hB : B ≤ base) (hs : B ≤ w.heap.size) : Below B w0 w' :=
  hb.grown a.grow hs fun k hk => Nat.le_trans hB (World.ownsRow.lt hown k hk).1
end
theorem wpList_append_cells {t e : TypeId} {i : TypeInfo} {z : Value} {bytes : Nat} (ht : Try.prog.underlying t = some (.slice e)) (hi : Try.prog.info? e = some i) (hz : i.zero = some z) (hsize : i.size = 1) (hby : i.bytes = bytes) (hzs : z.cells.size = 1)
    {ops : Array Oper} {rest : List Oper} {o : Oper} {a : Act} {w : World} {Q : Exit → Act → World → Prop} (hgd : o.guard = none) (s x : Operand)
    (ho : o.op = .call { callee := .builtin .append, args := #[s, x], argTypes := #[t, t] })
    (base : Nat) (v : Value) (n : Nat) (xs : List Value) (hs : a.eval s = v) (hown : w.ownsRow base e 1 v n xs) (A : Option Addr) (m c : Nat) (ys : List Value) (hx : a.eval x = .slice A m c) (hy : ys.length = m) (hA : CellsAt w A ys) (hone : ∀ u ∈ ys, u.oneCell' = true)
    (hl : n + m < 1099511627776) (hb : bytes ≤ 64) (hbase : base ≤ w.heap.size)
    (h : ∀ v' w', AppdV w base e v (n + m) (xs ++ ys) v' w' → wpList Try.prog ops Q rest (a.put o.dst v') w') : wpList Try.prog ops Q (o :: rest) a w :=
  wpList_plain hgd fun _ hK => by
    obtain ⟨v', w', hrun, k2⟩ := run_append_cells (ty := o.type) ht hi hz hsize hby hzs hown hy hA hone hl hb hbase (c := c)
    unfold Oper.wp execOp
    simp only [ho, resolve, invoke, builtin, Sem.run_bind, Sem.run_pure, Result.andThen_ok, List.map_toArray, List.map_cons, List.map_nil, hs, hx, hrun]
    exact hK _ _ (h v' w' k2)
end Go.Proofs.Ytjoocjkakgjgmaa
