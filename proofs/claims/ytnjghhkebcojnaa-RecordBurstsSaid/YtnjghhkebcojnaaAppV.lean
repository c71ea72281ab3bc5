/- a list of rows appended to a list of the call's own -/
import Derived.Test.YtnjghhkebcojnaaRowsN
set_option maxRecDepth 100000
namespace Go.Proofs.Ytnjghhkebcojnaa
open Go.RowKit

/-- 'append(rows, more...)', the rows of whatever slice, onto a list of the call's own: what its places hold -/
theorem run_append_vals (w : World) (ty : TypeId) (base : Nat) (v : Value) (vs news : List Value) (hown : w.ownsRow base 22 1 v vs.length vs) (A : Option Addr) (c : Nat)
    (hA : ∀ j u, news[j]? = some u → ∃ b o, A = some ⟨b, o, none⟩ ∧ w.cell? ⟨b, o + j, none⟩ = some u) (hone : ∀ u ∈ news, u.oneCell' = true)
    (hl : vs.length + news.length < 1099511627776) (hbase : base ≤ w.heap.size) :
    ∃ v' w', (Builtin.append_ #[25, 25] ty #[v, .slice A news.length c]).run Try.prog w = .ok v' w' ∧ w'.ownsRow base 22 1 v' (vs ++ news).length (vs ++ news) ∧ Below base w w' := by
  obtain ⟨i0, hi, hz, hs, hb⟩ := sl_info'
  rcases A with _ | a
  · have : news = [] := by
      rcases news with _ | ⟨x, l2⟩
      · rfl
      · obtain ⟨b, o, e, _⟩ := hA 0 x (by simp); cases e
    subst this
    refine ⟨v, w, ?_, by rw [List.append_nil]; exact hown, Below.refl _ _⟩
    rcases hown.2 with ⟨rfl, _⟩ | ⟨g, cap, cur, rfl, _, _, hnc, _⟩
    · simp [Builtin.append_, run_underlying Try.underlying25, sizeOf, typeInfo, hi, Builtin.lenOf, Builtin.firstCells]
    · simp [Builtin.append_, run_underlying Try.underlying25, sizeOf, typeInfo, hi, Builtin.lenOf, Builtin.firstCells, hnc, storeCells]
  · have hnews : ∀ j u, news[j]? = some u → w.cell? (a.add j) = some u := by
      intro j u hj
      obtain ⟨b, o, e, hc⟩ := hA j u hj
      injection e with e; subst e
      have hadd : (⟨b, o, none⟩ : Addr).add j = ⟨b, o + j, none⟩ := by unfold Addr.add; split <;> simp_all
      rw [hadd]; exact hc
    obtain ⟨v', w', hrun, r1, r2, _⟩ := run_append_own (P := Try.prog) w base 25 ty 22 i0 _ 1 24 Try.underlying25 hi hz hs hb rfl (by omega) v vs.length vs hown
      a news.length c news (by rw [Nat.mul_one]) hnews hone (by unfold maxLen; omega) (by omega) hbase
    exact ⟨v', w', hrun, by rw [List.length_append]; exact r1, (Below.refl _ _).grown r2 hbase fun k hk => (hown.lt k hk).1⟩
theorem wpList_append_vals {ops : Array Oper} {rest : List Oper} {o : Oper} {a : Act} {w : World} {Q : Exit → Act → World → Prop} (hgd : o.guard = none) (s x : Operand)
    (ho : o.op = .call { callee := .builtin .append, args := #[s, x], argTypes := #[25, 25] })
    (base : Nat) (v : Value) (vs news : List Value) (hs : a.eval s = v) (hown : w.ownsRow base 22 1 v vs.length vs) (A : Option Addr) (n c : Nat) (hx : a.eval x = .slice A n c) (hn : n = news.length)
    (hA : ∀ j u, news[j]? = some u → ∃ b o, A = some ⟨b, o, none⟩ ∧ w.cell? ⟨b, o + j, none⟩ = some u) (hone : ∀ u ∈ news, u.oneCell' = true)
    (hl : vs.length + news.length < 1099511627776) (hbase : base ≤ w.heap.size)
    (h : ∀ v' w', w'.ownsRow base 22 1 v' (vs ++ news).length (vs ++ news) → Below base w w' → wpList Try.prog ops Q rest (a.put o.dst v') w') : wpList Try.prog ops Q (o :: rest) a w := by
  subst hn
  obtain ⟨v', w', hrun, k2, k3⟩ := run_append_vals w o.type base v vs news hown A c hA hone hl hbase
  refine wpList_plain hgd fun K hK => ?_
  unfold Oper.wp execOp
  simp only [ho, resolve, invoke, builtin, Sem.run_bind, Sem.run_pure, Result.andThen_ok, List.map_toArray, List.map_cons, List.map_nil, hs, hx, hrun]
  exact hK _ _ (h v' w' k2 k3)
/-- rows as the values of their places -/
theorem rows_vals {w : World} {A : Option Addr} {m : List (List UInt8)} (h : RowsAt w A m) : ∃ vs : List Value, vs.length = m.length ∧ (∀ j u, vs[j]? = some u → ∃ b o, A = some ⟨b, o, none⟩ ∧ w.cell? ⟨b, o + j, none⟩ = some u) ∧ (∀ u ∈ vs, u.oneCell' = true) ∧
    ∀ i, (hi : i < m.length) → ∃ u, vs[i]? = some u ∧ SliceIs w u m[i] := by
  have each : ∀ i : Nat, ∃ u : Value, ∀ hi : i < m.length, ∃ b o, A = some ⟨b, o, none⟩ ∧ w.cell? ⟨b, o + i, none⟩ = some u ∧ SliceIs w u m[i] := fun i => by
    by_cases hi : i < m.length
    · obtain ⟨b, o, v, h1, h2, h3⟩ := h i hi
      exact ⟨v, fun _ => ⟨b, o, h1, h2, h3⟩⟩
    · exact ⟨undef, fun k => absurd k hi⟩
  obtain ⟨f, hf⟩ : ∃ f : Nat → Value, ∀ i, ∀ hi : i < m.length, ∃ b o, A = some ⟨b, o, none⟩ ∧ w.cell? ⟨b, o + i, none⟩ = some (f i) ∧ SliceIs w (f i) m[i] := ⟨fun i => Classical.choose (each i), fun i => Classical.choose_spec (each i)⟩
  refine ⟨(List.range m.length).map f, by simp, fun j u hj => ?_, fun u hu => ?_, fun i hi => ⟨f i, by simp [hi], (hf i hi).choose_spec.choose_spec.2.2⟩⟩
  · have hjl : j < m.length := by
      rcases Nat.lt_or_ge j m.length with h | h
      · exact h
      · rw [List.getElem?_eq_none (by simpa using h)] at hj; cases hj
    rw [List.getElem?_map, List.getElem?_range hjl] at hj
    injection hj with hj
    subst hj
    obtain ⟨b, o, h1, h2, _⟩ := hf j hjl
    exact ⟨b, o, h1, h2⟩
  · obtain ⟨i, hi, rfl⟩ := List.mem_map.1 hu
    obtain ⟨_, _, _, _, B, c, e, _⟩ := hf i (List.mem_range.1 hi)
    rw [e]; rfl
/-- what such values hold, read as rows again -/
theorem OwnM.of_vals {w w' : World} {v : Value} {vs : List Value} {m : List (List UInt8)} (hown : w'.ownsRow w.heap.size 22 1 v vs.length vs) (hn : vs.length = m.length) (hb : Below w.heap.size w w')
    (h : ∀ i, (hi : i < m.length) → ∃ u, vs[i]? = some u ∧ SliceIs w u m[i]) : OwnM w' w.heap.size v m :=
  ⟨vs, by rw [← hn]; exact hown, fun i hi => by
    obtain ⟨u, h1, A, c, h2, h3, h4, h5⟩ := h i hi
    exact ⟨u, A, c, h1, h2, h3, h4, h5.below hb, fun h0 a e e2 => by have := h5.lt h0 a e; have := (hown.lt _ e2).1; omega⟩⟩
theorem own_empty (w : World) : (w.alloc (.cells #[] 22)).ownsRow w.heap.size 22 1 (.slice (some ⟨w.heap.size, 0, none⟩) 0 0) ([] : List Value).length [] :=
  ⟨rfl, .inr ⟨w.heap.size, 0, #[], rfl, Nat.le_refl _, heap_alloc_new w _, Nat.le_refl _, Nat.zero_le _, rfl, rfl⟩⟩
theorem own_append {w : World} {m1 m2 : List (List UInt8)} {v1 v2 : List Value} (n1 : v1.length = m1.length) (_n2 : v2.length = m2.length) (h1 : ∀ i, (hi : i < m1.length) → ∃ u, v1[i]? = some u ∧ SliceIs w u m1[i]) (h2 : ∀ i, (hi : i < m2.length) → ∃ u, v2[i]? = some u ∧ SliceIs w u m2[i]) :
    ∀ i, (hi : i < (m1 ++ m2).length) → ∃ u, ([] ++ v1 ++ v2)[i]? = some u ∧ SliceIs w u (m1 ++ m2)[i] := fun i hi => by
  rw [List.nil_append]
  by_cases h : i < m1.length
  · obtain ⟨u, k1, k2⟩ := h1 i h
    exact ⟨u, by rw [List.getElem?_append_left (by omega)]; exact k1, by rw [List.getElem_append_left h]; exact k2⟩
  · rw [List.length_append] at hi
    obtain ⟨u, k1, k2⟩ := h2 (i - m1.length) (by omega)
    exact ⟨u, by rw [List.getElem?_append_right (by omega), n1]; exact k1, by rw [List.getElem_append_right (by omega)]; exact k2⟩
end Go.Proofs.Ytnjghhkebcojnaa
