/- lists of lists of bytes in memory -/
import Derived.Test.YtjoocjkakgjgmaaBytes
import Derived.Test.YtjoocjkakgjgmaaMA
import Derived.Laws.IdiomStrings
set_option maxRecDepth 100000
namespace Go.Proofs.Ytjoocjkakgjgmaa
open Go.RowKit

/-- a slice value that reads as these bytes -/
def SliceIs (w : World) (v : Value) (l : List UInt8) : Prop := ∃ A c, v = .slice A l.length c ∧ l.length ≤ c ∧ c ≤ maxLen ∧ BytesAt w A l
theorem SliceIs.below {w w' : World} {v : Value} {l : List UInt8} (h : SliceIs w v l) (hb : Below w.heap.size w w') : SliceIs w' v l := by
  obtain ⟨A, c, h1, h2, h3, h4⟩ := h; exact ⟨A, c, h1, h2, h3, h4.below hb⟩
theorem SliceIs.drewN {w : World} {v : Value} {l : List UInt8} (h : SliceIs w v l) (n : Nat) : SliceIs (w.drewN n) v l := h
/-- the cells behind an address hold slices that read as these lists -/
def RowsAt (w : World) (A : Option Addr) (m : List (List UInt8)) : Prop :=
  ∀ i, (h : i < m.length) → ∃ b o v, A = some ⟨b, o, none⟩ ∧ w.cell? ⟨b, o + i, none⟩ = some v ∧ SliceIs w v m[i]
theorem RowsAt.below {w w' : World} {A : Option Addr} {m : List (List UInt8)} (h : RowsAt w A m) (hb : Below w.heap.size w w') : RowsAt w' A m := by
  intro i hi
  obtain ⟨b, o, v, hA, hc, hs⟩ := h i hi
  exact ⟨b, o, v, hA, (hb.cell (p := ⟨b, o + i, none⟩) (cell_lt hc)).trans hc, hs.below hb⟩
theorem RowsAt.drewN {w : World} {A : Option Addr} {m : List (List UInt8)} (h : RowsAt w A m) (n : Nat) : RowsAt (w.drewN n) A m := h
theorem RowsAt.nil (w : World) (A : Option Addr) : RowsAt w A [] := fun i hi => absurd hi (by simp)
/-- row i, as the walk wants it -/
theorem RowsAt.row {w : World} {A : Option Addr} {m : List (List UInt8)} (h : RowsAt w A m) {i : Nat} (hi : i < m.length) :
    ∃ b o B c, A = some ⟨b, o, none⟩ ∧ w.cell? ⟨b, o + i, none⟩ = some (.slice B m[i].length c) ∧ m[i].length ≤ c ∧ c ≤ maxLen ∧ BytesAt w B m[i] := by
  obtain ⟨b, o, v, hA, hc, B, c, rfl, h1, h2, h3⟩ := h i hi
  exact ⟨b, o, B, c, hA, hc, h1, h2, h3⟩

/-- a list of lists that the call has gathered -/
def OwnM (w : World) (base : Nat) (v : Value) (m : List (List UInt8)) : Prop :=
  ∃ vs : List Value, w.ownsRow base 24 1 v m.length vs ∧ ∀ i, (h : i < m.length) → ∃ u A c, vs[i]? = some u ∧ u = .slice A m[i].length c ∧ m[i].length ≤ c ∧ c ≤ maxLen ∧ BytesAt w A m[i] ∧
    (0 < m[i].length → ∀ a, A = some a → v.ownBlock ≠ some a.block)
theorem OwnM.nil (w : World) (base : Nat) : OwnM w base (.slice none 0 0) [] := ⟨[], World.ownsRow_nil _ _ _ _, fun i hi => absurd hi (by simp)⟩
section
variable {w w' : World} {base : Nat} {v : Value} {m : List (List UInt8)}
theorem OwnM.below (h : OwnM w base v m) (hb : Below w.heap.size w w') : OwnM w' base v m := by
  obtain ⟨vs, h1, h2⟩ := h
  refine ⟨vs, ⟨h1.1, ?_⟩, fun i hi => ?_⟩
  · rcases h1.2 with h1 | ⟨g, cap, cur, k1, k2, k3, k4⟩
    · exact .inl h1
    · refine .inr ⟨g, cap, cur, k1, k2, (hb.block g ?_).trans k3, k4⟩
      rcases Nat.lt_or_ge g w.heap.size with hlt | hge
      · exact hlt
      · rw [Array.getElem?_eq_none hge] at k3; cases k3
  · obtain ⟨u, A, c, k1, k2, k3, k4, k5, k6⟩ := h2 i hi
    exact ⟨u, A, c, k1, k2, k3, k4, k5.below hb, k6⟩
theorem OwnM.drewN (h : OwnM w base v m) (n : Nat) : OwnM (w.drewN n) base v m := h
theorem OwnM.alloc (h : OwnM w base v m) (o : Obj) : OwnM (w.alloc o) base v m := h.below (balloc w o)
theorem OwnM.rows (h : OwnM w base v m) : ∃ A c, v = .slice A m.length c ∧ m.length ≤ c ∧ c ≤ maxLen ∧ RowsAt w A m ∧ (∀ a, A = some a → base ≤ a.block) := by
  obtain ⟨vs, h1, h2⟩ := h
  rcases h1.2 with ⟨rfl, hn⟩ | ⟨g, cap, cur, rfl, hg, h3, h4, h5, h6, h7⟩
  · have : m = [] := List.eq_nil_of_length_eq_zero hn
    subst this
    exact ⟨none, 0, rfl, Nat.le_refl _, Nat.zero_le _, RowsAt.nil _ _, fun a e => by cases e⟩
  · refine ⟨_, _, rfl, h4, h5, fun i hi => ?_, fun a e => by injection e with e; subst e; exact hg⟩
    obtain ⟨u, A, c, k1, k2, k3, k4, k5, k6⟩ := h2 i hi
    refine ⟨g, 0, u, rfl, ?_, A, c, k2, k3, k4, k5⟩
    rw [Nat.zero_add, cell_of_row w g i cur 24 (0, 0) h3, ← k1, ← h7, Nat.mul_one, List.getElem?_take, if_pos hi]
    simp
theorem OwnM.ownlt (h : OwnM w base v m) : ∀ k, v.ownBlock = some k → base ≤ k ∧ k < w.heap.size := by
  obtain ⟨vs, h1, _⟩ := h
  exact h1.lt
end

theorem sl_info : (Try.prog.info? 24).map (fun i => (i.zero, i.size, i.bytes)) = some (some (.slice none 0 0), 1, 24) := by kernel_rfl
theorem sl_info' : ∃ i, Try.prog.info? 24 = some i ∧ i.zero = some (.slice none 0 0) ∧ i.size = 1 ∧ i.bytes = 24 := by
  obtain ⟨i0, h, a, b, c⟩ := info_parts sl_info
  exact ⟨i0, h, a, b, c⟩

/-- where an append lies: in the row that there was, or in a new one -/
theorem append_place {w : World} {base : Nat} {t ty e : TypeId} {i : TypeInfo} {z : Value} {bytes : Nat} (ht : Try.prog.underlying t = some (.slice e)) (hi : Try.prog.info? e = some i) (hz : i.zero = some z) (hsize : i.size = 1) (hby : i.bytes = bytes)
    {v : Value} {n : Nat} {xs : List Value} (hown : w.ownsRow base e 1 v n xs) {a : Addr} {c : Nat} {u : Value} (hu : w.cell? (a.add 0) = some u) (h1 : u.oneCell' = true) (h63 : n + 1 ≤ maxLen) (hbytes : (n + 1) * bytes ≤ 140737488355328)
    {v' : Value} {w' : World} (hrun : (Builtin.append_ #[t, t] ty #[v, .slice (some a) 1 c]).run Try.prog w = .ok v' w') : v'.ownBlock = v.ownBlock ∨ v'.ownBlock = some w.heap.size := by
  have hsmall : n + 1 ≤ 9223372036854775807 := by simp only [maxLen] at h63; omega
  have hl : [u].length = 1 * i.size := by rw [hsize]; rfl
  have hnews : ∀ j x, [u][j]? = some x → w.cell? (a.add j) = some x := by
    intro j x hx
    match j, hx with
    | 0, hx => simp at hx; subst hx; exact hu
  have hone : ∀ x ∈ [u], x.oneCell' = true := by intro x hx; simp at hx; subst hx; exact h1
  subst hby
  rcases hown.2 with ⟨rfl, rfl⟩ | ⟨g, cap, cur, rfl, hbg, hg, hnc, hcm, hcs, htake⟩
  · have hr := run_append_nil (P := Try.prog) w t ty e i z ht hi hz a 1 c [u] hl hnews (by omega) (by omega) (by have hb := hbytes; simp only [Nat.zero_add] at hb; omega)
    rw [hr] at hrun
    injection hrun with e1 e2
    subst e1
    exact .inr rfl
  · by_cases hroom : n + 1 ≤ cap
    · have hfit : n * i.size + [u].length ≤ cur.size := by rw [hsize, hcs]; simp; omega
      have hr := run_append_room (P := Try.prog) w t ty e i ht hi g n cap cur hg a 1 c [u] hl hnews hone hroom hfit
      rw [hr] at hrun
      injection hrun with e1 e2
      subst e1
      exact .inl rfl
    · have holds : ∀ j u, xs[j]? = some u → w.cell? ((⟨g, 0, none⟩ : Addr).add j) = some u := hown.cells (g := g) rfl
      have hr := run_append_grow (P := Try.prog) w t ty e i z ht hi hz ⟨g, 0, none⟩ n cap xs (by rw [hsize]; exact hown.1) holds a 1 c [u] hl hnews (by omega) (by omega) (growslice_fits (by omega) hbytes)
      rw [hr] at hrun
      injection hrun with e1 e2
      subst e1
      exact .inr rfl

/-- 'append(rows, row)' onto a list of the call's own -/
theorem run_append_row (w : World) (ty : TypeId) (base : Nat) (v : Value) (m : List (List UInt8)) (hown : OwnM w base v m) (g c : Nat) (r : List UInt8) (A : Option Addr) (cr : Nat)
    (hc : w.cell? ⟨g, 0, none⟩ = some (.slice A r.length cr)) (h1 : r.length ≤ cr) (h2 : cr ≤ maxLen) (hr : BytesAt w A r) (hne : 0 < r.length → ∀ a, A = some a → v.ownBlock ≠ some a.block)
    (hl : m.length < 1099511627776) (hbase : base ≤ w.heap.size) :
    ∃ v' w', (Builtin.append_ #[41, 41] ty #[v, .slice (some ⟨g, 0, none⟩) 1 c]).run Try.prog w = .ok v' w' ∧ OwnM w' base v' (m ++ [r]) ∧ Below base w w' := by
  obtain ⟨i0, hi, hz, hs, hb⟩ := sl_info'
  obtain ⟨vs, k1, k2⟩ := hown
  have hnews : ∀ j u, [Value.slice A r.length cr][j]? = some u → w.cell? ((⟨g, 0, none⟩ : Addr).add j) = some u := by
    intro j u hj
    match j, hj with
    | 0, hj => simp at hj; subst hj; simpa [Addr.add] using hc
  obtain ⟨v', w', hrun, r1, r2, _⟩ := run_append_own (P := Try.prog) w base 41 ty 24 i0 _ 1 24 Try.underlying41 hi hz hs hb rfl (by omega) v m.length vs k1
    ⟨g, 0, none⟩ 1 c [.slice A r.length cr] rfl hnews (by intro u hu; simp at hu; subst hu; rfl) (by unfold maxLen; omega) (by omega) hbase
  have hp := append_place Try.underlying41 hi hz hs hb k1 (a := ⟨g, 0, none⟩) (c := c) (u := .slice A r.length cr) (by simpa [Addr.add] using hc) rfl (by unfold maxLen; omega) (by omega) hrun
  have keep : ∀ (l : List UInt8) (B : Option Addr), BytesAt w B l → (0 < l.length → ∀ a, B = some a → v.ownBlock ≠ some a.block) → BytesAt w' B l ∧ (0 < l.length → ∀ a, B = some a → v'.ownBlock ≠ some a.block) := by
    intro l B hB hn
    refine ⟨?_, fun h0 a e => ?_⟩
    · by_cases h0 : 0 < l.length
      · exact hB.same fun a e => r2.block a.block (hB.lt h0 a e) (fun e' => hn h0 a e e'.symm)
      · have : l = [] := List.eq_nil_of_length_eq_zero (by omega)
        subst this; exact BytesAt.nil _ _
    · have hlt := hB.lt h0 a e
      rcases hp with hp | hp
      · rw [hp]; exact hn h0 a e
      · rw [hp]; intro e'; injection e' with e'; omega
  refine ⟨v', w', hrun, ⟨vs ++ [.slice A r.length cr], ?_, fun i hi => ?_⟩, ?_⟩
  · rw [List.length_append, List.length_singleton]; exact r1
  · have hvs : vs.length = m.length := by have := k1.1; omega
    by_cases him : i < m.length
    · obtain ⟨u, B, d, q1, q2, q3, q4, q5, q6⟩ := k2 i him
      obtain ⟨q5', q6'⟩ := keep _ _ q5 q6
      have e : (m ++ [r])[i] = m[i] := List.getElem_append_left him
      rw [e]
      exact ⟨u, B, d, by rw [List.getElem?_append_left (by omega)]; exact q1, q2, q3, q4, q5', q6'⟩
    · have e : i = m.length := by simp at hi; omega
      subst e
      have e : (m ++ [r])[m.length] = r := by simp
      rw [e]
      obtain ⟨q5', q6'⟩ := keep _ _ hr hne
      exact ⟨_, A, cr, by rw [List.getElem?_append_right (by omega), hvs]; simp, rfl, h1, h2, q5', q6'⟩
  · refine (Below.refl _ _).grown r2 hbase ?_
    intro k hk
    exact (k1.lt k hk).1

theorem wp_append_row {o : Oper} {a : Act} {w : World} {K : Act → World → Prop} {Q : Exit → Act → World → Prop} (s x : Operand)
    (ho : o.op = .call { callee := .builtin .append, args := #[s, x], argTypes := #[41, 41] })
    (base : Nat) (v : Value) (m : List (List UInt8)) (hs : a.eval s = v) (hown : OwnM w base v m) (g c : Nat) (r : List UInt8) (A : Option Addr) (cr : Nat) (hx : a.eval x = .slice (some ⟨g, 0, none⟩) 1 c)
    (hc : w.cell? ⟨g, 0, none⟩ = some (.slice A r.length cr)) (h1 : r.length ≤ cr) (h2 : cr ≤ maxLen) (hr : BytesAt w A r) (hne : 0 < r.length → ∀ a, A = some a → v.ownBlock ≠ some a.block)
    (hl : m.length < 1099511627776) (hbase : base ≤ w.heap.size)
    (h : ∀ v' w', OwnM w' base v' (m ++ [r]) → Below base w w' → K (a.put o.dst v') w') : o.wp Try.prog a w K Q := by
  obtain ⟨v', w', hrun, k2, k3⟩ := run_append_row w o.type base v m hown g c r A cr hc h1 h2 hr hne hl hbase
  unfold Oper.wp execOp
  simp only [ho, resolve, invoke, builtin, Sem.run_bind, Sem.run_pure, Result.andThen_ok, List.map_toArray, List.map_cons, List.map_nil, hs, hx, hrun]
  exact h v' w' k2 k3
theorem wpList_append_row {ops : Array Oper} {rest : List Oper} {o : Oper} {a : Act} {w : World} {Q : Exit → Act → World → Prop} (hgd : o.guard = none) (s x : Operand)
    (ho : o.op = .call { callee := .builtin .append, args := #[s, x], argTypes := #[41, 41] })
    (base : Nat) (v : Value) (m : List (List UInt8)) (hs : a.eval s = v) (hown : OwnM w base v m) (g c : Nat) (r : List UInt8) (A : Option Addr) (cr : Nat) (hx : a.eval x = .slice (some ⟨g, 0, none⟩) 1 c)
    (hc : w.cell? ⟨g, 0, none⟩ = some (.slice A r.length cr)) (h1 : r.length ≤ cr) (h2 : cr ≤ maxLen) (hr : BytesAt w A r) (hne : 0 < r.length → ∀ a, A = some a → v.ownBlock ≠ some a.block)
    (hl : m.length < 1099511627776) (hbase : base ≤ w.heap.size)
    (h : ∀ v' w', OwnM w' base v' (m ++ [r]) → Below base w w' → wpList Try.prog ops Q rest (a.put o.dst v') w') : wpList Try.prog ops Q (o :: rest) a w :=
  wpList_plain hgd fun _ hK => wp_append_row s x ho base v m hs hown g c r A cr hx hc h1 h2 hr hne hl hbase fun v' w' h2 h3 => hK _ _ (h v' w' h2 h3)

/-- 'append(out, l...)', the bytes of whatever slice, onto a list of the call's own -/
theorem run_append_bytes (w : World) (ty : TypeId) (base : Nat) (v : Value) (l l2 : List UInt8) (hown : Own w base v l) (A : Option Addr) (c : Nat) (hA : BytesAt w A l2)
    (hl : l.length + l2.length < 1099511627776) (hbase : base ≤ w.heap.size) :
    ∃ v' w', (Builtin.append_ #[24, 24] ty #[v, .slice A l2.length c]).run Try.prog w = .ok v' w' ∧ Own w' base v' (l ++ l2) ∧ Below base w w' := by
  obtain ⟨i0, hi, hz, hs, hb⟩ := u8_info'
  rcases A with _ | a
  · have : l2 = [] := by
      rcases l2 with _ | ⟨x, l2⟩
      · rfl
      · obtain ⟨b, o, e, _⟩ := hA 0 (by simp); cases e
    subst this
    refine ⟨v, w, ?_, by rw [List.append_nil]; exact hown, Below.refl _ _⟩
    rcases hown.2 with ⟨rfl, _⟩ | ⟨g, cap, cur, rfl, _, _, hnc, _⟩
    · simp [Builtin.append_, run_underlying Try.underlying24, sizeOf, typeInfo, hi, Builtin.lenOf, Builtin.firstCells]
    · simp [Builtin.append_, run_underlying Try.underlying24, sizeOf, typeInfo, hi, Builtin.lenOf, Builtin.firstCells, hnc, storeCells]
  · have hnews : ∀ j u, (vals l2)[j]? = some u → w.cell? (a.add j) = some u := by
      intro j u hj
      have hjl : j < l2.length := by
        rcases Nat.lt_or_ge j (vals l2).length with hlt | hge
        · rwa [vals_len] at hlt
        · rw [List.getElem?_eq_none hge] at hj; cases hj
      obtain ⟨b, o, e, hc⟩ := hA j hjl
      injection e with e; subst e
      rw [vals_get _ _ hjl] at hj
      injection hj with hj; subst hj
      have hadd : (⟨b, o, none⟩ : Addr).add j = ⟨b, o + j, none⟩ := by unfold Addr.add; split <;> simp_all
      rw [hadd]; exact hc
    obtain ⟨v', w', hrun, r1, r2, _⟩ := run_append_own (P := Try.prog) w base 24 ty 5 i0 _ 1 1 Try.underlying24 hi hz hs hb rfl (by omega) v l.length (vals l) hown
      a l2.length c (vals l2) (by rw [vals_len, Nat.mul_one]) hnews (by intro u hu; simp [vals] at hu; obtain ⟨b, _, rfl⟩ := hu; rfl) (by unfold maxLen; omega) (by omega) hbase
    refine ⟨v', w', hrun, ?_, (Below.refl _ _).grown r2 hbase fun k hk => ((World.ownsRow.lt hown) k hk).1⟩
    unfold Own
    rw [List.length_append, show vals (l ++ l2) = vals l ++ vals l2 from by simp [vals]]
    exact r1
theorem wp_append_bytes {o : Oper} {a : Act} {w : World} {K : Act → World → Prop} {Q : Exit → Act → World → Prop} (s x : Operand)
    (ho : o.op = .call { callee := .builtin .append, args := #[s, x], argTypes := #[24, 24] })
    (base : Nat) (v : Value) (l l2 : List UInt8) (hs : a.eval s = v) (hown : Own w base v l) (A : Option Addr) (n c : Nat) (hx : a.eval x = .slice A n c) (hn : n = l2.length) (hA : BytesAt w A l2)
    (hl : l.length + l2.length < 1099511627776) (hbase : base ≤ w.heap.size)
    (h : ∀ v' w', Own w' base v' (l ++ l2) → Below base w w' → K (a.put o.dst v') w') : o.wp Try.prog a w K Q := by
  subst hn
  obtain ⟨v', w', hrun, k2, k3⟩ := run_append_bytes w o.type base v l l2 hown A c hA hl hbase
  unfold Oper.wp execOp
  simp only [ho, resolve, invoke, builtin, Sem.run_bind, Sem.run_pure, Result.andThen_ok, List.map_toArray, List.map_cons, List.map_nil, hs, hx, hrun]
  exact h v' w' k2 k3
theorem wpList_append_bytes {ops : Array Oper} {rest : List Oper} {o : Oper} {a : Act} {w : World} {Q : Exit → Act → World → Prop} (hgd : o.guard = none) (s x : Operand)
    (ho : o.op = .call { callee := .builtin .append, args := #[s, x], argTypes := #[24, 24] })
    (base : Nat) (v : Value) (l l2 : List UInt8) (hs : a.eval s = v) (hown : Own w base v l) (A : Option Addr) (n c : Nat) (hx : a.eval x = .slice A n c) (hn : n = l2.length) (hA : BytesAt w A l2)
    (hl : l.length + l2.length < 1099511627776) (hbase : base ≤ w.heap.size)
    (h : ∀ v' w', Own w' base v' (l ++ l2) → Below base w w' → wpList Try.prog ops Q rest (a.put o.dst v') w') : wpList Try.prog ops Q (o :: rest) a w :=
  wpList_plain hgd fun _ hK => wp_append_bytes s x ho base v l l2 hs hown A n c hx hn hA hl hbase fun v' w' h2 h3 => hK _ _ (h v' w' h2 h3)
theorem BytesAt.take {w : World} {A : Option Addr} {l : List UInt8} (h : BytesAt w A l) (k : Nat) : BytesAt w A (l.take k) := by
  intro i hi
  have hil : i < l.length := by simp at hi; omega
  obtain ⟨b, o, hA, hc⟩ := h i hil
  exact ⟨b, o, hA, by rw [List.getElem_take]; exact hc⟩
/-- what a cut 's[k:]' of capacity c reads as: its address is left alone where nothing is behind it -/
theorem BytesAt.drop {w : World} {b o : Nat} {l : List UInt8} (h : BytesAt w (some ⟨b, o, none⟩) l) (k : Nat) : BytesAt w (some ⟨b, o + k, none⟩) (l.drop k) := by
  intro i hi
  have hil : k + i < l.length := by simp at hi; omega
  obtain ⟨b2, o2, hA, hc⟩ := h (k + i) hil
  injection hA with hA; injection hA with h1 h2; subst h1; subst h2
  exact ⟨b, o + k, rfl, by rw [List.getElem_drop, Nat.add_assoc]; exact hc⟩

/-- the call hands back these lists, in memory of its own or none -/
def RetRows (w : World) (m : List (List UInt8)) (e : Ending) (w' : World) : Prop :=
  ∃ A c, e = .returned (.slice A m.length c) ∧ m.length ≤ c ∧ c ≤ maxLen ∧ RowsAt w' A m ∧ Below w.heap.size w w' ∧ New w A
theorem RetRows.of_own {w w' : World} {v : Value} {m : List (List UInt8)} (h : OwnM w' w.heap.size v m) (hb : Below w.heap.size w w') : RetRows w m (.returned v) w' := by
  obtain ⟨A, c, rfl, h1, h2, h3, h4⟩ := h.rows
  exact ⟨A, c, rfl, h1, h2, h3, hb, h4⟩
/-- an empty list that the call has just made -/
theorem Own.empty (w : World) (base : Nat) (h : base ≤ w.heap.size) : Own (w.alloc (.cells #[] 5)) base (.slice (some ⟨w.heap.size, 0, none⟩) 0 0) [] :=
  ⟨rfl, .inr ⟨w.heap.size, 0, #[], rfl, h, heap_alloc_new w _, Nat.le_refl _, Nat.zero_le _, rfl, rfl⟩⟩
/-- a place of a list of the call's own: what it holds, and that another byte may be put there -/
theorem Own.place {w : World} {base : Nat} {v : Value} {l : List UInt8} (h : Own w base v l) {i : Nat} (hi : i < l.length) :
    ∃ g cap, v = .slice (some ⟨g, 0, none⟩) l.length cap ∧ base ≤ g ∧ g < w.heap.size ∧ w.cell? ⟨g, i, none⟩ = some (.int .u8 (l[i].toNat : Nat)) ∧ w.frozen? ⟨g, i, none⟩ = false ∧
      ∀ (n : Nat) (b : UInt8), Own ((w.drewN n).setCell ⟨g, i, none⟩ (.int .u8 (b.toNat : Nat))) base v (l.set i b) := by
  rcases h.2 with ⟨_, hn⟩ | ⟨g, cap, cur, rfl, hg, h3, h4, h5, h6, h7⟩
  · omega
  · have hgl : g < w.heap.size := by
      rcases Nat.lt_or_ge g w.heap.size with hlt | hge
      · exact hlt
      · rw [Array.getElem?_eq_none hge] at h3; cases h3
    refine ⟨g, cap, rfl, hg, hgl, ?_, ?_, fun n b => ⟨by simp [vals], .inr ⟨g, cap, cur.setIfInBounds i (.int .u8 (b.toNat : Nat)), by rw [List.length_set], hg, ?_, by rw [List.length_set]; exact h4, h5, by rw [Array.size_setIfInBounds]; exact h6, ?_⟩⟩⟩
    · rw [cell_of_row w g i cur 5 (0, 0) h3, ← vals_get l i hi, ← h7, Nat.mul_one, List.getElem?_take, if_pos hi]
      simp
    · simp [World.frozen?, h3]
    · show ((w.drewN n).setCell ⟨g, i, none⟩ _).heap[g]? = _
      simp only [World.setCell, Array.getElem?_modify]
      rw [if_pos trivial]
      have h3' : (w.drewN n).heap[g]? = some (.cells cur 5 (0, 0)) := h3
      rw [h3']; rfl
    · rw [Array.toList_setIfInBounds, List.take_set, List.length_set, h7]
      simp [vals, List.map_set]
theorem RowsAt.lit1 {w : World} {A : Option Addr} {l : List UInt8} {c : Nat} (h : BytesAt w A l) (h1 : l.length ≤ c) (h2 : c ≤ maxLen) :
    RowsAt (w.alloc (.cells #[.slice A l.length c] 24)) (some ⟨w.heap.size, 0, none⟩) [l] := by
  intro i hi
  match i, hi with
  | 0, _ => exact ⟨w.heap.size, 0, _, rfl, by rw [World.cell?_alloc_at _ _ _ _ rfl]; rfl, A, c, rfl, h1, h2, h.alloc _⟩
theorem RowsAt.lit2 {w : World} {A B : Option Addr} {l m : List UInt8} {c d : Nat} (h : BytesAt w A l) (h1 : l.length ≤ c) (h2 : c ≤ maxLen) (k : BytesAt w B m) (k1 : m.length ≤ d) (k2 : d ≤ maxLen) :
    RowsAt (w.alloc (.cells #[.slice A l.length c, .slice B m.length d] 24)) (some ⟨w.heap.size, 0, none⟩) [l, m] := by
  intro i hi
  match i, hi with
  | 0, _ => exact ⟨w.heap.size, 0, _, rfl, by rw [World.cell?_alloc_at _ _ _ _ rfl]; rfl, A, c, rfl, h1, h2, h.alloc _⟩
  | 1, _ => exact ⟨w.heap.size, 0, _, rfl, by rw [World.cell?_alloc_at _ _ _ _ rfl]; rfl, B, d, rfl, k1, k2, k.alloc _⟩
/-- a block of just these bytes, marked or not -/
theorem bytes_mark (w : World) (l : List UInt8) (fr : Nat × Nat) (g : Nat) (hg : g = w.heap.size) : BytesAt (w.alloc (.cells (cells l) 5 fr)) (some ⟨g, 0, none⟩) l := by
  subst hg
  intro i hi
  refine ⟨w.heap.size, 0, rfl, ?_⟩
  rw [Nat.zero_add, World.cell?_alloc_mark]
  unfold cells; rw [List.getElem?_toArray, vals_get l i hi]
theorem step_append_bytes {ops : Array Oper} {o : Oper} {a : Act} {w : World} {K : Act → World → Prop} {Q : Exit → Act → World → Prop} {E : Prop} (hgd : o.guard = none) (s x : Operand)
    (ho : o.op = .call { callee := .builtin .append, args := #[s, x], argTypes := #[24, 24] })
    (base : Nat) (v : Value) (l l2 : List UInt8) (hs : a.eval s = v) (hown : Own w base v l) (A : Option Addr) (n c : Nat) (hx : a.eval x = .slice A n c) (hn : n = l2.length) (hA : BytesAt w A l2)
    (hl : l.length + l2.length < 1099511627776) (hbase : base ≤ w.heap.size)
    (h : ∀ v' w', Own w' base v' (l ++ l2) → Below base w w' → K (a.put o.dst v') w') : if Region.wanted o (yielded ops a.tmps) = true then Oper.wp Try.prog o a w K Q else E := by
  have hw : Region.wanted o (yielded ops a.tmps) = true := by simp [Region.wanted, hgd]
  rw [if_pos hw]
  exact wp_append_bytes s x ho base v l l2 hs hown A n c hx hn hA hl hbase h

theorem BytesAt.far' {w : World} {A : Option Addr} {l : List UInt8} (h : BytesAt w A l) (p : Addr) (u : Value) (hp : 0 < l.length → ∀ a, A = some a → a.block ≠ p.block) : BytesAt (w.setCell p u) A l := by
  by_cases h0 : 0 < l.length
  · exact h.far p u (hp h0)
  · have : l = [] := List.eq_nil_of_length_eq_zero (by omega)
    subst this; exact BytesAt.nil _ _

/-! one block is written, what is new is made, all else stays -/
theorem grow_refl (w : World) (r : Option Nat) : w.grownBy w r := ⟨rfl, rfl, rfl, Nat.le_refl _, fun _ _ _ => rfl⟩
theorem grow_below {w w' : World} {r : Option Nat} (h : Below w.heap.size w w') : w.grownBy w' r := ⟨h.os, h.tape, h.output, h.size, fun k hk _ => h.block k hk⟩
theorem grow_trans {a b c : World} {r : Option Nat} (h : a.grownBy b r) (k : b.grownBy c r) : a.grownBy c r :=
  ⟨k.os.trans h.os, k.tape.trans h.tape, k.output.trans h.output, Nat.le_trans h.size k.size, fun i hi hne => (k.block i (Nat.lt_of_lt_of_le hi h.size) hne).trans (h.block i hi hne)⟩
theorem grow_set (w : World) (p : Addr) (u : Value) : w.grownBy (w.setCell p u) (some p.block) :=
  ⟨rfl, rfl, rfl, by simp [World.setCell], fun k _ hne => Below.heap_setCell _ _ _ _ (fun e => hne (by rw [e]))⟩
theorem grow_draw (w : World) (n : Nat) (r : Option Nat) : w.grownBy (w.drewN n) r := grow_below (bdraw w n)
theorem grow_mono {w w' : World} {r : Option Nat} (h : w.grownBy w' Option.none) : w.grownBy w' r := ⟨h.os, h.tape, h.output, h.size, fun k hk _ => h.block k hk (by simp)⟩
/-- what was written is the call's own: below it nothing turned -/
theorem below_grow {B g : Nat} {a w w' : World} (h : Below B a w) (hg : w.grownBy w' (some g)) (hB : B ≤ g) (hs : B ≤ w.heap.size) : Below B a w' :=
  h.grown hg hs fun k hk => by injection hk with hk; omega
theorem grow_cell {w w' : World} {g b i : Nat} {u : Value} (hg : w.grownBy w' (some g)) (h : w.cell? ⟨b, i, none⟩ = some u) (hne : b ≠ g) : w'.cell? ⟨b, i, none⟩ = some u := by
  have hb := hg.block b (cell_lt h) (fun e => hne (by injection e))
  unfold World.cell? at h ⊢
  simp only at h ⊢
  rw [hb]; exact h
theorem grow_bytes {w w' : World} {g : Nat} {A : Option Addr} {l : List UInt8} (hg : w.grownBy w' (some g)) (h : BytesAt w A l) (hne : ∀ a, A = some a → a.block ≠ g) : BytesAt w' A l := by
  intro i hi
  obtain ⟨b, o, hA, hc⟩ := h i hi
  exact ⟨b, o, hA, grow_cell hg hc (hne _ hA)⟩
/-- 'string(b)' of bytes that lie so -/
theorem BytesAt.convert {w : World} {A : Option Addr} {l : List UInt8} (h : BytesAt w A l) (c : Nat) : (convert 24 9 (.slice A l.length c)).run Try.prog w = .ok (.string ⟨l.toArray⟩) w := by
  rcases A with _ | a
  · have h0 : l = [] := by
      rcases l with _ | ⟨x, l⟩
      · rfl
      · obtain ⟨b, o, e, _⟩ := h 0 (by simp); cases e
    subst h0
    rw [List.length_nil, run_convert_bytes_string w 24 9 5 none 0 c Try.underlying24 Try.underlying5 Try.underlying9]
    simp [Conv.bytesToString]
    rfl
  · exact run_convert_bytes_back (P := Try.prog) w 24 9 5 a c l Try.underlying24 Try.underlying5 Try.underlying9 (fun j hj => by
      obtain ⟨x3, o3, e3, k3⟩ := h j hj
      injection e3 with e3; subst e3
      have hadd : (⟨x3, o3, none⟩ : Addr).add j = ⟨x3, o3 + j, none⟩ := by unfold Addr.add; split <;> simp_all
      rw [hadd]; exact k3)
end Go.Proofs.Ytjoocjkakgjgmaa
