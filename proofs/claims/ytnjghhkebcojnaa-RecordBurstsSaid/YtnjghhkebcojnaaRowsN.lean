/- rows and changes of which is told where their bytes lie; lists of rows apart from some blocks -/
import Derived.Test.YtnjghhkebcojnaaChs
set_option maxRecDepth 100000
namespace Go.Proofs.Ytnjghhkebcojnaa
open Go.RowKit

/-- rows in memory, whose bytes lie in blocks that P says -/
def RowsP (P : Nat → Prop) (w : World) (A : Option Addr) (m : List (List UInt8)) : Prop :=
  ∀ i, (h : i < m.length) → ∃ b o, A = some ⟨b, o, none⟩ ∧ ∃ B c, w.cell? ⟨b, o + i, none⟩ = some (.slice B m[i].length c) ∧ m[i].length ≤ c ∧ c ≤ maxLen ∧ BytesAt w B m[i] ∧ (0 < m[i].length → ∀ a, B = some a → P a.block)
/-- changes in memory, whose bytes lie in blocks that P says -/
def ChsP (P : Nat → Prop) (w : World) (A : Option Addr) (l : List EntM.Ch) : Prop :=
  ∀ i, (h : i < l.length) → ∃ b o, A = some ⟨b, o, none⟩ ∧ ∃ B c, ChLies w b (o + i * 2) B c l[i] ∧ (0 < l[i].data.length → ∀ a, B = some a → P a.block)
section
variable {P Q : Nat → Prop} {w w' : World} {A : Option Addr} {m : List (List UInt8)} {l : List EntM.Ch}
theorem RowsP.rows (h : RowsP P w A m) : RowsAt w A m := fun i hi => by
  obtain ⟨b, o, hA, B, c, h1, h2, h3, h4, _⟩ := h i hi
  exact ⟨b, o, _, hA, h1, B, c, rfl, h2, h3, h4⟩
theorem RowsP.mono (h : RowsP P w A m) (hq : ∀ k, k < w.heap.size → P k → Q k) : RowsP Q w A m := fun i hi => by
  obtain ⟨b, o, hA, B, c, h1, h2, h3, h4, h5⟩ := h i hi
  exact ⟨b, o, hA, B, c, h1, h2, h3, h4, fun h0 a e => hq _ (h4.lt h0 a e) (h5 h0 a e)⟩
theorem RowsP.below (h : RowsP P w A m) (hb : Below w.heap.size w w') : RowsP P w' A m := fun i hi => by
  obtain ⟨b, o, hA, B, c, h1, h2, h3, h4, h5⟩ := h i hi
  exact ⟨b, o, hA, B, c, (hb.cell (p := ⟨b, o + i, none⟩) (cell_lt h1)).trans h1, h2, h3, h4.below hb, h5⟩
theorem RowsP.nil (P : Nat → Prop) (w : World) (A : Option Addr) : RowsP P w A [] := fun i hi => absurd hi (by simp)
theorem RowsP.of (h : RowsAt w A m) : RowsP (fun k => k < w.heap.size) w A m := fun i hi => by
  obtain ⟨b, o, v, hA, h1, B, c, rfl, h2, h3, h4⟩ := h i hi
  exact ⟨b, o, hA, B, c, h1, h2, h3, h4, fun h0 a e => h4.lt h0 a e⟩
theorem RowsP.take (h : RowsP P w A m) (k : Nat) : RowsP P w A (m.take k) := fun i hi => by
  have hi' : i < m.length := by rw [List.length_take] at hi; omega
  obtain ⟨b, o, hA, B, c, h1⟩ := h i hi'
  exact ⟨b, o, hA, B, c, by rw [List.getElem_take]; exact h1⟩
theorem RowsP.drop {b o : Nat} (h : RowsP P w (some ⟨b, o, none⟩) m) (k : Nat) : RowsP P w (some ⟨b, o + k, none⟩) (m.drop k) := fun i hi => by
  have hi' : k + i < m.length := by rw [List.length_drop] at hi; omega
  obtain ⟨b2, o2, hA, B, c, h1⟩ := h (k + i) hi'
  injection hA with hA; injection hA with e1 e2; subst e1; subst e2
  exact ⟨b, o + k, rfl, B, c, by rw [List.getElem_drop, Nat.add_assoc]; exact h1⟩
theorem ChsP.chs (h : ChsP P w A l) : ChsAt w A l := fun i hi => by
  obtain ⟨b, o, hA, B, c, h1, _⟩ := h i hi
  exact ⟨b, o, B, c, hA, h1⟩
theorem ChsP.mono (h : ChsP P w A l) (hq : ∀ k, k < w.heap.size → P k → Q k) : ChsP Q w A l := fun i hi => by
  obtain ⟨b, o, hA, B, c, h1, h2⟩ := h i hi
  exact ⟨b, o, hA, B, c, h1, fun h0 a e => hq _ (h1.bytes.lt h0 a e) (h2 h0 a e)⟩
theorem ChsP.below (h : ChsP P w A l) (hb : Below w.heap.size w w') : ChsP P w' A l := fun i hi => by
  obtain ⟨b, o, hA, B, c, h1, h2⟩ := h i hi
  exact ⟨b, o, hA, B, c, h1.below hb, h2⟩
theorem ChsP.nil (P : Nat → Prop) (w : World) (A : Option Addr) : ChsP P w A [] := fun i hi => absurd hi (by simp)
theorem ChsP.of (h : ChsAt w A l) : ChsP (fun k => k < w.heap.size) w A l := fun i hi => by
  obtain ⟨b, o, B, c, hA, h1⟩ := h i hi
  exact ⟨b, o, hA, B, c, h1, fun h0 a e => h1.bytes.lt h0 a e⟩
end

/-- a list of rows that the call has gathered, apart from some blocks -/
def OwnT (w : World) (base : Nat) (T : Nat → Prop) (v : Value) (m : List (List UInt8)) : Prop :=
  ∃ vs : List Value, w.ownsRow base 22 1 v m.length vs ∧ (∀ k, v.ownBlock = some k → ¬ T k) ∧ ∀ i, (h : i < m.length) → ∃ A c, vs[i]? = some (.slice A m[i].length c) ∧ m[i].length ≤ c ∧ c ≤ maxLen ∧ BytesAt w A m[i] ∧
    (0 < m[i].length → ∀ a, A = some a → v.ownBlock ≠ some a.block ∧ ¬ T a.block)
section
variable {w w' : World} {base : Nat} {T : Nat → Prop} {v : Value} {m : List (List UInt8)}
theorem OwnT.of (h : OwnM w base v m) (hT : ∀ k, T k → w.heap.size ≤ k) : OwnT w base T v m := by
  have hlt := h.ownlt
  obtain ⟨vs, h1, h2⟩ := h
  refine ⟨vs, h1, fun k hk ht => by have := hT k ht; have := (hlt k hk).2; omega, fun i hi => ?_⟩
  obtain ⟨u, A, c, k1, k2, k3, k4, k5, k6⟩ := h2 i hi
  subst k2
  exact ⟨A, c, k1, k3, k4, k5, fun h0 a e => ⟨k6 h0 a e, fun ht => by have := hT _ ht; have := k5.lt h0 a e; omega⟩⟩
theorem OwnT.ownM (h : OwnT w base T v m) : OwnM w base v m := by
  obtain ⟨vs, h1, _, h3⟩ := h
  refine ⟨vs, h1, fun i hi => ?_⟩
  obtain ⟨A, c, k1, k2, k3, k4, k5⟩ := h3 i hi
  exact ⟨_, A, c, k1, rfl, k2, k3, k4, fun h0 a e => (k5 h0 a e).1⟩
theorem OwnT.keep {F : Nat → Prop} (h : OwnT w base T v m) (q : Keeps F w w') (hF : ∀ k, F k → T k) : OwnT w' base T v m := by
  obtain ⟨vs, h1, h2, h3⟩ := h
  refine ⟨vs, ownsRow_keep h1 q (fun k hk hf => h2 k hk (hF k hf)), h2, fun i hi => ?_⟩
  obtain ⟨A, c, k1, k2, k3, k4, k5⟩ := h3 i hi
  exact ⟨A, c, k1, k2, k3, q.bytes' k4 (fun h0 a e hf => (k5 h0 a e).2 (hF _ hf)), k5⟩
theorem OwnT.more {T' : Nat → Prop} (h : OwnT w base T v m) (hT : ∀ k, T' k → T k ∨ w.heap.size ≤ k) : OwnT w base T' v m := by
  obtain ⟨vs, h1, h2, h3⟩ := h
  refine ⟨vs, h1, fun k hk ht => ?_, fun i hi => ?_⟩
  · rcases hT k ht with h | h
    · exact h2 k hk h
    · have := (h1.lt k hk).2; omega
  · obtain ⟨A, c, k1, k2, k3, k4, k5⟩ := h3 i hi
    refine ⟨A, c, k1, k2, k3, k4, fun h0 a e => ⟨(k5 h0 a e).1, fun ht => ?_⟩⟩
    rcases hT _ ht with h | h
    · exact (k5 h0 a e).2 h
    · have := k4.lt h0 a e; omega
theorem OwnT.below (h : OwnT w base T v m) (hb : Below w.heap.size w w') : OwnT w' base T v m := h.keep (F := fun _ => False) (.of_below _ hb) fun _ => False.elim
end
/-- 'append(rows, row)': the row told lies apart, too -/
theorem run_append_rowT (w : World) (ty : TypeId) (base : Nat) (T : Nat → Prop) (v : Value) (m : List (List UInt8)) (hown : OwnT w base T v m) (g c : Nat) (r : List UInt8) (A : Option Addr) (cr : Nat)
    (hc : w.cell? ⟨g, 0, none⟩ = some (.slice A r.length cr)) (h1 : r.length ≤ cr) (h2 : cr ≤ maxLen) (hr : BytesAt w A r) (hne : 0 < r.length → ∀ a, A = some a → v.ownBlock ≠ some a.block ∧ ¬ T a.block)
    (hT : ∀ k, T k → k < w.heap.size) (hl : m.length < 1099511627776) (hbase : base ≤ w.heap.size) :
    ∃ v' w', (Builtin.append_ #[25, 25] ty #[v, .slice (some ⟨g, 0, none⟩) 1 c]).run Try.prog w = .ok v' w' ∧ OwnT w' base T v' (m ++ [r]) ∧ w.grownBy w' v.ownBlock ∧ (v'.ownBlock = v.ownBlock ∨ v'.ownBlock = some w.heap.size) := by
  obtain ⟨i0, hi, hz, hs, hb⟩ := sl_info'
  obtain ⟨vs, k1, kT, k2⟩ := hown
  have hnews : ∀ j u, [Value.slice A r.length cr][j]? = some u → w.cell? ((⟨g, 0, none⟩ : Addr).add j) = some u := by
    intro j u hj
    match j, hj with
    | 0, hj => simp at hj; subst hj; simpa [Addr.add] using hc
  obtain ⟨v', w', hrun, r1, r2, _⟩ := run_append_own (P := Try.prog) w base 25 ty 22 i0 _ 1 24 Try.underlying25 hi hz hs hb rfl (by omega) v m.length vs k1
    ⟨g, 0, none⟩ 1 c [.slice A r.length cr] rfl hnews (by intro u hu; simp at hu; subst hu; rfl) (by unfold maxLen; omega) (by omega) hbase
  have hp := append_place Try.underlying25 hi hz hs hb k1 (a := ⟨g, 0, none⟩) (c := c) (u := .slice A r.length cr) (by simpa [Addr.add] using hc) rfl (by unfold maxLen; omega) (by omega) hrun
  have keep : ∀ (l : List UInt8) (B : Option Addr), BytesAt w B l → (0 < l.length → ∀ a, B = some a → v.ownBlock ≠ some a.block ∧ ¬ T a.block) → BytesAt w' B l ∧ (0 < l.length → ∀ a, B = some a → v'.ownBlock ≠ some a.block ∧ ¬ T a.block) := by
    intro l B hB hn
    refine ⟨?_, fun h0 a e => ?_⟩
    · by_cases h0 : 0 < l.length
      · exact hB.same fun a e => r2.block a.block (hB.lt h0 a e) (fun e' => (hn h0 a e).1 e'.symm)
      · have : l = [] := List.eq_nil_of_length_eq_zero (by omega)
        subst this; exact BytesAt.nil _ _
    · have hlt := hB.lt h0 a e
      refine ⟨?_, (hn h0 a e).2⟩
      rcases hp with hp | hp
      · rw [hp]; exact (hn h0 a e).1
      · rw [hp]; intro e'; injection e' with e'; omega
  refine ⟨v', w', hrun, ⟨vs ++ [.slice A r.length cr], ?_, fun k hk ht => ?_, fun i hi => ?_⟩, r2, hp⟩
  · rw [List.length_append, List.length_singleton]; exact r1
  · rcases hp with hp | hp
    · exact kT k (hp ▸ hk) ht
    · rw [hp] at hk; injection hk with hk; have := hT k ht; omega
  · have hvs : vs.length = m.length := by have := k1.1; omega
    by_cases him : i < m.length
    · obtain ⟨B, d, q1, q3, q4, q5, q6⟩ := k2 i him
      obtain ⟨q5', q6'⟩ := keep _ _ q5 q6
      have e : (m ++ [r])[i] = m[i] := List.getElem_append_left him
      rw [e]
      exact ⟨B, d, by rw [List.getElem?_append_left (by omega)]; exact q1, q3, q4, q5', q6'⟩
    · have e : i = m.length := by simp at hi; omega
      subst e
      have e : (m ++ [r])[m.length] = r := by simp
      rw [e]
      obtain ⟨q5', q6'⟩ := keep _ _ hr hne
      exact ⟨A, cr, by rw [List.getElem?_append_right (by omega), hvs]; simp, h1, h2, q5', q6'⟩
/-- what was gathered, as rows in memory -/
theorem OwnT.rowsP {w : World} {base : Nat} {T P : Nat → Prop} {v : Value} {m : List (List UInt8)} (h : OwnT w base T v m) (hP : ∀ k, ¬ T k → P k) : ∃ A c, v = .slice A m.length c ∧ m.length ≤ c ∧ c ≤ maxLen ∧ RowsP P w A m ∧ (∀ a, A = some a → base ≤ a.block) := by
  obtain ⟨vs, h1, _, h2⟩ := h
  rcases h1.2 with ⟨rfl, hn⟩ | ⟨g, cap, cur, rfl, hg, h3, h4, h5, h6, h7⟩
  · have : m = [] := List.eq_nil_of_length_eq_zero hn
    subst this
    exact ⟨none, 0, rfl, Nat.le_refl _, Nat.zero_le _, RowsP.nil _ _ _, fun a e => by cases e⟩
  · refine ⟨_, _, rfl, h4, h5, fun i hi => ?_, fun a e => by injection e with e; subst e; exact hg⟩
    obtain ⟨B, c, k1, k3, k4, k5, k7⟩ := h2 i hi
    refine ⟨g, 0, rfl, B, c, ?_, k3, k4, k5, fun h0 a e => hP _ (k7 h0 a e).2⟩
    rw [Nat.zero_add, cell_of_row w g i cur 22 (0, 0) h3, ← k1, ← h7, List.getElem?_take, if_pos (by omega)]
    simp
theorem OwnT.nil (w : World) (base : Nat) (T : Nat → Prop) : OwnT w base T (.slice none 0 0) [] := ⟨[], World.ownsRow_nil _ _ _ _, fun k h => by simp [Value.ownBlock] at h, fun i hi => absurd hi (by simp)⟩
/-- a literal of one row -/
theorem OwnT.lit {T : Nat → Prop} (w : World) (B : Nat) (hB : B ≤ w.heap.size) (r : List UInt8) (A : Option Addr) (c : Nat) (h1 : r.length ≤ c) (h2 : c ≤ maxLen) (hr : BytesAt w A r) (hA : 0 < r.length → ∀ a, A = some a → ¬ T a.block) (hT : ∀ k, T k → k < w.heap.size) :
    OwnT (w.alloc (.cells #[.slice A r.length c] 22)) B T (.slice (some ⟨w.heap.size, 0, none⟩) 1 1) [r] := by
  refine ⟨[.slice A r.length c], ⟨rfl, .inr ⟨w.heap.size, 1, #[.slice A r.length c], rfl, hB, heap_alloc_new w _, Nat.le_refl _, by unfold maxLen; omega, rfl, rfl⟩⟩, fun k hk ht => ?_, fun i hi => ?_⟩
  · simp [Value.ownBlock] at hk; subst hk; have := hT _ ht; omega
  · obtain rfl : i = 0 := by simp at hi; omega
    refine ⟨A, c, rfl, h1, h2, hr.alloc _, fun h0 a e => ⟨fun e2 => ?_, hA h0 a e⟩⟩
    simp [Value.ownBlock] at e2
    have := hr.lt h0 a e; omega
theorem wpList_append_rowT {ops : Array Oper} {rest : List Oper} {o : Oper} {a : Act} {w : World} {Q : Exit → Act → World → Prop} (hgd : o.guard = none) (s x : Operand)
    (ho : o.op = .call { callee := .builtin .append, args := #[s, x], argTypes := #[25, 25] })
    (base : Nat) (T : Nat → Prop) (v : Value) (m : List (List UInt8)) (hs : a.eval s = v) (hown : OwnT w base T v m) (g c : Nat) (r : List UInt8) (A : Option Addr) (cr : Nat) (hx : a.eval x = .slice (some ⟨g, 0, none⟩) 1 c)
    (hc : w.cell? ⟨g, 0, none⟩ = some (.slice A r.length cr)) (h1 : r.length ≤ cr) (h2 : cr ≤ maxLen) (hr : BytesAt w A r) (hne : 0 < r.length → ∀ a, A = some a → v.ownBlock ≠ some a.block ∧ ¬ T a.block)
    (hT : ∀ k, T k → k < w.heap.size) (hl : m.length < 1099511627776) (hbase : base ≤ w.heap.size)
    (h : ∀ v' w', OwnT w' base T v' (m ++ [r]) → Below base w w' → wpList Try.prog ops Q rest (a.put o.dst v') w') : wpList Try.prog ops Q (o :: rest) a w := by
  obtain ⟨v', w', hrun, k2, k3, k4⟩ := run_append_rowT w o.type base T v m hown g c r A cr hc h1 h2 hr hne hT hl hbase
  have hb : Below base w w' := (Below.refl _ _).grown k3 hbase fun k hk => (hown.ownM.ownlt k hk).1
  refine wpList_plain hgd fun K hK => ?_
  unfold Oper.wp execOp
  simp only [ho, resolve, invoke, builtin, Sem.run_bind, Sem.run_pure, Result.andThen_ok, List.map_toArray, List.map_cons, List.map_nil, hs, hx, hrun]
  exact hK _ _ (h v' w' k2 hb)
end Go.Proofs.Ytnjghhkebcojnaa
