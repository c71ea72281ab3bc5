/- 'append(l, more...)' of a whole list of changes onto a list of the call's own -/
import Derived.Test.YtapgpibindhlfaaRowsN
set_option maxRecDepth 100000
namespace Go.Proofs.Ytapgpibindhlfaa
open Go.RowKit

/-- changes as the values of their places -/
theorem chs_vals {w : World} {A : Option Addr} {l : List EntM.Ch} {P : Nat → Prop} (h : ChsP P w A l) : ∃ vs : List Value, vs.length = l.length * 2 ∧ (∀ j u, vs[j]? = some u → ∃ b o, A = some ⟨b, o, none⟩ ∧ w.cell? ⟨b, o + j, none⟩ = some u) ∧ (∀ u ∈ vs, u.oneCell' = true) ∧
    ∀ i, (hi : i < l.length) → ∃ B c, vs[i * 2]? = some (.int .i64 l[i].at_) ∧ vs[i * 2 + 1]? = some (.slice B l[i].data.length c) ∧ l[i].data.length ≤ c ∧ c ≤ maxLen ∧ BytesAt w B l[i].data ∧ AtIn l[i].at_ ∧ (0 < l[i].data.length → ∀ a, B = some a → P a.block) := by
  have each : ∀ i : Nat, ∃ x : Option Addr × Nat, ∀ hi : i < l.length, ∃ b o, A = some ⟨b, o, none⟩ ∧ ChLies w b (o + i * 2) x.1 x.2 l[i] ∧ (0 < l[i].data.length → ∀ a, x.1 = some a → P a.block) := fun i => by
    by_cases hi : i < l.length
    · obtain ⟨b, o, h1, B, c, h2, h3⟩ := h i hi
      exact ⟨(B, c), fun _ => ⟨b, o, h1, h2, h3⟩⟩
    · exact ⟨(none, 0), fun k => absurd k hi⟩
  obtain ⟨f, hf⟩ : ∃ f : Nat → Option Addr × Nat, ∀ i, ∀ hi : i < l.length, ∃ b o, A = some ⟨b, o, none⟩ ∧ ChLies w b (o + i * 2) (f i).1 (f i).2 l[i] ∧ (0 < l[i].data.length → ∀ a, (f i).1 = some a → P a.block) := ⟨fun i => Classical.choose (each i), fun i => Classical.choose_spec (each i)⟩
  obtain ⟨F, hF⟩ : ∃ F : Nat → Value, F = fun j => if j % 2 = 0 then .int .i64 (l.getD (j / 2) ⟨0, []⟩).at_ else .slice (f (j / 2)).1 (l.getD (j / 2) ⟨0, []⟩).data.length (f (j / 2)).2 := ⟨_, rfl⟩
  have hget : ∀ i, (hi : i < l.length) → l.getD i ⟨0, []⟩ = l[i] := fun i hi => by rw [List.getD_eq_getElem?_getD, List.getElem?_eq_getElem hi]; rfl
  have hev : ∀ i, (hi : i < l.length) → F (i * 2) = .int .i64 l[i].at_ := fun i hi => by
    rw [hF]; simp only [Nat.mul_mod_left, if_true]; rw [show i * 2 / 2 = i from by omega, hget i hi]
  have hod : ∀ i, (hi : i < l.length) → F (i * 2 + 1) = .slice (f i).1 l[i].data.length (f i).2 := fun i hi => by
    rw [hF]; simp only []; rw [if_neg (by omega), show (i * 2 + 1) / 2 = i from by omega, hget i hi]
  refine ⟨(List.range (l.length * 2)).map F, by simp, fun j u hj => ?_, fun u hu => ?_, fun i hi => ?_⟩
  · have hjl : j < l.length * 2 := by
      rcases Nat.lt_or_ge j (l.length * 2) with h | h
      · exact h
      · rw [List.getElem?_eq_none (by simpa using h)] at hj; cases hj
    rw [List.getElem?_map, List.getElem?_range hjl] at hj
    injection hj with hj
    subst hj
    have hi : j / 2 < l.length := by omega
    obtain ⟨b, o, h1, h2, _⟩ := hf (j / 2) hi
    refine ⟨b, o, h1, ?_⟩
    rcases (show j % 2 = 0 ∨ j % 2 = 1 by omega) with e | e
    · have := hev (j / 2) hi
      rw [show j / 2 * 2 = j from by omega] at this
      rw [this, ← h2.c0, show o + j / 2 * 2 = o + j from by omega]
    · have := hod (j / 2) hi
      rw [show j / 2 * 2 + 1 = j from by omega] at this
      rw [this, ← h2.c1, show o + j / 2 * 2 + 1 = o + j from by omega]
  · obtain ⟨j, hj, rfl⟩ := List.mem_map.1 hu
    rw [hF]
    simp only []
    split <;> rfl
  · obtain ⟨b, o, h1, h2, h3⟩ := hf i hi
    refine ⟨(f i).1, (f i).2, ?_, ?_, h2.h1, h2.h2, h2.bytes, h2.i0, h3⟩
    · rw [List.getElem?_map, List.getElem?_range (by omega)]; exact congrArg some (hev i hi)
    · rw [List.getElem?_map, List.getElem?_range (by omega)]; exact congrArg some (hod i hi)
theorem run_append_chs (w : World) (ty : TypeId) (base : Nat) (G : Nat → Prop) (v : Value) (l more : List EntM.Ch) (hown : OwnC w base G v l) (A : Option Addr) (c : Nat) (hA : ChsP (fun k => v.ownBlock ≠ some k ∧ ¬ G k) w A more)
    (hG : ∀ k, G k → k < w.heap.size) (hl : l.length + more.length < 1099511627776) (hbase : base ≤ w.heap.size) :
    ∃ v' w', (Builtin.append_ #[22, 22] ty #[v, .slice A more.length c]).run Try.prog w = .ok v' w' ∧ OwnC w' base G v' (l ++ more) ∧ Below base w w' := by
  obtain ⟨i0, hi0, hz, hs, hb⟩ := ch_info'
  obtain ⟨vs, k1, kG, k2⟩ := hown
  obtain ⟨news, n1, n2, n3, n4⟩ := chs_vals hA
  by_cases h0 : more.length = 0
  · have : more = [] := List.eq_nil_of_length_eq_zero h0
    subst this
    rw [List.append_nil]
    rcases A with _ | a
    · refine ⟨v, w, ?_, ⟨vs, k1, kG, k2⟩, Below.refl _ _⟩
      rcases k1.2 with ⟨rfl, _⟩ | ⟨g, cap, cur, rfl, _, _, hnc, _⟩
      · simp [Builtin.append_, run_underlying Try.underlying22, sizeOf, typeInfo, hi0, Builtin.lenOf, Builtin.firstCells]
      · simp [Builtin.append_, run_underlying Try.underlying22, sizeOf, typeInfo, hi0, Builtin.lenOf, Builtin.firstCells, hnc, storeCells]
    · have hnn : news = [] := List.eq_nil_of_length_eq_zero (by rw [n1]; rfl)
      subst hnn
      obtain ⟨v', w', hrun, r1, r2, r3⟩ := run_append_own (P := Try.prog) w base 22 ty 50 i0 _ 2 32 Try.underlying22 hi0 hz hs hb rfl (by omega) v l.length vs k1
        a 0 c [] rfl (fun j u h => by simp at h) (fun u h => by simp at h) (by unfold maxLen; omega) (by omega) hbase
      have hb' : Below base w w' := (Below.refl _ _).grown r2 hbase fun k hk => (k1.lt k hk).1
      rcases k1.2 with ⟨rfl, h0'⟩ | ⟨g, cap, cur, rfl, hbg, hg, hnc, hcm, hcs, htake⟩
      · have hv : v' = .slice none 0 0 := r3.2 ⟨rfl, rfl⟩
        subst hv
        have hl0 : l = [] := List.eq_nil_of_length_eq_zero h0'
        subst hl0
        exact ⟨_, w', hrun, OwnC.nil _ _ _, hb'⟩
      · have hr := run_append_room (P := Try.prog) w 22 ty 50 i0 Try.underlying22 hi0 g l.length cap cur hg a 0 c [] (by simp) (fun j u h => by simp at h) (fun u h => by simp at h) (by omega) (by rw [hs, hcs]; simp; exact Nat.mul_le_mul_right _ hnc)
        have hrr := hrun
        rw [hr] at hrr
        injection hrr with e1 e2
        subst e1
        refine ⟨_, w', hrun, ⟨vs, by have := r1; simpa using this, kG, fun i hi => ?_⟩, hb'⟩
        obtain ⟨B, d, q1, q2, q3, q4, q5, q6, q7⟩ := k2 i hi
        exact ⟨B, d, q1, q2, q3, q4, by
          by_cases hd : 0 < l[i].data.length
          · exact q5.same fun x e => r2.block x.block (q5.lt hd x e) (fun e' => (q7 hd x e).1 e'.symm)
          · have : l[i].data = [] := List.eq_nil_of_length_eq_zero (by omega)
            rw [this]; exact BytesAt.nil _ _, q6, q7⟩
  · rcases A with _ | a
    · obtain ⟨b, o, e, _⟩ := hA 0 (by omega)
      cases e
    · have hnews : ∀ j u, news[j]? = some u → w.cell? (a.add j) = some u := by
        intro j u hj
        obtain ⟨b, o, e, hc⟩ := n2 j u hj
        injection e with e; subst e
        have hadd : (⟨b, o, none⟩ : Addr).add j = ⟨b, o + j, none⟩ := by unfold Addr.add; split <;> simp_all
        rw [hadd]; exact hc
      obtain ⟨v', w', hrun, r1, r2, _⟩ := run_append_own (P := Try.prog) w base 22 ty 50 i0 _ 2 32 Try.underlying22 hi0 hz hs hb rfl (by omega) v l.length vs k1
        a more.length c news n1 hnews n3 (by unfold maxLen; omega) (by omega) hbase
      have hp := append_place_s Try.underlying22 hi0 hz hs hb k1 (a := a) (c := c) (m := more.length) (news := news) n1 (by omega) hnews n3 (by unfold maxLen; omega) (by omega) hrun
      have keep : ∀ (m : List UInt8) (C : Option Addr), BytesAt w C m → (0 < m.length → ∀ a, C = some a → v.ownBlock ≠ some a.block ∧ ¬ G a.block) → BytesAt w' C m ∧ (0 < m.length → ∀ a, C = some a → v'.ownBlock ≠ some a.block ∧ ¬ G a.block) := by
        intro m C hC hn
        refine ⟨?_, fun h0 a e => ?_⟩
        · by_cases h0 : 0 < m.length
          · exact hC.same fun a e => r2.block a.block (hC.lt h0 a e) (fun e' => (hn h0 a e).1 e'.symm)
          · have : m = [] := List.eq_nil_of_length_eq_zero (by omega)
            subst this; exact BytesAt.nil _ _
        · have hlt := hC.lt h0 a e
          refine ⟨?_, (hn h0 a e).2⟩
          rcases hp with hp | hp
          · rw [hp]; exact (hn h0 a e).1
          · rw [hp]; intro e'; injection e' with e'; omega
      refine ⟨v', w', hrun, ⟨vs ++ news, by rw [List.length_append]; exact r1, fun k hk => ?_, fun i hi => ?_⟩, (Below.refl _ _).grown r2 hbase fun k hk => (k1.lt k hk).1⟩
      · rcases hp with hp | hp
        · exact kG k (hp ▸ hk)
        · intro hg
          rw [hp] at hk
          injection hk with hk
          have := hG k hg
          omega
      · have hvs : vs.length = l.length * 2 := k1.1
        by_cases him : i < l.length
        · obtain ⟨C, cc, q1, q2, q3, q4, q5, q6, q7⟩ := k2 i him
          obtain ⟨q5', q7'⟩ := keep _ _ q5 q7
          rw [List.getElem_append_left him]
          exact ⟨C, cc, by rw [List.getElem?_append_left (by omega)]; exact q1, by rw [List.getElem?_append_left (by omega)]; exact q2, q3, q4, q5', q6, q7'⟩
        · rw [List.length_append] at hi
          obtain ⟨C, cc, q1, q2, q3, q4, q5, q6, q7⟩ := n4 (i - l.length) (by omega)
          obtain ⟨q5', q7'⟩ := keep _ _ q5 q7
          rw [List.getElem_append_right (by omega)]
          exact ⟨C, cc, by rw [List.getElem?_append_right (by omega), hvs, show i * 2 - l.length * 2 = (i - l.length) * 2 from by omega]; exact q1, by rw [List.getElem?_append_right (by omega), hvs, show i * 2 + 1 - l.length * 2 = (i - l.length) * 2 + 1 from by omega]; exact q2, q3, q4, q5', q6, q7'⟩
theorem wpList_append_chs {ops : Array Oper} {rest : List Oper} {o : Oper} {a : Act} {w : World} {Q : Exit → Act → World → Prop} (hgd : o.guard = none) (s y : Operand)
    (ho : o.op = .call { callee := .builtin .append, args := #[s, y], argTypes := #[22, 22] })
    (base : Nat) (G : Nat → Prop) (v : Value) (l more : List EntM.Ch) (hs : a.eval s = v) (hown : OwnC w base G v l) (A : Option Addr) (n c : Nat) (hy : a.eval y = .slice A n c) (hn : n = more.length) (hA : ChsP (fun k => v.ownBlock ≠ some k ∧ ¬ G k) w A more)
    (hG : ∀ k, G k → k < w.heap.size) (hl : l.length + more.length < 1099511627776) (hbase : base ≤ w.heap.size)
    (h : ∀ v' w', OwnC w' base G v' (l ++ more) → Below base w w' → wpList Try.prog ops Q rest (a.put o.dst v') w') : wpList Try.prog ops Q (o :: rest) a w := by
  subst hn
  obtain ⟨v', w', hrun, k2, k3⟩ := run_append_chs w o.type base G v l more hown A c hA hG hl hbase
  refine wpList_plain hgd fun K hK => ?_
  unfold Oper.wp execOp
  simp only [ho, resolve, invoke, builtin, Sem.run_bind, Sem.run_pure, Result.andThen_ok, List.map_toArray, List.map_cons, List.map_nil, hs, hy, hrun]
  exact hK _ _ (h v' w' k2 k3)
end Go.Proofs.Ytapgpibindhlfaa
