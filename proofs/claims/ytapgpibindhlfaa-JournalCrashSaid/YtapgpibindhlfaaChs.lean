/- lists of changes of sectors in memory: read, gathered, opened -/
import Derived.Test.YtapgpibindhlfaaStore
import Derived.Test.YtapgpibindhlfaaMO
import Derived.Test.YtapgpibindhlfaaMMA
set_option maxRecDepth 100000
namespace Go.Proofs.Ytapgpibindhlfaa
open Go.RowKit

/-- numbers of an int -/
def AtIn (z : Int) : Prop := -9223372036854775808 ≤ z ∧ z ≤ 9223372036854775807
/-- a change's two cells -/
structure ChLies (w : World) (b o : Nat) (B : Option Addr) (c : Nat) (x : EntM.Ch) : Prop where
  c0 : w.cell? ⟨b, o, none⟩ = some (.int .i64 x.at_)
  c1 : w.cell? ⟨b, o + 1, none⟩ = some (.slice B x.data.length c)
  h1 : x.data.length ≤ c
  h2 : c ≤ maxLen
  bytes : BytesAt w B x.data
  i0 : AtIn x.at_
/-- the cells behind an address hold these changes, two cells each -/
def ChsAt (w : World) (A : Option Addr) (l : List EntM.Ch) : Prop :=
  ∀ i, (h : i < l.length) → ∃ b o B c, A = some ⟨b, o, none⟩ ∧ ChLies w b (o + i * 2) B c l[i]
theorem ChLies.below {w w' : World} {b o : Nat} {B : Option Addr} {c : Nat} {x : EntM.Ch} (h : ChLies w b o B c x) (hb : Below w.heap.size w w') : ChLies w' b o B c x :=
  ⟨(hb.cell (p := ⟨b, o, none⟩) (cell_lt h.c0)).trans h.c0, (hb.cell (p := ⟨b, o + 1, none⟩) (cell_lt h.c1)).trans h.c1, h.h1, h.h2, h.bytes.below hb, h.i0⟩
theorem ChsAt.below {w w' : World} {A : Option Addr} {l : List EntM.Ch} (h : ChsAt w A l) (hb : Below w.heap.size w w') : ChsAt w' A l := by
  intro i hi
  obtain ⟨b, o, B, c, hA, h0⟩ := h i hi
  exact ⟨b, o, B, c, hA, h0.below hb⟩
theorem ChsAt.drewN {w : World} {A : Option Addr} {l : List EntM.Ch} (h : ChsAt w A l) (n : Nat) : ChsAt (w.drewN n) A l := h.below (bdraw w n)
theorem ChsAt.nil (w : World) (A : Option Addr) : ChsAt w A [] := fun i hi => absurd hi (by simp)
theorem ChsAt.in_ {w : World} {A : Option Addr} {l : List EntM.Ch} (h : ChsAt w A l) : ∀ c ∈ l, AtIn c.at_ := fun c hc => by
  obtain ⟨i, hi, rfl⟩ := List.mem_iff_getElem.1 hc
  obtain ⟨_, _, _, _, _, h0⟩ := h i hi
  exact h0.i0
/-- a literal of one change -/
theorem ChsAt.one (w : World) (x : EntM.Ch) (B : Option Addr) (c : Nat) (t : TypeId) (h1 : x.data.length ≤ c) (h2 : c ≤ maxLen) (hB : BytesAt w B x.data) (hi : AtIn x.at_) :
    ChsAt (w.alloc (.cells #[.int .i64 x.at_, .slice B x.data.length c] t)) (some ⟨w.heap.size, 0, none⟩) [x] := fun i hi' => by
  obtain rfl : i = 0 := by simp at hi'; omega
  exact ⟨w.heap.size, 0, B, c, rfl, by simp, by simp, h1, h2, hB.alloc _, hi⟩

section
variable {w : World} {base : Nat} {e : TypeId} {size : Nat}
theorem append_place_s {t ty e : TypeId} {i : TypeInfo} {z : Value} {size bytes : Nat} (ht : Try.prog.underlying t = some (.slice e)) (hi : Try.prog.info? e = some i) (hz : i.zero = some z) (hsize : i.size = size) (hby : i.bytes = bytes)
    {v : Value} {n : Nat} {xs : List Value} (hown : w.ownsRow base e size v n xs) {a : Addr} {c m : Nat} {news : List Value} (hl : news.length = m * size) (hm : 0 < m) (hnews : ∀ j u, news[j]? = some u → w.cell? (a.add j) = some u) (hone : ∀ u ∈ news, u.oneCell' = true) (h63 : n + m ≤ maxLen) (hbytes : (n + m) * bytes ≤ 140737488355328)
    {v' : Value} {w' : World} (hrun : (Builtin.append_ #[t, t] ty #[v, .slice (some a) m c]).run Try.prog w = .ok v' w') : v'.ownBlock = v.ownBlock ∨ v'.ownBlock = some w.heap.size := by
  have hsmall : n + m ≤ 9223372036854775807 := by simp only [maxLen] at h63; omega
  subst hsize
  subst hby
  rcases hown.2 with ⟨rfl, rfl⟩ | ⟨g, cap, cur, rfl, hbg, hg, hnc, hcm, hcs, htake⟩
  · have hr := run_append_nil (P := Try.prog) w t ty e i z ht hi hz a m c news hl hnews hm (by omega) (by have hb := hbytes; simp only [Nat.zero_add] at hb; omega)
    rw [hr] at hrun
    injection hrun with e1 e2
    subst e1
    exact .inr rfl
  · by_cases hroom : n + m ≤ cap
    · have hfit : n * i.size + news.length ≤ cur.size := by rw [hl, hcs, ← Nat.add_mul]; exact Nat.mul_le_mul_right _ hroom
      have hr := run_append_room (P := Try.prog) w t ty e i ht hi g n cap cur hg a m c news hl hnews hone hroom hfit
      rw [hr] at hrun
      injection hrun with e1 e2
      subst e1
      exact .inl rfl
    · have holds : ∀ j u, xs[j]? = some u → w.cell? ((⟨g, 0, none⟩ : Addr).add j) = some u := hown.cells (g := g) rfl
      have hr := run_append_grow (P := Try.prog) w t ty e i z ht hi hz ⟨g, 0, none⟩ n cap xs hown.1 holds a m c news hl hnews (by omega) (by omega) (growslice_fits (by omega) hbytes)
      rw [hr] at hrun
      injection hrun with e1 e2
      subst e1
      exact .inr rfl
theorem ownsRow_keep {F : Nat → Prop} {w' : World} {v : Value} {n : Nat} {xs : List Value} (h : w.ownsRow base e size v n xs) (q : Keeps F w w') (hF : ∀ k, v.ownBlock = some k → ¬ F k) : w'.ownsRow base e size v n xs := by
  refine ⟨h.1, ?_⟩
  rcases h.2 with h2 | ⟨g, cap, cur, rfl, h2, h3, h4⟩
  · exact .inl h2
  · refine .inr ⟨g, cap, cur, rfl, h2, (q.block g ?_ (hF g rfl)).trans h3, h4⟩
    rcases Nat.lt_or_ge g w.heap.size with hlt | hge
    · exact hlt
    · rw [Array.getElem?_eq_none hge] at h3; cases h3
end

/-- a list of changes that the call has gathered; neither its own block nor its bytes lie in G -/
def OwnC (w : World) (base : Nat) (G : Nat → Prop) (v : Value) (l : List EntM.Ch) : Prop :=
  ∃ vs : List Value, w.ownsRow base 50 2 v l.length vs ∧ (∀ k, v.ownBlock = some k → ¬ G k) ∧
    ∀ i, (h : i < l.length) → ∃ B c, vs[i * 2]? = some (.int .i64 l[i].at_) ∧ vs[i * 2 + 1]? = some (.slice B l[i].data.length c) ∧ l[i].data.length ≤ c ∧ c ≤ maxLen ∧ BytesAt w B l[i].data ∧ AtIn l[i].at_ ∧
      (0 < l[i].data.length → ∀ a, B = some a → v.ownBlock ≠ some a.block ∧ ¬ G a.block)
theorem OwnC.nil (w : World) (base : Nat) (G : Nat → Prop) : OwnC w base G (.slice none 0 0) [] := ⟨[], World.ownsRow_nil _ _ _ _, fun k h => by simp [Value.ownBlock] at h, fun i hi => absurd hi (by simp)⟩
section
variable {w w' : World} {base : Nat} {G : Nat → Prop} {v : Value} {l : List EntM.Ch}
theorem OwnC.keep {F : Nat → Prop} (h : OwnC w base G v l) (q : Keeps F w w') (hF : ∀ k, F k → G k) : OwnC w' base G v l := by
  obtain ⟨vs, h1, h2, h3⟩ := h
  refine ⟨vs, ownsRow_keep h1 q (fun k hk hf => h2 k hk (hF k hf)), h2, fun i hi => ?_⟩
  obtain ⟨B, c, k1, k2, k3, k4, k5, k6, k7⟩ := h3 i hi
  exact ⟨B, c, k1, k2, k3, k4, q.bytes' k5 (fun h0 a e hf => (k7 h0 a e).2 (hF _ hf)), k6, k7⟩
theorem OwnC.below (h : OwnC w base G v l) (hb : Below w.heap.size w w') : OwnC w' base G v l :=
  h.keep (F := fun _ => False) (.of_below _ hb) fun _ => False.elim
/-- what lies beyond the heap, or is shunned already, may be shunned -/
theorem OwnC.more {G' : Nat → Prop} (h : OwnC w base G v l) (hG : ∀ k, G' k → G k ∨ w.heap.size ≤ k) : OwnC w base G' v l := by
  obtain ⟨vs, h1, h2, h3⟩ := h
  refine ⟨vs, h1, fun k hk hg => ?_, fun i hi => ?_⟩
  · rcases hG k hg with h | h
    · exact h2 k hk h
    · have := (h1.lt k hk).2; omega
  · obtain ⟨B, c, k1, k2, k3, k4, k5, k6, k7⟩ := h3 i hi
    refine ⟨B, c, k1, k2, k3, k4, k5, k6, fun h0 a e => ⟨(k7 h0 a e).1, fun hg => ?_⟩⟩
    rcases hG _ hg with h | h
    · exact (k7 h0 a e).2 h
    · have := k5.lt h0 a e; omega
theorem OwnC.chs (h : OwnC w base G v l) : ∃ A c, v = .slice A l.length c ∧ l.length ≤ c ∧ c ≤ maxLen ∧ ChsAt w A l ∧ (∀ a, A = some a → base ≤ a.block) := by
  obtain ⟨vs, h1, _, h2⟩ := h
  rcases h1.2 with ⟨rfl, hn⟩ | ⟨g, cap, cur, rfl, hg, h3, h4, h5, h6, h7⟩
  · have : l = [] := List.eq_nil_of_length_eq_zero hn
    subst this
    exact ⟨none, 0, rfl, Nat.le_refl _, Nat.zero_le _, ChsAt.nil _ _, fun a e => by cases e⟩
  · refine ⟨_, _, rfl, h4, h5, fun i hi => ?_, fun a e => by injection e with e; subst e; exact hg⟩
    obtain ⟨B, c, k1, k2, k3, k4, k5, k6, _⟩ := h2 i hi
    have at_ : ∀ j u, j < l.length * 2 → vs[j]? = some u → w.cell? ⟨g, 0 + j, none⟩ = some u := fun j u hj hu => by
      rw [Nat.zero_add, cell_of_row w g j cur 50 (0, 0) h3, ← hu, ← h7, List.getElem?_take, if_pos hj]
      simp
    exact ⟨g, 0, B, c, rfl, by rw [Nat.zero_add]; have := at_ (i * 2) _ (by omega) k1; rw [Nat.zero_add] at this; exact this, by have := at_ (i * 2 + 1) _ (by omega) k2; rw [Nat.zero_add] at this ⊢; exact this, k3, k4, k5, k6⟩
theorem OwnC.lt (h : OwnC w base G v l) : ∀ k, v.ownBlock = some k → base ≤ k ∧ k < w.heap.size := by
  obtain ⟨vs, h1, _⟩ := h
  exact h1.lt
end
theorem ch_info : (Try.prog.info? 50).map (fun i => (i.zero, i.size, i.bytes)) = some (some (.agg #[.int .i64 0, .slice none 0 0]), 2, 32) := by kernel_rfl
theorem ch_info' : ∃ i, Try.prog.info? 50 = some i ∧ i.zero = some (.agg #[.int .i64 0, .slice none 0 0]) ∧ i.size = 2 ∧ i.bytes = 32 := by
  have h := ch_info
  match hh : Try.prog.info? 50, h with
  | some i, h => simp at h; exact ⟨i, rfl, h.1, h.2.1, h.2.2⟩
/-- 'append(l, x)' onto a list of the call's own -/
theorem run_append_ch (w : World) (ty : TypeId) (base : Nat) (G : Nat → Prop) (v : Value) (l : List EntM.Ch) (hown : OwnC w base G v l) (g c : Nat) (x : EntM.Ch) (B : Option Addr) (d : Nat)
    (h0 : w.cell? ⟨g, 0, none⟩ = some (.int .i64 x.at_)) (h0' : w.cell? ⟨g, 1, none⟩ = some (.slice B x.data.length d)) (h1 : x.data.length ≤ d) (h2 : d ≤ maxLen) (hB : BytesAt w B x.data) (hia : AtIn x.at_)
    (hne : 0 < x.data.length → ∀ a, B = some a → v.ownBlock ≠ some a.block ∧ ¬ G a.block) (hG : ∀ k, G k → k < w.heap.size) (hl : l.length < 1099511627776) (hbase : base ≤ w.heap.size) :
    ∃ v' w', (Builtin.append_ #[22, 22] ty #[v, .slice (some ⟨g, 0, none⟩) 1 c]).run Try.prog w = .ok v' w' ∧ OwnC w' base G v' (l ++ [x]) ∧ w.grownBy w' v.ownBlock ∧ (v'.ownBlock = v.ownBlock ∨ v'.ownBlock = some w.heap.size) := by
  obtain ⟨i0, hi0, hz, hs, hb⟩ := ch_info'
  obtain ⟨vs, k1, kG, k2⟩ := hown
  have hadd : ∀ j, (⟨g, 0, none⟩ : Addr).add j = ⟨g, j, none⟩ := fun j => by unfold Addr.add; split <;> simp_all
  have hnews : ∀ j u, [Value.int .i64 x.at_, Value.slice B x.data.length d][j]? = some u → w.cell? ((⟨g, 0, none⟩ : Addr).add j) = some u := by
    intro j u hj
    rw [hadd]
    match j, hj with
    | 0, hj => simp at hj; subst hj; exact h0
    | 1, hj => simp at hj; subst hj; exact h0'
  have hone : ∀ u ∈ [Value.int .i64 x.at_, Value.slice B x.data.length d], u.oneCell' = true := by
    intro u hu
    simp only [List.mem_cons, List.mem_nil_iff, or_false] at hu
    rcases hu with rfl | rfl <;> rfl
  obtain ⟨v', w', hrun, r1, r2, _⟩ := run_append_own (P := Try.prog) w base 22 ty 50 i0 _ 2 32 Try.underlying22 hi0 hz hs hb rfl (by omega) v l.length vs k1
    ⟨g, 0, none⟩ 1 c [.int .i64 x.at_, .slice B x.data.length d] rfl hnews hone (by unfold maxLen; omega) (by omega) hbase
  have hp := append_place_s Try.underlying22 hi0 hz hs hb k1 (a := ⟨g, 0, none⟩) (c := c) (m := 1) (news := [.int .i64 x.at_, .slice B x.data.length d]) rfl (by omega) hnews hone (by unfold maxLen; omega) (by omega) hrun
  have keep : ∀ (m : List UInt8) (C : Option Addr), BytesAt w C m → (0 < m.length → ∀ a, C = some a → v.ownBlock ≠ some a.block ∧ ¬ G a.block) → BytesAt w' C m ∧ (0 < m.length → ∀ a, C = some a → v'.ownBlock ≠ some a.block ∧ ¬ G a.block) := by
    intro m C hC hn
    refine ⟨?_, fun h0 a e => ?_⟩
    · by_cases h0 : 0 < m.length
      · exact hC.same fun a e => r2.block a.block (hC.lt h0 a e) (fun e' => (hn h0 a e).1 e'.symm)
      · have : m = [] := List.eq_nil_of_length_eq_zero (by omega)
        subst this; exact BytesAt.nil _ _
    · have hlt := hC.lt h0 a e
      refine ⟨?_, (hn h0 a e).2⟩
      rcases hp with hp | hp
      · rw [hp]; exact (hn h0 a e).1
      · rw [hp]; intro e'; injection e' with e'; omega
  refine ⟨v', w', hrun, ⟨vs ++ [.int .i64 x.at_, .slice B x.data.length d], ?_, fun k hk => ?_, fun i hi => ?_⟩, r2, hp⟩
  · rw [List.length_append, List.length_singleton]; exact r1
  · rcases hp with hp | hp
    · exact kG k (hp ▸ hk)
    · intro hg
      rw [hp] at hk
      injection hk with hk
      have := hG k hg
      omega
  · have hvs : vs.length = l.length * 2 := k1.1
    by_cases him : i < l.length
    · obtain ⟨C, cc, q1, q2, q3, q4, q5, q6, q7⟩ := k2 i him
      obtain ⟨q5', q7'⟩ := keep _ _ q5 q7
      have e : (l ++ [x])[i] = l[i] := List.getElem_append_left him
      rw [e]
      exact ⟨C, cc, by rw [List.getElem?_append_left (by omega)]; exact q1, by rw [List.getElem?_append_left (by omega)]; exact q2, q3, q4, q5', q6, q7'⟩
    · have e : i = l.length := by simp at hi; omega
      subst e
      have e : (l ++ [x])[l.length] = x := by simp
      rw [e]
      obtain ⟨q5', q7'⟩ := keep _ _ hB hne
      exact ⟨B, d, by rw [List.getElem?_append_right (by omega), hvs]; simp, by rw [List.getElem?_append_right (by omega), hvs, Nat.add_sub_cancel_left]; rfl, h1, h2, q5', hia, q7'⟩
theorem wpList_append_ch {ops : Array Oper} {rest : List Oper} {o : Oper} {a : Act} {w : World} {Q : Exit → Act → World → Prop} (hgd : o.guard = none) (s y : Operand)
    (ho : o.op = .call { callee := .builtin .append, args := #[s, y], argTypes := #[22, 22] })
    (base : Nat) (G : Nat → Prop) (v : Value) (l : List EntM.Ch) (hs : a.eval s = v) (hown : OwnC w base G v l) (g c : Nat) (x : EntM.Ch) (B : Option Addr) (d : Nat) (hx : a.eval y = .slice (some ⟨g, 0, none⟩) 1 c)
    (h0 : w.cell? ⟨g, 0, none⟩ = some (.int .i64 x.at_)) (h0' : w.cell? ⟨g, 1, none⟩ = some (.slice B x.data.length d)) (h1 : x.data.length ≤ d) (h2 : d ≤ maxLen) (hB : BytesAt w B x.data) (hi : AtIn x.at_)
    (hne : 0 < x.data.length → ∀ a, B = some a → v.ownBlock ≠ some a.block ∧ ¬ G a.block) (hG : ∀ k, G k → k < w.heap.size) (hl : l.length < 1099511627776) (hbase : base ≤ w.heap.size)
    (h : ∀ v' w', OwnC w' base G v' (l ++ [x]) → w.grownBy w' v.ownBlock → (v'.ownBlock = v.ownBlock ∨ v'.ownBlock = some w.heap.size) → wpList Try.prog ops Q rest (a.put o.dst v') w') : wpList Try.prog ops Q (o :: rest) a w := by
  obtain ⟨v', w', hrun, k2, k3, k4⟩ := run_append_ch w o.type base G v l hown g c x B d h0 h0' h1 h2 hB hi hne hG hl hbase
  refine wpList_plain hgd fun K hK => ?_
  unfold Oper.wp execOp
  simp only [ho, resolve, invoke, builtin, Sem.run_bind, Sem.run_pure, Result.andThen_ok, List.map_toArray, List.map_cons, List.map_nil, hs, hx, hrun]
  exact hK _ _ (h v' w' k2 k3 k4)
/-- a call that hands back changes -/
def RetChs (w : World) (l : List EntM.Ch) (e : Ending) (w' : World) : Prop :=
  ∃ A c, e = .returned (.slice A l.length c) ∧ l.length ≤ c ∧ c ≤ maxLen ∧ ChsAt w' A l ∧ Below w.heap.size w w'
end Go.Proofs.Ytapgpibindhlfaa
namespace Go.Proofs.Ytapgpibindhlfaa
open Go.ChangeShapes Go.WideShapes Go.ChangeAt Go.RowKit Go.Deep
section
variable {H : Type} {enc : TypeId × Value → H} {W : World} {base : Nat} {v : Value} {d : DataW H} {p : List MemPlace}
theorem open_chs {P : Program} {t e tq : TypeId} {f0 f1 : Field} (ht : P.underlying t = some (.slice e)) (he : P.underlying e = some (.struct #[f0, f1])) (hone : oneCellFields P #[f0, f1] = true) (hC : P.cellsOf e = 2)
    (t0 : P.underlying f0.type = some (.int .i64)) (t4 : P.underlying f1.type = some (.slice tq)) (tq8 : P.underlying tq = some (.int .u8)) (cq : P.cellsOf tq = 1)
    (hok : Value.okWide P W .any base t v) (h : DataW.Trod enc P W 0 (fun _ => true) true t v d p) :
    ∃ (A : Option Addr) (l : List EntM.Ch) (cap : Nat), v = .slice A l.length cap ∧ l.length ≤ cap ∧ cap ≤ maxLen ∧ ChsAt W A l := by
  obtain ⟨A, len, cap, rfl, h1, h2, hel⟩ := open_elems ht (by rw [hC]; omega) hok h
  have each : ∀ i, i < len → ∃ x : EntM.Ch, ∃ b o B c, A = some ⟨b, o, none⟩ ∧ ChLies W b (o + i * 2) B c x := by
    intro i hi
    obtain ⟨b, o, cs, n, x, hA, hcl, hat, htr⟩ := hel i hi
    rw [hC] at hat hcl
    obtain ⟨u0, m0, y0, c0, r0⟩ := trod_field he hone hC htr (j := 0) rfl
    obtain ⟨u4, m4, y4, c4, r4⟩ := trod_field he hone hC htr (j := 1) rfl
    obtain ⟨z0, rfl, b0⟩ := trod_num t0 r0
    obtain ⟨l4, B, c, rfl, k1, k2, k3⟩ := trod_bytes t4 tq8 cq r4
    exact ⟨⟨z0, l4⟩, b, o, B, c, hA, (hat 0 (by omega)).trans c0, (hat 1 (by omega)).trans c4, k1, k2, k3, i64_range b0⟩
  obtain ⟨f, hf⟩ : ∃ f : Nat → EntM.Ch, ∀ i, i < len → ∃ b o B c, A = some ⟨b, o, none⟩ ∧ ChLies W b (o + i * 2) B c (f i) := by
    refine ⟨fun i => if hi : i < len then Classical.choose (each i hi) else ⟨0, []⟩, fun i hi => ?_⟩
    simp only [hi, dif_pos]
    exact Classical.choose_spec (each i hi)
  refine ⟨A, (List.range len).map f, cap, by simp, by simpa using h1, h2, fun i hi => ?_⟩
  have hi' : i < len := by simpa using hi
  simp only [List.getElem_map, List.getElem_range]
  exact hf i hi'
end
end Go.Proofs.Ytapgpibindhlfaa
