/- appends onto lists of the call's own: where they lie, and what they write -/
import Derived.Test.YtjoocjkakgjgmaaFoot
set_option maxRecDepth 100000
namespace Go.Proofs.Ytjoocjkakgjgmaa
open Go.RowKit

/-- where an append lies: in the row that there was, or in a new one -/
theorem append_place_l {w : World} {base : Nat} {t ty e : TypeId} {i : TypeInfo} {z : Value} {bytes : Nat} (ht : Try.prog.underlying t = some (.slice e)) (hi : Try.prog.info? e = some i) (hz : i.zero = some z) (hsize : i.size = 1) (hby : i.bytes = bytes)
    {v : Value} {n : Nat} {xs : List Value} (hown : w.ownsRow base e 1 v n xs) {a : Addr} {c m : Nat} {news : List Value} (hl : news.length = m) (hm : 0 < m) (hnews : ∀ j u, news[j]? = some u → w.cell? (a.add j) = some u) (hone : ∀ u ∈ news, u.oneCell' = true) (h63 : n + m ≤ maxLen) (hbytes : (n + m) * bytes ≤ 140737488355328)
    {v' : Value} {w' : World} (hrun : (Builtin.append_ #[t, t] ty #[v, .slice (some a) m c]).run Try.prog w = .ok v' w') : v'.ownBlock = v.ownBlock ∨ v'.ownBlock = some w.heap.size := by
  have hsmall : n + m ≤ 9223372036854775807 := by simp only [maxLen] at h63; omega
  have hl : news.length = m * i.size := by rw [hsize, Nat.mul_one]; exact hl
  subst hby
  rcases hown.2 with ⟨rfl, rfl⟩ | ⟨g, cap, cur, rfl, hbg, hg, hnc, hcm, hcs, htake⟩
  · have hr := run_append_nil (P := Try.prog) w t ty e i z ht hi hz a m c news hl hnews hm (by omega) (by have hb := hbytes; simp only [Nat.zero_add] at hb; omega)
    rw [hr] at hrun
    injection hrun with e1 e2
    subst e1
    exact .inr rfl
  · by_cases hroom : n + m ≤ cap
    · have hfit : n * i.size + news.length ≤ cur.size := by rw [hl, hsize, hcs]; omega
      have hr := run_append_room (P := Try.prog) w t ty e i ht hi g n cap cur hg a m c news hl hnews hone hroom hfit
      rw [hr] at hrun
      injection hrun with e1 e2
      subst e1
      exact .inl rfl
    · have holds : ∀ j u, xs[j]? = some u → w.cell? ((⟨g, 0, none⟩ : Addr).add j) = some u := hown.cells (g := g) rfl
      have hr := run_append_grow (P := Try.prog) w t ty e i z ht hi hz ⟨g, 0, none⟩ n cap xs (by rw [hsize]; exact hown.1) holds a m c news hl hnews (by omega) (by omega) (growslice_fits (by omega) hbytes)
      rw [hr] at hrun
      injection hrun with e1 e2
      subst e1
      exact .inr rfl

/-- what an append onto a list of the call's own gives: the list, what was written, and where it lies -/
structure Appd (w : World) (base : Nat) (v : Value) (l : List UInt8) (v' : Value) (w' : World) : Prop where
  own : Own w' base v' l
  grow : w.grownBy w' v.ownBlock
  place : v'.ownBlock = v.ownBlock ∨ v'.ownBlock = some w.heap.size
theorem run_append_bytes_at (w : World) (ty : TypeId) (base : Nat) (v : Value) (l l2 : List UInt8) (hown : Own w base v l) (A : Option Addr) (c : Nat) (hA : BytesAt w A l2)
    (hl : l.length + l2.length < 1099511627776) (hbase : base ≤ w.heap.size) :
    ∃ v' w', (Builtin.append_ #[24, 24] ty #[v, .slice A l2.length c]).run Try.prog w = .ok v' w' ∧ Appd w base v (l ++ l2) v' w' := by
  obtain ⟨i0, hi, hz, hs, hb⟩ := u8_info'
  rcases A with _ | a
  · have : l2 = [] := by
      rcases l2 with _ | ⟨x, l2⟩
      · rfl
      · obtain ⟨b, o, e, _⟩ := hA 0 (by simp); cases e
    subst this
    refine ⟨v, w, ?_, by rw [List.append_nil]; exact hown, grow_refl _ _, .inl rfl⟩
    rcases hown.2 with ⟨rfl, _⟩ | ⟨g, cap, cur, rfl, _, _, hnc, _⟩
    · simp [Builtin.append_, run_underlying Try.underlying24, sizeOf, typeInfo, hi, Builtin.lenOf, Builtin.firstCells]
    · simp [Builtin.append_, run_underlying Try.underlying24, sizeOf, typeInfo, hi, Builtin.lenOf, Builtin.firstCells, hnc, storeCells]
  · have hnews : ∀ j u, (vals l2)[j]? = some u → w.cell? (a.add j) = some u := by
      intro j u hj
      have hjl : j < l2.length := by
        rcases Nat.lt_or_ge j (vals l2).length with hlt | hge
        · rwa [vals_len] at hlt
        · rw [List.getElem?_eq_none hge] at hj; cases hj
      obtain ⟨b, o, e, hc⟩ := hA j hjl
      injection e with e; subst e
      rw [vals_get _ _ hjl] at hj
      injection hj with hj; subst hj
      have hadd : (⟨b, o, none⟩ : Addr).add j = ⟨b, o + j, none⟩ := by unfold Addr.add; split <;> simp_all
      rw [hadd]; exact hc
    have hone : ∀ u ∈ vals l2, u.oneCell' = true := by intro u hu; simp [vals] at hu; obtain ⟨b, _, rfl⟩ := hu; rfl
    obtain ⟨v', w', hrun, r1, r2, r3⟩ := run_append_own (P := Try.prog) w base 24 ty 5 i0 _ 1 1 Try.underlying24 hi hz hs hb rfl (by omega) v l.length (vals l) hown
      a l2.length c (vals l2) (by rw [vals_len, Nat.mul_one]) hnews hone (by unfold maxLen; omega) (by omega) hbase
    refine ⟨v', w', hrun, ?_, r2, ?_⟩
    · unfold Own
      rw [List.length_append, show vals (l ++ l2) = vals l ++ vals l2 from by simp [vals]]
      exact r1
    · by_cases h0 : 0 < l2.length
      · exact append_place_l Try.underlying24 hi hz hs hb hown (vals_len l2) h0 hnews hone (by unfold maxLen; omega) (by omega) hrun
      · have : l2 = [] := List.eq_nil_of_length_eq_zero (by omega)
        subst this
        rcases hown.2 with ⟨rfl, h0'⟩ | ⟨g, cap, cur, rfl, hbg, hg, hnc, hcm, hcs, htake⟩
        · have : v' = .slice none 0 0 := r3.2 ⟨rfl, rfl⟩
          subst this; exact .inl rfl
        · have hr := run_append_room (P := Try.prog) w 24 ty 5 i0 Try.underlying24 hi g l.length cap cur hg a 0 c [] (by simp) (fun j u h => by simp at h) (fun u h => by simp at h) (by omega) (by rw [hs, hcs]; simp; omega)
          have hrun' : (Builtin.append_ #[24, 24] ty #[.slice (some ⟨g, 0, none⟩) l.length cap, .slice (some a) 0 c]).run Try.prog w = .ok v' w' := hrun
          rw [hr] at hrun'
          injection hrun' with e1 e2
          subst e1
          exact .inl rfl
theorem wp_append_at {o : Oper} {a : Act} {w : World} {K : Act → World → Prop} {Q : Exit → Act → World → Prop} (s x : Operand)
    (ho : o.op = .call { callee := .builtin .append, args := #[s, x], argTypes := #[24, 24] })
    (base : Nat) (v : Value) (l l2 : List UInt8) (hs : a.eval s = v) (hown : Own w base v l) (A : Option Addr) (n c : Nat) (hx : a.eval x = .slice A n c) (hn : n = l2.length) (hA : BytesAt w A l2)
    (hl : l.length + l2.length < 1099511627776) (hbase : base ≤ w.heap.size)
    (h : ∀ v' w', Appd w base v (l ++ l2) v' w' → K (a.put o.dst v') w') : o.wp Try.prog a w K Q := by
  subst hn
  obtain ⟨v', w', hrun, k2⟩ := run_append_bytes_at w o.type base v l l2 hown A c hA hl hbase
  unfold Oper.wp execOp
  simp only [ho, resolve, invoke, builtin, Sem.run_bind, Sem.run_pure, Result.andThen_ok, List.map_toArray, List.map_cons, List.map_nil, hs, hx, hrun]
  exact h v' w' k2
theorem wpList_append_at {ops : Array Oper} {rest : List Oper} {o : Oper} {a : Act} {w : World} {Q : Exit → Act → World → Prop} (hgd : o.guard = none) (s x : Operand)
    (ho : o.op = .call { callee := .builtin .append, args := #[s, x], argTypes := #[24, 24] })
    (base : Nat) (v : Value) (l l2 : List UInt8) (hs : a.eval s = v) (hown : Own w base v l) (A : Option Addr) (n c : Nat) (hx : a.eval x = .slice A n c) (hn : n = l2.length) (hA : BytesAt w A l2)
    (hl : l.length + l2.length < 1099511627776) (hbase : base ≤ w.heap.size)
    (h : ∀ v' w', Appd w base v (l ++ l2) v' w' → wpList Try.prog ops Q rest (a.put o.dst v') w') : wpList Try.prog ops Q (o :: rest) a w :=
  wpList_plain hgd fun _ hK => wp_append_at s x ho base v l l2 hs hown A n c hx hn hA hl hbase fun v' w' h2 => hK _ _ (h v' w' h2)
theorem Own.keep {F : Nat → Prop} {w w' : World} {base : Nat} {v : Value} {l : List UInt8} (h : Own w base v l) (q : Keeps F w w') (hF : ∀ k, v.ownBlock = some k → ¬ F k) : Own w' base v l := by
  refine ⟨h.1, ?_⟩
  rcases h.2 with h2 | ⟨g, cap, cur, rfl, h2, h3, h4⟩
  · exact .inl h2
  · refine .inr ⟨g, cap, cur, rfl, h2, (q.block g ?_ (hF g rfl)).trans h3, h4⟩
    rcases Nat.lt_or_ge g w.heap.size with hlt | hge
    · exact hlt
    · rw [Array.getElem?_eq_none hge] at h3; cases h3
theorem Own.lt {w : World} {base : Nat} {v : Value} {l : List UInt8} (h : Own w base v l) : ∀ k, v.ownBlock = some k → base ≤ k ∧ k < w.heap.size := World.ownsRow.lt h
end Go.Proofs.Ytjoocjkakgjgmaa
