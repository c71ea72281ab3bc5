/- the walk of EntryPuts -/
import Derived.Test.YtkponedbncifcaaLaw18
import Derived.Test.YtkponedbncifcaaR04
set_option maxRecDepth 100000
namespace Go.Proofs.Ytkponedbncifcaa.Law18
open Go.RowKit EntM Entry

/-- 'append(rows, more...)', the rows of whatever slice, onto a list of the call's own: what its places hold -/
theorem run_append_vals (w : World) (ty : TypeId) (base : Nat) (v : Value) (vs news : List Value) (hown : w.ownsRow base 38 1 v vs.length vs) (A : Option Addr) (c : Nat)
    (hA : ∀ j u, news[j]? = some u → ∃ b o, A = some ⟨b, o, none⟩ ∧ w.cell? ⟨b, o + j, none⟩ = some u) (hone : ∀ u ∈ news, u.oneCell' = true)
    (hl : vs.length + news.length < 1099511627776) (hbase : base ≤ w.heap.size) :
    ∃ v' w', (Builtin.append_ #[23, 23] ty #[v, .slice A news.length c]).run Try.prog w = .ok v' w' ∧ w'.ownsRow base 38 1 v' (vs ++ news).length (vs ++ news) ∧ Below base w w' := by
  obtain ⟨i0, hi, hz, hs, hb⟩ := sl_info'
  rcases A with _ | a
  · have : news = [] := by
      rcases news with _ | ⟨x, l2⟩
      · rfl
      · obtain ⟨b, o, e, _⟩ := hA 0 x (by simp); cases e
    subst this
    refine ⟨v, w, ?_, by rw [List.append_nil]; exact hown, Below.refl _ _⟩
    rcases hown.2 with ⟨rfl, _⟩ | ⟨g, cap, cur, rfl, _, _, hnc, _⟩
    · simp [Builtin.append_, run_underlying Try.underlying23, sizeOf, typeInfo, hi, Builtin.lenOf, Builtin.firstCells]
    · simp [Builtin.append_, run_underlying Try.underlying23, sizeOf, typeInfo, hi, Builtin.lenOf, Builtin.firstCells, hnc, storeCells]
  · have hnews : ∀ j u, news[j]? = some u → w.cell? (a.add j) = some u := by
      intro j u hj
      obtain ⟨b, o, e, hc⟩ := hA j u hj
      injection e with e; subst e
      have hadd : (⟨b, o, none⟩ : Addr).add j = ⟨b, o + j, none⟩ := by unfold Addr.add; split <;> simp_all
      rw [hadd]; exact hc
    obtain ⟨v', w', hrun, r1, r2, _⟩ := run_append_own (P := Try.prog) w base 23 ty 38 i0 _ 1 24 Try.underlying23 hi hz hs hb rfl (by omega) v vs.length vs hown
      a news.length c news (by rw [Nat.mul_one]) hnews hone (by unfold maxLen; omega) (by omega) hbase
    exact ⟨v', w', hrun, by rw [List.length_append]; exact r1, (Below.refl _ _).grown r2 hbase fun k hk => (hown.lt k hk).1⟩
theorem wpList_append_vals {ops : Array Oper} {rest : List Oper} {o : Oper} {a : Act} {w : World} {Q : Exit → Act → World → Prop} (hgd : o.guard = none) (s x : Operand)
    (ho : o.op = .call { callee := .builtin .append, args := #[s, x], argTypes := #[23, 23] })
    (base : Nat) (v : Value) (vs news : List Value) (hs : a.eval s = v) (hown : w.ownsRow base 38 1 v vs.length vs) (A : Option Addr) (n c : Nat) (hx : a.eval x = .slice A n c) (hn : n = news.length)
    (hA : ∀ j u, news[j]? = some u → ∃ b o, A = some ⟨b, o, none⟩ ∧ w.cell? ⟨b, o + j, none⟩ = some u) (hone : ∀ u ∈ news, u.oneCell' = true)
    (hl : vs.length + news.length < 1099511627776) (hbase : base ≤ w.heap.size)
    (h : ∀ v' w', w'.ownsRow base 38 1 v' (vs ++ news).length (vs ++ news) → Below base w w' → wpList Try.prog ops Q rest (a.put o.dst v') w') : wpList Try.prog ops Q (o :: rest) a w := by
  subst hn
  obtain ⟨v', w', hrun, k2, k3⟩ := run_append_vals w o.type base v vs news hown A c hA hone hl hbase
  refine wpList_plain hgd fun K hK => ?_
  unfold Oper.wp execOp
  simp only [ho, resolve, invoke, builtin, Sem.run_bind, Sem.run_pure, Result.andThen_ok, List.map_toArray, List.map_cons, List.map_nil, hs, hx, hrun]
  exact hK _ _ (h v' w' k2 k3)
/-- rows as the values of their places -/
theorem rows_vals {w : World} {A : Option Addr} {m : List (List UInt8)} (h : RowsAt w A m) : ∃ vs : List Value, vs.length = m.length ∧ (∀ j u, vs[j]? = some u → ∃ b o, A = some ⟨b, o, none⟩ ∧ w.cell? ⟨b, o + j, none⟩ = some u) ∧ (∀ u ∈ vs, u.oneCell' = true) ∧
    ∀ i, (hi : i < m.length) → ∃ u, vs[i]? = some u ∧ SliceIs w u m[i] := by
  have each : ∀ i : Nat, ∃ u : Value, ∀ hi : i < m.length, ∃ b o, A = some ⟨b, o, none⟩ ∧ w.cell? ⟨b, o + i, none⟩ = some u ∧ SliceIs w u m[i] := fun i => by
    by_cases hi : i < m.length
    · obtain ⟨b, o, v, h1, h2, h3⟩ := h i hi
      exact ⟨v, fun _ => ⟨b, o, h1, h2, h3⟩⟩
    · exact ⟨undef, fun k => absurd k hi⟩
  obtain ⟨f, hf⟩ : ∃ f : Nat → Value, ∀ i, ∀ hi : i < m.length, ∃ b o, A = some ⟨b, o, none⟩ ∧ w.cell? ⟨b, o + i, none⟩ = some (f i) ∧ SliceIs w (f i) m[i] := ⟨fun i => Classical.choose (each i), fun i => Classical.choose_spec (each i)⟩
  refine ⟨(List.range m.length).map f, by simp, fun j u hj => ?_, fun u hu => ?_, fun i hi => ⟨f i, by simp [hi], (hf i hi).choose_spec.choose_spec.2.2⟩⟩
  · have hjl : j < m.length := by
      rcases Nat.lt_or_ge j m.length with h | h
      · exact h
      · rw [List.getElem?_eq_none (by simpa using h)] at hj; cases hj
    rw [List.getElem?_map, List.getElem?_range hjl] at hj
    injection hj with hj
    subst hj
    obtain ⟨b, o, h1, h2, _⟩ := hf j hjl
    exact ⟨b, o, h1, h2⟩
  · obtain ⟨i, hi, rfl⟩ := List.mem_map.1 hu
    obtain ⟨_, _, _, _, B, c, e, _⟩ := hf i (List.mem_range.1 hi)
    rw [e]; rfl
/-- what such values hold, read as rows again -/
theorem OwnM.of_vals {w w' : World} {v : Value} {vs : List Value} {m : List (List UInt8)} (hown : w'.ownsRow w.heap.size 38 1 v vs.length vs) (hn : vs.length = m.length) (hb : Below w.heap.size w w')
    (h : ∀ i, (hi : i < m.length) → ∃ u, vs[i]? = some u ∧ SliceIs w u m[i]) : OwnM w' w.heap.size v m :=
  ⟨vs, by rw [← hn]; exact hown, fun i hi => by
    obtain ⟨u, h1, A, c, h2, h3, h4, h5⟩ := h i hi
    exact ⟨u, A, c, h1, h2, h3, h4, h5.below hb, fun h0 a e e2 => by have := h5.lt h0 a e; have := (hown.lt _ e2).1; omega⟩⟩
theorem own_empty (w : World) : (w.alloc (.cells #[] 38)).ownsRow w.heap.size 38 1 (.slice (some ⟨w.heap.size, 0, none⟩) 0 0) ([] : List Value).length [] :=
  ⟨rfl, .inr ⟨w.heap.size, 0, #[], rfl, Nat.le_refl _, heap_alloc_new w _, Nat.le_refl _, Nat.zero_le _, rfl, rfl⟩⟩
theorem own_append {w : World} {m1 m2 : List (List UInt8)} {v1 v2 : List Value} (n1 : v1.length = m1.length) (_n2 : v2.length = m2.length) (h1 : ∀ i, (hi : i < m1.length) → ∃ u, v1[i]? = some u ∧ SliceIs w u m1[i]) (h2 : ∀ i, (hi : i < m2.length) → ∃ u, v2[i]? = some u ∧ SliceIs w u m2[i]) :
    ∀ i, (hi : i < (m1 ++ m2).length) → ∃ u, ([] ++ v1 ++ v2)[i]? = some u ∧ SliceIs w u (m1 ++ m2)[i] := fun i hi => by
  rw [List.nil_append]
  by_cases h : i < m1.length
  · obtain ⟨u, k1, k2⟩ := h1 i h
    exact ⟨u, by rw [List.getElem?_append_left (by omega)]; exact k1, by rw [List.getElem_append_left h]; exact k2⟩
  · rw [List.length_append] at hi
    obtain ⟨u, k1, k2⟩ := h2 (i - m1.length) (by omega)
    exact ⟨u, by rw [List.getElem?_append_right (by omega), n1]; exact k1, by rw [List.getElem_append_right (by omega)]; exact k2⟩
set_option maxHeartbeats 4000000 in
theorem puts_any (A : Option Addr) (l : List Ch) (c : Nat) (M : Option Addr) (more : List (List UInt8)) (cm : Nat) (w : World) (h : ChsAt w A l) (hc : l.length ≤ c) (hc2 : c ≤ maxLen) (hM : RowsAt w M more) (_hm : more.length ≤ cm) (_hm2 : cm ≤ maxLen) :
    Calls Try.prog 3 #[.slice A l.length c, .slice M more.length cm] w fun e w' => e = .returned (.bool true) ∧ Below w.heap.size w w' := by
  have CF := Lib.hid (few_any A l c w h (by unfold maxLen at hc2; omega))
  rcases hf : fewB l with _ | _
  · rw [hf] at CF
    clear hf
    go_enter Try.func3, Try.ntmps3
    go_wp2_with fail
    refine CF.out.mono ?_
    rintro e w1 ⟨rfl, hb1⟩
    go_wp2_with fail
    refine (alive_any _).mono ?_
    rintro e w2 ⟨rfl, hb2⟩
    go_wp2
    go_ret
    exact ⟨rfl, bstep hb1 hb2⟩
  · rw [hf] at CF
    have hlen := ((fewB_iff l).1 hf).2
    clear hf
    by_cases h5 : 5 < more.length
    · go_enter Try.func3, Try.ntmps3
      go_wp2_with fail
      refine CF.out.mono ?_
      rintro e w1 ⟨rfl, hb1⟩
      go_wp2_with fail
      refine (alive_any _).mono ?_
      rintro e w2 ⟨rfl, hb2⟩
      go_wp2
      go_ret
      exact ⟨rfl, bstep hb1 hb2⟩
    · have hm5 : more.length ≤ 5 := by omega
      clear h5
      have C1 := Lib.hid (fun W t (ht : Crc.Tab W t) h => Entry.put_any t A l c W ht h (by omega))
      have C2 := Lib.hid (fun W h => R18.check_any A l c W h (by omega))
      have C3 := Lib.hid (fun W h => Entry.check_any A l c W h (by omega))
      have H := Lib.hid h; have HM := Lib.hid hM
      clear h hM
      by_cases h0 : checkV l = 0
      · have hmay := (checkV_may l).1 h0
        have hpl : (put l).length ≤ 33 := by rw [put_length]; have := hmay.bodies; omega
        have C4 := Lib.hid (fun W t X d (ht : Crc.Tab W t) h h1 h2 => Entry.get_any t X (put l ++ more) d W ht h h1 h2 (by rw [List.length_append]; omega) (fit_put (by have := hmay.bodies; omega) more))
        have C5 := Lib.hid (fun W h => R18.put_any A l c W h hmay)
        have HGO : Hid (∀ x ok, Got (put l ++ more) x ok → x = l ∧ ok = true) := Lib.hid fun x ok h => h.one (.inl ⟨rfl, Are.back hmay more⟩)
        rw [putV_may hmay, h0] at C1
        rw [h0] at C2 C3
        unfold RetPut at C1
        have HAP := Lib.hid (fun W v1 v2 n1 n2 h1 h2 => own_append (w := W) (m1 := put l) (m2 := more) (v1 := v1) (v2 := v2) n1 n2 h1 h2)
        have HAL : Hid ((put l ++ more).length = (put l).length + more.length) := Lib.hid List.length_append
        generalize put l ++ more = PM at *
        generalize put l = P at *
        clear h0 hmay
        go_enter Try.func3, Try.ntmps3
        go_wp2_with fail
        refine CF.out.mono ?_
        rintro e w1 ⟨rfl, hb1⟩
        have HB1 := Lib.hid hb1
        clear hb1 CF
        go_wp2_with fail
        refine (Crc.new_any _).mono ?_
        rintro e w2 ⟨t, rfl, ht, hb2⟩
        have HT := Lib.hid ht
        have HB2 := Lib.hid (bstep HB1.out hb2)
        clear ht hb2 HB1
        go_wp2_with fail
        refine (C1.out w2 t HT.out (H.out.below HB2.out)).mono ?_
        rintro e w3 ⟨S, d, rfl, d1, d2, r3, hb3⟩
        have HS := Lib.hid r3
        have HT3 := Lib.hid (HT.out.below hb3)
        have HB3 := Lib.hid (bstep HB2.out hb3)
        clear r3 hb3 HB2 C1 HT
        go_wp2_with fail
        refine (C2.out w3 (H.out.below HB3.out)).mono ?_
        rintro e w4 ⟨rfl, hb4⟩
        have HS4 := Lib.hid (HS.out.below hb4)
        have HT4 := Lib.hid (HT3.out.below hb4)
        have HB4 := Lib.hid (bstep HB3.out hb4)
        clear hb4 HB3 C2 HT3 HS
        go_wp2_with fail
        refine (C3.out w4 (H.out.below HB4.out)).mono ?_
        rintro e w5 ⟨rfl, hb5⟩
        have HS5 := Lib.hid (HS4.out.below hb5)
        have HT5 := Lib.hid (HT4.out.below hb5)
        have HB5 := Lib.hid (bstep HB4.out hb5)
        clear hb5 HB4 C3 HT4 HS4
        have HM5 := Lib.hid (HM.out.below HB5.out)
        obtain ⟨v1, n1, a1, o1, s1⟩ := rows_vals HS5.out
        obtain ⟨v2, n2, a2, o2, s2⟩ := rows_vals HM5.out
        have HA1 : Hid (∀ j u, v1[j]? = some u → ∃ b o, S = some ⟨b, o, none⟩ ∧ (w5.alloc (.cells #[] 38)).cell? ⟨b, o + j, none⟩ = some u) := Lib.hid fun j u hj => by
          obtain ⟨b, o, e, hc⟩ := a1 j u hj
          exact ⟨b, o, e, ((balloc w5 (.cells #[] 38)).cell (cell_lt hc)).trans hc⟩
        have HO1 := Lib.hid o1; have HO2 := Lib.hid o2
        have HN1 := Lib.hid n1; have HN2 := Lib.hid n2
        have HA2 : Hid (∀ W, Below w5.heap.size w5 W → ∀ j u, v2[j]? = some u → ∃ b o, M = some ⟨b, o, none⟩ ∧ W.cell? ⟨b, o + j, none⟩ = some u) := Lib.hid fun W hb j u hj => by
          obtain ⟨b, o, e, hc⟩ := a2 j u hj
          exact ⟨b, o, e, (hb.cell (cell_lt hc)).trans hc⟩
        have HSL := Lib.hid (HAP.out w5 v1 v2 n1 n2 s1 s2)
        have HEM := Lib.hid (own_empty w5)
        have HBE := Lib.hid (balloc w5 (.cells #[] 38))
        clear n1 n2 a1 a2 o1 o2 s1 s2 HAP
        go_wp2_with (first
          | (at_builtin; refine wpList_append_vals rfl (.tmp 48) (.tmp 49) rfl w5.heap.size (.slice (some ⟨w5.heap.size, 0, none⟩) 0 0) [] v1 rfl HEM.out S _ _ rfl HN1.out.symm HA1.out HO1.out (by rw [HN1.out]; simp; omega) HBE.out.size ?_; intro v6 w6 own6 hb6; have HO6 := Lib.hid own6; have HB6 := Lib.hid (HBE.out.trans hb6); clear own6 hb6)
          | (at_builtin; refine wpList_append_vals rfl (.tmp 50) (.tmp 51) rfl w5.heap.size v6 ([] ++ v1) v2 rfl HO6.out M _ _ rfl HN2.out.symm (HA2.out w6 HB6.out) HO2.out (by rw [HN2.out, List.nil_append, HN1.out]; omega) HB6.out.size ?_; intro v7 w7 own7 hb7; have HO7 := Lib.hid own7; have HB7 := Lib.hid (HB6.out.trans hb7); clear own7 hb7))
        have own7 := OwnM.of_vals (m := PM) HO7.out (by rw [HAL.out, List.length_append, List.nil_append, HN1.out, HN2.out]) HB7.out HSL.out
        obtain ⟨X7, c7, hv7, p1, p2, p3, -⟩ := own7.rows
        subst hv7
        have HP7 := Lib.hid p3
        have HW7 := Lib.hid (bstep HB5.out HB7.out)
        have HT7 := Lib.hid (HT5.out.below HB7.out)
        have HS7 := Lib.hid (HS5.out.below HB7.out)
        clear own7 p3 HO7 HO6 HB6 HB7 HSL HA1 HA2 HO1 HO2 HN1 HN2 HEM HBE HM5 HS5 HT5 HB5
        refine (C4.out w7 t X7 c7 HT7.out HP7.out p1 p2).mono ?_
        rintro e w8 ⟨x, ok, Y, f, rfl, f1, f2, r8, g8, hb8⟩
        obtain ⟨rfl, rfl⟩ := HGO.out x ok g8
        have HY := Lib.hid r8
        have HB8 := Lib.hid (bstep HW7.out hb8)
        have HS8 := Lib.hid (HS7.out.below hb8)
        clear r8 g8 hb8 HW7 HT7 HS7 HP7 C4 HGO
        go_wp2_with fail
        refine (C5.out w8 (H.out.below HB8.out)).mono ?_
        rintro e w9 ⟨Q, q, rfl, q1, q2, q3, hb9, -⟩
        have HQ := Lib.hid q3
        have HB9 := Lib.hid (bstep HB8.out hb9)
        have HS9 := Lib.hid (HS8.out.below hb9)
        have HY9 := Lib.hid (HY.out.below hb9)
        clear q3 hb9 HB8 HS8 HY C5
        go_wp2_with fail
        refine (R04.same_eq S Q P P d q w9 HS9.out HQ.out (by omega) rfl).mono ?_
        rintro e w10 ⟨rfl, z, rfl⟩
        have C6 := Lib.hid (fun W h1 h2 => R18.same_any Y A x x f c W h1 h2 (by omega) (by omega))
        rw [R18.sameC_self] at C6
        go_wp2_with fail
        refine (C6.out _ (HY9.out.drewN z) ((H.out.below HB9.out).drewN z)).mono ?_
        rintro e w11 ⟨rfl, z2, rfl⟩
        go_wp2_with fail
        refine (alive_any _).mono ?_
        rintro e w12 ⟨rfl, hb12⟩
        go_wp2
        go_ret
        exact ⟨rfl, bstep (bstep HB9.out (bdraw _ _)) hb12⟩
      · rw [putV_not h0] at C1
        unfold RetPut at C1
        have hq : (checkV l != 0) = true := by rw [bne_iff_ne]; exact h0
        clear h0
        generalize checkV l = r at *
        go_enter Try.func3, Try.ntmps3
        go_wp2_with fail
        refine CF.out.mono ?_
        rintro e w1 ⟨rfl, hb1⟩
        have HB1 := Lib.hid hb1
        clear hb1 CF
        go_wp2_with fail
        refine (Crc.new_any _).mono ?_
        rintro e w2 ⟨t, rfl, ht, hb2⟩
        have HT := Lib.hid ht
        have HB2 := Lib.hid (bstep HB1.out hb2)
        clear ht hb2 HB1
        go_wp2_with fail
        refine (C1.out w2 t HT.out (H.out.below HB2.out)).mono ?_
        rintro e w3 ⟨S, d, rfl, d1, d2, r3, hb3⟩
        have HB3 := Lib.hid (bstep HB2.out hb3)
        clear r3 hb3 HB2 C1 HT
        go_wp2_with fail
        refine (C2.out w3 (H.out.below HB3.out)).mono ?_
        rintro e w4 ⟨rfl, hb4⟩
        have HB4 := Lib.hid (bstep HB3.out hb4)
        clear hb4 HB3 C2
        go_wp2_with fail
        refine (C3.out w4 (H.out.below HB4.out)).mono ?_
        rintro e w5 ⟨rfl, hb5⟩
        have HB5 := Lib.hid (bstep HB4.out hb5)
        clear hb5 HB4 C3
        go_wp2_with fail
        refine (alive_any _).mono ?_
        rintro e w6 ⟨rfl, hb6⟩
        go_wp2
        go_ret
        exact ⟨rfl, bstep HB5.out hb6⟩
end Go.Proofs.Ytkponedbncifcaa.Law18
