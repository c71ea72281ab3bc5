/- package blind: what is wrong with parts; what is found -/
import Derived.Test.YtchcgiapjhmflaaGreatBlindB
import Derived.Test.YtchcgiapjhmflaaGreatBlindC
import Derived.Test.YtchcgiapjhmflaaGreatSorts
import Derived.Test.YtchcgiapjhmflaaGreatMB
set_option maxRecDepth 100000
namespace Go.Proofs.YtchcgiapjhmflaaGreat.Blind
open Go.RowKit PlanM StripeM DealM RebM ZeroM Plan Rebuild SortM

theorem anyTwice_any (A : Option Addr) (who : List Int) (c : Nat) (w : World) (h : IntsAt w A who) (hl : who.length ≤ 1048576) :
    Calls Tryz.prog 58 #[.slice A who.length c] w (Says w (.bool (twice who))) := by
  have hb := balloc w (.cells #[.slice A who.length c] 26)
  have C := Sorts.sorted_any w.heap.size A who c (w.alloc (.cells #[.slice A who.length c] 26)) (by simp) (h.below hb) hl
  have V := callsIn_wide.1 (Sorts.values_in Fence.wide 12 trivial rfl A who.length c w)
  have HT := Lib.hid (twice_by who)
  have HV := Lib.hid V; have HC := Lib.hid C; have HB := Lib.hid hb
  obtain ⟨n, hn⟩ : ∃ n, n = who.length := ⟨_, rfl⟩
  rw [← hn] at HV HC HB HT ⊢
  have HN := Lib.hid hn
  generalize twice who = tw at *
  clear V C h hb hn
  go_enter Tryz.func58, Tryz.ntmps58
  go_wp2_with fail
  refine HV.out.mono ?_
  rintro e w' ⟨rfl, rfl⟩
  go_wp2_with fail
  refine HC.out.mono ?_
  rintro e w1 ⟨v, rfl, h1, h2⟩
  have HB2 := Lib.hid (bstep HB.out h2)
  clear h2
  have hsl := sorted_len who
  generalize sorted who = zs at *
  have HSL := Lib.hid hsl
  clear hsl
  rcases h1.2 with ⟨rfl, hz⟩ | ⟨gb, cap, cur, rfl, hbase, hgb, r1, r2, r3, r4⟩
  · have hss : zs = [] := List.eq_nil_of_length_eq_zero hz
    subst hss
    have C2 := Lib.hid (AnyG.slices_Compact_int_empty layICompact none 0 w1)
    have hn0 : n = 0 := by rw [HN.out, ← HSL.out]; rfl
    have ht := HT.out
    subst hn0
    rw [decide_eq_false (by omega)] at ht
    have HT2 := Lib.hid ht
    clear ht h1
    go_wp2_with fail
    refine C2.out.mono ?_
    rintro e w' ⟨rfl, rfl⟩
    go_wp2
    go_ret
    exact ⟨ret_bool (by rw [← HT2.out]), HB2.out⟩
  · have hH : Go.Sort.Holds (Value.int .i64) w1 gb 0 zs.toArray := holds_of_block_i hgb (by rw [Nat.mul_one] at r4; exact r4)
    have hgl : gb < w1.heap.size := (Array.getElem?_eq_some_iff.1 hgb).1
    have hcap : zs.length ≤ cap := by omega
    have hzl : zs.length ≤ 9223372036854775807 := by rw [HSL.out]; omega
    have C2 := AnyG.slices_Compact_int layICompact gb 0 cap zs w1 hH hzl hcap
    have HG := Lib.hid (fun q (d : Array Int) => grownBy_sorted_i (w := w1) (g := gb) (n := q) (os := #[]) d)
    have HC2 := Lib.hid C2
    have HBA := Lib.hid hbase
    clear C2 hH h1 hgb r1 r2 r3 r4 hbase
    go_wp2_with fail
    refine HC2.out.mono ?_
    rintro e w' ⟨rfl, q, hw'⟩
    have hg := HG.out q (Lib.compact zs ++ List.replicate (zs.length - (Lib.compact zs).length) 0).toArray
    rw [Go.Sort.grow_empty] at hg
    have hb3 : Below w.heap.size w w' := by
      rw [hw']
      refine HB2.out.grown hg HB2.out.size (fun j hj => by cases hj; have := HB.out.size; have := HBA.out; omega)
    have HB3 := Lib.hid hb3
    clear hg hb3 hw'
    generalize (Lib.compact zs).length = m at *
    have ht := HT.out
    have HT2 := Lib.hid ht
    clear ht
    go_wp2
    go_ret
    exact ⟨ret_bool (by rw [← HT2.out]), HB3.out⟩

theorem ret_i {a b : Int} (h : a = b) : Ending.returned (.int .i64 a) = .returned (.int .i64 b) := by rw [h]
theorem twice_points {p : P} (hp : p.May) {who : List Int} (h : noIs p who = false) : LagrM.unl (points who) = !(twice who) := by
  have hi : ∀ x ∈ who, p.is x = true := fun x hx => by
    unfold noIs at h
    rw [List.any_eq_false] at h
    have := h x hx
    unfold P.isA at this
    rw [P.right_yes hp] at this
    simpa using this
  unfold twice LagrM.unl
  rw [Bool.not_not]
  by_cases hd : who.Nodup
  · rw [decide_eq_true (MaskM.points_nodup hp hd hi), decide_eq_true hd]
  · rw [decide_eq_false hd, decide_eq_false]
    exact fun h2 => hd ((List.pairwise_map.1 h2).imp fun h e => h (by rw [e]))
theorem among_by {p : P} (hp : p.May) (n t : Int) (who : List Int) (sh : List (List UInt8)) : among p n t who sh =
    if who.contains t then 2 else if noIs p who then 2 else if twice who then 5 else if (who.length : Int) < p.needA then 6 else if sh.length ≠ who.length then 3 else if allN n sh then 0 else 3 := by
  have hn : p.needA = p.T + p.L := by unfold P.needA; rw [P.right_yes hp]; rfl
  unfold among
  by_cases h1 : who.contains t = true
  · rw [if_pos h1, if_pos]
    unfold anyOff
    rw [List.any_eq_true]
    exact ⟨t, List.contains_iff_mem.1 h1, by simp⟩
  · rw [if_neg h1]
    by_cases h2 : noIs p who = true
    · rw [if_pos h2, if_pos]
      unfold noIs at h2
      rw [List.any_eq_true] at h2
      obtain ⟨x, hx, h3⟩ := h2
      unfold anyOff
      rw [List.any_eq_true]
      refine ⟨x, hx, ?_⟩
      unfold P.isA at h3
      rw [P.right_yes hp] at h3
      rw [Bool.or_eq_true]
      exact .inl (by simpa using h3)
    · rw [if_neg h2, if_neg]
      · rw [twice_points hp (Bool.eq_false_iff.2 h2), hn]
        cases twice who
        · simp only [Bool.not_false, if_true, Bool.false_eq_true, if_false]; rfl
        · simp
      · unfold anyOff
        rw [List.any_eq_true]
        rintro ⟨x, hx, h3⟩
        rw [Bool.or_eq_true] at h3
        rcases h3 with h3 | h3
        · refine h2 ?_
          unfold noIs
          rw [List.any_eq_true]
          refine ⟨x, hx, ?_⟩
          unfold P.isA
          rw [P.right_yes hp]
          simpa using h3
        · exact h1 (List.contains_iff_mem.2 (by rw [← eq_of_beq h3]; exact hx))

set_option maxHeartbeats 2000000 in
theorem parts_any (p : P) (n t : Int) (A1 A2 : Option Addr) (who : List Int) (sh : List (List UInt8)) (u1 u2 : Nat) (w : World) (hp : p.In) (ht : In64 t) (h1 : IntsAt w A1 who) (hi : ∀ x ∈ who, In64 x) (h2 : RowsAt w A2 sh)
    (hw : who.length ≤ 1048576) (hl : sh.length ≤ 1048576) :
    Calls Tryz.prog 34 #[p.val, .int .i64 n, .int .i64 t, .slice A1 who.length u1, .slice A2 sh.length u2] w (Says w (.int .i64 (findE p n t who sh))) := by
  have HS := Lib.hid (Six.new w p)
  have hb0 := Lib.hid (balloc w (.cells #[.int .i64 p.N, .int .i64 p.T, .int .i64 p.L, .int .i64 p.W, .int .i64 p.S, .int .i64 p.R] 23))
  have hW := fun V => wrong_any p n t V hp ht
  have hC := fun V (h : IntsAt V A1 who) => contains_any A1 who u1 t V h hw
  have hI := fun g V (hs : Six V g p) (h : IntsAt V A1 who) => containsI_any A1 who u1 g p V hp hs h hw hi
  have hT := fun V (h : IntsAt V A1 who) => anyTwice_any A1 who u1 V h hw
  have hN := fun V => Plan.need_any p V hp
  have hR := fun g V (hc : V.cell? ⟨g, 0, none⟩ = some (.int .i64 n)) (h : RowsAt V A2 sh) => containsR_any A2 sh u2 g n V hc h hl
  obtain ⟨ans, hans⟩ : ∃ ans, ans = findE p n t who sh := ⟨_, rfl⟩
  have hfe : findE p n t who sh = if bcheck p n t = 0 then (if who.contains t then 2 else if noIs p who then 2 else if twice who then 5 else if (who.length : Int) < p.needA then 6 else if sh.length ≠ who.length then 3 else if allN n sh then 0 else 3) else bcheck p n t := by
    unfold findE
    by_cases hz : bcheck p n t = 0
    · rw [if_pos hz, if_pos hz, among_by (bcheck_ok hz).1]
    · rw [if_neg hz, if_neg hz]
  rw [← hans] at hfe ⊢
  have H1 := Lib.hid h1; have H2 := Lib.hid h2
  clear hans h1 h2 hi ht hp
  generalize bcheck p n t = e0 at *
  generalize who.contains t = vc at *
  generalize noIs p who = vi at *
  generalize twice who = vt at *
  generalize p.needA = nd at *
  generalize allN n sh = vr at *
  obtain ⟨wl, hwl⟩ : ∃ wl, wl = who.length := ⟨_, rfl⟩
  obtain ⟨sl, hsl⟩ : ∃ sl, sl = sh.length := ⟨_, rfl⟩
  rw [← hwl] at hC hI hT hfe ⊢
  rw [← hsl] at hR hfe ⊢
  clear hwl hsl hw hl
  obtain ⟨pN, pT, pL, pW, pS, pR⟩ := p
  unfold P.val at hW hN ⊢
  simp only at HS hb0 hW hN ⊢
  have HW := Lib.hid hW; have HC := Lib.hid hC; have HI := Lib.hid hI; have HT := Lib.hid hT; have HN := Lib.hid hN; have HR := Lib.hid hR; have HF := Lib.hid hfe
  clear hW hC hI hT hN hR hfe
  go_enter Tryz.func34, Tryz.ntmps34
  go_wp2_with fail
  have hzz : (w.alloc (.cells #[.int .i64 pN, .int .i64 pT, .int .i64 pL, .int .i64 pW, .int .i64 pS, .int .i64 pR] 23)).heap.size = w.heap.size + 1 := by simp
  generalize w.alloc (.cells #[.int .i64 pN, .int .i64 pT, .int .i64 pL, .int .i64 pW, .int .i64 pS, .int .i64 pR] 23) = w0 at *
  have k1 : (w0.alloc (.cells #[.int .i64 n] 3)).cell? ⟨w.heap.size + 1, 0, none⟩ = some (.int .i64 n) := by rw [← hzz]; simp
  have hb1 := balloc w0 (.cells #[.int .i64 n] 3)
  have HS1 := Lib.hid (HS.out.below hb1)
  have HB1 := Lib.hid (bstep hb0.out hb1)
  clear hb1
  generalize w0.alloc (.cells #[.int .i64 n] 3) = w1 at *
  have HK := Lib.hid k1
  clear hb0 HS hzz
  have s0 := HS1.out
  have c0 := s0.c0; have c1 := s0.c1; have c2 := s0.c2; have c3 := s0.c3; have c4 := s0.c4; have c5 := s0.c5
  simp only at c0 c1 c2 c3 c4 c5
  clear s0
  go_wp2_with fail
  refine (HW.out _).mono ?_
  rintro e w2 ⟨rfl, hb2⟩
  clear c0 c1 c2 c3 c4 c5 k1
  have HB2 := Lib.hid (bstep HB1.out hb2)
  have HS2 := Lib.hid (HS1.out.below hb2)
  have HK2 := Lib.hid (((hb2.cell (p := ⟨w.heap.size + 1, 0, none⟩) (cell_lt HK.out)).trans HK.out))
  clear hb2 HK HS1
  by_cases he : e0 = 0
  · subst he
    have hf := HF.out
    rw [if_pos rfl] at hf
    have HF2 := Lib.hid hf
    clear hf HF
    go_wp2_with fail
    refine (HC.out _ (H1.out.below HB2.out)).mono ?_
    rintro e w' ⟨rfl, rfl⟩
    rcases vc with _ | _
    · have hf := HF2.out
      rw [if_neg (by simp)] at hf
      have HF3 := Lib.hid hf
      clear hf HF2
      go_wp2_with fail
      refine (HI.out _ _ HS2.out (H1.out.below HB2.out)).mono ?_
      rintro e w3 ⟨rfl, hb3⟩
      have HB3 := Lib.hid (bstep HB2.out hb3)
      have HS3 := Lib.hid (HS2.out.below hb3)
      have HK3 := Lib.hid (((hb3.cell (p := ⟨w.heap.size + 1, 0, none⟩) (cell_lt HK2.out)).trans HK2.out))
      clear hb3
      rcases vi with _ | _
      · have hf := HF3.out
        rw [if_neg (by simp)] at hf
        have HF4 := Lib.hid hf
        clear hf HF3
        go_wp2_with fail
        refine (HT.out _ (H1.out.below HB3.out)).mono ?_
        rintro e w4 ⟨rfl, hb4⟩
        have HB4 := Lib.hid (bstep HB3.out hb4)
        have HS4 := Lib.hid (HS3.out.below hb4)
        have HK4 := Lib.hid (((hb4.cell (p := ⟨w.heap.size + 1, 0, none⟩) (cell_lt HK3.out)).trans HK3.out))
        clear hb4
        rcases vt with _ | _
        · have hf := HF4.out
          rw [if_neg (by simp)] at hf
          have HF5 := Lib.hid hf
          clear hf HF4
          have s0 := HS4.out
          have c0 := s0.c0; have c1 := s0.c1; have c2 := s0.c2; have c3 := s0.c3; have c4 := s0.c4; have c5 := s0.c5
          simp only at c0 c1 c2 c3 c4 c5
          clear s0
          go_wp2_with fail
          refine (HN.out _).mono ?_
          rintro e w5 ⟨rfl, hb5⟩
          clear c0 c1 c2 c3 c4 c5
          have HB5 := Lib.hid (bstep HB4.out hb5)
          have k5 := ((hb5.cell (p := ⟨w.heap.size + 1, 0, none⟩) (cell_lt HK4.out)).trans HK4.out)
          clear hb5
          by_cases hfew : (wl : Int) < nd
          · have hf := HF5.out
            rw [if_pos hfew] at hf
            have HA := Lib.hid hf
            clear hf HF5 k5
            go_wp2
            go_ret
            exact ⟨ret_i HA.out.symm, HB5.out⟩
          · have hf := HF5.out
            rw [if_neg hfew] at hf
            by_cases hsw : sl = wl
            · rw [if_neg (by simpa using hsw)] at hf
              have HF6 := Lib.hid hf
              have HSW := Lib.hid hsw
              clear hf HF5
              have h3 : (sl : Int) = (wl : Int) := by rw [hsw]
              clear hsw
              have HR5 := Lib.hid (HR.out _ _ k5 (H2.out.below HB5.out))
              clear k5
              go_wp2_with fail
              refine HR5.out.mono ?_
              rintro e w' ⟨rfl, rfl⟩
              have hf := HF6.out
              clear HF6
              rcases vr with _ | _
              · have HA := Lib.hid hf
                clear hf
                go_wp2
                go_ret
                exact ⟨ret_i HA.out.symm, HB5.out⟩
              · have HA := Lib.hid hf
                clear hf
                go_wp2
                go_ret
                exact ⟨ret_i HA.out.symm, HB5.out⟩
            · rw [if_pos (by simpa using hsw)] at hf
              have HA := Lib.hid hf
              have h3 : ¬ (sl : Int) = (wl : Int) := by omega
              clear hf HF5 k5 hsw
              go_wp2
              go_ret
              exact ⟨ret_i HA.out.symm, HB5.out⟩
        · have hf := HF4.out
          rw [if_pos rfl] at hf
          have HA := Lib.hid hf
          clear hf HF4
          go_wp2
          go_ret
          exact ⟨ret_i HA.out.symm, HB4.out⟩
      · have hf := HF3.out
        rw [if_pos rfl] at hf
        have HA := Lib.hid hf
        clear hf HF3
        go_wp2
        go_ret
        exact ⟨ret_i HA.out.symm, HB3.out⟩
    · have hf := HF2.out
      rw [if_pos rfl] at hf
      have HA := Lib.hid hf
      clear hf HF2
      go_wp2
      go_ret
      exact ⟨ret_i HA.out.symm, HB2.out⟩
  · have hf := HF.out
    rw [if_neg he] at hf
    have HA := Lib.hid hf
    have hne : (e0 != 0) = true := by simpa using he
    clear hf HF
    go_wp2
    go_ret
    exact ⟨ret_i HA.out.symm, HB2.out⟩
end Go.Proofs.YtchcgiapjhmflaaGreat.Blind
