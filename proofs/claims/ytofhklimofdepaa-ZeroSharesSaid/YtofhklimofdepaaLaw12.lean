/- the walks of layer 12's laws: the example, ZeroAdds -/
import Derived.Test.YtofhklimofdepaaR12
import Derived.Test.YtofhklimofdepaaR01
import Derived.Test.YtofhklimofdepaaZero
import Derived.Test.YtofhklimofdepaaLaw10
import Derived.Test.YtofhklimofdepaaMO
set_option maxRecDepth 100000
namespace Go.Proofs.Ytofhklimofdepaa.Law12
open Go.RowKit PlanM StripeM DealM RebM ZeroM Law08 Law10

theorem two_zero : zeroA two 1 [5] = [[10], [15]] ∧ zeroE two 1 [5] = 0 ∧ addL [[1, 2], [3]] = [2] := by decide +kernel

theorem lit_add (w : World) : RowsAt (((w.alloc (.cells (cells [1, 2]) 5)).alloc (.cells (cells [3]) 5)).alloc (.cells #[.slice (some ⟨w.heap.size, 0, none⟩) 2 2, .slice (some ⟨w.heap.size + 1, 0, none⟩) 1 1] 24)) (some ⟨w.heap.size + 1 + 1, 0, none⟩) [[1, 2], [3]] := by
  have k : BytesAt ((w.alloc (.cells (cells [1, 2]) 5)).alloc (.cells (cells [3]) 5)) (some ⟨w.heap.size + 1, 0, none⟩) [3] := by
    have := (Row.new (w.alloc (.cells (cells [1, 2]) 5)) [3]).bytes
    rw [World.size_alloc] at this
    exact this
  have := RowsAt.lit2 (l := [1, 2]) (m := [3]) ((Row.new w [1, 2]).bytes.alloc (.cells (cells [3]) 5)) (by decide : 2 ≤ 2) (by unfold maxLen; decide) k (by decide : 1 ≤ 1) (by unfold maxLen; decide)
  rw [World.size_alloc, World.size_alloc] at this
  exact this
set_option maxHeartbeats 2000000 in
theorem alive_any (w : World) : Calls Try.prog 7 #[] w fun e w' => e = .returned (.bool true) ∧ Below w.heap.size w w' := by
  obtain ⟨e1, e2, e3⟩ := two_zero
  have K1 := fun b0 A c W ht h1 k1 z1 => Zero.zero_any b0 two 1 A [5] c W two_in (by unfold In64; omega) ht h1 k1 z1
  have K2 := fun A c W h1 k1 z1 => Zero.add_any A [[1, 2], [3]] c W h1 k1 z1 (by simp) (by intro r hr; simp at hr; rcases hr with rfl | rfl <;> simp)
  rw [e1, e2, two_val] at K1
  rw [e3] at K2
  have H1 := Lib.hid K1; have H2 := Lib.hid K2
  have HM : Hid (1 ≤ maxLen) := Lib.hid (by unfold maxLen; omega)
  clear K1 K2 e1 e2 e3
  go_enter Try.func7, Try.ntmps7
  go_wp2_with fail
  have HA := Lib.hid (PlanLies.new w 2 1 1 2 9 1)
  have HB0 := Lib.hid (balloc w (.cells #[.int .i64 2, .int .i64 1, .int .i64 1, .int .i64 2, .int .i64 9, .int .i64 1] 23))
  generalize w.alloc (.cells #[.int .i64 2, .int .i64 1, .int .i64 1, .int .i64 2, .int .i64 9, .int .i64 1] 23) = w0 at *
  refine Drawn.wp_region_flowL 9 [Drawn.SP.tab, Drawn.SP.is (.agg #[.int .i64 2, .int .i64 1, .int .i64 1, .int .i64 2, .int .i64 9, .int .i64 1]), Drawn.SP.bytes [5], Drawn.SP.rowsE [[10], [15]] 0, Drawn.SP.rowsE [[10], [15]] 0, Drawn.SP.rows [[10], [15]], Drawn.SP.is (.int .i64 0), Drawn.SP.rows [[10], [15]], Drawn.SP.is (.int .i64 0)] (by kernel_rfl) (by kernel_rfl) ?_ ?_
  · intro i hi a wq hb hev hdep
    rcases (show i = 0 ∨ i = 1 ∨ i = 2 ∨ i = 3 ∨ i = 4 ∨ i = 5 ∨ i = 6 ∨ i = 7 ∨ i = 8 by omega) with rfl | rfl | rfl | rfl | rfl | rfl | rfl | rfl | rfl
    · refine Drawn.wpOp_flow 6 rfl rfl rfl ?_
      clear hev hdep
      clear hb
      go_simp
      refine (Gf.new_any wq).mono ?_
      rintro e w' ⟨rfl, ht, hb', _⟩
      exact ⟨_, rfl, ⟨_, rfl, ht⟩, hb'⟩
    · have e1 : a.tmps[1]?.getD undef = .pointer (some ⟨w.heap.size, 0, none⟩) := hev 1 rfl
      refine Drawn.wpOp_flow 7 rfl rfl rfl ?_
      obtain ⟨c0, c1, c2, c3, c4, c5⟩ := six (HA.out.below hb)
      clear hev hdep hb
      go_simp
      exact ⟨_, rfl, rfl, Below.refl _ _⟩
    · refine Drawn.wpOp_flow 8 rfl rfl rfl ?_
      clear hev hdep
      clear hb
      go_simp
      exact ⟨_, rfl, ⟨_, _, rfl, by decide, by unfold maxLen; decide, (Row.new wq [5]).bytes⟩, balloc _ _⟩
    · obtain ⟨bf, d0, ht⟩ : (Drawn.SP.tab).p (a.tmps[6]?.getD undef) wq := hdep 0 rfl
      have d1 : a.tmps[7]?.getD undef = .agg #[.int .i64 2, .int .i64 1, .int .i64 1, .int .i64 2, .int .i64 9, .int .i64 1] := hdep 1 rfl
      obtain ⟨B5, c5x, d2, h5a, h5b, h5⟩ : (Drawn.SP.bytes [5]).p (a.tmps[8]?.getD undef) wq := hdep 2 rfl
      refine Drawn.wpOp_flow 9 rfl rfl rfl ?_
      clear hev hdep
      have C := H1.out bf B5 c5x wq ht h5 h5a h5b
      clear hb h5 h5a h5b ht
      go_simp
      refine C.mono ?_
      rintro e w' ⟨X, f, rfl, g1, g2, g3, hb', _⟩
      exact ⟨_, rfl, ⟨X, f, rfl, g1, g2, g3⟩, hb'⟩
    · have d3 := hdep 3 rfl
      refine Drawn.wpOp_flow 5 rfl rfl rfl ?_
      clear hev hdep hb
      go_simp
      exact ⟨_, rfl, d3, Below.refl _ _⟩
    · obtain ⟨Z, cz, d4, hza, hzb, hz⟩ : (Drawn.SP.rowsE [[10], [15]] 0).p (a.tmps[5]?.getD undef) wq := hdep 4 rfl
      refine Drawn.wpOp_flow 10 rfl rfl rfl ?_
      clear hev hdep
      clear hb
      go_simp
      exact ⟨_, rfl, ⟨Z, cz, rfl, hza, hzb, hz⟩, Below.refl _ _⟩
    · obtain ⟨Z, cz, d4, hza, hzb, hz⟩ : (Drawn.SP.rowsE [[10], [15]] 0).p (a.tmps[5]?.getD undef) wq := hdep 4 rfl
      refine Drawn.wpOp_flow 11 rfl rfl rfl ?_
      clear hev hdep hb
      go_simp
      exact ⟨_, rfl, rfl, Below.refl _ _⟩
    · have d5 := hdep 5 rfl
      refine Drawn.wpOp_flow 2 rfl rfl rfl ?_
      clear hev hdep hb
      go_simp
      exact ⟨_, rfl, d5, Below.refl _ _⟩
    · have d6 : a.tmps[11]?.getD undef = .int .i64 0 := hdep 6 rfl
      refine Drawn.wpOp_flow 3 rfl rfl rfl ?_
      clear hev hdep hb
      go_simp
      exact ⟨_, rfl, rfl, Below.refl _ _⟩
  · intro xq wq hb hxq
    have vq1 : xq 1 = .agg #[.int .i64 2, .int .i64 1, .int .i64 1, .int .i64 2, .int .i64 9, .int .i64 1] := hxq 1 (by omega)
    have vq6 : xq 6 = .int .i64 0 := hxq 6 (by omega)
    obtain ⟨Z, cz, vq7, hza, hzb, hz⟩ : (Drawn.SP.rows [[10], [15]]).p (xq 7) wq := hxq 7 (by omega)
    have vq8 : xq 8 = .int .i64 0 := hxq 8 (by omega)
    show Exit.then _ _ Exit.normal (Drawn.acts _ [(3, some (xq 8)), (2, some (xq 7)), (11, some (xq 6)), (10, some (xq 5)), (5, some (xq 4)), (9, some (xq 3)), (8, some (xq 2)), (7, some (xq 1)), (6, some (xq 0))]) _
    rw [vq1, vq6, vq7, vq8]
    clear hxq vq1 vq6 vq7 vq8
    generalize xq 0 = yq0
    generalize xq 2 = yq2
    generalize xq 3 = yq3
    generalize xq 4 = yq4
    generalize xq 5 = yq5
    clear xq
    simp only [Drawn.acts]
    go_simp
    have HB1 := Lib.hid (bstep HB0.out hb)
    obtain ⟨b1, o1, B1, d1, rfl, f1, g1, g1', hB1⟩ := hz.row (i := 0) (by decide)
    obtain ⟨b2, o2, B2, d2, e2, f2, g2, g2', hB2⟩ := hz.row (i := 1) (by decide)
    obtain ⟨rfl, rfl⟩ : b1 = b2 ∧ o1 = o2 := by injection e2 with e; injection e with h1 h2; exact ⟨h1, h2⟩
    have HQ1 := Lib.hid hB1; have HQ2 := Lib.hid hB2
    have l1 : b1 < wq.heap.size := cell_lt f1
    have f1' : wq.cell? ⟨b1, o1, none⟩ = some (.slice B1 1 d1) := f1
    have f2' : wq.cell? ⟨b1, o1 + 1, none⟩ = some (.slice B2 1 d2) := f2
    have HF2 := Lib.hid f2'
    clear hz hb e2 hB1 hB2 HB0 f1 f2 g1 g1' g2 g2' hza hzb
    go_at_K
    go_wp2_with fail
    have C := R01.same_any B1 (some ⟨wq.heap.size, 0, none⟩) [10] [10] d1 1 (wq.alloc (.cells (cells [10]) 5)) (HQ1.out.alloc _) (Row.new _ _).bytes HM.out HM.out
    rw [same_self] at C
    refine C.mono ?_
    clear C
    rintro e w2 ⟨rfl, hq⟩
    have hb2 : Below wq.heap.size wq w2 := bstep (balloc _ _) (bquiet hq)
    clear hq
    have f2 := (hb2.cell (p := ⟨b1, o1 + 1, none⟩) l1).trans HF2.out
    clear f1' f2'
    go_wp2_with fail
    have C := R01.same_any B2 (some ⟨w2.heap.size, 0, none⟩) [15] [15] d2 1 (w2.alloc (.cells (cells [15]) 5)) ((HQ2.out.below hb2).alloc _) (Row.new _ _).bytes HM.out HM.out
    rw [same_self] at C
    refine C.mono ?_
    clear C
    rintro e w3 ⟨rfl, hq⟩
    have HB3 := Lib.hid (bstep HB1.out (bstep hb2 (bstep (balloc _ _) (bquiet hq))))
    clear hq f2 hb2
    have HL := Lib.hid (lit_add w3)
    have hba : Below w3.heap.size w3 (((w3.alloc (.cells (cells [1, 2]) 5)).alloc (.cells (cells [3]) 5)).alloc (.cells #[.slice (some ⟨w3.heap.size, 0, none⟩) 2 2, .slice (some ⟨w3.heap.size + 1, 0, none⟩) 1 1] 24)) := bstep (balloc _ _) (bstep (balloc _ _) (balloc _ _))
    have HBA := Lib.hid hba
    clear hba
    go_wp2_with fail
    have C := H2.out (some ⟨w3.heap.size + 1 + 1, 0, none⟩) 2 _ HL.out (by decide) (by unfold maxLen; decide)
    refine C.mono ?_
    clear C
    rintro e w4 ⟨X, dX, rfl, _, _, hX, hb4, _⟩
    have HX := Lib.hid hX
    have HB4 := Lib.hid (bstep HB3.out (bstep HBA.out hb4))
    clear hX hb4
    go_wp2_with fail
    have C := R01.same_any X (some ⟨w4.heap.size, 0, none⟩) [2] [2] dX 1 (w4.alloc (.cells (cells [2]) 5)) (HX.out.alloc _) (Row.new _ _).bytes HM.out HM.out
    rw [same_self] at C
    refine C.mono ?_
    clear C
    rintro e w5 ⟨rfl, hq⟩
    have HB5 := Lib.hid (bstep HB4.out (bstep (balloc _ _) (bquiet hq)))
    clear hq
    go_wp2
    go_ret
    exact ⟨rfl, HB5.out⟩
theorem adds_many (A : Option Addr) (n u : Nat) (w : World) (h8 : 8 < n) :
    Calls Try.prog 4 #[.slice A n u] w fun e w' => e = .returned (.bool true) ∧ Below w.heap.size w w' := by
  go_enter Try.func4, Try.ntmps4
  go_wp2_with fail
  refine (alive_any _).mono ?_
  rintro e w1 ⟨rfl, hb1⟩
  go_wp2
  go_ret
  exact ⟨rfl, hb1⟩
theorem addTo_low {l : List (List UInt8)} (h : ∀ j, (hj : j < l.length) → l[j].length ≤ 100) : ∀ k, k ≤ l.length → (addTo_ l k).length ≤ 100
  | 0, _ => by simp [addTo_, addL]
  | 1, hk => by rw [addTo_one l hk]; exact h 0 hk
  | k + 2, hk => by
    rw [addTo_succ l (k + 1) (by omega) (by omega), add2_len]
    have := addTo_low h (k + 1) (by omega)
    omega
set_option maxHeartbeats 2000000 in
theorem adds_main (A : Option Addr) (l : List (List UInt8)) (u : Nat) (w : World) (h : RowsAt w A l) (hk : l.length ≤ u) (hz : u ≤ maxLen) (h8 : l.length ≤ 8) :
    Calls Try.prog 4 #[.slice A l.length u] w fun e w' => e = .returned (.bool true) ∧ Below w.heap.size w w' := by
  have hA := fun V (h : RowsAt V A l) (hr : ∀ r ∈ l, r.length ≤ 1048576) => Zero.add_any A l u V h hk hz (by omega) hr
  have hN := fun V => Zero.add_any none [] 0 V (RowsAt.nil _ _) (Nat.le_refl _) (Nat.zero_le _) (by simp) (by simp)
  rw [show addL [] = [] from rfl] at hN
  obtain ⟨n, hn⟩ : ∃ n, n = l.length := ⟨_, rfl⟩
  have HA := Lib.hid hA; have HN0 := Lib.hid hN; have H := Lib.hid h; have HN := Lib.hid hn
  have HT0 := Lib.hid (show addTo_ l 0 = [] from rfl)
  rw [← hn] at HA hk h8 ⊢
  clear hA hN h hn
  go_enter Try.func4, Try.ntmps4
  go_wp2
  go_loopw [3, 12] (fun v i wr => ∃ (k : Nat) (X : Option Addr) (d : Nat), k ≤ n ∧ i = .int .i64 k ∧ v = .slice X (addTo_ l k).length d ∧ BytesAt wr X (addTo_ l k) ∧ (addTo_ l k).length ≤ 100 ∧ (∀ j, (hj : j < l.length) → j < k → l[j].length ≤ 100) ∧ Below w.heap.size w wr)
    (fun _ i _ => n - (intOf i).toNat)
  case atStart => exact ⟨0, none, 0, Nat.zero_le _, rfl, by rw [HT0.out]; rfl, by rw [HT0.out]; exact BytesAt.nil _ _, by rw [HT0.out]; simp, fun j _ h => by omega, Below.refl _ _⟩
  case round =>
    obtain ⟨k, X, d, hkn, rfl, rfl, hX, hlo, hall, hb⟩ := hrel
    rename World => wr
    have HX := Lib.hid hX; have HALL := Lib.hid hall; have HB := Lib.hid hb
    clear hX hall hb
    by_cases hlt : k < n
    · have hkl : k < l.length := by rw [← HN.out]; exact hlt
      obtain ⟨b, o, B, cr, rfl, e1, g1, g2, hB⟩ := (H.out.below HB.out).row hkl
      have hs := addTo_succ l k
      have h1 := addTo_one l
      obtain ⟨r, hr⟩ : ∃ r, r = l[k] := ⟨_, rfl⟩
      rw [← hr] at e1 g1 hB
      have HBB := Lib.hid hB
      have HR := Lib.hid hr
      by_cases hlong : 100 < r.length
      · clear hs h1 hr hB
        go_wp2_with fail
        refine (alive_any _).mono ?_
        rintro e w1 ⟨rfl, hb1⟩
        go_wp2
        go_ret
        exact ⟨rfl, bstep HB.out hb1⟩
      · have hall' : ∀ j, (hj : j < l.length) → j < k + 1 → l[j].length ≤ 100 := fun j hj h => by
          by_cases e : j = k
          · subst e; rw [← HR.out]; omega
          · exact HALL.out j hj (by omega)
        have HALL' := Lib.hid hall'
        clear hall'
        by_cases h0 : k = 0
        · have hq : addTo_ l (k + 1) = r := by
            rw [hr]; subst h0; exact h1 hkl
          have HQ := Lib.hid hq
          have hd : ((k : Int) == 0) = true := by rw [h0]; rfl
          clear hs h1 hr hB hq h0
          go_wp2
          go_roundw
          case rel => exact ⟨k + 1, B, cr, by omega, by go_num, by rw [HQ.out], by rw [HQ.out]; exact HBB.out, by rw [HQ.out]; omega, HALL'.out, HB.out⟩
          case measure => simp [intOf] <;> omega
        · have hq : addTo_ l (k + 1) = add2 (addTo_ l k) r := by rw [hr]; exact hs (by omega) hkl
          have C := R12.add_any X B (addTo_ l k) r d cr wr HX.out HBB.out (by omega) (by omega)
          have hl2 : (add2 (addTo_ l k) r).length ≤ 100 := by rw [add2_len]; omega
          rw [← hq] at C hl2
          have HC := Lib.hid C; have HL2 := Lib.hid hl2
          have hd : ((k : Int) == 0) = false := by rw [beq_eq_false_iff_ne]; omega
          clear hs h1 hr hB hq C hl2 h0
          generalize addTo_ l k = t at *
          go_wp2_with fail
          refine HC.out.mono ?_
          rintro e w2 ⟨Y, dY, rfl, _, _, hY, hb2, _⟩
          have HY := Lib.hid hY; have HB2 := Lib.hid (bstep HB.out hb2)
          clear hY hb2
          go_wp2
          go_roundw
          case rel => exact ⟨k + 1, Y, dY, by omega, by go_num, rfl, HY.out, HL2.out, HALL'.out, HB2.out⟩
          case measure => simp [intOf] <;> omega
    · obtain rfl : k = n := by omega
      have hr : ∀ r ∈ l, r.length ≤ 1048576 := fun r hr => by
        obtain ⟨i, hi, rfl⟩ := List.mem_iff_getElem.mp hr
        have := HALL.out i hi (by rw [HN.out]; exact hi)
        omega
      have C := HA.out wr (H.out.below HB.out) hr
      have he : addTo_ l k = addL l := by rw [HN.out]; exact addTo_all l
      rw [he] at HX hlo ⊢
      have HC := Lib.hid C
      clear C hr he
      generalize addL l = t at *
      go_wp2_with fail
      refine HC.out.mono ?_
      rintro e w2 ⟨Y, dY, rfl, _, _, hY, hb2, _⟩
      have HY := Lib.hid hY; have HB2 := Lib.hid (bstep HB.out hb2)
      have C := R01.same_any Y X t t dY d w2 hY (HX.out.below hb2) (by unfold maxLen; omega) (by unfold maxLen; omega)
      rw [same_self] at C
      have HC2 := Lib.hid C
      clear hY hb2 C
      go_wp2_with fail
      refine HC2.out.mono ?_
      rintro e w3 ⟨rfl, hq⟩
      have HB3 := Lib.hid (bstep HB2.out (bquiet hq))
      clear hq
      go_wp2_with fail
      refine (HN0.out w3).mono ?_
      rintro e w4 ⟨Z, dZ, rfl, _, _, _, hb4, _⟩
      have HB4 := Lib.hid (bstep HB3.out hb4)
      clear hb4
      go_wp2_with fail
      refine (alive_any _).mono ?_
      rintro e w5 ⟨rfl, hb5⟩
      go_wp2
      go_ret
      exact ⟨rfl, bstep HB4.out hb5⟩
theorem adds_law (A : Option Addr) (l : List (List UInt8)) (u : Nat) (w : World) (h : RowsAt w A l) (hk : l.length ≤ u) (hz : u ≤ maxLen) :
    Calls Try.prog 4 #[.slice A l.length u] w fun e w' => e = .returned (.bool true) ∧ Below w.heap.size w w' := by
  by_cases h8 : 8 < l.length
  · exact adds_many A l.length u w h8
  · exact adds_main A l u w h hk hz (by omega)
end Go.Proofs.Ytofhklimofdepaa.Law12
