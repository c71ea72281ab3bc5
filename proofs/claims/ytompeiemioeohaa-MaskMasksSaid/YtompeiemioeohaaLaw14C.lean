/- the walk of MaskMasks -/
import Derived.Test.YtompeiemioeohaaLaw14
set_option maxRecDepth 100000
namespace Go.Proofs.Ytompeiemioeohaa.Law14
open Go.RowKit PlanM StripeM LagrM DealM RebM ZeroM MaskM Law08 Law10

structure LiesM (w : World) (g : Nat) (N T L W S R : Int) (p0 p1 p2 i0 i1 : Value) : Prop where
  plan : PlanLies w g N T L W S R
  a0 : w.cell? ⟨g + 1, 0, none⟩ = some p0
  a1 : w.cell? ⟨g + 1, 1, none⟩ = some p1
  a2 : w.cell? ⟨g + 1, 2, none⟩ = some p2
  b0 : w.cell? ⟨g + 2, 0, none⟩ = some i0
  b1 : w.cell? ⟨g + 2, 1, none⟩ = some i1
theorem LiesM.below {w w' : World} {g : Nat} {N T L W S R : Int} {p0 p1 p2 i0 i1 : Value} (h : LiesM w g N T L W S R p0 p1 p2 i0 i1) (hb : Below w.heap.size w w') : LiesM w' g N T L W S R p0 p1 p2 i0 i1 :=
  ⟨h.plan.below hb, (hb.cell (p := ⟨g + 1, 0, none⟩) (cell_lt h.a0)).trans h.a0, (hb.cell (p := ⟨g + 1, 1, none⟩) (cell_lt h.a1)).trans h.a1, (hb.cell (p := ⟨g + 1, 2, none⟩) (cell_lt h.a2)).trans h.a2, (hb.cell (p := ⟨g + 2, 0, none⟩) (cell_lt h.b0)).trans h.b0, (hb.cell (p := ⟨g + 2, 1, none⟩) (cell_lt h.b1)).trans h.b1⟩
theorem liesM_aux (w : World) (g : Nat) (hg : w.heap.size = g + 1) (N T L W S R : Int) (p0 p1 p2 i0 i1 : Value) (t t' : TypeId) (h : PlanLies w g N T L W S R) : LiesM ((w.alloc (.cells #[p0, p1, p2] t)).alloc (.cells #[i0, i1] t')) g N T L W S R p0 p1 p2 i0 i1 := by
  have a0 : (w.alloc (.cells #[p0, p1, p2] t)).cell? ⟨w.heap.size, 0, none⟩ = some p0 := by simp
  have a1 : (w.alloc (.cells #[p0, p1, p2] t)).cell? ⟨w.heap.size, 1, none⟩ = some p1 := by simp
  have a2 : (w.alloc (.cells #[p0, p1, p2] t)).cell? ⟨w.heap.size, 2, none⟩ = some p2 := by simp
  have hs : (w.alloc (.cells #[p0, p1, p2] t)).heap.size = g + 2 := by simp; omega
  have hp := h.below (balloc w (.cells #[p0, p1, p2] t))
  rw [hg] at a0 a1 a2
  generalize w.alloc (.cells #[p0, p1, p2] t) = w1 at *
  have b0 : (w1.alloc (.cells #[i0, i1] t')).cell? ⟨w1.heap.size, 0, none⟩ = some i0 := by simp
  have b1 : (w1.alloc (.cells #[i0, i1] t')).cell? ⟨w1.heap.size, 1, none⟩ = some i1 := by simp
  rw [hs] at b0 b1
  have hb := balloc w1 (.cells #[i0, i1] t')
  exact ⟨hp.below hb, (hb.cell (p := ⟨g + 1, 0, none⟩) (cell_lt a0)).trans a0, (hb.cell (p := ⟨g + 1, 1, none⟩) (cell_lt a1)).trans a1, (hb.cell (p := ⟨g + 1, 2, none⟩) (cell_lt a2)).trans a2, b0, b1⟩
theorem LiesM.new (w : World) (N T L W S R : Int) (p0 p1 p2 i0 i1 : Value) (t t' : TypeId) : LiesM (((w.alloc (.cells #[.int .i64 N, .int .i64 T, .int .i64 L, .int .i64 W, .int .i64 S, .int .i64 R] 23)).alloc (.cells #[p0, p1, p2] t)).alloc (.cells #[i0, i1] t')) w.heap.size N T L W S R p0 p1 p2 i0 i1 :=
  liesM_aux (w.alloc (.cells #[.int .i64 N, .int .i64 T, .int .i64 L, .int .i64 W, .int .i64 S, .int .i64 R] 23)) w.heap.size (by simp) N T L W S R p0 p1 p2 i0 i1 t t' (PlanLies.new w N T L W S R)
set_option maxHeartbeats 2000000 in
theorem masks_heavy (N T L W S R t aq : Int) (A1 A2 A3 : Option Addr) (dn sn tn c1 c2 c3 : Nat) (w : World) (hl : ¬ (N ≤ 12 ∧ L ≤ 12 ∧ T ≤ 12))  :
    Calls Try.prog 4 #[.agg #[.int .i64 N, .int .i64 T, .int .i64 L, .int .i64 W, .int .i64 S, .int .i64 R], .agg #[.slice A1 dn c1, .slice A2 sn c2, .slice A3 tn c3], .agg #[.int .i64 t, .int .i64 aq]] w fun e w' => e = .returned (.bool true) ∧ Below w.heap.size w w' := by
  have K0 := fun w => Law10.light_any N T L W S R w
  rw [decide_eq_false hl] at K0
  have H0 := Lib.hid K0
  clear K0 hl
  have HA := Lib.hid (LiesM.new w N T L W S R (.slice A1 dn c1) (.slice A2 sn c2) (.slice A3 tn c3) (.int .i64 t) (.int .i64 aq) 40 41)
  have HB0 := Lib.hid (show Below w.heap.size w (((w.alloc (.cells #[.int .i64 N, .int .i64 T, .int .i64 L, .int .i64 W, .int .i64 S, .int .i64 R] 23)).alloc (.cells #[.slice A1 dn c1, .slice A2 sn c2, .slice A3 tn c3] 40)).alloc (.cells #[.int .i64 t, .int .i64 aq] 41)) from bstep (bstep (balloc _ _) (balloc _ _)) (balloc _ _))
  go_enter Try.func4, Try.ntmps4
  go_wp2_with fail
  generalize ((w.alloc (.cells #[.int .i64 N, .int .i64 T, .int .i64 L, .int .i64 W, .int .i64 S, .int .i64 R] 23)).alloc (.cells #[.slice A1 dn c1, .slice A2 sn c2, .slice A3 tn c3] 40)).alloc (.cells #[.int .i64 t, .int .i64 aq] 41) = w0 at *
  refine Drawn.wp_region_flowL 9 [Drawn.SP.is (.pointer (some ⟨w.heap.size + 1, 0, none⟩)), Drawn.SP.is (.slice A1 dn c1), Drawn.SP.is (.pointer (some ⟨w.heap.size + 1, 1, none⟩)), Drawn.SP.is (.slice A2 sn c2), Drawn.SP.is (.pointer (some ⟨w.heap.size + 1, 2, none⟩)), Drawn.SP.is (.slice A3 tn c3), Drawn.SP.is (.slice A1 dn c1), Drawn.SP.is (.slice A2 sn c2), Drawn.SP.is (.slice A3 tn c3)] (by kernel_rfl) (by kernel_rfl) ?_ ?_
  · intro i hi a w1 hb hev hdep
    rcases (show i = 0 ∨ i = 1 ∨ i = 2 ∨ i = 3 ∨ i = 4 ∨ i = 5 ∨ i = 6 ∨ i = 7 ∨ i = 8 by omega) with rfl | rfl | rfl | rfl | rfl | rfl | rfl | rfl | rfl
    · have e4 : a.tmps[4]?.getD undef = .pointer (some ⟨w.heap.size + 1, 0, none⟩) := hev 4 rfl
      refine Drawn.wpOp_flow 18 rfl rfl rfl ?_
      clear hev hdep hb
      go_simp
      exact ⟨_, rfl, rfl, Below.refl _ _⟩
    · have d0 : a.tmps[18]?.getD undef = .pointer (some ⟨w.heap.size + 1, 0, none⟩) := hdep 0 rfl
      refine Drawn.wpOp_flow 19 rfl rfl rfl ?_
      have a0 := (HA.out.below hb).a0; have a1 := (HA.out.below hb).a1; have a2 := (HA.out.below hb).a2
      clear hev hdep hb
      go_simp
      exact ⟨_, rfl, rfl, Below.refl _ _⟩
    · have e4 : a.tmps[4]?.getD undef = .pointer (some ⟨w.heap.size + 1, 0, none⟩) := hev 4 rfl
      refine Drawn.wpOp_flow 20 rfl rfl rfl ?_
      clear hev hdep hb
      go_simp
      exact ⟨_, rfl, rfl, Below.refl _ _⟩
    · have d2 : a.tmps[20]?.getD undef = .pointer (some ⟨w.heap.size + 1, 1, none⟩) := hdep 2 rfl
      refine Drawn.wpOp_flow 21 rfl rfl rfl ?_
      have a0 := (HA.out.below hb).a0; have a1 := (HA.out.below hb).a1; have a2 := (HA.out.below hb).a2
      clear hev hdep hb
      go_simp
      exact ⟨_, rfl, rfl, Below.refl _ _⟩
    · have e4 : a.tmps[4]?.getD undef = .pointer (some ⟨w.heap.size + 1, 0, none⟩) := hev 4 rfl
      refine Drawn.wpOp_flow 22 rfl rfl rfl ?_
      clear hev hdep hb
      go_simp
      exact ⟨_, rfl, rfl, Below.refl _ _⟩
    · have d4 : a.tmps[22]?.getD undef = .pointer (some ⟨w.heap.size + 1, 2, none⟩) := hdep 4 rfl
      refine Drawn.wpOp_flow 23 rfl rfl rfl ?_
      have a0 := (HA.out.below hb).a0; have a1 := (HA.out.below hb).a1; have a2 := (HA.out.below hb).a2
      clear hev hdep hb
      go_simp
      exact ⟨_, rfl, rfl, Below.refl _ _⟩
    · have d1 : a.tmps[19]?.getD undef = .slice A1 dn c1 := hdep 1 rfl
      refine Drawn.wpOp_flow 7 rfl rfl rfl ?_
      clear hev hdep hb
      go_simp
      exact ⟨_, rfl, rfl, Below.refl _ _⟩
    · have d3 : a.tmps[21]?.getD undef = .slice A2 sn c2 := hdep 3 rfl
      refine Drawn.wpOp_flow 8 rfl rfl rfl ?_
      clear hev hdep hb
      go_simp
      exact ⟨_, rfl, rfl, Below.refl _ _⟩
    · have d5 : a.tmps[23]?.getD undef = .slice A3 tn c3 := hdep 5 rfl
      refine Drawn.wpOp_flow 9 rfl rfl rfl ?_
      clear hev hdep hb
      go_simp
      exact ⟨_, rfl, rfl, Below.refl _ _⟩
  · intro xq w1 hb hxq
    have vq0 : xq 0 = .pointer (some ⟨w.heap.size + 1, 0, none⟩) := hxq 0 (by omega)
    have vq1 : xq 1 = .slice A1 dn c1 := hxq 1 (by omega)
    have vq2 : xq 2 = .pointer (some ⟨w.heap.size + 1, 1, none⟩) := hxq 2 (by omega)
    have vq3 : xq 3 = .slice A2 sn c2 := hxq 3 (by omega)
    have vq4 : xq 4 = .pointer (some ⟨w.heap.size + 1, 2, none⟩) := hxq 4 (by omega)
    have vq5 : xq 5 = .slice A3 tn c3 := hxq 5 (by omega)
    have vq6 : xq 6 = .slice A1 dn c1 := hxq 6 (by omega)
    have vq7 : xq 7 = .slice A2 sn c2 := hxq 7 (by omega)
    have vq8 : xq 8 = .slice A3 tn c3 := hxq 8 (by omega)
    show Exit.then _ _ Exit.normal (Drawn.acts _ [(9, some (xq 8)), (8, some (xq 7)), (7, some (xq 6)), (23, some (xq 5)), (22, some (xq 4)), (21, some (xq 3)), (20, some (xq 2)), (19, some (xq 1)), (18, some (xq 0))]) _
    rw [vq0, vq1, vq2, vq3, vq4, vq5, vq6, vq7, vq8]
    clear hxq vq0 vq1 vq2 vq3 vq4 vq5 vq6 vq7 vq8
    clear xq
    simp only [Drawn.acts]
    go_simp
    have HB1 := Lib.hid (bstep HB0.out hb)
    have HA1 := Lib.hid (HA.out.below hb)
    clear hb
    go_at_K
    go_wp2_with fail
    refine Drawn.wp_region_flowL 6 [Drawn.SP.is (.pointer (some ⟨w.heap.size + 2, 0, none⟩)), Drawn.SP.is (.int .i64 t), Drawn.SP.is (.pointer (some ⟨w.heap.size + 2, 1, none⟩)), Drawn.SP.is (.int .i64 aq), Drawn.SP.is (.int .i64 t), Drawn.SP.is (.int .i64 aq)] (by kernel_rfl) (by kernel_rfl) ?_ ?_
    · intro i hi a w2 hb hev hdep
      rcases (show i = 0 ∨ i = 1 ∨ i = 2 ∨ i = 3 ∨ i = 4 ∨ i = 5 by omega) with rfl | rfl | rfl | rfl | rfl | rfl
      · have e5 : a.tmps[5]?.getD undef = .pointer (some ⟨w.heap.size + 2, 0, none⟩) := hev 5 rfl
        refine Drawn.wpOp_flow 24 rfl rfl rfl ?_
        clear hev hdep hb
        go_simp
        exact ⟨_, rfl, rfl, Below.refl _ _⟩
      · have d0 : a.tmps[24]?.getD undef = .pointer (some ⟨w.heap.size + 2, 0, none⟩) := hdep 0 rfl
        refine Drawn.wpOp_flow 25 rfl rfl rfl ?_
        have b0 := (HA1.out.below hb).b0; have b1 := (HA1.out.below hb).b1
        clear hev hdep hb
        go_simp
        exact ⟨_, rfl, rfl, Below.refl _ _⟩
      · have e5 : a.tmps[5]?.getD undef = .pointer (some ⟨w.heap.size + 2, 0, none⟩) := hev 5 rfl
        refine Drawn.wpOp_flow 26 rfl rfl rfl ?_
        clear hev hdep hb
        go_simp
        exact ⟨_, rfl, rfl, Below.refl _ _⟩
      · have d2 : a.tmps[26]?.getD undef = .pointer (some ⟨w.heap.size + 2, 1, none⟩) := hdep 2 rfl
        refine Drawn.wpOp_flow 27 rfl rfl rfl ?_
        have b0 := (HA1.out.below hb).b0; have b1 := (HA1.out.below hb).b1
        clear hev hdep hb
        go_simp
        exact ⟨_, rfl, rfl, Below.refl _ _⟩
      · have d1 : a.tmps[25]?.getD undef = .int .i64 t := hdep 1 rfl
        refine Drawn.wpOp_flow 10 rfl rfl rfl ?_
        clear hev hdep hb
        go_simp
        exact ⟨_, rfl, rfl, Below.refl _ _⟩
      · have d3 : a.tmps[27]?.getD undef = .int .i64 aq := hdep 3 rfl
        refine Drawn.wpOp_flow 11 rfl rfl rfl ?_
        clear hev hdep hb
        go_simp
        exact ⟨_, rfl, rfl, Below.refl _ _⟩
    · intro xq w2 hb hxq
      have vq0 : xq 0 = .pointer (some ⟨w.heap.size + 2, 0, none⟩) := hxq 0 (by omega)
      have vq1 : xq 1 = .int .i64 t := hxq 1 (by omega)
      have vq2 : xq 2 = .pointer (some ⟨w.heap.size + 2, 1, none⟩) := hxq 2 (by omega)
      have vq3 : xq 3 = .int .i64 aq := hxq 3 (by omega)
      have vq4 : xq 4 = .int .i64 t := hxq 4 (by omega)
      have vq5 : xq 5 = .int .i64 aq := hxq 5 (by omega)
      show Exit.then _ _ Exit.normal (Drawn.acts _ [(11, some (xq 5)), (10, some (xq 4)), (27, some (xq 3)), (26, some (xq 2)), (25, some (xq 1)), (24, some (xq 0))]) _
      rw [vq0, vq1, vq2, vq3, vq4, vq5]
      clear hxq vq0 vq1 vq2 vq3 vq4 vq5
      clear xq
      simp only [Drawn.acts]
      go_simp
      have HB2 := Lib.hid (bstep HB1.out hb)
      have HA2 := Lib.hid (HA1.out.below hb).plan
      clear hb
      go_at_K
      obtain ⟨p0, p1, p2, p3, p4, p5⟩ := six HA2.out
      go_wp2_with fail
      refine (H0.out _).mono ?_
      rintro e w3 ⟨rfl, hb3⟩
      clear p0 p1 p2 p3 p4 p5
      have HB3 := Lib.hid (bstep HB2.out hb3)
      have HA3 := Lib.hid (HA2.out.below hb3)
      clear hb3 HA HA1 HA2
      go_wp2_with fail
      refine (alive_any _).mono ?_
      rintro e w9 ⟨rfl, hb9⟩
      go_wp2
      go_ret
      exact ⟨rfl, bstep HB3.out hb9⟩
set_option maxHeartbeats 2000000 in
theorem masks_long (N T L W S R t aq : Int) (A1 A2 A3 : Option Addr) (dn sn tn c1 c2 c3 : Nat) (w : World) (hl : N ≤ 12 ∧ L ≤ 12 ∧ T ≤ 12) (h1 : 20 < dn) :
    Calls Try.prog 4 #[.agg #[.int .i64 N, .int .i64 T, .int .i64 L, .int .i64 W, .int .i64 S, .int .i64 R], .agg #[.slice A1 dn c1, .slice A2 sn c2, .slice A3 tn c3], .agg #[.int .i64 t, .int .i64 aq]] w fun e w' => e = .returned (.bool true) ∧ Below w.heap.size w w' := by
  have K0 := fun w => Law10.light_any N T L W S R w
  rw [decide_eq_true hl] at K0
  have H0 := Lib.hid K0
  clear K0 hl
  have HA := Lib.hid (LiesM.new w N T L W S R (.slice A1 dn c1) (.slice A2 sn c2) (.slice A3 tn c3) (.int .i64 t) (.int .i64 aq) 40 41)
  have HB0 := Lib.hid (show Below w.heap.size w (((w.alloc (.cells #[.int .i64 N, .int .i64 T, .int .i64 L, .int .i64 W, .int .i64 S, .int .i64 R] 23)).alloc (.cells #[.slice A1 dn c1, .slice A2 sn c2, .slice A3 tn c3] 40)).alloc (.cells #[.int .i64 t, .int .i64 aq] 41)) from bstep (bstep (balloc _ _) (balloc _ _)) (balloc _ _))
  go_enter Try.func4, Try.ntmps4
  go_wp2_with fail
  generalize ((w.alloc (.cells #[.int .i64 N, .int .i64 T, .int .i64 L, .int .i64 W, .int .i64 S, .int .i64 R] 23)).alloc (.cells #[.slice A1 dn c1, .slice A2 sn c2, .slice A3 tn c3] 40)).alloc (.cells #[.int .i64 t, .int .i64 aq] 41) = w0 at *
  refine Drawn.wp_region_flowL 9 [Drawn.SP.is (.pointer (some ⟨w.heap.size + 1, 0, none⟩)), Drawn.SP.is (.slice A1 dn c1), Drawn.SP.is (.pointer (some ⟨w.heap.size + 1, 1, none⟩)), Drawn.SP.is (.slice A2 sn c2), Drawn.SP.is (.pointer (some ⟨w.heap.size + 1, 2, none⟩)), Drawn.SP.is (.slice A3 tn c3), Drawn.SP.is (.slice A1 dn c1), Drawn.SP.is (.slice A2 sn c2), Drawn.SP.is (.slice A3 tn c3)] (by kernel_rfl) (by kernel_rfl) ?_ ?_
  · intro i hi a w1 hb hev hdep
    rcases (show i = 0 ∨ i = 1 ∨ i = 2 ∨ i = 3 ∨ i = 4 ∨ i = 5 ∨ i = 6 ∨ i = 7 ∨ i = 8 by omega) with rfl | rfl | rfl | rfl | rfl | rfl | rfl | rfl | rfl
    · have e4 : a.tmps[4]?.getD undef = .pointer (some ⟨w.heap.size + 1, 0, none⟩) := hev 4 rfl
      refine Drawn.wpOp_flow 18 rfl rfl rfl ?_
      clear hev hdep hb
      go_simp
      exact ⟨_, rfl, rfl, Below.refl _ _⟩
    · have d0 : a.tmps[18]?.getD undef = .pointer (some ⟨w.heap.size + 1, 0, none⟩) := hdep 0 rfl
      refine Drawn.wpOp_flow 19 rfl rfl rfl ?_
      have a0 := (HA.out.below hb).a0; have a1 := (HA.out.below hb).a1; have a2 := (HA.out.below hb).a2
      clear hev hdep hb
      go_simp
      exact ⟨_, rfl, rfl, Below.refl _ _⟩
    · have e4 : a.tmps[4]?.getD undef = .pointer (some ⟨w.heap.size + 1, 0, none⟩) := hev 4 rfl
      refine Drawn.wpOp_flow 20 rfl rfl rfl ?_
      clear hev hdep hb
      go_simp
      exact ⟨_, rfl, rfl, Below.refl _ _⟩
    · have d2 : a.tmps[20]?.getD undef = .pointer (some ⟨w.heap.size + 1, 1, none⟩) := hdep 2 rfl
      refine Drawn.wpOp_flow 21 rfl rfl rfl ?_
      have a0 := (HA.out.below hb).a0; have a1 := (HA.out.below hb).a1; have a2 := (HA.out.below hb).a2
      clear hev hdep hb
      go_simp
      exact ⟨_, rfl, rfl, Below.refl _ _⟩
    · have e4 : a.tmps[4]?.getD undef = .pointer (some ⟨w.heap.size + 1, 0, none⟩) := hev 4 rfl
      refine Drawn.wpOp_flow 22 rfl rfl rfl ?_
      clear hev hdep hb
      go_simp
      exact ⟨_, rfl, rfl, Below.refl _ _⟩
    · have d4 : a.tmps[22]?.getD undef = .pointer (some ⟨w.heap.size + 1, 2, none⟩) := hdep 4 rfl
      refine Drawn.wpOp_flow 23 rfl rfl rfl ?_
      have a0 := (HA.out.below hb).a0; have a1 := (HA.out.below hb).a1; have a2 := (HA.out.below hb).a2
      clear hev hdep hb
      go_simp
      exact ⟨_, rfl, rfl, Below.refl _ _⟩
    · have d1 : a.tmps[19]?.getD undef = .slice A1 dn c1 := hdep 1 rfl
      refine Drawn.wpOp_flow 7 rfl rfl rfl ?_
      clear hev hdep hb
      go_simp
      exact ⟨_, rfl, rfl, Below.refl _ _⟩
    · have d3 : a.tmps[21]?.getD undef = .slice A2 sn c2 := hdep 3 rfl
      refine Drawn.wpOp_flow 8 rfl rfl rfl ?_
      clear hev hdep hb
      go_simp
      exact ⟨_, rfl, rfl, Below.refl _ _⟩
    · have d5 : a.tmps[23]?.getD undef = .slice A3 tn c3 := hdep 5 rfl
      refine Drawn.wpOp_flow 9 rfl rfl rfl ?_
      clear hev hdep hb
      go_simp
      exact ⟨_, rfl, rfl, Below.refl _ _⟩
  · intro xq w1 hb hxq
    have vq0 : xq 0 = .pointer (some ⟨w.heap.size + 1, 0, none⟩) := hxq 0 (by omega)
    have vq1 : xq 1 = .slice A1 dn c1 := hxq 1 (by omega)
    have vq2 : xq 2 = .pointer (some ⟨w.heap.size + 1, 1, none⟩) := hxq 2 (by omega)
    have vq3 : xq 3 = .slice A2 sn c2 := hxq 3 (by omega)
    have vq4 : xq 4 = .pointer (some ⟨w.heap.size + 1, 2, none⟩) := hxq 4 (by omega)
    have vq5 : xq 5 = .slice A3 tn c3 := hxq 5 (by omega)
    have vq6 : xq 6 = .slice A1 dn c1 := hxq 6 (by omega)
    have vq7 : xq 7 = .slice A2 sn c2 := hxq 7 (by omega)
    have vq8 : xq 8 = .slice A3 tn c3 := hxq 8 (by omega)
    show Exit.then _ _ Exit.normal (Drawn.acts _ [(9, some (xq 8)), (8, some (xq 7)), (7, some (xq 6)), (23, some (xq 5)), (22, some (xq 4)), (21, some (xq 3)), (20, some (xq 2)), (19, some (xq 1)), (18, some (xq 0))]) _
    rw [vq0, vq1, vq2, vq3, vq4, vq5, vq6, vq7, vq8]
    clear hxq vq0 vq1 vq2 vq3 vq4 vq5 vq6 vq7 vq8
    clear xq
    simp only [Drawn.acts]
    go_simp
    have HB1 := Lib.hid (bstep HB0.out hb)
    have HA1 := Lib.hid (HA.out.below hb)
    clear hb
    go_at_K
    go_wp2_with fail
    refine Drawn.wp_region_flowL 6 [Drawn.SP.is (.pointer (some ⟨w.heap.size + 2, 0, none⟩)), Drawn.SP.is (.int .i64 t), Drawn.SP.is (.pointer (some ⟨w.heap.size + 2, 1, none⟩)), Drawn.SP.is (.int .i64 aq), Drawn.SP.is (.int .i64 t), Drawn.SP.is (.int .i64 aq)] (by kernel_rfl) (by kernel_rfl) ?_ ?_
    · intro i hi a w2 hb hev hdep
      rcases (show i = 0 ∨ i = 1 ∨ i = 2 ∨ i = 3 ∨ i = 4 ∨ i = 5 by omega) with rfl | rfl | rfl | rfl | rfl | rfl
      · have e5 : a.tmps[5]?.getD undef = .pointer (some ⟨w.heap.size + 2, 0, none⟩) := hev 5 rfl
        refine Drawn.wpOp_flow 24 rfl rfl rfl ?_
        clear hev hdep hb
        go_simp
        exact ⟨_, rfl, rfl, Below.refl _ _⟩
      · have d0 : a.tmps[24]?.getD undef = .pointer (some ⟨w.heap.size + 2, 0, none⟩) := hdep 0 rfl
        refine Drawn.wpOp_flow 25 rfl rfl rfl ?_
        have b0 := (HA1.out.below hb).b0; have b1 := (HA1.out.below hb).b1
        clear hev hdep hb
        go_simp
        exact ⟨_, rfl, rfl, Below.refl _ _⟩
      · have e5 : a.tmps[5]?.getD undef = .pointer (some ⟨w.heap.size + 2, 0, none⟩) := hev 5 rfl
        refine Drawn.wpOp_flow 26 rfl rfl rfl ?_
        clear hev hdep hb
        go_simp
        exact ⟨_, rfl, rfl, Below.refl _ _⟩
      · have d2 : a.tmps[26]?.getD undef = .pointer (some ⟨w.heap.size + 2, 1, none⟩) := hdep 2 rfl
        refine Drawn.wpOp_flow 27 rfl rfl rfl ?_
        have b0 := (HA1.out.below hb).b0; have b1 := (HA1.out.below hb).b1
        clear hev hdep hb
        go_simp
        exact ⟨_, rfl, rfl, Below.refl _ _⟩
      · have d1 : a.tmps[25]?.getD undef = .int .i64 t := hdep 1 rfl
        refine Drawn.wpOp_flow 10 rfl rfl rfl ?_
        clear hev hdep hb
        go_simp
        exact ⟨_, rfl, rfl, Below.refl _ _⟩
      · have d3 : a.tmps[27]?.getD undef = .int .i64 aq := hdep 3 rfl
        refine Drawn.wpOp_flow 11 rfl rfl rfl ?_
        clear hev hdep hb
        go_simp
        exact ⟨_, rfl, rfl, Below.refl _ _⟩
    · intro xq w2 hb hxq
      have vq0 : xq 0 = .pointer (some ⟨w.heap.size + 2, 0, none⟩) := hxq 0 (by omega)
      have vq1 : xq 1 = .int .i64 t := hxq 1 (by omega)
      have vq2 : xq 2 = .pointer (some ⟨w.heap.size + 2, 1, none⟩) := hxq 2 (by omega)
      have vq3 : xq 3 = .int .i64 aq := hxq 3 (by omega)
      have vq4 : xq 4 = .int .i64 t := hxq 4 (by omega)
      have vq5 : xq 5 = .int .i64 aq := hxq 5 (by omega)
      show Exit.then _ _ Exit.normal (Drawn.acts _ [(11, some (xq 5)), (10, some (xq 4)), (27, some (xq 3)), (26, some (xq 2)), (25, some (xq 1)), (24, some (xq 0))]) _
      rw [vq0, vq1, vq2, vq3, vq4, vq5]
      clear hxq vq0 vq1 vq2 vq3 vq4 vq5
      clear xq
      simp only [Drawn.acts]
      go_simp
      have HB2 := Lib.hid (bstep HB1.out hb)
      have HA2 := Lib.hid (HA1.out.below hb).plan
      clear hb
      go_at_K
      obtain ⟨p0, p1, p2, p3, p4, p5⟩ := six HA2.out
      go_wp2_with fail
      refine (H0.out _).mono ?_
      rintro e w3 ⟨rfl, hb3⟩
      clear p0 p1 p2 p3 p4 p5
      have HB3 := Lib.hid (bstep HB2.out hb3)
      have HA3 := Lib.hid (HA2.out.below hb3)
      clear hb3 HA HA1 HA2
      go_wp2_with fail
      refine (alive_any _).mono ?_
      rintro e w9 ⟨rfl, hb9⟩
      go_wp2
      go_ret
      exact ⟨rfl, bstep HB3.out hb9⟩
set_option maxHeartbeats 2000000 in
theorem masks_many (N T L W S R t aq : Int) (A1 A2 A3 : Option Addr) (dn sn tn c1 c2 c3 : Nat) (w : World) (hl : N ≤ 12 ∧ L ≤ 12 ∧ T ≤ 12) (h1 : dn ≤ 20) (h2 : 30 < sn) :
    Calls Try.prog 4 #[.agg #[.int .i64 N, .int .i64 T, .int .i64 L, .int .i64 W, .int .i64 S, .int .i64 R], .agg #[.slice A1 dn c1, .slice A2 sn c2, .slice A3 tn c3], .agg #[.int .i64 t, .int .i64 aq]] w fun e w' => e = .returned (.bool true) ∧ Below w.heap.size w w' := by
  have K0 := fun w => Law10.light_any N T L W S R w
  rw [decide_eq_true hl] at K0
  have H0 := Lib.hid K0
  clear K0 hl
  have HA := Lib.hid (LiesM.new w N T L W S R (.slice A1 dn c1) (.slice A2 sn c2) (.slice A3 tn c3) (.int .i64 t) (.int .i64 aq) 40 41)
  have HB0 := Lib.hid (show Below w.heap.size w (((w.alloc (.cells #[.int .i64 N, .int .i64 T, .int .i64 L, .int .i64 W, .int .i64 S, .int .i64 R] 23)).alloc (.cells #[.slice A1 dn c1, .slice A2 sn c2, .slice A3 tn c3] 40)).alloc (.cells #[.int .i64 t, .int .i64 aq] 41)) from bstep (bstep (balloc _ _) (balloc _ _)) (balloc _ _))
  go_enter Try.func4, Try.ntmps4
  go_wp2_with fail
  generalize ((w.alloc (.cells #[.int .i64 N, .int .i64 T, .int .i64 L, .int .i64 W, .int .i64 S, .int .i64 R] 23)).alloc (.cells #[.slice A1 dn c1, .slice A2 sn c2, .slice A3 tn c3] 40)).alloc (.cells #[.int .i64 t, .int .i64 aq] 41) = w0 at *
  refine Drawn.wp_region_flowL 9 [Drawn.SP.is (.pointer (some ⟨w.heap.size + 1, 0, none⟩)), Drawn.SP.is (.slice A1 dn c1), Drawn.SP.is (.pointer (some ⟨w.heap.size + 1, 1, none⟩)), Drawn.SP.is (.slice A2 sn c2), Drawn.SP.is (.pointer (some ⟨w.heap.size + 1, 2, none⟩)), Drawn.SP.is (.slice A3 tn c3), Drawn.SP.is (.slice A1 dn c1), Drawn.SP.is (.slice A2 sn c2), Drawn.SP.is (.slice A3 tn c3)] (by kernel_rfl) (by kernel_rfl) ?_ ?_
  · intro i hi a w1 hb hev hdep
    rcases (show i = 0 ∨ i = 1 ∨ i = 2 ∨ i = 3 ∨ i = 4 ∨ i = 5 ∨ i = 6 ∨ i = 7 ∨ i = 8 by omega) with rfl | rfl | rfl | rfl | rfl | rfl | rfl | rfl | rfl
    · have e4 : a.tmps[4]?.getD undef = .pointer (some ⟨w.heap.size + 1, 0, none⟩) := hev 4 rfl
      refine Drawn.wpOp_flow 18 rfl rfl rfl ?_
      clear hev hdep hb
      go_simp
      exact ⟨_, rfl, rfl, Below.refl _ _⟩
    · have d0 : a.tmps[18]?.getD undef = .pointer (some ⟨w.heap.size + 1, 0, none⟩) := hdep 0 rfl
      refine Drawn.wpOp_flow 19 rfl rfl rfl ?_
      have a0 := (HA.out.below hb).a0; have a1 := (HA.out.below hb).a1; have a2 := (HA.out.below hb).a2
      clear hev hdep hb
      go_simp
      exact ⟨_, rfl, rfl, Below.refl _ _⟩
    · have e4 : a.tmps[4]?.getD undef = .pointer (some ⟨w.heap.size + 1, 0, none⟩) := hev 4 rfl
      refine Drawn.wpOp_flow 20 rfl rfl rfl ?_
      clear hev hdep hb
      go_simp
      exact ⟨_, rfl, rfl, Below.refl _ _⟩
    · have d2 : a.tmps[20]?.getD undef = .pointer (some ⟨w.heap.size + 1, 1, none⟩) := hdep 2 rfl
      refine Drawn.wpOp_flow 21 rfl rfl rfl ?_
      have a0 := (HA.out.below hb).a0; have a1 := (HA.out.below hb).a1; have a2 := (HA.out.below hb).a2
      clear hev hdep hb
      go_simp
      exact ⟨_, rfl, rfl, Below.refl _ _⟩
    · have e4 : a.tmps[4]?.getD undef = .pointer (some ⟨w.heap.size + 1, 0, none⟩) := hev 4 rfl
      refine Drawn.wpOp_flow 22 rfl rfl rfl ?_
      clear hev hdep hb
      go_simp
      exact ⟨_, rfl, rfl, Below.refl _ _⟩
    · have d4 : a.tmps[22]?.getD undef = .pointer (some ⟨w.heap.size + 1, 2, none⟩) := hdep 4 rfl
      refine Drawn.wpOp_flow 23 rfl rfl rfl ?_
      have a0 := (HA.out.below hb).a0; have a1 := (HA.out.below hb).a1; have a2 := (HA.out.below hb).a2
      clear hev hdep hb
      go_simp
      exact ⟨_, rfl, rfl, Below.refl _ _⟩
    · have d1 : a.tmps[19]?.getD undef = .slice A1 dn c1 := hdep 1 rfl
      refine Drawn.wpOp_flow 7 rfl rfl rfl ?_
      clear hev hdep hb
      go_simp
      exact ⟨_, rfl, rfl, Below.refl _ _⟩
    · have d3 : a.tmps[21]?.getD undef = .slice A2 sn c2 := hdep 3 rfl
      refine Drawn.wpOp_flow 8 rfl rfl rfl ?_
      clear hev hdep hb
      go_simp
      exact ⟨_, rfl, rfl, Below.refl _ _⟩
    · have d5 : a.tmps[23]?.getD undef = .slice A3 tn c3 := hdep 5 rfl
      refine Drawn.wpOp_flow 9 rfl rfl rfl ?_
      clear hev hdep hb
      go_simp
      exact ⟨_, rfl, rfl, Below.refl _ _⟩
  · intro xq w1 hb hxq
    have vq0 : xq 0 = .pointer (some ⟨w.heap.size + 1, 0, none⟩) := hxq 0 (by omega)
    have vq1 : xq 1 = .slice A1 dn c1 := hxq 1 (by omega)
    have vq2 : xq 2 = .pointer (some ⟨w.heap.size + 1, 1, none⟩) := hxq 2 (by omega)
    have vq3 : xq 3 = .slice A2 sn c2 := hxq 3 (by omega)
    have vq4 : xq 4 = .pointer (some ⟨w.heap.size + 1, 2, none⟩) := hxq 4 (by omega)
    have vq5 : xq 5 = .slice A3 tn c3 := hxq 5 (by omega)
    have vq6 : xq 6 = .slice A1 dn c1 := hxq 6 (by omega)
    have vq7 : xq 7 = .slice A2 sn c2 := hxq 7 (by omega)
    have vq8 : xq 8 = .slice A3 tn c3 := hxq 8 (by omega)
    show Exit.then _ _ Exit.normal (Drawn.acts _ [(9, some (xq 8)), (8, some (xq 7)), (7, some (xq 6)), (23, some (xq 5)), (22, some (xq 4)), (21, some (xq 3)), (20, some (xq 2)), (19, some (xq 1)), (18, some (xq 0))]) _
    rw [vq0, vq1, vq2, vq3, vq4, vq5, vq6, vq7, vq8]
    clear hxq vq0 vq1 vq2 vq3 vq4 vq5 vq6 vq7 vq8
    clear xq
    simp only [Drawn.acts]
    go_simp
    have HB1 := Lib.hid (bstep HB0.out hb)
    have HA1 := Lib.hid (HA.out.below hb)
    clear hb
    go_at_K
    go_wp2_with fail
    refine Drawn.wp_region_flowL 6 [Drawn.SP.is (.pointer (some ⟨w.heap.size + 2, 0, none⟩)), Drawn.SP.is (.int .i64 t), Drawn.SP.is (.pointer (some ⟨w.heap.size + 2, 1, none⟩)), Drawn.SP.is (.int .i64 aq), Drawn.SP.is (.int .i64 t), Drawn.SP.is (.int .i64 aq)] (by kernel_rfl) (by kernel_rfl) ?_ ?_
    · intro i hi a w2 hb hev hdep
      rcases (show i = 0 ∨ i = 1 ∨ i = 2 ∨ i = 3 ∨ i = 4 ∨ i = 5 by omega) with rfl | rfl | rfl | rfl | rfl | rfl
      · have e5 : a.tmps[5]?.getD undef = .pointer (some ⟨w.heap.size + 2, 0, none⟩) := hev 5 rfl
        refine Drawn.wpOp_flow 24 rfl rfl rfl ?_
        clear hev hdep hb
        go_simp
        exact ⟨_, rfl, rfl, Below.refl _ _⟩
      · have d0 : a.tmps[24]?.getD undef = .pointer (some ⟨w.heap.size + 2, 0, none⟩) := hdep 0 rfl
        refine Drawn.wpOp_flow 25 rfl rfl rfl ?_
        have b0 := (HA1.out.below hb).b0; have b1 := (HA1.out.below hb).b1
        clear hev hdep hb
        go_simp
        exact ⟨_, rfl, rfl, Below.refl _ _⟩
      · have e5 : a.tmps[5]?.getD undef = .pointer (some ⟨w.heap.size + 2, 0, none⟩) := hev 5 rfl
        refine Drawn.wpOp_flow 26 rfl rfl rfl ?_
        clear hev hdep hb
        go_simp
        exact ⟨_, rfl, rfl, Below.refl _ _⟩
      · have d2 : a.tmps[26]?.getD undef = .pointer (some ⟨w.heap.size + 2, 1, none⟩) := hdep 2 rfl
        refine Drawn.wpOp_flow 27 rfl rfl rfl ?_
        have b0 := (HA1.out.below hb).b0; have b1 := (HA1.out.below hb).b1
        clear hev hdep hb
        go_simp
        exact ⟨_, rfl, rfl, Below.refl _ _⟩
      · have d1 : a.tmps[25]?.getD undef = .int .i64 t := hdep 1 rfl
        refine Drawn.wpOp_flow 10 rfl rfl rfl ?_
        clear hev hdep hb
        go_simp
        exact ⟨_, rfl, rfl, Below.refl _ _⟩
      · have d3 : a.tmps[27]?.getD undef = .int .i64 aq := hdep 3 rfl
        refine Drawn.wpOp_flow 11 rfl rfl rfl ?_
        clear hev hdep hb
        go_simp
        exact ⟨_, rfl, rfl, Below.refl _ _⟩
    · intro xq w2 hb hxq
      have vq0 : xq 0 = .pointer (some ⟨w.heap.size + 2, 0, none⟩) := hxq 0 (by omega)
      have vq1 : xq 1 = .int .i64 t := hxq 1 (by omega)
      have vq2 : xq 2 = .pointer (some ⟨w.heap.size + 2, 1, none⟩) := hxq 2 (by omega)
      have vq3 : xq 3 = .int .i64 aq := hxq 3 (by omega)
      have vq4 : xq 4 = .int .i64 t := hxq 4 (by omega)
      have vq5 : xq 5 = .int .i64 aq := hxq 5 (by omega)
      show Exit.then _ _ Exit.normal (Drawn.acts _ [(11, some (xq 5)), (10, some (xq 4)), (27, some (xq 3)), (26, some (xq 2)), (25, some (xq 1)), (24, some (xq 0))]) _
      rw [vq0, vq1, vq2, vq3, vq4, vq5]
      clear hxq vq0 vq1 vq2 vq3 vq4 vq5
      clear xq
      simp only [Drawn.acts]
      go_simp
      have HB2 := Lib.hid (bstep HB1.out hb)
      have HA2 := Lib.hid (HA1.out.below hb).plan
      clear hb
      go_at_K
      obtain ⟨p0, p1, p2, p3, p4, p5⟩ := six HA2.out
      go_wp2_with fail
      refine (H0.out _).mono ?_
      rintro e w3 ⟨rfl, hb3⟩
      clear p0 p1 p2 p3 p4 p5
      have HB3 := Lib.hid (bstep HB2.out hb3)
      have HA3 := Lib.hid (HA2.out.below hb3)
      clear hb3 HA HA1 HA2
      go_wp2_with fail
      refine (alive_any _).mono ?_
      rintro e w9 ⟨rfl, hb9⟩
      go_wp2
      go_ret
      exact ⟨rfl, bstep HB3.out hb9⟩
set_option maxHeartbeats 2000000 in
theorem masks_much (N T L W S R t aq : Int) (A1 A2 A3 : Option Addr) (dn sn tn c1 c2 c3 : Nat) (w : World) (hl : N ≤ 12 ∧ L ≤ 12 ∧ T ≤ 12) (h1 : dn ≤ 20) (h2 : sn ≤ 30) (h3 : 60 < tn) :
    Calls Try.prog 4 #[.agg #[.int .i64 N, .int .i64 T, .int .i64 L, .int .i64 W, .int .i64 S, .int .i64 R], .agg #[.slice A1 dn c1, .slice A2 sn c2, .slice A3 tn c3], .agg #[.int .i64 t, .int .i64 aq]] w fun e w' => e = .returned (.bool true) ∧ Below w.heap.size w w' := by
  have K0 := fun w => Law10.light_any N T L W S R w
  rw [decide_eq_true hl] at K0
  have H0 := Lib.hid K0
  clear K0 hl
  have HA := Lib.hid (LiesM.new w N T L W S R (.slice A1 dn c1) (.slice A2 sn c2) (.slice A3 tn c3) (.int .i64 t) (.int .i64 aq) 40 41)
  have HB0 := Lib.hid (show Below w.heap.size w (((w.alloc (.cells #[.int .i64 N, .int .i64 T, .int .i64 L, .int .i64 W, .int .i64 S, .int .i64 R] 23)).alloc (.cells #[.slice A1 dn c1, .slice A2 sn c2, .slice A3 tn c3] 40)).alloc (.cells #[.int .i64 t, .int .i64 aq] 41)) from bstep (bstep (balloc _ _) (balloc _ _)) (balloc _ _))
  go_enter Try.func4, Try.ntmps4
  go_wp2_with fail
  generalize ((w.alloc (.cells #[.int .i64 N, .int .i64 T, .int .i64 L, .int .i64 W, .int .i64 S, .int .i64 R] 23)).alloc (.cells #[.slice A1 dn c1, .slice A2 sn c2, .slice A3 tn c3] 40)).alloc (.cells #[.int .i64 t, .int .i64 aq] 41) = w0 at *
  refine Drawn.wp_region_flowL 9 [Drawn.SP.is (.pointer (some ⟨w.heap.size + 1, 0, none⟩)), Drawn.SP.is (.slice A1 dn c1), Drawn.SP.is (.pointer (some ⟨w.heap.size + 1, 1, none⟩)), Drawn.SP.is (.slice A2 sn c2), Drawn.SP.is (.pointer (some ⟨w.heap.size + 1, 2, none⟩)), Drawn.SP.is (.slice A3 tn c3), Drawn.SP.is (.slice A1 dn c1), Drawn.SP.is (.slice A2 sn c2), Drawn.SP.is (.slice A3 tn c3)] (by kernel_rfl) (by kernel_rfl) ?_ ?_
  · intro i hi a w1 hb hev hdep
    rcases (show i = 0 ∨ i = 1 ∨ i = 2 ∨ i = 3 ∨ i = 4 ∨ i = 5 ∨ i = 6 ∨ i = 7 ∨ i = 8 by omega) with rfl | rfl | rfl | rfl | rfl | rfl | rfl | rfl | rfl
    · have e4 : a.tmps[4]?.getD undef = .pointer (some ⟨w.heap.size + 1, 0, none⟩) := hev 4 rfl
      refine Drawn.wpOp_flow 18 rfl rfl rfl ?_
      clear hev hdep hb
      go_simp
      exact ⟨_, rfl, rfl, Below.refl _ _⟩
    · have d0 : a.tmps[18]?.getD undef = .pointer (some ⟨w.heap.size + 1, 0, none⟩) := hdep 0 rfl
      refine Drawn.wpOp_flow 19 rfl rfl rfl ?_
      have a0 := (HA.out.below hb).a0; have a1 := (HA.out.below hb).a1; have a2 := (HA.out.below hb).a2
      clear hev hdep hb
      go_simp
      exact ⟨_, rfl, rfl, Below.refl _ _⟩
    · have e4 : a.tmps[4]?.getD undef = .pointer (some ⟨w.heap.size + 1, 0, none⟩) := hev 4 rfl
      refine Drawn.wpOp_flow 20 rfl rfl rfl ?_
      clear hev hdep hb
      go_simp
      exact ⟨_, rfl, rfl, Below.refl _ _⟩
    · have d2 : a.tmps[20]?.getD undef = .pointer (some ⟨w.heap.size + 1, 1, none⟩) := hdep 2 rfl
      refine Drawn.wpOp_flow 21 rfl rfl rfl ?_
      have a0 := (HA.out.below hb).a0; have a1 := (HA.out.below hb).a1; have a2 := (HA.out.below hb).a2
      clear hev hdep hb
      go_simp
      exact ⟨_, rfl, rfl, Below.refl _ _⟩
    · have e4 : a.tmps[4]?.getD undef = .pointer (some ⟨w.heap.size + 1, 0, none⟩) := hev 4 rfl
      refine Drawn.wpOp_flow 22 rfl rfl rfl ?_
      clear hev hdep hb
      go_simp
      exact ⟨_, rfl, rfl, Below.refl _ _⟩
    · have d4 : a.tmps[22]?.getD undef = .pointer (some ⟨w.heap.size + 1, 2, none⟩) := hdep 4 rfl
      refine Drawn.wpOp_flow 23 rfl rfl rfl ?_
      have a0 := (HA.out.below hb).a0; have a1 := (HA.out.below hb).a1; have a2 := (HA.out.below hb).a2
      clear hev hdep hb
      go_simp
      exact ⟨_, rfl, rfl, Below.refl _ _⟩
    · have d1 : a.tmps[19]?.getD undef = .slice A1 dn c1 := hdep 1 rfl
      refine Drawn.wpOp_flow 7 rfl rfl rfl ?_
      clear hev hdep hb
      go_simp
      exact ⟨_, rfl, rfl, Below.refl _ _⟩
    · have d3 : a.tmps[21]?.getD undef = .slice A2 sn c2 := hdep 3 rfl
      refine Drawn.wpOp_flow 8 rfl rfl rfl ?_
      clear hev hdep hb
      go_simp
      exact ⟨_, rfl, rfl, Below.refl _ _⟩
    · have d5 : a.tmps[23]?.getD undef = .slice A3 tn c3 := hdep 5 rfl
      refine Drawn.wpOp_flow 9 rfl rfl rfl ?_
      clear hev hdep hb
      go_simp
      exact ⟨_, rfl, rfl, Below.refl _ _⟩
  · intro xq w1 hb hxq
    have vq0 : xq 0 = .pointer (some ⟨w.heap.size + 1, 0, none⟩) := hxq 0 (by omega)
    have vq1 : xq 1 = .slice A1 dn c1 := hxq 1 (by omega)
    have vq2 : xq 2 = .pointer (some ⟨w.heap.size + 1, 1, none⟩) := hxq 2 (by omega)
    have vq3 : xq 3 = .slice A2 sn c2 := hxq 3 (by omega)
    have vq4 : xq 4 = .pointer (some ⟨w.heap.size + 1, 2, none⟩) := hxq 4 (by omega)
    have vq5 : xq 5 = .slice A3 tn c3 := hxq 5 (by omega)
    have vq6 : xq 6 = .slice A1 dn c1 := hxq 6 (by omega)
    have vq7 : xq 7 = .slice A2 sn c2 := hxq 7 (by omega)
    have vq8 : xq 8 = .slice A3 tn c3 := hxq 8 (by omega)
    show Exit.then _ _ Exit.normal (Drawn.acts _ [(9, some (xq 8)), (8, some (xq 7)), (7, some (xq 6)), (23, some (xq 5)), (22, some (xq 4)), (21, some (xq 3)), (20, some (xq 2)), (19, some (xq 1)), (18, some (xq 0))]) _
    rw [vq0, vq1, vq2, vq3, vq4, vq5, vq6, vq7, vq8]
    clear hxq vq0 vq1 vq2 vq3 vq4 vq5 vq6 vq7 vq8
    clear xq
    simp only [Drawn.acts]
    go_simp
    have HB1 := Lib.hid (bstep HB0.out hb)
    have HA1 := Lib.hid (HA.out.below hb)
    clear hb
    go_at_K
    go_wp2_with fail
    refine Drawn.wp_region_flowL 6 [Drawn.SP.is (.pointer (some ⟨w.heap.size + 2, 0, none⟩)), Drawn.SP.is (.int .i64 t), Drawn.SP.is (.pointer (some ⟨w.heap.size + 2, 1, none⟩)), Drawn.SP.is (.int .i64 aq), Drawn.SP.is (.int .i64 t), Drawn.SP.is (.int .i64 aq)] (by kernel_rfl) (by kernel_rfl) ?_ ?_
    · intro i hi a w2 hb hev hdep
      rcases (show i = 0 ∨ i = 1 ∨ i = 2 ∨ i = 3 ∨ i = 4 ∨ i = 5 by omega) with rfl | rfl | rfl | rfl | rfl | rfl
      · have e5 : a.tmps[5]?.getD undef = .pointer (some ⟨w.heap.size + 2, 0, none⟩) := hev 5 rfl
        refine Drawn.wpOp_flow 24 rfl rfl rfl ?_
        clear hev hdep hb
        go_simp
        exact ⟨_, rfl, rfl, Below.refl _ _⟩
      · have d0 : a.tmps[24]?.getD undef = .pointer (some ⟨w.heap.size + 2, 0, none⟩) := hdep 0 rfl
        refine Drawn.wpOp_flow 25 rfl rfl rfl ?_
        have b0 := (HA1.out.below hb).b0; have b1 := (HA1.out.below hb).b1
        clear hev hdep hb
        go_simp
        exact ⟨_, rfl, rfl, Below.refl _ _⟩
      · have e5 : a.tmps[5]?.getD undef = .pointer (some ⟨w.heap.size + 2, 0, none⟩) := hev 5 rfl
        refine Drawn.wpOp_flow 26 rfl rfl rfl ?_
        clear hev hdep hb
        go_simp
        exact ⟨_, rfl, rfl, Below.refl _ _⟩
      · have d2 : a.tmps[26]?.getD undef = .pointer (some ⟨w.heap.size + 2, 1, none⟩) := hdep 2 rfl
        refine Drawn.wpOp_flow 27 rfl rfl rfl ?_
        have b0 := (HA1.out.below hb).b0; have b1 := (HA1.out.below hb).b1
        clear hev hdep hb
        go_simp
        exact ⟨_, rfl, rfl, Below.refl _ _⟩
      · have d1 : a.tmps[25]?.getD undef = .int .i64 t := hdep 1 rfl
        refine Drawn.wpOp_flow 10 rfl rfl rfl ?_
        clear hev hdep hb
        go_simp
        exact ⟨_, rfl, rfl, Below.refl _ _⟩
      · have d3 : a.tmps[27]?.getD undef = .int .i64 aq := hdep 3 rfl
        refine Drawn.wpOp_flow 11 rfl rfl rfl ?_
        clear hev hdep hb
        go_simp
        exact ⟨_, rfl, rfl, Below.refl _ _⟩
    · intro xq w2 hb hxq
      have vq0 : xq 0 = .pointer (some ⟨w.heap.size + 2, 0, none⟩) := hxq 0 (by omega)
      have vq1 : xq 1 = .int .i64 t := hxq 1 (by omega)
      have vq2 : xq 2 = .pointer (some ⟨w.heap.size + 2, 1, none⟩) := hxq 2 (by omega)
      have vq3 : xq 3 = .int .i64 aq := hxq 3 (by omega)
      have vq4 : xq 4 = .int .i64 t := hxq 4 (by omega)
      have vq5 : xq 5 = .int .i64 aq := hxq 5 (by omega)
      show Exit.then _ _ Exit.normal (Drawn.acts _ [(11, some (xq 5)), (10, some (xq 4)), (27, some (xq 3)), (26, some (xq 2)), (25, some (xq 1)), (24, some (xq 0))]) _
      rw [vq0, vq1, vq2, vq3, vq4, vq5]
      clear hxq vq0 vq1 vq2 vq3 vq4 vq5
      clear xq
      simp only [Drawn.acts]
      go_simp
      have HB2 := Lib.hid (bstep HB1.out hb)
      have HA2 := Lib.hid (HA1.out.below hb).plan
      clear hb
      go_at_K
      obtain ⟨p0, p1, p2, p3, p4, p5⟩ := six HA2.out
      go_wp2_with fail
      refine (H0.out _).mono ?_
      rintro e w3 ⟨rfl, hb3⟩
      clear p0 p1 p2 p3 p4 p5
      have HB3 := Lib.hid (bstep HB2.out hb3)
      have HA3 := Lib.hid (HA2.out.below hb3)
      clear hb3 HA HA1 HA2
      go_wp2_with fail
      refine (alive_any _).mono ?_
      rintro e w9 ⟨rfl, hb9⟩
      go_wp2
      go_ret
      exact ⟨rfl, bstep HB3.out hb9⟩

set_option maxHeartbeats 8000000 in
theorem masks_no (N T L W S R t aq : Int) (A1 A2 A3 : Option Addr) (delta sh tape : List UInt8) (c1 c2 c3 : Nat) (w : World) (hp : (⟨N, T, L, W, S, R⟩ : P).In) (h1 : BytesAt w A1 delta) (h2 : BytesAt w A2 sh) (h3 : BytesAt w A3 tape) (hd : delta.length ≤ 20) (hs : sh.length ≤ 30) (htl : tape.length ≤ 60) (hti : In64 t) (hai : In64 aq) (hl : N ≤ 12 ∧ L ≤ 12 ∧ T ≤ 12) (hM : ¬ (⟨N, T, L, W, S, R⟩ : P).May) :
    Calls Try.prog 4 #[.agg #[.int .i64 N, .int .i64 T, .int .i64 L, .int .i64 W, .int .i64 S, .int .i64 R], .agg #[.slice A1 delta.length c1, .slice A2 sh.length c2, .slice A3 tape.length c3], .agg #[.int .i64 t, .int .i64 aq]] w fun e w' => e = .returned (.bool true) ∧ Below w.heap.size w w' := by
  have K0 := fun w => Law10.light_any N T L W S R w
  rw [decide_eq_true hl] at K0
  have H0 := Lib.hid K0
  have KD := fun bf V ht h1 h2 => Mask.deal_any bf ⟨N, T, L, W, S, R⟩ A1 A2 delta sh c1 c2 V hp ht h1 h2 (by omega)
  have KZ := fun bf V ht h2 => Mask.zero_any bf ⟨N, T, L, W, S, R⟩ A2 sh c2 V hp ht h2 (by omega)
  have KB := fun bf V ht h2 => Mask.blind_any bf ⟨N, T, L, W, S, R⟩ A2 sh c2 t V hp hti ht h2 (by omega)
  have KA := fun V h3 h2 => Mask.apply_any A3 A2 tape sh aq c3 c2 V h3 h2 (by omega) (by omega) hai
  have KR := fun V => R08.right_any ⟨N, T, L, W, S, R⟩ V hp
  simp only [P.val] at KD KZ KB KR
  unfold Mask.RetB at KD KZ KB
  unfold RetNew at KA
  have HAPP0 := fun V h3 h2 => (KA V h3 h2).mono fun e w' h => (show ∃ X d, e = .returned (.slice X (apply tape aq sh).length d) ∧ BytesAt w' X (apply tape aq sh) ∧ Below V.heap.size V w' from by obtain ⟨X, d, g1, _, _, g2, g3, _⟩ := h; exact ⟨X, d, g1, g2, g3⟩)
  rw [apply_len] at HAPP0
  have HAP0 := Lib.hid (apply_zero tape aq sh)
  have HAL := Lib.hid (fun k => apply_len tape aq (sh.take k))
  have HALL := Lib.hid (apply_len tape aq sh)
  have HTK : Hid (apply tape aq (sh.take sh.length) = apply tape aq sh) := Lib.hid (by rw [List.take_length])
  have HSM := Lib.hid (fun k (hk : k < sh.length) (hn : ¬ (0 ≤ aq ∧ aq + k < (tape.length : Int))) => apply_same tape sh aq k hk hn)
  have HAS : Hid (∀ (k y : Nat), k < sh.length → 0 ≤ aq → aq + k < (tape.length : Int) → aq + k = (y : Int) → ∀ (g1 : y < (apply tape aq (sh.take k)).length) (g2 : k < sh.length), (apply tape aq (sh.take k)).set y (GfM.add ((apply tape aq (sh.take k))[y]'g1) (sh[k]'g2)) = apply tape aq (sh.take (k + 1))) := Lib.hid (fun k y hk h0 hlt hy g1 g2 => by
    obtain ⟨a', rfl⟩ : ∃ a' : Nat, aq = a' := ⟨aq.toNat, by omega⟩
    obtain rfl : y = a' + k := by omega
    have := apply_step tape sh a' k hk (by omega)
    rw [PolyM.co_get _ _ g1] at this
    exact this)
  have HMT : Hid (tape.length ≤ maxLen) := Lib.hid (by unfold maxLen; omega)
  obtain ⟨dn, hdn⟩ : ∃ dn, dn = delta.length := ⟨_, rfl⟩
  obtain ⟨sn, hsn⟩ : ∃ sn, sn = sh.length := ⟨_, rfl⟩
  obtain ⟨tn, htn⟩ : ∃ tn, tn = tape.length := ⟨_, rfl⟩
  have HSN := Lib.hid hsn; have HTN := Lib.hid htn
  have hrn := P.right_no hM
  have e1 : Mask.dealA ⟨N, T, L, W, S, R⟩ delta sh = [] := by unfold Mask.dealA; rw [hrn]; rfl
  have e2 : Mask.zeroA ⟨N, T, L, W, S, R⟩ sh = [] := by unfold Mask.zeroA; rw [hrn]; rfl
  have e3 : Mask.blindA ⟨N, T, L, W, S, R⟩ sh t = [] := by unfold Mask.blindA P.isA; rw [hrn]; rfl
  rw [e1] at KD; rw [e2] at KZ; rw [e3] at KB; rw [hrn] at KR
  simp only [List.length_nil] at KD KZ KB
  rw [← hdn] at KD hd ⊢
  rw [← hsn] at KD KZ KB HAPP0 HTK HSM hs ⊢
  rw [← htn] at HAPP0 HAL HALL HSM HAS HMT htl ⊢
  have HD := Lib.hid KD; have HZ := Lib.hid KZ; have HBL := Lib.hid KB; have HAPP := Lib.hid HAPP0; have HR := Lib.hid KR
  have D := Lib.hid h1; have SH := Lib.hid h2; have TP := Lib.hid h3
  clear K0 KD KZ KB KA KR HAPP0 h1 h2 h3 hl hp hM hti hrn e1 e2 e3 hdn hsn htn
  have HA := Lib.hid (LiesM.new w N T L W S R (.slice A1 dn c1) (.slice A2 sn c2) (.slice A3 tn c3) (.int .i64 t) (.int .i64 aq) 40 41)
  have HB0 := Lib.hid (show Below w.heap.size w (((w.alloc (.cells #[.int .i64 N, .int .i64 T, .int .i64 L, .int .i64 W, .int .i64 S, .int .i64 R] 23)).alloc (.cells #[.slice A1 dn c1, .slice A2 sn c2, .slice A3 tn c3] 40)).alloc (.cells #[.int .i64 t, .int .i64 aq] 41)) from bstep (bstep (balloc _ _) (balloc _ _)) (balloc _ _))
  go_enter Try.func4, Try.ntmps4
  go_wp2_with fail
  generalize ((w.alloc (.cells #[.int .i64 N, .int .i64 T, .int .i64 L, .int .i64 W, .int .i64 S, .int .i64 R] 23)).alloc (.cells #[.slice A1 dn c1, .slice A2 sn c2, .slice A3 tn c3] 40)).alloc (.cells #[.int .i64 t, .int .i64 aq] 41) = w0 at *
  refine Drawn.wp_region_flowL 9 [Drawn.SP.is (.pointer (some ⟨w.heap.size + 1, 0, none⟩)), Drawn.SP.is (.slice A1 dn c1), Drawn.SP.is (.pointer (some ⟨w.heap.size + 1, 1, none⟩)), Drawn.SP.is (.slice A2 sn c2), Drawn.SP.is (.pointer (some ⟨w.heap.size + 1, 2, none⟩)), Drawn.SP.is (.slice A3 tn c3), Drawn.SP.is (.slice A1 dn c1), Drawn.SP.is (.slice A2 sn c2), Drawn.SP.is (.slice A3 tn c3)] (by kernel_rfl) (by kernel_rfl) ?_ ?_
  · intro i hi a w1 hb hev hdep
    rcases (show i = 0 ∨ i = 1 ∨ i = 2 ∨ i = 3 ∨ i = 4 ∨ i = 5 ∨ i = 6 ∨ i = 7 ∨ i = 8 by omega) with rfl | rfl | rfl | rfl | rfl | rfl | rfl | rfl | rfl
    · have e4 : a.tmps[4]?.getD undef = .pointer (some ⟨w.heap.size + 1, 0, none⟩) := hev 4 rfl
      refine Drawn.wpOp_flow 18 rfl rfl rfl ?_
      clear hev hdep hb
      go_simp
      exact ⟨_, rfl, rfl, Below.refl _ _⟩
    · have d0 : a.tmps[18]?.getD undef = .pointer (some ⟨w.heap.size + 1, 0, none⟩) := hdep 0 rfl
      refine Drawn.wpOp_flow 19 rfl rfl rfl ?_
      have a0 := (HA.out.below hb).a0; have a1 := (HA.out.below hb).a1; have a2 := (HA.out.below hb).a2
      clear hev hdep hb
      go_simp
      exact ⟨_, rfl, rfl, Below.refl _ _⟩
    · have e4 : a.tmps[4]?.getD undef = .pointer (some ⟨w.heap.size + 1, 0, none⟩) := hev 4 rfl
      refine Drawn.wpOp_flow 20 rfl rfl rfl ?_
      clear hev hdep hb
      go_simp
      exact ⟨_, rfl, rfl, Below.refl _ _⟩
    · have d2 : a.tmps[20]?.getD undef = .pointer (some ⟨w.heap.size + 1, 1, none⟩) := hdep 2 rfl
      refine Drawn.wpOp_flow 21 rfl rfl rfl ?_
      have a0 := (HA.out.below hb).a0; have a1 := (HA.out.below hb).a1; have a2 := (HA.out.below hb).a2
      clear hev hdep hb
      go_simp
      exact ⟨_, rfl, rfl, Below.refl _ _⟩
    · have e4 : a.tmps[4]?.getD undef = .pointer (some ⟨w.heap.size + 1, 0, none⟩) := hev 4 rfl
      refine Drawn.wpOp_flow 22 rfl rfl rfl ?_
      clear hev hdep hb
      go_simp
      exact ⟨_, rfl, rfl, Below.refl _ _⟩
    · have d4 : a.tmps[22]?.getD undef = .pointer (some ⟨w.heap.size + 1, 2, none⟩) := hdep 4 rfl
      refine Drawn.wpOp_flow 23 rfl rfl rfl ?_
      have a0 := (HA.out.below hb).a0; have a1 := (HA.out.below hb).a1; have a2 := (HA.out.below hb).a2
      clear hev hdep hb
      go_simp
      exact ⟨_, rfl, rfl, Below.refl _ _⟩
    · have d1 : a.tmps[19]?.getD undef = .slice A1 dn c1 := hdep 1 rfl
      refine Drawn.wpOp_flow 7 rfl rfl rfl ?_
      clear hev hdep hb
      go_simp
      exact ⟨_, rfl, rfl, Below.refl _ _⟩
    · have d3 : a.tmps[21]?.getD undef = .slice A2 sn c2 := hdep 3 rfl
      refine Drawn.wpOp_flow 8 rfl rfl rfl ?_
      clear hev hdep hb
      go_simp
      exact ⟨_, rfl, rfl, Below.refl _ _⟩
    · have d5 : a.tmps[23]?.getD undef = .slice A3 tn c3 := hdep 5 rfl
      refine Drawn.wpOp_flow 9 rfl rfl rfl ?_
      clear hev hdep hb
      go_simp
      exact ⟨_, rfl, rfl, Below.refl _ _⟩
  · intro xq w1 hb hxq
    have vq0 : xq 0 = .pointer (some ⟨w.heap.size + 1, 0, none⟩) := hxq 0 (by omega)
    have vq1 : xq 1 = .slice A1 dn c1 := hxq 1 (by omega)
    have vq2 : xq 2 = .pointer (some ⟨w.heap.size + 1, 1, none⟩) := hxq 2 (by omega)
    have vq3 : xq 3 = .slice A2 sn c2 := hxq 3 (by omega)
    have vq4 : xq 4 = .pointer (some ⟨w.heap.size + 1, 2, none⟩) := hxq 4 (by omega)
    have vq5 : xq 5 = .slice A3 tn c3 := hxq 5 (by omega)
    have vq6 : xq 6 = .slice A1 dn c1 := hxq 6 (by omega)
    have vq7 : xq 7 = .slice A2 sn c2 := hxq 7 (by omega)
    have vq8 : xq 8 = .slice A3 tn c3 := hxq 8 (by omega)
    show Exit.then _ _ Exit.normal (Drawn.acts _ [(9, some (xq 8)), (8, some (xq 7)), (7, some (xq 6)), (23, some (xq 5)), (22, some (xq 4)), (21, some (xq 3)), (20, some (xq 2)), (19, some (xq 1)), (18, some (xq 0))]) _
    rw [vq0, vq1, vq2, vq3, vq4, vq5, vq6, vq7, vq8]
    clear hxq vq0 vq1 vq2 vq3 vq4 vq5 vq6 vq7 vq8
    clear xq
    simp only [Drawn.acts]
    go_simp
    have HB1 := Lib.hid (bstep HB0.out hb)
    have HA1 := Lib.hid (HA.out.below hb)
    clear hb
    go_at_K
    go_wp2_with fail
    refine Drawn.wp_region_flowL 6 [Drawn.SP.is (.pointer (some ⟨w.heap.size + 2, 0, none⟩)), Drawn.SP.is (.int .i64 t), Drawn.SP.is (.pointer (some ⟨w.heap.size + 2, 1, none⟩)), Drawn.SP.is (.int .i64 aq), Drawn.SP.is (.int .i64 t), Drawn.SP.is (.int .i64 aq)] (by kernel_rfl) (by kernel_rfl) ?_ ?_
    · intro i hi a w2 hb hev hdep
      rcases (show i = 0 ∨ i = 1 ∨ i = 2 ∨ i = 3 ∨ i = 4 ∨ i = 5 by omega) with rfl | rfl | rfl | rfl | rfl | rfl
      · have e5 : a.tmps[5]?.getD undef = .pointer (some ⟨w.heap.size + 2, 0, none⟩) := hev 5 rfl
        refine Drawn.wpOp_flow 24 rfl rfl rfl ?_
        clear hev hdep hb
        go_simp
        exact ⟨_, rfl, rfl, Below.refl _ _⟩
      · have d0 : a.tmps[24]?.getD undef = .pointer (some ⟨w.heap.size + 2, 0, none⟩) := hdep 0 rfl
        refine Drawn.wpOp_flow 25 rfl rfl rfl ?_
        have b0 := (HA1.out.below hb).b0; have b1 := (HA1.out.below hb).b1
        clear hev hdep hb
        go_simp
        exact ⟨_, rfl, rfl, Below.refl _ _⟩
      · have e5 : a.tmps[5]?.getD undef = .pointer (some ⟨w.heap.size + 2, 0, none⟩) := hev 5 rfl
        refine Drawn.wpOp_flow 26 rfl rfl rfl ?_
        clear hev hdep hb
        go_simp
        exact ⟨_, rfl, rfl, Below.refl _ _⟩
      · have d2 : a.tmps[26]?.getD undef = .pointer (some ⟨w.heap.size + 2, 1, none⟩) := hdep 2 rfl
        refine Drawn.wpOp_flow 27 rfl rfl rfl ?_
        have b0 := (HA1.out.below hb).b0; have b1 := (HA1.out.below hb).b1
        clear hev hdep hb
        go_simp
        exact ⟨_, rfl, rfl, Below.refl _ _⟩
      · have d1 : a.tmps[25]?.getD undef = .int .i64 t := hdep 1 rfl
        refine Drawn.wpOp_flow 10 rfl rfl rfl ?_
        clear hev hdep hb
        go_simp
        exact ⟨_, rfl, rfl, Below.refl _ _⟩
      · have d3 : a.tmps[27]?.getD undef = .int .i64 aq := hdep 3 rfl
        refine Drawn.wpOp_flow 11 rfl rfl rfl ?_
        clear hev hdep hb
        go_simp
        exact ⟨_, rfl, rfl, Below.refl _ _⟩
    · intro xq w2 hb hxq
      have vq0 : xq 0 = .pointer (some ⟨w.heap.size + 2, 0, none⟩) := hxq 0 (by omega)
      have vq1 : xq 1 = .int .i64 t := hxq 1 (by omega)
      have vq2 : xq 2 = .pointer (some ⟨w.heap.size + 2, 1, none⟩) := hxq 2 (by omega)
      have vq3 : xq 3 = .int .i64 aq := hxq 3 (by omega)
      have vq4 : xq 4 = .int .i64 t := hxq 4 (by omega)
      have vq5 : xq 5 = .int .i64 aq := hxq 5 (by omega)
      show Exit.then _ _ Exit.normal (Drawn.acts _ [(11, some (xq 5)), (10, some (xq 4)), (27, some (xq 3)), (26, some (xq 2)), (25, some (xq 1)), (24, some (xq 0))]) _
      rw [vq0, vq1, vq2, vq3, vq4, vq5]
      clear hxq vq0 vq1 vq2 vq3 vq4 vq5
      clear xq
      simp only [Drawn.acts]
      go_simp
      have HB2 := Lib.hid (bstep HB1.out hb)
      have HA2 := Lib.hid (HA1.out.below hb).plan
      clear hb
      go_at_K
      obtain ⟨p0, p1, p2, p3, p4, p5⟩ := six HA2.out
      go_wp2_with fail
      refine (H0.out _).mono ?_
      rintro e w3 ⟨rfl, hb3⟩
      clear p0 p1 p2 p3 p4 p5
      have HB3 := Lib.hid (bstep HB2.out hb3)
      have HA3 := Lib.hid (HA2.out.below hb3)
      clear hb3 HA HA1 HA2
      go_wp2_with fail
      refine (Gf.new_any w3).mono ?_
      rintro e w4 ⟨rfl, ht, hb4, _⟩
      have HT := Lib.hid ht
      have HB4 := Lib.hid (bstep HB3.out hb4)
      have HA4 := Lib.hid (HA3.out.below hb4)
      clear ht hb4
      go_wp2_with fail
      refine Drawn.wp_region_flowL 17 [Drawn.SP.is (.pointer (some ⟨w3.heap.size, 0, none⟩)), Drawn.SP.is (.agg #[.int .i64 N, .int .i64 T, .int .i64 L, .int .i64 W, .int .i64 S, .int .i64 R]), Drawn.SP.is (.slice A1 dn c1), Drawn.SP.is (.slice A2 sn c2), SP.bN [] 0, Drawn.SP.is (.pointer (some ⟨w3.heap.size, 0, none⟩)), Drawn.SP.is (.agg #[.int .i64 N, .int .i64 T, .int .i64 L, .int .i64 W, .int .i64 S, .int .i64 R]), Drawn.SP.is (.slice A2 sn c2), SP.bN [] 0, Drawn.SP.is (.pointer (some ⟨w3.heap.size, 0, none⟩)), Drawn.SP.is (.agg #[.int .i64 N, .int .i64 T, .int .i64 L, .int .i64 W, .int .i64 S, .int .i64 R]), Drawn.SP.is (.slice A2 sn c2), Drawn.SP.is (.int .i64 t), SP.bN [] 0, SP.bN [] 0, SP.bN [] 0, SP.bN [] 0] (by kernel_rfl) (by kernel_rfl) ?_ ?_
      · intro i hi a wq hb hev hdep
        rcases (show i = 0 ∨ i = 1 ∨ i = 2 ∨ i = 3 ∨ i = 4 ∨ i = 5 ∨ i = 6 ∨ i = 7 ∨ i = 8 ∨ i = 9 ∨ i = 10 ∨ i = 11 ∨ i = 12 ∨ i = 13 ∨ i = 14 ∨ i = 15 ∨ i = 16 by omega) with rfl | rfl | rfl | rfl | rfl | rfl | rfl | rfl | rfl | rfl | rfl | rfl | rfl | rfl | rfl | rfl | rfl
        · have e12 : a.tmps[12]?.getD undef = .pointer (some ⟨w3.heap.size, 0, none⟩) := hev 12 rfl
          refine Drawn.wpOp_flow 48 rfl rfl rfl ?_
          clear hev hdep hb
          go_simp
          exact ⟨_, rfl, rfl, Below.refl _ _⟩
        · have e3 : a.tmps[3]?.getD undef = .pointer (some ⟨w.heap.size, 0, none⟩) := hev 3 rfl
          refine Drawn.wpOp_flow 49 rfl rfl rfl ?_
          obtain ⟨p0, p1, p2, p3, p4, p5⟩ := six (HA4.out.below hb)
          clear hev hdep hb
          go_simp
          exact ⟨_, rfl, rfl, Below.refl _ _⟩
        · have e7 : a.tmps[7]?.getD undef = .slice A1 dn c1 := hev 7 rfl
          refine Drawn.wpOp_flow 50 rfl rfl rfl ?_
          clear hev hdep hb
          go_simp
          exact ⟨_, rfl, rfl, Below.refl _ _⟩
        · have e8 : a.tmps[8]?.getD undef = .slice A2 sn c2 := hev 8 rfl
          refine Drawn.wpOp_flow 51 rfl rfl rfl ?_
          clear hev hdep hb
          go_simp
          exact ⟨_, rfl, rfl, Below.refl _ _⟩
        · have d0 : a.tmps[48]?.getD undef = .pointer (some ⟨w3.heap.size, 0, none⟩) := hdep 0 rfl
          have d1 : a.tmps[49]?.getD undef = .agg #[.int .i64 N, .int .i64 T, .int .i64 L, .int .i64 W, .int .i64 S, .int .i64 R] := hdep 1 rfl
          have d2 : a.tmps[50]?.getD undef = .slice A1 dn c1 := hdep 2 rfl
          have d3 : a.tmps[51]?.getD undef = .slice A2 sn c2 := hdep 3 rfl
          refine Drawn.wpOp_flow 52 rfl rfl rfl ?_
          clear hev hdep
          have C := HD.out _ wq (HT.out.below hb) (D.out.below (bstep HB4.out hb)) (SH.out.below (bstep HB4.out hb))
          clear hb
          go_simp
          refine C.mono ?_
          rintro e w' ⟨X, d, rfl, g3, hb'⟩
          exact ⟨_, rfl, ⟨X, d, rfl, g3⟩, hb'⟩
        · have e12 : a.tmps[12]?.getD undef = .pointer (some ⟨w3.heap.size, 0, none⟩) := hev 12 rfl
          refine Drawn.wpOp_flow 53 rfl rfl rfl ?_
          clear hev hdep hb
          go_simp
          exact ⟨_, rfl, rfl, Below.refl _ _⟩
        · have e3 : a.tmps[3]?.getD undef = .pointer (some ⟨w.heap.size, 0, none⟩) := hev 3 rfl
          refine Drawn.wpOp_flow 54 rfl rfl rfl ?_
          obtain ⟨p0, p1, p2, p3, p4, p5⟩ := six (HA4.out.below hb)
          clear hev hdep hb
          go_simp
          exact ⟨_, rfl, rfl, Below.refl _ _⟩
        · have e8 : a.tmps[8]?.getD undef = .slice A2 sn c2 := hev 8 rfl
          refine Drawn.wpOp_flow 55 rfl rfl rfl ?_
          clear hev hdep hb
          go_simp
          exact ⟨_, rfl, rfl, Below.refl _ _⟩
        · have d5 : a.tmps[53]?.getD undef = .pointer (some ⟨w3.heap.size, 0, none⟩) := hdep 5 rfl
          have d6 : a.tmps[54]?.getD undef = .agg #[.int .i64 N, .int .i64 T, .int .i64 L, .int .i64 W, .int .i64 S, .int .i64 R] := hdep 6 rfl
          have d7 : a.tmps[55]?.getD undef = .slice A2 sn c2 := hdep 7 rfl
          refine Drawn.wpOp_flow 56 rfl rfl rfl ?_
          clear hev hdep
          have C := HZ.out _ wq (HT.out.below hb) (SH.out.below (bstep HB4.out hb))
          clear hb
          go_simp
          refine C.mono ?_
          rintro e w' ⟨X, d, rfl, g3, hb'⟩
          exact ⟨_, rfl, ⟨X, d, rfl, g3⟩, hb'⟩
        · have e12 : a.tmps[12]?.getD undef = .pointer (some ⟨w3.heap.size, 0, none⟩) := hev 12 rfl
          refine Drawn.wpOp_flow 57 rfl rfl rfl ?_
          clear hev hdep hb
          go_simp
          exact ⟨_, rfl, rfl, Below.refl _ _⟩
        · have e3 : a.tmps[3]?.getD undef = .pointer (some ⟨w.heap.size, 0, none⟩) := hev 3 rfl
          refine Drawn.wpOp_flow 58 rfl rfl rfl ?_
          obtain ⟨p0, p1, p2, p3, p4, p5⟩ := six (HA4.out.below hb)
          clear hev hdep hb
          go_simp
          exact ⟨_, rfl, rfl, Below.refl _ _⟩
        · have e8 : a.tmps[8]?.getD undef = .slice A2 sn c2 := hev 8 rfl
          refine Drawn.wpOp_flow 59 rfl rfl rfl ?_
          clear hev hdep hb
          go_simp
          exact ⟨_, rfl, rfl, Below.refl _ _⟩
        · have e10 : a.tmps[10]?.getD undef = .int .i64 t := hev 10 rfl
          refine Drawn.wpOp_flow 60 rfl rfl rfl ?_
          clear hev hdep hb
          go_simp
          exact ⟨_, rfl, rfl, Below.refl _ _⟩
        · have d9 : a.tmps[57]?.getD undef = .pointer (some ⟨w3.heap.size, 0, none⟩) := hdep 9 rfl
          have d10 : a.tmps[58]?.getD undef = .agg #[.int .i64 N, .int .i64 T, .int .i64 L, .int .i64 W, .int .i64 S, .int .i64 R] := hdep 10 rfl
          have d11 : a.tmps[59]?.getD undef = .slice A2 sn c2 := hdep 11 rfl
          have d12 : a.tmps[60]?.getD undef = .int .i64 t := hdep 12 rfl
          refine Drawn.wpOp_flow 61 rfl rfl rfl ?_
          clear hev hdep
          have C := HBL.out _ wq (HT.out.below hb) (SH.out.below (bstep HB4.out hb))
          clear hb
          go_simp
          refine C.mono ?_
          rintro e w' ⟨X, d, rfl, g3, hb'⟩
          exact ⟨_, rfl, ⟨X, d, rfl, g3⟩, hb'⟩
        · have d4 := hdep 4 rfl
          refine Drawn.wpOp_flow 13 rfl rfl rfl ?_
          clear hev hdep hb
          go_simp
          exact ⟨_, rfl, d4, Below.refl _ _⟩
        · have d8 := hdep 8 rfl
          refine Drawn.wpOp_flow 14 rfl rfl rfl ?_
          clear hev hdep hb
          go_simp
          exact ⟨_, rfl, d8, Below.refl _ _⟩
        · have d13 := hdep 13 rfl
          refine Drawn.wpOp_flow 15 rfl rfl rfl ?_
          clear hev hdep hb
          go_simp
          exact ⟨_, rfl, d13, Below.refl _ _⟩
      · intro xq wq hb hxq
        have vq0 : xq 0 = .pointer (some ⟨w3.heap.size, 0, none⟩) := hxq 0 (by omega)
        have vq1 : xq 1 = .agg #[.int .i64 N, .int .i64 T, .int .i64 L, .int .i64 W, .int .i64 S, .int .i64 R] := hxq 1 (by omega)
        have vq2 : xq 2 = .slice A1 dn c1 := hxq 2 (by omega)
        have vq3 : xq 3 = .slice A2 sn c2 := hxq 3 (by omega)
        have vq5 : xq 5 = .pointer (some ⟨w3.heap.size, 0, none⟩) := hxq 5 (by omega)
        have vq6 : xq 6 = .agg #[.int .i64 N, .int .i64 T, .int .i64 L, .int .i64 W, .int .i64 S, .int .i64 R] := hxq 6 (by omega)
        have vq7 : xq 7 = .slice A2 sn c2 := hxq 7 (by omega)
        have vq9 : xq 9 = .pointer (some ⟨w3.heap.size, 0, none⟩) := hxq 9 (by omega)
        have vq10 : xq 10 = .agg #[.int .i64 N, .int .i64 T, .int .i64 L, .int .i64 W, .int .i64 S, .int .i64 R] := hxq 10 (by omega)
        have vq11 : xq 11 = .slice A2 sn c2 := hxq 11 (by omega)
        have vq12 : xq 12 = .int .i64 t := hxq 12 (by omega)
        obtain ⟨Xd, dd, vq14, xd⟩ : (SP.bN [] 0).p (xq 14) wq := hxq 14 (by omega)
        obtain ⟨Xz, dz, vq15, xz⟩ : (SP.bN [] 0).p (xq 15) wq := hxq 15 (by omega)
        obtain ⟨Xb, db, vq16, xb⟩ : (SP.bN [] 0).p (xq 16) wq := hxq 16 (by omega)
        show Exit.then _ _ Exit.normal (Drawn.acts _ [(15, some (xq 16)), (14, some (xq 15)), (13, some (xq 14)), (61, some (xq 13)), (60, some (xq 12)), (59, some (xq 11)), (58, some (xq 10)), (57, some (xq 9)), (56, some (xq 8)), (55, some (xq 7)), (54, some (xq 6)), (53, some (xq 5)), (52, some (xq 4)), (51, some (xq 3)), (50, some (xq 2)), (49, some (xq 1)), (48, some (xq 0))]) _
        rw [vq0, vq1, vq2, vq3, vq5, vq6, vq7, vq9, vq10, vq11, vq12, vq14, vq15, vq16]
        clear hxq vq0 vq1 vq2 vq3 vq5 vq6 vq7 vq9 vq10 vq11 vq12 vq14 vq15 vq16
        generalize xq 4 = yq4
        generalize xq 8 = yq8
        generalize xq 13 = yq13
        clear xq
        simp only [Drawn.acts]
        go_simp
        have HB5 := Lib.hid (bstep HB4.out hb)
        have HA5 := Lib.hid (HA4.out.below hb)
        have HXD := Lib.hid xd; have HXZ := Lib.hid xz; have HXB := Lib.hid xb
        have HTP := Lib.hid (TP.out.below HB5.out)
        have HOE := Lib.hid (Own.empty wq wq.heap.size (Nat.le_refl _))
        clear xd xz xb hb HA3 HA4
        go_at_K
        go_wp2_with (at_builtin; refine wpList_append_bytes rfl _ _ rfl wq.heap.size _ [] tape rfl HOE.out A3 tn c3 rfl HTN.out (HTP.out.below (balloc _ _)) (by simp; have := HTN.out; omega) (by simp) ?_; intro v6 w6 ho6 hb6; have HO6 := Lib.hid ho6; have HB6 := Lib.hid (show Below wq.heap.size wq w6 from (balloc wq _).trans hb6); clear ho6 hb6)
        have ho := HO6.out
        rw [List.nil_append] at ho
        obtain ⟨X6, c6, hv6, _, _, _⟩ := ho.bytes
        rw [← HTN.out] at hv6
        subst hv6
        have HO6' := Lib.hid ho
        clear ho HO6 HOE
        go_loopw [67] (fun i wr => ∃ k : Nat, k ≤ sn ∧ i = .int .i64 k ∧ Own wr wq.heap.size (.slice X6 tn c6) (apply tape aq (sh.take k)) ∧ Below wq.heap.size wq wr) (fun i _ => sn - (intOf i).toNat)
        case atStart => exact ⟨0, Nat.zero_le _, rfl, by rw [HAP0.out]; exact HO6'.out, HB6.out⟩
        case round =>
          obtain ⟨k, hk, rfl, hO, hbr⟩ := hrel
          rename World => wr
          by_cases hlt : k < sn
          · by_cases hin : 0 ≤ aq ∧ aq + k < (tn : Int)
            · obtain ⟨y, hy⟩ : ∃ y : Nat, aq + k = y := ⟨(aq + k).toNat, by omega⟩
              obtain ⟨g, c7, e, hg, hgl, s1, s2, s3⟩ := hO.place (i := y) (by rw [HAL.out]; omega)
              injection e with e1 e2 e3
              subst e1; subst e3
              obtain ⟨b2, o2, rfl, f2⟩ := (SH.out.below (bstep HB5.out hbr)) k (by have := HSN.out; omega)
              have hst := HAS.out k y (by have := HSN.out; omega) hin.1 (by omega) hy (by rw [HAL.out]; omega) (by have := HSN.out; omega)
              have h3 := s3 0 (GfM.add ((apply tape aq (sh.take k))[y]'(by rw [HAL.out]; omega)) (sh[k]'(by have := HSN.out; omega)))
              rw [hst] at h3
              have HO3 := Lib.hid (show Own (wr.setCell _ _) _ _ _ from h3)
              generalize (apply tape aq (sh.take k))[y]'(by rw [HAL.out]; omega) = u at *
              generalize sh[k]'(by have := HSN.out; omega) = z at *
              have i1 : IntKind.i64.wrap (aq + (k : Int)) = (y : Int) := by rw [hy]; exact IntWalk.i64_in _ (by omega)
              have i2 : IntKind.i64.wrap ((tn : Int) - k) = (tn : Int) - k := IntWalk.i64_in _ (by omega)
              have j1 : 0 ≤ aq := hin.1
              have j2 : aq < (tn : Int) - k := by omega
              have j3 : y < tn := by omega
              have HBS := Lib.hid (fun v => hbr.setCell (p := ⟨g, y, none⟩) hg v)
              clear hO hbr s3 hst h3 e2 hin hy
              go_wp2
              go_region
              all_goals
                go_wp2
                go_roundw
                case rel => exact ⟨k + 1, by omega, by go_num, HO3.out, by first | exact HBS.out _ | exact below_drewN (HBS.out _) 1⟩
                case measure => simp [intOf] <;> omega
            · have hsa := HSM.out k hlt hin
              have HSA := Lib.hid hsa
              have HOO := Lib.hid hO
              have i2 : IntKind.i64.wrap ((tn : Int) - k) = (tn : Int) - k := IntWalk.i64_in _ (by omega)
              clear hsa hO
              by_cases j1 : 0 ≤ aq
              · have j2 : ¬ aq < (tn : Int) - k := by omega
                clear hin
                go_wp2
                go_roundw
                case rel => exact ⟨k + 1, by omega, by go_num, by rw [← HSA.out]; exact HOO.out, hbr⟩
                case measure => simp [intOf] <;> omega
              · clear hin
                go_wp2
                go_roundw
                case rel => exact ⟨k + 1, by omega, by go_num, by rw [← HSA.out]; exact HOO.out, hbr⟩
                case measure => simp [intOf] <;> omega
          · obtain rfl : k = sn := by omega
            rw [HTK.out] at hO
            obtain ⟨X7, c7, e7, _, _, hX7⟩ := hO.bytes
            rw [HALL.out] at e7
            injection e7 with e1 e2 e3
            subst e1; subst e3
            have HX7 := Lib.hid hX7
            have HB7 := Lib.hid (bstep HB5.out hbr)
            have HA7 := Lib.hid (HA5.out.below hbr)
            replace HXD := Lib.hid (HXD.out.below hbr); replace HXZ := Lib.hid (HXZ.out.below hbr); replace HXB := Lib.hid (HXB.out.below hbr)
            clear hO hX7 e2 hbr
            go_wp2_with fail
            refine (HAPP.out wr (TP.out.below HB7.out) (SH.out.below HB7.out)).mono ?_
            rintro e w8 ⟨X8, c8, rfl, hX8, hb8⟩
            have C := same_yes X8 _ (apply tape aq sh) tn HALL.out.symm c8 c6 w8 hX8 (HX7.out.below hb8) HMT.out
            have HC := Lib.hid C
            have HB8 := Lib.hid (bstep HB7.out hb8)
            have HA8 := Lib.hid (HA7.out.below hb8)
            replace HXD := Lib.hid (HXD.out.below hb8); replace HXZ := Lib.hid (HXZ.out.below hb8); replace HXB := Lib.hid (HXB.out.below hb8)
            clear C hb8 hX8
            go_wp2_with fail
            refine HC.out.mono ?_
            rintro e w9 ⟨rfl, hb9⟩
            have HB9 := Lib.hid (bstep HB8.out hb9)
            have HA9 := Lib.hid (HA8.out.below hb9)
            replace HXD := Lib.hid (HXD.out.below hb9); replace HXZ := Lib.hid (HXZ.out.below hb9); replace HXB := Lib.hid (HXB.out.below hb9)
            clear HC hb9 HA5 HA7 HA8
            obtain ⟨p0, p1, p2, p3, p4, p5⟩ := six HA9.out
            go_wp2_with fail
            refine (HR.out _).mono ?_
            rintro e w10 ⟨rfl, hb10⟩
            clear p0 p1 p2 p3 p4 p5
            have HB10 := Lib.hid (bstep HB9.out hb10)
            have HA10 := Lib.hid (HA9.out.below hb10)
            replace HXD := Lib.hid (HXD.out.below hb10); replace HXZ := Lib.hid (HXZ.out.below hb10); replace HXB := Lib.hid (HXB.out.below hb10)
            clear hb10 HA9
            go_wp2_with fail
            refine (alive_any _).mono ?_
            rintro e w9 ⟨rfl, hb9⟩
            go_wp2
            go_ret
            exact ⟨rfl, bstep HB10.out hb9⟩

set_option maxHeartbeats 8000000 in
theorem masks_in (W S R t aq : Int) (n0 t0 l0 : Nat) (A1 A2 A3 : Option Addr) (delta sh tape : List UInt8) (c1 c2 c3 : Nat) (w : World) (hp : (⟨n0, t0, l0, W, S, R⟩ : P).In) (h1 : BytesAt w A1 delta) (h2 : BytesAt w A2 sh) (h3 : BytesAt w A3 tape) (hd : delta.length ≤ 20) (hs : sh.length ≤ 30) (htl : tape.length ≤ 60) (hti : In64 t) (hai : In64 aq) (hl : (n0 : Int) ≤ 12 ∧ (l0 : Int) ≤ 12 ∧ (t0 : Int) ≤ 12) (hM : (⟨n0, t0, l0, W, S, R⟩ : P).May) (his : P.is ⟨n0, t0, l0, W, S, R⟩ t = true) :
    Calls Try.prog 4 #[.agg #[.int .i64 (n0 : Nat), .int .i64 (t0 : Nat), .int .i64 (l0 : Nat), .int .i64 W, .int .i64 S, .int .i64 R], .agg #[.slice A1 delta.length c1, .slice A2 sh.length c2, .slice A3 tape.length c3], .agg #[.int .i64 t, .int .i64 aq]] w fun e w' => e = .returned (.bool true) ∧ Below w.heap.size w w' := by
  have K0 := fun w => Law10.light_any n0 t0 l0 W S R w
  rw [decide_eq_true hl] at K0
  have H0 := Lib.hid K0
  have KD := fun bf V ht h1 h2 => Mask.deal_any bf ⟨n0, t0, l0, W, S, R⟩ A1 A2 delta sh c1 c2 V hp ht h1 h2 (by omega)
  have KZ := fun bf V ht h2 => Mask.zero_any bf ⟨n0, t0, l0, W, S, R⟩ A2 sh c2 V hp ht h2 (by omega)
  have KB := fun bf V ht h2 => Mask.blind_any bf ⟨n0, t0, l0, W, S, R⟩ A2 sh c2 t V hp hti ht h2 (by omega)
  have KA := fun V h3 h2 => Mask.apply_any A3 A2 tape sh aq c3 c2 V h3 h2 (by omega) (by omega) hai
  have KR := fun V => R08.right_any ⟨n0, t0, l0, W, S, R⟩ V hp
  simp only [P.val] at KD KZ KB KR
  unfold Mask.RetB at KD KZ KB
  unfold RetNew at KA
  have HAPP0 := fun V h3 h2 => (KA V h3 h2).mono fun e w' h => (show ∃ X d, e = .returned (.slice X (apply tape aq sh).length d) ∧ BytesAt w' X (apply tape aq sh) ∧ Below V.heap.size V w' from by obtain ⟨X, d, g1, _, _, g2, g3, _⟩ := h; exact ⟨X, d, g1, g2, g3⟩)
  rw [apply_len] at HAPP0
  have HAP0 := Lib.hid (apply_zero tape aq sh)
  have HAL := Lib.hid (fun k => apply_len tape aq (sh.take k))
  have HALL := Lib.hid (apply_len tape aq sh)
  have HTK : Hid (apply tape aq (sh.take sh.length) = apply tape aq sh) := Lib.hid (by rw [List.take_length])
  have HSM := Lib.hid (fun k (hk : k < sh.length) (hn : ¬ (0 ≤ aq ∧ aq + k < (tape.length : Int))) => apply_same tape sh aq k hk hn)
  have HAS : Hid (∀ (k y : Nat), k < sh.length → 0 ≤ aq → aq + k < (tape.length : Int) → aq + k = (y : Int) → ∀ (g1 : y < (apply tape aq (sh.take k)).length) (g2 : k < sh.length), (apply tape aq (sh.take k)).set y (GfM.add ((apply tape aq (sh.take k))[y]'g1) (sh[k]'g2)) = apply tape aq (sh.take (k + 1))) := Lib.hid (fun k y hk h0 hlt hy g1 g2 => by
    obtain ⟨a', rfl⟩ : ∃ a' : Nat, aq = a' := ⟨aq.toNat, by omega⟩
    obtain rfl : y = a' + k := by omega
    have := apply_step tape sh a' k hk (by omega)
    rw [PolyM.co_get _ _ g1] at this
    exact this)
  have HMT : Hid (tape.length ≤ maxLen) := Lib.hid (by unfold maxLen; omega)
  obtain ⟨dn, hdn⟩ : ∃ dn, dn = delta.length := ⟨_, rfl⟩
  obtain ⟨sn, hsn⟩ : ∃ sn, sn = sh.length := ⟨_, rfl⟩
  obtain ⟨tn, htn⟩ : ∃ tn, tn = tape.length := ⟨_, rfl⟩
  have HSN := Lib.hid hsn; have HTN := Lib.hid htn
  have hrn := P.right_yes hM
  have KI := fun V => R08.is_any ⟨n0, t0, l0, W, S, R⟩ t V
  have KRD := fun V h1 h2 => R14.deal_any W S R n0 t0 l0 A1 A2 delta sh c1 c2 V hM h1 h2 (by omega) (by omega)
  have KRZ := fun V h2 => R14.zero_any W S R n0 t0 l0 A2 sh c2 V hM h2 (by omega)
  have KRB := fun V h2 => R14.blind_any W S R n0 t0 l0 A2 sh c2 t V hM h2 (by omega)
  have e1 : Mask.dealA ⟨n0, t0, l0, W, S, R⟩ delta sh = mdeal ⟨n0, t0, l0, W, S, R⟩ delta sh := by unfold Mask.dealA; rw [hrn, if_pos rfl]
  have e2 : Mask.zeroA ⟨n0, t0, l0, W, S, R⟩ sh = mzero ⟨n0, t0, l0, W, S, R⟩ sh := by unfold Mask.zeroA; rw [hrn, if_pos rfl]
  have e3 : Mask.blindA ⟨n0, t0, l0, W, S, R⟩ sh t = mblind ⟨n0, t0, l0, W, S, R⟩ sh t := by unfold Mask.blindA P.isA; rw [hrn, his]; rfl
  have l1 : (mdeal ⟨n0, t0, l0, W, S, R⟩ delta sh).length = t0 := sized_len _ _
  have l2 : (mzero ⟨n0, t0, l0, W, S, R⟩ sh).length = t0 := sized_len _ _
  have hM' := hM
  unfold P.May at hM'
  simp only at hM'
  obtain ⟨wd, hwd⟩ : ∃ wd : Nat, (t0 : Int) + l0 - 1 = wd := ⟨((t0 : Int) + l0 - 1).toNat, by omega⟩
  have l3 : (mblind ⟨n0, t0, l0, W, S, R⟩ sh t).length = wd := by unfold mblind; rw [sized_len]; unfold width; simp only; omega
  have hwp : 0 < wd := by omega
  rw [e1] at KD; rw [e2] at KZ; rw [e3] at KB; rw [hrn] at KR; rw [his] at KI
  simp only [P.val] at KI
  unfold R14.RetB at KRD KRZ KRB
  generalize mdeal ⟨n0, t0, l0, W, S, R⟩ delta sh = da at *
  generalize mzero ⟨n0, t0, l0, W, S, R⟩ sh = ze at *
  generalize mblind ⟨n0, t0, l0, W, S, R⟩ sh t = bl at *
  rw [l1] at KD KRD
  rw [l2] at KZ KRZ
  rw [l3] at KB KRB
  obtain ⟨dan, hdan⟩ : ∃ dan, dan = t0 := ⟨_, rfl⟩
  have HLD : Hid (t0 = da.length) := Lib.hid l1.symm
  have HLZ : Hid (t0 = ze.length) := Lib.hid l2.symm
  have HLB : Hid (wd = bl.length) := Lib.hid l3.symm
  have HMD : Hid (t0 ≤ maxLen) := Lib.hid (by unfold maxLen; omega)
  have HMZ : Hid (t0 ≤ maxLen) := Lib.hid (by unfold maxLen; omega)
  have HMB : Hid (wd ≤ maxLen) := Lib.hid (by unfold maxLen; omega)
  rw [← hdn] at KD KRD hd ⊢
  rw [← hsn] at KD KZ KB KRD KRZ KRB HAPP0 HTK HSM hs ⊢
  rw [← htn] at HAPP0 HAL HALL HSM HAS HMT htl ⊢
  have HD := Lib.hid KD; have HZ := Lib.hid KZ; have HBL := Lib.hid KB; have HAPP := Lib.hid HAPP0; have HR := Lib.hid KR
  have HIS := Lib.hid KI; have HRD := Lib.hid KRD; have HRZ := Lib.hid KRZ; have HRB := Lib.hid KRB
  have D := Lib.hid h1; have SH := Lib.hid h2; have TP := Lib.hid h3
  clear K0 KD KZ KB KA KR KI KRD KRZ KRB HAPP0 h1 h2 h3 hl hp hM hM' hti hrn e1 e2 e3 l1 l2 l3 hdn hsn htn his hwd hdan
  have HA := Lib.hid (LiesM.new w n0 t0 l0 W S R (.slice A1 dn c1) (.slice A2 sn c2) (.slice A3 tn c3) (.int .i64 t) (.int .i64 aq) 40 41)
  have HB0 := Lib.hid (show Below w.heap.size w (((w.alloc (.cells #[.int .i64 (n0 : Nat), .int .i64 (t0 : Nat), .int .i64 (l0 : Nat), .int .i64 W, .int .i64 S, .int .i64 R] 23)).alloc (.cells #[.slice A1 dn c1, .slice A2 sn c2, .slice A3 tn c3] 40)).alloc (.cells #[.int .i64 t, .int .i64 aq] 41)) from bstep (bstep (balloc _ _) (balloc _ _)) (balloc _ _))
  go_enter Try.func4, Try.ntmps4
  go_wp2_with fail
  generalize ((w.alloc (.cells #[.int .i64 (n0 : Nat), .int .i64 (t0 : Nat), .int .i64 (l0 : Nat), .int .i64 W, .int .i64 S, .int .i64 R] 23)).alloc (.cells #[.slice A1 dn c1, .slice A2 sn c2, .slice A3 tn c3] 40)).alloc (.cells #[.int .i64 t, .int .i64 aq] 41) = w0 at *
  refine Drawn.wp_region_flowL 9 [Drawn.SP.is (.pointer (some ⟨w.heap.size + 1, 0, none⟩)), Drawn.SP.is (.slice A1 dn c1), Drawn.SP.is (.pointer (some ⟨w.heap.size + 1, 1, none⟩)), Drawn.SP.is (.slice A2 sn c2), Drawn.SP.is (.pointer (some ⟨w.heap.size + 1, 2, none⟩)), Drawn.SP.is (.slice A3 tn c3), Drawn.SP.is (.slice A1 dn c1), Drawn.SP.is (.slice A2 sn c2), Drawn.SP.is (.slice A3 tn c3)] (by kernel_rfl) (by kernel_rfl) ?_ ?_
  · intro i hi a w1 hb hev hdep
    rcases (show i = 0 ∨ i = 1 ∨ i = 2 ∨ i = 3 ∨ i = 4 ∨ i = 5 ∨ i = 6 ∨ i = 7 ∨ i = 8 by omega) with rfl | rfl | rfl | rfl | rfl | rfl | rfl | rfl | rfl
    · have e4 : a.tmps[4]?.getD undef = .pointer (some ⟨w.heap.size + 1, 0, none⟩) := hev 4 rfl
      refine Drawn.wpOp_flow 18 rfl rfl rfl ?_
      clear hev hdep hb
      go_simp
      exact ⟨_, rfl, rfl, Below.refl _ _⟩
    · have d0 : a.tmps[18]?.getD undef = .pointer (some ⟨w.heap.size + 1, 0, none⟩) := hdep 0 rfl
      refine Drawn.wpOp_flow 19 rfl rfl rfl ?_
      have a0 := (HA.out.below hb).a0; have a1 := (HA.out.below hb).a1; have a2 := (HA.out.below hb).a2
      clear hev hdep hb
      go_simp
      exact ⟨_, rfl, rfl, Below.refl _ _⟩
    · have e4 : a.tmps[4]?.getD undef = .pointer (some ⟨w.heap.size + 1, 0, none⟩) := hev 4 rfl
      refine Drawn.wpOp_flow 20 rfl rfl rfl ?_
      clear hev hdep hb
      go_simp
      exact ⟨_, rfl, rfl, Below.refl _ _⟩
    · have d2 : a.tmps[20]?.getD undef = .pointer (some ⟨w.heap.size + 1, 1, none⟩) := hdep 2 rfl
      refine Drawn.wpOp_flow 21 rfl rfl rfl ?_
      have a0 := (HA.out.below hb).a0; have a1 := (HA.out.below hb).a1; have a2 := (HA.out.below hb).a2
      clear hev hdep hb
      go_simp
      exact ⟨_, rfl, rfl, Below.refl _ _⟩
    · have e4 : a.tmps[4]?.getD undef = .pointer (some ⟨w.heap.size + 1, 0, none⟩) := hev 4 rfl
      refine Drawn.wpOp_flow 22 rfl rfl rfl ?_
      clear hev hdep hb
      go_simp
      exact ⟨_, rfl, rfl, Below.refl _ _⟩
    · have d4 : a.tmps[22]?.getD undef = .pointer (some ⟨w.heap.size + 1, 2, none⟩) := hdep 4 rfl
      refine Drawn.wpOp_flow 23 rfl rfl rfl ?_
      have a0 := (HA.out.below hb).a0; have a1 := (HA.out.below hb).a1; have a2 := (HA.out.below hb).a2
      clear hev hdep hb
      go_simp
      exact ⟨_, rfl, rfl, Below.refl _ _⟩
    · have d1 : a.tmps[19]?.getD undef = .slice A1 dn c1 := hdep 1 rfl
      refine Drawn.wpOp_flow 7 rfl rfl rfl ?_
      clear hev hdep hb
      go_simp
      exact ⟨_, rfl, rfl, Below.refl _ _⟩
    · have d3 : a.tmps[21]?.getD undef = .slice A2 sn c2 := hdep 3 rfl
      refine Drawn.wpOp_flow 8 rfl rfl rfl ?_
      clear hev hdep hb
      go_simp
      exact ⟨_, rfl, rfl, Below.refl _ _⟩
    · have d5 : a.tmps[23]?.getD undef = .slice A3 tn c3 := hdep 5 rfl
      refine Drawn.wpOp_flow 9 rfl rfl rfl ?_
      clear hev hdep hb
      go_simp
      exact ⟨_, rfl, rfl, Below.refl _ _⟩
  · intro xq w1 hb hxq
    have vq0 : xq 0 = .pointer (some ⟨w.heap.size + 1, 0, none⟩) := hxq 0 (by omega)
    have vq1 : xq 1 = .slice A1 dn c1 := hxq 1 (by omega)
    have vq2 : xq 2 = .pointer (some ⟨w.heap.size + 1, 1, none⟩) := hxq 2 (by omega)
    have vq3 : xq 3 = .slice A2 sn c2 := hxq 3 (by omega)
    have vq4 : xq 4 = .pointer (some ⟨w.heap.size + 1, 2, none⟩) := hxq 4 (by omega)
    have vq5 : xq 5 = .slice A3 tn c3 := hxq 5 (by omega)
    have vq6 : xq 6 = .slice A1 dn c1 := hxq 6 (by omega)
    have vq7 : xq 7 = .slice A2 sn c2 := hxq 7 (by omega)
    have vq8 : xq 8 = .slice A3 tn c3 := hxq 8 (by omega)
    show Exit.then _ _ Exit.normal (Drawn.acts _ [(9, some (xq 8)), (8, some (xq 7)), (7, some (xq 6)), (23, some (xq 5)), (22, some (xq 4)), (21, some (xq 3)), (20, some (xq 2)), (19, some (xq 1)), (18, some (xq 0))]) _
    rw [vq0, vq1, vq2, vq3, vq4, vq5, vq6, vq7, vq8]
    clear hxq vq0 vq1 vq2 vq3 vq4 vq5 vq6 vq7 vq8
    clear xq
    simp only [Drawn.acts]
    go_simp
    have HB1 := Lib.hid (bstep HB0.out hb)
    have HA1 := Lib.hid (HA.out.below hb)
    clear hb
    go_at_K
    go_wp2_with fail
    refine Drawn.wp_region_flowL 6 [Drawn.SP.is (.pointer (some ⟨w.heap.size + 2, 0, none⟩)), Drawn.SP.is (.int .i64 t), Drawn.SP.is (.pointer (some ⟨w.heap.size + 2, 1, none⟩)), Drawn.SP.is (.int .i64 aq), Drawn.SP.is (.int .i64 t), Drawn.SP.is (.int .i64 aq)] (by kernel_rfl) (by kernel_rfl) ?_ ?_
    · intro i hi a w2 hb hev hdep
      rcases (show i = 0 ∨ i = 1 ∨ i = 2 ∨ i = 3 ∨ i = 4 ∨ i = 5 by omega) with rfl | rfl | rfl | rfl | rfl | rfl
      · have e5 : a.tmps[5]?.getD undef = .pointer (some ⟨w.heap.size + 2, 0, none⟩) := hev 5 rfl
        refine Drawn.wpOp_flow 24 rfl rfl rfl ?_
        clear hev hdep hb
        go_simp
        exact ⟨_, rfl, rfl, Below.refl _ _⟩
      · have d0 : a.tmps[24]?.getD undef = .pointer (some ⟨w.heap.size + 2, 0, none⟩) := hdep 0 rfl
        refine Drawn.wpOp_flow 25 rfl rfl rfl ?_
        have b0 := (HA1.out.below hb).b0; have b1 := (HA1.out.below hb).b1
        clear hev hdep hb
        go_simp
        exact ⟨_, rfl, rfl, Below.refl _ _⟩
      · have e5 : a.tmps[5]?.getD undef = .pointer (some ⟨w.heap.size + 2, 0, none⟩) := hev 5 rfl
        refine Drawn.wpOp_flow 26 rfl rfl rfl ?_
        clear hev hdep hb
        go_simp
        exact ⟨_, rfl, rfl, Below.refl _ _⟩
      · have d2 : a.tmps[26]?.getD undef = .pointer (some ⟨w.heap.size + 2, 1, none⟩) := hdep 2 rfl
        refine Drawn.wpOp_flow 27 rfl rfl rfl ?_
        have b0 := (HA1.out.below hb).b0; have b1 := (HA1.out.below hb).b1
        clear hev hdep hb
        go_simp
        exact ⟨_, rfl, rfl, Below.refl _ _⟩
      · have d1 : a.tmps[25]?.getD undef = .int .i64 t := hdep 1 rfl
        refine Drawn.wpOp_flow 10 rfl rfl rfl ?_
        clear hev hdep hb
        go_simp
        exact ⟨_, rfl, rfl, Below.refl _ _⟩
      · have d3 : a.tmps[27]?.getD undef = .int .i64 aq := hdep 3 rfl
        refine Drawn.wpOp_flow 11 rfl rfl rfl ?_
        clear hev hdep hb
        go_simp
        exact ⟨_, rfl, rfl, Below.refl _ _⟩
    · intro xq w2 hb hxq
      have vq0 : xq 0 = .pointer (some ⟨w.heap.size + 2, 0, none⟩) := hxq 0 (by omega)
      have vq1 : xq 1 = .int .i64 t := hxq 1 (by omega)
      have vq2 : xq 2 = .pointer (some ⟨w.heap.size + 2, 1, none⟩) := hxq 2 (by omega)
      have vq3 : xq 3 = .int .i64 aq := hxq 3 (by omega)
      have vq4 : xq 4 = .int .i64 t := hxq 4 (by omega)
      have vq5 : xq 5 = .int .i64 aq := hxq 5 (by omega)
      show Exit.then _ _ Exit.normal (Drawn.acts _ [(11, some (xq 5)), (10, some (xq 4)), (27, some (xq 3)), (26, some (xq 2)), (25, some (xq 1)), (24, some (xq 0))]) _
      rw [vq0, vq1, vq2, vq3, vq4, vq5]
      clear hxq vq0 vq1 vq2 vq3 vq4 vq5
      clear xq
      simp only [Drawn.acts]
      go_simp
      have HB2 := Lib.hid (bstep HB1.out hb)
      have HA2 := Lib.hid (HA1.out.below hb).plan
      clear hb
      go_at_K
      obtain ⟨p0, p1, p2, p3, p4, p5⟩ := six HA2.out
      go_wp2_with fail
      refine (H0.out _).mono ?_
      rintro e w3 ⟨rfl, hb3⟩
      clear p0 p1 p2 p3 p4 p5
      have HB3 := Lib.hid (bstep HB2.out hb3)
      have HA3 := Lib.hid (HA2.out.below hb3)
      clear hb3 HA HA1 HA2
      go_wp2_with fail
      refine (Gf.new_any w3).mono ?_
      rintro e w4 ⟨rfl, ht, hb4, _⟩
      have HT := Lib.hid ht
      have HB4 := Lib.hid (bstep HB3.out hb4)
      have HA4 := Lib.hid (HA3.out.below hb4)
      clear ht hb4
      go_wp2_with fail
      refine Drawn.wp_region_flowL 17 [Drawn.SP.is (.pointer (some ⟨w3.heap.size, 0, none⟩)), Drawn.SP.is (.agg #[.int .i64 (n0 : Nat), .int .i64 (t0 : Nat), .int .i64 (l0 : Nat), .int .i64 W, .int .i64 S, .int .i64 R]), Drawn.SP.is (.slice A1 dn c1), Drawn.SP.is (.slice A2 sn c2), SP.bN da t0, Drawn.SP.is (.pointer (some ⟨w3.heap.size, 0, none⟩)), Drawn.SP.is (.agg #[.int .i64 (n0 : Nat), .int .i64 (t0 : Nat), .int .i64 (l0 : Nat), .int .i64 W, .int .i64 S, .int .i64 R]), Drawn.SP.is (.slice A2 sn c2), SP.bN ze t0, Drawn.SP.is (.pointer (some ⟨w3.heap.size, 0, none⟩)), Drawn.SP.is (.agg #[.int .i64 (n0 : Nat), .int .i64 (t0 : Nat), .int .i64 (l0 : Nat), .int .i64 W, .int .i64 S, .int .i64 R]), Drawn.SP.is (.slice A2 sn c2), Drawn.SP.is (.int .i64 t), SP.bN bl wd, SP.bN da t0, SP.bN ze t0, SP.bN bl wd] (by kernel_rfl) (by kernel_rfl) ?_ ?_
      · intro i hi a wq hb hev hdep
        rcases (show i = 0 ∨ i = 1 ∨ i = 2 ∨ i = 3 ∨ i = 4 ∨ i = 5 ∨ i = 6 ∨ i = 7 ∨ i = 8 ∨ i = 9 ∨ i = 10 ∨ i = 11 ∨ i = 12 ∨ i = 13 ∨ i = 14 ∨ i = 15 ∨ i = 16 by omega) with rfl | rfl | rfl | rfl | rfl | rfl | rfl | rfl | rfl | rfl | rfl | rfl | rfl | rfl | rfl | rfl | rfl
        · have e12 : a.tmps[12]?.getD undef = .pointer (some ⟨w3.heap.size, 0, none⟩) := hev 12 rfl
          refine Drawn.wpOp_flow 48 rfl rfl rfl ?_
          clear hev hdep hb
          go_simp
          exact ⟨_, rfl, rfl, Below.refl _ _⟩
        · have e3 : a.tmps[3]?.getD undef = .pointer (some ⟨w.heap.size, 0, none⟩) := hev 3 rfl
          refine Drawn.wpOp_flow 49 rfl rfl rfl ?_
          obtain ⟨p0, p1, p2, p3, p4, p5⟩ := six (HA4.out.below hb)
          clear hev hdep hb
          go_simp
          exact ⟨_, rfl, rfl, Below.refl _ _⟩
        · have e7 : a.tmps[7]?.getD undef = .slice A1 dn c1 := hev 7 rfl
          refine Drawn.wpOp_flow 50 rfl rfl rfl ?_
          clear hev hdep hb
          go_simp
          exact ⟨_, rfl, rfl, Below.refl _ _⟩
        · have e8 : a.tmps[8]?.getD undef = .slice A2 sn c2 := hev 8 rfl
          refine Drawn.wpOp_flow 51 rfl rfl rfl ?_
          clear hev hdep hb
          go_simp
          exact ⟨_, rfl, rfl, Below.refl _ _⟩
        · have d0 : a.tmps[48]?.getD undef = .pointer (some ⟨w3.heap.size, 0, none⟩) := hdep 0 rfl
          have d1 : a.tmps[49]?.getD undef = .agg #[.int .i64 (n0 : Nat), .int .i64 (t0 : Nat), .int .i64 (l0 : Nat), .int .i64 W, .int .i64 S, .int .i64 R] := hdep 1 rfl
          have d2 : a.tmps[50]?.getD undef = .slice A1 dn c1 := hdep 2 rfl
          have d3 : a.tmps[51]?.getD undef = .slice A2 sn c2 := hdep 3 rfl
          refine Drawn.wpOp_flow 52 rfl rfl rfl ?_
          clear hev hdep
          have C := HD.out _ wq (HT.out.below hb) (D.out.below (bstep HB4.out hb)) (SH.out.below (bstep HB4.out hb))
          clear hb
          go_simp
          refine C.mono ?_
          rintro e w' ⟨X, d, rfl, g3, hb'⟩
          exact ⟨_, rfl, ⟨X, d, rfl, g3⟩, hb'⟩
        · have e12 : a.tmps[12]?.getD undef = .pointer (some ⟨w3.heap.size, 0, none⟩) := hev 12 rfl
          refine Drawn.wpOp_flow 53 rfl rfl rfl ?_
          clear hev hdep hb
          go_simp
          exact ⟨_, rfl, rfl, Below.refl _ _⟩
        · have e3 : a.tmps[3]?.getD undef = .pointer (some ⟨w.heap.size, 0, none⟩) := hev 3 rfl
          refine Drawn.wpOp_flow 54 rfl rfl rfl ?_
          obtain ⟨p0, p1, p2, p3, p4, p5⟩ := six (HA4.out.below hb)
          clear hev hdep hb
          go_simp
          exact ⟨_, rfl, rfl, Below.refl _ _⟩
        · have e8 : a.tmps[8]?.getD undef = .slice A2 sn c2 := hev 8 rfl
          refine Drawn.wpOp_flow 55 rfl rfl rfl ?_
          clear hev hdep hb
          go_simp
          exact ⟨_, rfl, rfl, Below.refl _ _⟩
        · have d5 : a.tmps[53]?.getD undef = .pointer (some ⟨w3.heap.size, 0, none⟩) := hdep 5 rfl
          have d6 : a.tmps[54]?.getD undef = .agg #[.int .i64 (n0 : Nat), .int .i64 (t0 : Nat), .int .i64 (l0 : Nat), .int .i64 W, .int .i64 S, .int .i64 R] := hdep 6 rfl
          have d7 : a.tmps[55]?.getD undef = .slice A2 sn c2 := hdep 7 rfl
          refine Drawn.wpOp_flow 56 rfl rfl rfl ?_
          clear hev hdep
          have C := HZ.out _ wq (HT.out.below hb) (SH.out.below (bstep HB4.out hb))
          clear hb
          go_simp
          refine C.mono ?_
          rintro e w' ⟨X, d, rfl, g3, hb'⟩
          exact ⟨_, rfl, ⟨X, d, rfl, g3⟩, hb'⟩
        · have e12 : a.tmps[12]?.getD undef = .pointer (some ⟨w3.heap.size, 0, none⟩) := hev 12 rfl
          refine Drawn.wpOp_flow 57 rfl rfl rfl ?_
          clear hev hdep hb
          go_simp
          exact ⟨_, rfl, rfl, Below.refl _ _⟩
        · have e3 : a.tmps[3]?.getD undef = .pointer (some ⟨w.heap.size, 0, none⟩) := hev 3 rfl
          refine Drawn.wpOp_flow 58 rfl rfl rfl ?_
          obtain ⟨p0, p1, p2, p3, p4, p5⟩ := six (HA4.out.below hb)
          clear hev hdep hb
          go_simp
          exact ⟨_, rfl, rfl, Below.refl _ _⟩
        · have e8 : a.tmps[8]?.getD undef = .slice A2 sn c2 := hev 8 rfl
          refine Drawn.wpOp_flow 59 rfl rfl rfl ?_
          clear hev hdep hb
          go_simp
          exact ⟨_, rfl, rfl, Below.refl _ _⟩
        · have e10 : a.tmps[10]?.getD undef = .int .i64 t := hev 10 rfl
          refine Drawn.wpOp_flow 60 rfl rfl rfl ?_
          clear hev hdep hb
          go_simp
          exact ⟨_, rfl, rfl, Below.refl _ _⟩
        · have d9 : a.tmps[57]?.getD undef = .pointer (some ⟨w3.heap.size, 0, none⟩) := hdep 9 rfl
          have d10 : a.tmps[58]?.getD undef = .agg #[.int .i64 (n0 : Nat), .int .i64 (t0 : Nat), .int .i64 (l0 : Nat), .int .i64 W, .int .i64 S, .int .i64 R] := hdep 10 rfl
          have d11 : a.tmps[59]?.getD undef = .slice A2 sn c2 := hdep 11 rfl
          have d12 : a.tmps[60]?.getD undef = .int .i64 t := hdep 12 rfl
          refine Drawn.wpOp_flow 61 rfl rfl rfl ?_
          clear hev hdep
          have C := HBL.out _ wq (HT.out.below hb) (SH.out.below (bstep HB4.out hb))
          clear hb
          go_simp
          refine C.mono ?_
          rintro e w' ⟨X, d, rfl, g3, hb'⟩
          exact ⟨_, rfl, ⟨X, d, rfl, g3⟩, hb'⟩
        · have d4 := hdep 4 rfl
          refine Drawn.wpOp_flow 13 rfl rfl rfl ?_
          clear hev hdep hb
          go_simp
          exact ⟨_, rfl, d4, Below.refl _ _⟩
        · have d8 := hdep 8 rfl
          refine Drawn.wpOp_flow 14 rfl rfl rfl ?_
          clear hev hdep hb
          go_simp
          exact ⟨_, rfl, d8, Below.refl _ _⟩
        · have d13 := hdep 13 rfl
          refine Drawn.wpOp_flow 15 rfl rfl rfl ?_
          clear hev hdep hb
          go_simp
          exact ⟨_, rfl, d13, Below.refl _ _⟩
      · intro xq wq hb hxq
        have vq0 : xq 0 = .pointer (some ⟨w3.heap.size, 0, none⟩) := hxq 0 (by omega)
        have vq1 : xq 1 = .agg #[.int .i64 (n0 : Nat), .int .i64 (t0 : Nat), .int .i64 (l0 : Nat), .int .i64 W, .int .i64 S, .int .i64 R] := hxq 1 (by omega)
        have vq2 : xq 2 = .slice A1 dn c1 := hxq 2 (by omega)
        have vq3 : xq 3 = .slice A2 sn c2 := hxq 3 (by omega)
        have vq5 : xq 5 = .pointer (some ⟨w3.heap.size, 0, none⟩) := hxq 5 (by omega)
        have vq6 : xq 6 = .agg #[.int .i64 (n0 : Nat), .int .i64 (t0 : Nat), .int .i64 (l0 : Nat), .int .i64 W, .int .i64 S, .int .i64 R] := hxq 6 (by omega)
        have vq7 : xq 7 = .slice A2 sn c2 := hxq 7 (by omega)
        have vq9 : xq 9 = .pointer (some ⟨w3.heap.size, 0, none⟩) := hxq 9 (by omega)
        have vq10 : xq 10 = .agg #[.int .i64 (n0 : Nat), .int .i64 (t0 : Nat), .int .i64 (l0 : Nat), .int .i64 W, .int .i64 S, .int .i64 R] := hxq 10 (by omega)
        have vq11 : xq 11 = .slice A2 sn c2 := hxq 11 (by omega)
        have vq12 : xq 12 = .int .i64 t := hxq 12 (by omega)
        obtain ⟨Xd, dd, vq14, xd⟩ : (SP.bN da t0).p (xq 14) wq := hxq 14 (by omega)
        obtain ⟨Xz, dz, vq15, xz⟩ : (SP.bN ze t0).p (xq 15) wq := hxq 15 (by omega)
        obtain ⟨Xb, db, vq16, xb⟩ : (SP.bN bl wd).p (xq 16) wq := hxq 16 (by omega)
        show Exit.then _ _ Exit.normal (Drawn.acts _ [(15, some (xq 16)), (14, some (xq 15)), (13, some (xq 14)), (61, some (xq 13)), (60, some (xq 12)), (59, some (xq 11)), (58, some (xq 10)), (57, some (xq 9)), (56, some (xq 8)), (55, some (xq 7)), (54, some (xq 6)), (53, some (xq 5)), (52, some (xq 4)), (51, some (xq 3)), (50, some (xq 2)), (49, some (xq 1)), (48, some (xq 0))]) _
        rw [vq0, vq1, vq2, vq3, vq5, vq6, vq7, vq9, vq10, vq11, vq12, vq14, vq15, vq16]
        clear hxq vq0 vq1 vq2 vq3 vq5 vq6 vq7 vq9 vq10 vq11 vq12 vq14 vq15 vq16
        generalize xq 4 = yq4
        generalize xq 8 = yq8
        generalize xq 13 = yq13
        clear xq
        simp only [Drawn.acts]
        go_simp
        have HB5 := Lib.hid (bstep HB4.out hb)
        have HA5 := Lib.hid (HA4.out.below hb)
        have HXD := Lib.hid xd; have HXZ := Lib.hid xz; have HXB := Lib.hid xb
        have HTP := Lib.hid (TP.out.below HB5.out)
        have HOE := Lib.hid (Own.empty wq wq.heap.size (Nat.le_refl _))
        clear xd xz xb hb HA3 HA4
        go_at_K
        go_wp2_with (at_builtin; refine wpList_append_bytes rfl _ _ rfl wq.heap.size _ [] tape rfl HOE.out A3 tn c3 rfl HTN.out (HTP.out.below (balloc _ _)) (by simp; have := HTN.out; omega) (by simp) ?_; intro v6 w6 ho6 hb6; have HO6 := Lib.hid ho6; have HB6 := Lib.hid (show Below wq.heap.size wq w6 from (balloc wq _).trans hb6); clear ho6 hb6)
        have ho := HO6.out
        rw [List.nil_append] at ho
        obtain ⟨X6, c6, hv6, _, _, _⟩ := ho.bytes
        rw [← HTN.out] at hv6
        subst hv6
        have HO6' := Lib.hid ho
        clear ho HO6 HOE
        go_loopw [67] (fun i wr => ∃ k : Nat, k ≤ sn ∧ i = .int .i64 k ∧ Own wr wq.heap.size (.slice X6 tn c6) (apply tape aq (sh.take k)) ∧ Below wq.heap.size wq wr) (fun i _ => sn - (intOf i).toNat)
        case atStart => exact ⟨0, Nat.zero_le _, rfl, by rw [HAP0.out]; exact HO6'.out, HB6.out⟩
        case round =>
          obtain ⟨k, hk, rfl, hO, hbr⟩ := hrel
          rename World => wr
          by_cases hlt : k < sn
          · by_cases hin : 0 ≤ aq ∧ aq + k < (tn : Int)
            · obtain ⟨y, hy⟩ : ∃ y : Nat, aq + k = y := ⟨(aq + k).toNat, by omega⟩
              obtain ⟨g, c7, e, hg, hgl, s1, s2, s3⟩ := hO.place (i := y) (by rw [HAL.out]; omega)
              injection e with e1 e2 e3
              subst e1; subst e3
              obtain ⟨b2, o2, rfl, f2⟩ := (SH.out.below (bstep HB5.out hbr)) k (by have := HSN.out; omega)
              have hst := HAS.out k y (by have := HSN.out; omega) hin.1 (by omega) hy (by rw [HAL.out]; omega) (by have := HSN.out; omega)
              have h3 := s3 0 (GfM.add ((apply tape aq (sh.take k))[y]'(by rw [HAL.out]; omega)) (sh[k]'(by have := HSN.out; omega)))
              rw [hst] at h3
              have HO3 := Lib.hid (show Own (wr.setCell _ _) _ _ _ from h3)
              generalize (apply tape aq (sh.take k))[y]'(by rw [HAL.out]; omega) = u at *
              generalize sh[k]'(by have := HSN.out; omega) = z at *
              have i1 : IntKind.i64.wrap (aq + (k : Int)) = (y : Int) := by rw [hy]; exact IntWalk.i64_in _ (by omega)
              have i2 : IntKind.i64.wrap ((tn : Int) - k) = (tn : Int) - k := IntWalk.i64_in _ (by omega)
              have j1 : 0 ≤ aq := hin.1
              have j2 : aq < (tn : Int) - k := by omega
              have j3 : y < tn := by omega
              have HBS := Lib.hid (fun v => hbr.setCell (p := ⟨g, y, none⟩) hg v)
              clear hO hbr s3 hst h3 e2 hin hy
              go_wp2
              go_region
              all_goals
                go_wp2
                go_roundw
                case rel => exact ⟨k + 1, by omega, by go_num, HO3.out, by first | exact HBS.out _ | exact below_drewN (HBS.out _) 1⟩
                case measure => simp [intOf] <;> omega
            · have hsa := HSM.out k hlt hin
              have HSA := Lib.hid hsa
              have HOO := Lib.hid hO
              have i2 : IntKind.i64.wrap ((tn : Int) - k) = (tn : Int) - k := IntWalk.i64_in _ (by omega)
              clear hsa hO
              by_cases j1 : 0 ≤ aq
              · have j2 : ¬ aq < (tn : Int) - k := by omega
                clear hin
                go_wp2
                go_roundw
                case rel => exact ⟨k + 1, by omega, by go_num, by rw [← HSA.out]; exact HOO.out, hbr⟩
                case measure => simp [intOf] <;> omega
              · clear hin
                go_wp2
                go_roundw
                case rel => exact ⟨k + 1, by omega, by go_num, by rw [← HSA.out]; exact HOO.out, hbr⟩
                case measure => simp [intOf] <;> omega
          · obtain rfl : k = sn := by omega
            rw [HTK.out] at hO
            obtain ⟨X7, c7, e7, _, _, hX7⟩ := hO.bytes
            rw [HALL.out] at e7
            injection e7 with e1 e2 e3
            subst e1; subst e3
            have HX7 := Lib.hid hX7
            have HB7 := Lib.hid (bstep HB5.out hbr)
            have HA7 := Lib.hid (HA5.out.below hbr)
            replace HXD := Lib.hid (HXD.out.below hbr); replace HXZ := Lib.hid (HXZ.out.below hbr); replace HXB := Lib.hid (HXB.out.below hbr)
            clear hO hX7 e2 hbr
            go_wp2_with fail
            refine (HAPP.out wr (TP.out.below HB7.out) (SH.out.below HB7.out)).mono ?_
            rintro e w8 ⟨X8, c8, rfl, hX8, hb8⟩
            have C := same_yes X8 _ (apply tape aq sh) tn HALL.out.symm c8 c6 w8 hX8 (HX7.out.below hb8) HMT.out
            have HC := Lib.hid C
            have HB8 := Lib.hid (bstep HB7.out hb8)
            have HA8 := Lib.hid (HA7.out.below hb8)
            replace HXD := Lib.hid (HXD.out.below hb8); replace HXZ := Lib.hid (HXZ.out.below hb8); replace HXB := Lib.hid (HXB.out.below hb8)
            clear C hb8 hX8
            go_wp2_with fail
            refine HC.out.mono ?_
            rintro e w9 ⟨rfl, hb9⟩
            have HB9 := Lib.hid (bstep HB8.out hb9)
            have HA9 := Lib.hid (HA8.out.below hb9)
            replace HXD := Lib.hid (HXD.out.below hb9); replace HXZ := Lib.hid (HXZ.out.below hb9); replace HXB := Lib.hid (HXB.out.below hb9)
            clear HC hb9 HA5 HA7 HA8
            obtain ⟨p0, p1, p2, p3, p4, p5⟩ := six HA9.out
            go_wp2_with fail
            refine (HR.out _).mono ?_
            rintro e w10 ⟨rfl, hb10⟩
            clear p0 p1 p2 p3 p4 p5
            have HB10 := Lib.hid (bstep HB9.out hb10)
            have HA10 := Lib.hid (HA9.out.below hb10)
            replace HXD := Lib.hid (HXD.out.below hb10); replace HXZ := Lib.hid (HXZ.out.below hb10); replace HXB := Lib.hid (HXB.out.below hb10)
            clear hb10 HA9
            obtain ⟨p0, p1, p2, p3, p4, p5⟩ := six HA10.out
            go_wp2_with fail
            refine (HIS.out _).mono ?_
            rintro e w11 ⟨rfl, hb11⟩
            clear p0 p1 p2 p3 p4 p5
            have HB11 := Lib.hid (bstep HB10.out hb11)
            have HA11 := Lib.hid (HA10.out.below hb11)
            replace HXD := Lib.hid (HXD.out.below hb11)
            replace HXZ := Lib.hid (HXZ.out.below hb11)
            replace HXB := Lib.hid (HXB.out.below hb11)
            clear hb11
            obtain ⟨p0, p1, p2, p3, p4, p5⟩ := six HA11.out
            go_wp2_with fail
            refine (HRB.out w11 (SH.out.below HB11.out)).mono ?_
            rintro e w12 ⟨Y, dy, rfl, hY, hb12⟩
            clear p0 p1 p2 p3 p4 p5
            have HY := Lib.hid hY
            clear hY
            have HB12 := Lib.hid (bstep HB11.out hb12)
            have HA12 := Lib.hid (HA11.out.below hb12)
            replace HXD := Lib.hid (HXD.out.below hb12)
            replace HXZ := Lib.hid (HXZ.out.below hb12)
            replace HXB := Lib.hid (HXB.out.below hb12)
            clear hb12
            go_wp2_with fail
            refine (same_yes Xb Y bl wd HLB.out db dy w12 HXB.out HY.out HMB.out).mono ?_
            rintro e w13 ⟨rfl, hb13⟩
            have HB13 := Lib.hid (bstep HB12.out hb13)
            have HA13 := Lib.hid (HA12.out.below hb13)
            replace HXD := Lib.hid (HXD.out.below hb13)
            replace HXZ := Lib.hid (HXZ.out.below hb13)
            replace HXB := Lib.hid (HXB.out.below hb13)
            clear hb13
            obtain ⟨p0, p1, p2, p3, p4, p5⟩ := six HA13.out
            go_wp2_with fail
            refine (HRD.out w13 (D.out.below HB13.out) (SH.out.below HB13.out)).mono ?_
            rintro e w14 ⟨Y1, dy1, rfl, hY1, hb14⟩
            clear p0 p1 p2 p3 p4 p5
            have HY1 := Lib.hid hY1
            clear hY1
            have HB14 := Lib.hid (bstep HB13.out hb14)
            have HA14 := Lib.hid (HA13.out.below hb14)
            replace HXD := Lib.hid (HXD.out.below hb14)
            replace HXZ := Lib.hid (HXZ.out.below hb14)
            replace HXB := Lib.hid (HXB.out.below hb14)
            clear hb14
            go_wp2_with fail
            refine (same_yes Xd Y1 da t0 HLD.out dd dy1 w14 HXD.out HY1.out HMD.out).mono ?_
            rintro e w15 ⟨rfl, hb15⟩
            have HB15 := Lib.hid (bstep HB14.out hb15)
            have HA15 := Lib.hid (HA14.out.below hb15)
            replace HXD := Lib.hid (HXD.out.below hb15)
            replace HXZ := Lib.hid (HXZ.out.below hb15)
            replace HXB := Lib.hid (HXB.out.below hb15)
            clear hb15
            obtain ⟨p0, p1, p2, p3, p4, p5⟩ := six HA15.out
            go_wp2_with fail
            refine (HRZ.out w15 (SH.out.below HB15.out)).mono ?_
            rintro e w16 ⟨Y2, dy2, rfl, hY2, hb16⟩
            clear p0 p1 p2 p3 p4 p5
            have HY2 := Lib.hid hY2
            clear hY2
            have HB16 := Lib.hid (bstep HB15.out hb16)
            have HA16 := Lib.hid (HA15.out.below hb16)
            replace HXD := Lib.hid (HXD.out.below hb16)
            replace HXZ := Lib.hid (HXZ.out.below hb16)
            replace HXB := Lib.hid (HXB.out.below hb16)
            clear hb16
            go_wp2_with fail
            refine (same_yes Xz Y2 ze t0 HLZ.out dz dy2 w16 HXZ.out HY2.out HMZ.out).mono ?_
            rintro e w17 ⟨rfl, hb17⟩
            have HB17 := Lib.hid (bstep HB16.out hb17)
            have HA17 := Lib.hid (HA16.out.below hb17)
            replace HXD := Lib.hid (HXD.out.below hb17)
            replace HXZ := Lib.hid (HXZ.out.below hb17)
            replace HXB := Lib.hid (HXB.out.below hb17)
            clear hb17
            go_wp2_with fail
            refine (alive_any _).mono ?_
            rintro e w9 ⟨rfl, hb9⟩
            go_wp2
            go_ret
            exact ⟨rfl, bstep HB17.out hb9⟩

set_option maxHeartbeats 8000000 in
theorem masks_out (W S R t aq : Int) (n0 t0 l0 : Nat) (A1 A2 A3 : Option Addr) (delta sh tape : List UInt8) (c1 c2 c3 : Nat) (w : World) (hp : (⟨n0, t0, l0, W, S, R⟩ : P).In) (h1 : BytesAt w A1 delta) (h2 : BytesAt w A2 sh) (h3 : BytesAt w A3 tape) (hd : delta.length ≤ 20) (hs : sh.length ≤ 30) (htl : tape.length ≤ 60) (hti : In64 t) (hai : In64 aq) (hl : (n0 : Int) ≤ 12 ∧ (l0 : Int) ≤ 12 ∧ (t0 : Int) ≤ 12) (hM : (⟨n0, t0, l0, W, S, R⟩ : P).May) (his : P.is ⟨n0, t0, l0, W, S, R⟩ t = false) :
    Calls Try.prog 4 #[.agg #[.int .i64 (n0 : Nat), .int .i64 (t0 : Nat), .int .i64 (l0 : Nat), .int .i64 W, .int .i64 S, .int .i64 R], .agg #[.slice A1 delta.length c1, .slice A2 sh.length c2, .slice A3 tape.length c3], .agg #[.int .i64 t, .int .i64 aq]] w fun e w' => e = .returned (.bool true) ∧ Below w.heap.size w w' := by
  have K0 := fun w => Law10.light_any n0 t0 l0 W S R w
  rw [decide_eq_true hl] at K0
  have H0 := Lib.hid K0
  have KD := fun bf V ht h1 h2 => Mask.deal_any bf ⟨n0, t0, l0, W, S, R⟩ A1 A2 delta sh c1 c2 V hp ht h1 h2 (by omega)
  have KZ := fun bf V ht h2 => Mask.zero_any bf ⟨n0, t0, l0, W, S, R⟩ A2 sh c2 V hp ht h2 (by omega)
  have KB := fun bf V ht h2 => Mask.blind_any bf ⟨n0, t0, l0, W, S, R⟩ A2 sh c2 t V hp hti ht h2 (by omega)
  have KA := fun V h3 h2 => Mask.apply_any A3 A2 tape sh aq c3 c2 V h3 h2 (by omega) (by omega) hai
  have KR := fun V => R08.right_any ⟨n0, t0, l0, W, S, R⟩ V hp
  simp only [P.val] at KD KZ KB KR
  unfold Mask.RetB at KD KZ KB
  unfold RetNew at KA
  have HAPP0 := fun V h3 h2 => (KA V h3 h2).mono fun e w' h => (show ∃ X d, e = .returned (.slice X (apply tape aq sh).length d) ∧ BytesAt w' X (apply tape aq sh) ∧ Below V.heap.size V w' from by obtain ⟨X, d, g1, _, _, g2, g3, _⟩ := h; exact ⟨X, d, g1, g2, g3⟩)
  rw [apply_len] at HAPP0
  have HAP0 := Lib.hid (apply_zero tape aq sh)
  have HAL := Lib.hid (fun k => apply_len tape aq (sh.take k))
  have HALL := Lib.hid (apply_len tape aq sh)
  have HTK : Hid (apply tape aq (sh.take sh.length) = apply tape aq sh) := Lib.hid (by rw [List.take_length])
  have HSM := Lib.hid (fun k (hk : k < sh.length) (hn : ¬ (0 ≤ aq ∧ aq + k < (tape.length : Int))) => apply_same tape sh aq k hk hn)
  have HAS : Hid (∀ (k y : Nat), k < sh.length → 0 ≤ aq → aq + k < (tape.length : Int) → aq + k = (y : Int) → ∀ (g1 : y < (apply tape aq (sh.take k)).length) (g2 : k < sh.length), (apply tape aq (sh.take k)).set y (GfM.add ((apply tape aq (sh.take k))[y]'g1) (sh[k]'g2)) = apply tape aq (sh.take (k + 1))) := Lib.hid (fun k y hk h0 hlt hy g1 g2 => by
    obtain ⟨a', rfl⟩ : ∃ a' : Nat, aq = a' := ⟨aq.toNat, by omega⟩
    obtain rfl : y = a' + k := by omega
    have := apply_step tape sh a' k hk (by omega)
    rw [PolyM.co_get _ _ g1] at this
    exact this)
  have HMT : Hid (tape.length ≤ maxLen) := Lib.hid (by unfold maxLen; omega)
  obtain ⟨dn, hdn⟩ : ∃ dn, dn = delta.length := ⟨_, rfl⟩
  obtain ⟨sn, hsn⟩ : ∃ sn, sn = sh.length := ⟨_, rfl⟩
  obtain ⟨tn, htn⟩ : ∃ tn, tn = tape.length := ⟨_, rfl⟩
  have HSN := Lib.hid hsn; have HTN := Lib.hid htn
  have hrn := P.right_yes hM
  have KI := fun V => R08.is_any ⟨n0, t0, l0, W, S, R⟩ t V
  have KRD := fun V h1 h2 => R14.deal_any W S R n0 t0 l0 A1 A2 delta sh c1 c2 V hM h1 h2 (by omega) (by omega)
  have KRZ := fun V h2 => R14.zero_any W S R n0 t0 l0 A2 sh c2 V hM h2 (by omega)
  have KRB := fun V h2 => R14.blind_any W S R n0 t0 l0 A2 sh c2 t V hM h2 (by omega)
  have e1 : Mask.dealA ⟨n0, t0, l0, W, S, R⟩ delta sh = mdeal ⟨n0, t0, l0, W, S, R⟩ delta sh := by unfold Mask.dealA; rw [hrn, if_pos rfl]
  have e2 : Mask.zeroA ⟨n0, t0, l0, W, S, R⟩ sh = mzero ⟨n0, t0, l0, W, S, R⟩ sh := by unfold Mask.zeroA; rw [hrn, if_pos rfl]
  have e3 : Mask.blindA ⟨n0, t0, l0, W, S, R⟩ sh t = [] := by unfold Mask.blindA P.isA; rw [hrn, his]; rfl
  have l1 : (mdeal ⟨n0, t0, l0, W, S, R⟩ delta sh).length = t0 := sized_len _ _
  have l2 : (mzero ⟨n0, t0, l0, W, S, R⟩ sh).length = t0 := sized_len _ _
  have hM' := hM
  unfold P.May at hM'
  simp only at hM'
  obtain ⟨wd, hwd⟩ : ∃ wd : Nat, (t0 : Int) + l0 - 1 = wd := ⟨((t0 : Int) + l0 - 1).toNat, by omega⟩
  have l3 : (mblind ⟨n0, t0, l0, W, S, R⟩ sh t).length = wd := by unfold mblind; rw [sized_len]; unfold width; simp only; omega
  have hwp : 0 < wd := by omega
  rw [e1] at KD; rw [e2] at KZ; rw [e3] at KB; rw [hrn] at KR; rw [his] at KI
  simp only [P.val] at KI
  unfold R14.RetB at KRD KRZ KRB
  simp only [List.length_nil] at KB
  generalize mdeal ⟨n0, t0, l0, W, S, R⟩ delta sh = da at *
  generalize mzero ⟨n0, t0, l0, W, S, R⟩ sh = ze at *
  generalize mblind ⟨n0, t0, l0, W, S, R⟩ sh t = bl at *
  rw [l1] at KD KRD
  rw [l2] at KZ KRZ
  rw [l3] at KRB
  obtain ⟨dan, hdan⟩ : ∃ dan, dan = t0 := ⟨_, rfl⟩
  have HLD : Hid (t0 = da.length) := Lib.hid l1.symm
  have HLZ : Hid (t0 = ze.length) := Lib.hid l2.symm
  have HLB : Hid (wd = bl.length) := Lib.hid l3.symm
  have HMD : Hid (t0 ≤ maxLen) := Lib.hid (by unfold maxLen; omega)
  have HMZ : Hid (t0 ≤ maxLen) := Lib.hid (by unfold maxLen; omega)
  have HMB : Hid (wd ≤ maxLen) := Lib.hid (by unfold maxLen; omega)
  rw [← hdn] at KD KRD hd ⊢
  rw [← hsn] at KD KZ KB KRD KRZ KRB HAPP0 HTK HSM hs ⊢
  rw [← htn] at HAPP0 HAL HALL HSM HAS HMT htl ⊢
  have HD := Lib.hid KD; have HZ := Lib.hid KZ; have HBL := Lib.hid KB; have HAPP := Lib.hid HAPP0; have HR := Lib.hid KR
  have HIS := Lib.hid KI; have HRD := Lib.hid KRD; have HRZ := Lib.hid KRZ; have HRB := Lib.hid KRB
  have D := Lib.hid h1; have SH := Lib.hid h2; have TP := Lib.hid h3
  clear K0 KD KZ KB KA KR KI KRD KRZ KRB HAPP0 h1 h2 h3 hl hp hM hM' hti hrn e1 e2 e3 l1 l2 l3 hdn hsn htn his hwd hdan
  have HA := Lib.hid (LiesM.new w n0 t0 l0 W S R (.slice A1 dn c1) (.slice A2 sn c2) (.slice A3 tn c3) (.int .i64 t) (.int .i64 aq) 40 41)
  have HB0 := Lib.hid (show Below w.heap.size w (((w.alloc (.cells #[.int .i64 (n0 : Nat), .int .i64 (t0 : Nat), .int .i64 (l0 : Nat), .int .i64 W, .int .i64 S, .int .i64 R] 23)).alloc (.cells #[.slice A1 dn c1, .slice A2 sn c2, .slice A3 tn c3] 40)).alloc (.cells #[.int .i64 t, .int .i64 aq] 41)) from bstep (bstep (balloc _ _) (balloc _ _)) (balloc _ _))
  go_enter Try.func4, Try.ntmps4
  go_wp2_with fail
  generalize ((w.alloc (.cells #[.int .i64 (n0 : Nat), .int .i64 (t0 : Nat), .int .i64 (l0 : Nat), .int .i64 W, .int .i64 S, .int .i64 R] 23)).alloc (.cells #[.slice A1 dn c1, .slice A2 sn c2, .slice A3 tn c3] 40)).alloc (.cells #[.int .i64 t, .int .i64 aq] 41) = w0 at *
  refine Drawn.wp_region_flowL 9 [Drawn.SP.is (.pointer (some ⟨w.heap.size + 1, 0, none⟩)), Drawn.SP.is (.slice A1 dn c1), Drawn.SP.is (.pointer (some ⟨w.heap.size + 1, 1, none⟩)), Drawn.SP.is (.slice A2 sn c2), Drawn.SP.is (.pointer (some ⟨w.heap.size + 1, 2, none⟩)), Drawn.SP.is (.slice A3 tn c3), Drawn.SP.is (.slice A1 dn c1), Drawn.SP.is (.slice A2 sn c2), Drawn.SP.is (.slice A3 tn c3)] (by kernel_rfl) (by kernel_rfl) ?_ ?_
  · intro i hi a w1 hb hev hdep
    rcases (show i = 0 ∨ i = 1 ∨ i = 2 ∨ i = 3 ∨ i = 4 ∨ i = 5 ∨ i = 6 ∨ i = 7 ∨ i = 8 by omega) with rfl | rfl | rfl | rfl | rfl | rfl | rfl | rfl | rfl
    · have e4 : a.tmps[4]?.getD undef = .pointer (some ⟨w.heap.size + 1, 0, none⟩) := hev 4 rfl
      refine Drawn.wpOp_flow 18 rfl rfl rfl ?_
      clear hev hdep hb
      go_simp
      exact ⟨_, rfl, rfl, Below.refl _ _⟩
    · have d0 : a.tmps[18]?.getD undef = .pointer (some ⟨w.heap.size + 1, 0, none⟩) := hdep 0 rfl
      refine Drawn.wpOp_flow 19 rfl rfl rfl ?_
      have a0 := (HA.out.below hb).a0; have a1 := (HA.out.below hb).a1; have a2 := (HA.out.below hb).a2
      clear hev hdep hb
      go_simp
      exact ⟨_, rfl, rfl, Below.refl _ _⟩
    · have e4 : a.tmps[4]?.getD undef = .pointer (some ⟨w.heap.size + 1, 0, none⟩) := hev 4 rfl
      refine Drawn.wpOp_flow 20 rfl rfl rfl ?_
      clear hev hdep hb
      go_simp
      exact ⟨_, rfl, rfl, Below.refl _ _⟩
    · have d2 : a.tmps[20]?.getD undef = .pointer (some ⟨w.heap.size + 1, 1, none⟩) := hdep 2 rfl
      refine Drawn.wpOp_flow 21 rfl rfl rfl ?_
      have a0 := (HA.out.below hb).a0; have a1 := (HA.out.below hb).a1; have a2 := (HA.out.below hb).a2
      clear hev hdep hb
      go_simp
      exact ⟨_, rfl, rfl, Below.refl _ _⟩
    · have e4 : a.tmps[4]?.getD undef = .pointer (some ⟨w.heap.size + 1, 0, none⟩) := hev 4 rfl
      refine Drawn.wpOp_flow 22 rfl rfl rfl ?_
      clear hev hdep hb
      go_simp
      exact ⟨_, rfl, rfl, Below.refl _ _⟩
    · have d4 : a.tmps[22]?.getD undef = .pointer (some ⟨w.heap.size + 1, 2, none⟩) := hdep 4 rfl
      refine Drawn.wpOp_flow 23 rfl rfl rfl ?_
      have a0 := (HA.out.below hb).a0; have a1 := (HA.out.below hb).a1; have a2 := (HA.out.below hb).a2
      clear hev hdep hb
      go_simp
      exact ⟨_, rfl, rfl, Below.refl _ _⟩
    · have d1 : a.tmps[19]?.getD undef = .slice A1 dn c1 := hdep 1 rfl
      refine Drawn.wpOp_flow 7 rfl rfl rfl ?_
      clear hev hdep hb
      go_simp
      exact ⟨_, rfl, rfl, Below.refl _ _⟩
    · have d3 : a.tmps[21]?.getD undef = .slice A2 sn c2 := hdep 3 rfl
      refine Drawn.wpOp_flow 8 rfl rfl rfl ?_
      clear hev hdep hb
      go_simp
      exact ⟨_, rfl, rfl, Below.refl _ _⟩
    · have d5 : a.tmps[23]?.getD undef = .slice A3 tn c3 := hdep 5 rfl
      refine Drawn.wpOp_flow 9 rfl rfl rfl ?_
      clear hev hdep hb
      go_simp
      exact ⟨_, rfl, rfl, Below.refl _ _⟩
  · intro xq w1 hb hxq
    have vq0 : xq 0 = .pointer (some ⟨w.heap.size + 1, 0, none⟩) := hxq 0 (by omega)
    have vq1 : xq 1 = .slice A1 dn c1 := hxq 1 (by omega)
    have vq2 : xq 2 = .pointer (some ⟨w.heap.size + 1, 1, none⟩) := hxq 2 (by omega)
    have vq3 : xq 3 = .slice A2 sn c2 := hxq 3 (by omega)
    have vq4 : xq 4 = .pointer (some ⟨w.heap.size + 1, 2, none⟩) := hxq 4 (by omega)
    have vq5 : xq 5 = .slice A3 tn c3 := hxq 5 (by omega)
    have vq6 : xq 6 = .slice A1 dn c1 := hxq 6 (by omega)
    have vq7 : xq 7 = .slice A2 sn c2 := hxq 7 (by omega)
    have vq8 : xq 8 = .slice A3 tn c3 := hxq 8 (by omega)
    show Exit.then _ _ Exit.normal (Drawn.acts _ [(9, some (xq 8)), (8, some (xq 7)), (7, some (xq 6)), (23, some (xq 5)), (22, some (xq 4)), (21, some (xq 3)), (20, some (xq 2)), (19, some (xq 1)), (18, some (xq 0))]) _
    rw [vq0, vq1, vq2, vq3, vq4, vq5, vq6, vq7, vq8]
    clear hxq vq0 vq1 vq2 vq3 vq4 vq5 vq6 vq7 vq8
    clear xq
    simp only [Drawn.acts]
    go_simp
    have HB1 := Lib.hid (bstep HB0.out hb)
    have HA1 := Lib.hid (HA.out.below hb)
    clear hb
    go_at_K
    go_wp2_with fail
    refine Drawn.wp_region_flowL 6 [Drawn.SP.is (.pointer (some ⟨w.heap.size + 2, 0, none⟩)), Drawn.SP.is (.int .i64 t), Drawn.SP.is (.pointer (some ⟨w.heap.size + 2, 1, none⟩)), Drawn.SP.is (.int .i64 aq), Drawn.SP.is (.int .i64 t), Drawn.SP.is (.int .i64 aq)] (by kernel_rfl) (by kernel_rfl) ?_ ?_
    · intro i hi a w2 hb hev hdep
      rcases (show i = 0 ∨ i = 1 ∨ i = 2 ∨ i = 3 ∨ i = 4 ∨ i = 5 by omega) with rfl | rfl | rfl | rfl | rfl | rfl
      · have e5 : a.tmps[5]?.getD undef = .pointer (some ⟨w.heap.size + 2, 0, none⟩) := hev 5 rfl
        refine Drawn.wpOp_flow 24 rfl rfl rfl ?_
        clear hev hdep hb
        go_simp
        exact ⟨_, rfl, rfl, Below.refl _ _⟩
      · have d0 : a.tmps[24]?.getD undef = .pointer (some ⟨w.heap.size + 2, 0, none⟩) := hdep 0 rfl
        refine Drawn.wpOp_flow 25 rfl rfl rfl ?_
        have b0 := (HA1.out.below hb).b0; have b1 := (HA1.out.below hb).b1
        clear hev hdep hb
        go_simp
        exact ⟨_, rfl, rfl, Below.refl _ _⟩
      · have e5 : a.tmps[5]?.getD undef = .pointer (some ⟨w.heap.size + 2, 0, none⟩) := hev 5 rfl
        refine Drawn.wpOp_flow 26 rfl rfl rfl ?_
        clear hev hdep hb
        go_simp
        exact ⟨_, rfl, rfl, Below.refl _ _⟩
      · have d2 : a.tmps[26]?.getD undef = .pointer (some ⟨w.heap.size + 2, 1, none⟩) := hdep 2 rfl
        refine Drawn.wpOp_flow 27 rfl rfl rfl ?_
        have b0 := (HA1.out.below hb).b0; have b1 := (HA1.out.below hb).b1
        clear hev hdep hb
        go_simp
        exact ⟨_, rfl, rfl, Below.refl _ _⟩
      · have d1 : a.tmps[25]?.getD undef = .int .i64 t := hdep 1 rfl
        refine Drawn.wpOp_flow 10 rfl rfl rfl ?_
        clear hev hdep hb
        go_simp
        exact ⟨_, rfl, rfl, Below.refl _ _⟩
      · have d3 : a.tmps[27]?.getD undef = .int .i64 aq := hdep 3 rfl
        refine Drawn.wpOp_flow 11 rfl rfl rfl ?_
        clear hev hdep hb
        go_simp
        exact ⟨_, rfl, rfl, Below.refl _ _⟩
    · intro xq w2 hb hxq
      have vq0 : xq 0 = .pointer (some ⟨w.heap.size + 2, 0, none⟩) := hxq 0 (by omega)
      have vq1 : xq 1 = .int .i64 t := hxq 1 (by omega)
      have vq2 : xq 2 = .pointer (some ⟨w.heap.size + 2, 1, none⟩) := hxq 2 (by omega)
      have vq3 : xq 3 = .int .i64 aq := hxq 3 (by omega)
      have vq4 : xq 4 = .int .i64 t := hxq 4 (by omega)
      have vq5 : xq 5 = .int .i64 aq := hxq 5 (by omega)
      show Exit.then _ _ Exit.normal (Drawn.acts _ [(11, some (xq 5)), (10, some (xq 4)), (27, some (xq 3)), (26, some (xq 2)), (25, some (xq 1)), (24, some (xq 0))]) _
      rw [vq0, vq1, vq2, vq3, vq4, vq5]
      clear hxq vq0 vq1 vq2 vq3 vq4 vq5
      clear xq
      simp only [Drawn.acts]
      go_simp
      have HB2 := Lib.hid (bstep HB1.out hb)
      have HA2 := Lib.hid (HA1.out.below hb).plan
      clear hb
      go_at_K
      obtain ⟨p0, p1, p2, p3, p4, p5⟩ := six HA2.out
      go_wp2_with fail
      refine (H0.out _).mono ?_
      rintro e w3 ⟨rfl, hb3⟩
      clear p0 p1 p2 p3 p4 p5
      have HB3 := Lib.hid (bstep HB2.out hb3)
      have HA3 := Lib.hid (HA2.out.below hb3)
      clear hb3 HA HA1 HA2
      go_wp2_with fail
      refine (Gf.new_any w3).mono ?_
      rintro e w4 ⟨rfl, ht, hb4, _⟩
      have HT := Lib.hid ht
      have HB4 := Lib.hid (bstep HB3.out hb4)
      have HA4 := Lib.hid (HA3.out.below hb4)
      clear ht hb4
      go_wp2_with fail
      refine Drawn.wp_region_flowL 17 [Drawn.SP.is (.pointer (some ⟨w3.heap.size, 0, none⟩)), Drawn.SP.is (.agg #[.int .i64 (n0 : Nat), .int .i64 (t0 : Nat), .int .i64 (l0 : Nat), .int .i64 W, .int .i64 S, .int .i64 R]), Drawn.SP.is (.slice A1 dn c1), Drawn.SP.is (.slice A2 sn c2), SP.bN da t0, Drawn.SP.is (.pointer (some ⟨w3.heap.size, 0, none⟩)), Drawn.SP.is (.agg #[.int .i64 (n0 : Nat), .int .i64 (t0 : Nat), .int .i64 (l0 : Nat), .int .i64 W, .int .i64 S, .int .i64 R]), Drawn.SP.is (.slice A2 sn c2), SP.bN ze t0, Drawn.SP.is (.pointer (some ⟨w3.heap.size, 0, none⟩)), Drawn.SP.is (.agg #[.int .i64 (n0 : Nat), .int .i64 (t0 : Nat), .int .i64 (l0 : Nat), .int .i64 W, .int .i64 S, .int .i64 R]), Drawn.SP.is (.slice A2 sn c2), Drawn.SP.is (.int .i64 t), SP.bN [] 0, SP.bN da t0, SP.bN ze t0, SP.bN [] 0] (by kernel_rfl) (by kernel_rfl) ?_ ?_
      · intro i hi a wq hb hev hdep
        rcases (show i = 0 ∨ i = 1 ∨ i = 2 ∨ i = 3 ∨ i = 4 ∨ i = 5 ∨ i = 6 ∨ i = 7 ∨ i = 8 ∨ i = 9 ∨ i = 10 ∨ i = 11 ∨ i = 12 ∨ i = 13 ∨ i = 14 ∨ i = 15 ∨ i = 16 by omega) with rfl | rfl | rfl | rfl | rfl | rfl | rfl | rfl | rfl | rfl | rfl | rfl | rfl | rfl | rfl | rfl | rfl
        · have e12 : a.tmps[12]?.getD undef = .pointer (some ⟨w3.heap.size, 0, none⟩) := hev 12 rfl
          refine Drawn.wpOp_flow 48 rfl rfl rfl ?_
          clear hev hdep hb
          go_simp
          exact ⟨_, rfl, rfl, Below.refl _ _⟩
        · have e3 : a.tmps[3]?.getD undef = .pointer (some ⟨w.heap.size, 0, none⟩) := hev 3 rfl
          refine Drawn.wpOp_flow 49 rfl rfl rfl ?_
          obtain ⟨p0, p1, p2, p3, p4, p5⟩ := six (HA4.out.below hb)
          clear hev hdep hb
          go_simp
          exact ⟨_, rfl, rfl, Below.refl _ _⟩
        · have e7 : a.tmps[7]?.getD undef = .slice A1 dn c1 := hev 7 rfl
          refine Drawn.wpOp_flow 50 rfl rfl rfl ?_
          clear hev hdep hb
          go_simp
          exact ⟨_, rfl, rfl, Below.refl _ _⟩
        · have e8 : a.tmps[8]?.getD undef = .slice A2 sn c2 := hev 8 rfl
          refine Drawn.wpOp_flow 51 rfl rfl rfl ?_
          clear hev hdep hb
          go_simp
          exact ⟨_, rfl, rfl, Below.refl _ _⟩
        · have d0 : a.tmps[48]?.getD undef = .pointer (some ⟨w3.heap.size, 0, none⟩) := hdep 0 rfl
          have d1 : a.tmps[49]?.getD undef = .agg #[.int .i64 (n0 : Nat), .int .i64 (t0 : Nat), .int .i64 (l0 : Nat), .int .i64 W, .int .i64 S, .int .i64 R] := hdep 1 rfl
          have d2 : a.tmps[50]?.getD undef = .slice A1 dn c1 := hdep 2 rfl
          have d3 : a.tmps[51]?.getD undef = .slice A2 sn c2 := hdep 3 rfl
          refine Drawn.wpOp_flow 52 rfl rfl rfl ?_
          clear hev hdep
          have C := HD.out _ wq (HT.out.below hb) (D.out.below (bstep HB4.out hb)) (SH.out.below (bstep HB4.out hb))
          clear hb
          go_simp
          refine C.mono ?_
          rintro e w' ⟨X, d, rfl, g3, hb'⟩
          exact ⟨_, rfl, ⟨X, d, rfl, g3⟩, hb'⟩
        · have e12 : a.tmps[12]?.getD undef = .pointer (some ⟨w3.heap.size, 0, none⟩) := hev 12 rfl
          refine Drawn.wpOp_flow 53 rfl rfl rfl ?_
          clear hev hdep hb
          go_simp
          exact ⟨_, rfl, rfl, Below.refl _ _⟩
        · have e3 : a.tmps[3]?.getD undef = .pointer (some ⟨w.heap.size, 0, none⟩) := hev 3 rfl
          refine Drawn.wpOp_flow 54 rfl rfl rfl ?_
          obtain ⟨p0, p1, p2, p3, p4, p5⟩ := six (HA4.out.below hb)
          clear hev hdep hb
          go_simp
          exact ⟨_, rfl, rfl, Below.refl _ _⟩
        · have e8 : a.tmps[8]?.getD undef = .slice A2 sn c2 := hev 8 rfl
          refine Drawn.wpOp_flow 55 rfl rfl rfl ?_
          clear hev hdep hb
          go_simp
          exact ⟨_, rfl, rfl, Below.refl _ _⟩
        · have d5 : a.tmps[53]?.getD undef = .pointer (some ⟨w3.heap.size, 0, none⟩) := hdep 5 rfl
          have d6 : a.tmps[54]?.getD undef = .agg #[.int .i64 (n0 : Nat), .int .i64 (t0 : Nat), .int .i64 (l0 : Nat), .int .i64 W, .int .i64 S, .int .i64 R] := hdep 6 rfl
          have d7 : a.tmps[55]?.getD undef = .slice A2 sn c2 := hdep 7 rfl
          refine Drawn.wpOp_flow 56 rfl rfl rfl ?_
          clear hev hdep
          have C := HZ.out _ wq (HT.out.below hb) (SH.out.below (bstep HB4.out hb))
          clear hb
          go_simp
          refine C.mono ?_
          rintro e w' ⟨X, d, rfl, g3, hb'⟩
          exact ⟨_, rfl, ⟨X, d, rfl, g3⟩, hb'⟩
        · have e12 : a.tmps[12]?.getD undef = .pointer (some ⟨w3.heap.size, 0, none⟩) := hev 12 rfl
          refine Drawn.wpOp_flow 57 rfl rfl rfl ?_
          clear hev hdep hb
          go_simp
          exact ⟨_, rfl, rfl, Below.refl _ _⟩
        · have e3 : a.tmps[3]?.getD undef = .pointer (some ⟨w.heap.size, 0, none⟩) := hev 3 rfl
          refine Drawn.wpOp_flow 58 rfl rfl rfl ?_
          obtain ⟨p0, p1, p2, p3, p4, p5⟩ := six (HA4.out.below hb)
          clear hev hdep hb
          go_simp
          exact ⟨_, rfl, rfl, Below.refl _ _⟩
        · have e8 : a.tmps[8]?.getD undef = .slice A2 sn c2 := hev 8 rfl
          refine Drawn.wpOp_flow 59 rfl rfl rfl ?_
          clear hev hdep hb
          go_simp
          exact ⟨_, rfl, rfl, Below.refl _ _⟩
        · have e10 : a.tmps[10]?.getD undef = .int .i64 t := hev 10 rfl
          refine Drawn.wpOp_flow 60 rfl rfl rfl ?_
          clear hev hdep hb
          go_simp
          exact ⟨_, rfl, rfl, Below.refl _ _⟩
        · have d9 : a.tmps[57]?.getD undef = .pointer (some ⟨w3.heap.size, 0, none⟩) := hdep 9 rfl
          have d10 : a.tmps[58]?.getD undef = .agg #[.int .i64 (n0 : Nat), .int .i64 (t0 : Nat), .int .i64 (l0 : Nat), .int .i64 W, .int .i64 S, .int .i64 R] := hdep 10 rfl
          have d11 : a.tmps[59]?.getD undef = .slice A2 sn c2 := hdep 11 rfl
          have d12 : a.tmps[60]?.getD undef = .int .i64 t := hdep 12 rfl
          refine Drawn.wpOp_flow 61 rfl rfl rfl ?_
          clear hev hdep
          have C := HBL.out _ wq (HT.out.below hb) (SH.out.below (bstep HB4.out hb))
          clear hb
          go_simp
          refine C.mono ?_
          rintro e w' ⟨X, d, rfl, g3, hb'⟩
          exact ⟨_, rfl, ⟨X, d, rfl, g3⟩, hb'⟩
        · have d4 := hdep 4 rfl
          refine Drawn.wpOp_flow 13 rfl rfl rfl ?_
          clear hev hdep hb
          go_simp
          exact ⟨_, rfl, d4, Below.refl _ _⟩
        · have d8 := hdep 8 rfl
          refine Drawn.wpOp_flow 14 rfl rfl rfl ?_
          clear hev hdep hb
          go_simp
          exact ⟨_, rfl, d8, Below.refl _ _⟩
        · have d13 := hdep 13 rfl
          refine Drawn.wpOp_flow 15 rfl rfl rfl ?_
          clear hev hdep hb
          go_simp
          exact ⟨_, rfl, d13, Below.refl _ _⟩
      · intro xq wq hb hxq
        have vq0 : xq 0 = .pointer (some ⟨w3.heap.size, 0, none⟩) := hxq 0 (by omega)
        have vq1 : xq 1 = .agg #[.int .i64 (n0 : Nat), .int .i64 (t0 : Nat), .int .i64 (l0 : Nat), .int .i64 W, .int .i64 S, .int .i64 R] := hxq 1 (by omega)
        have vq2 : xq 2 = .slice A1 dn c1 := hxq 2 (by omega)
        have vq3 : xq 3 = .slice A2 sn c2 := hxq 3 (by omega)
        have vq5 : xq 5 = .pointer (some ⟨w3.heap.size, 0, none⟩) := hxq 5 (by omega)
        have vq6 : xq 6 = .agg #[.int .i64 (n0 : Nat), .int .i64 (t0 : Nat), .int .i64 (l0 : Nat), .int .i64 W, .int .i64 S, .int .i64 R] := hxq 6 (by omega)
        have vq7 : xq 7 = .slice A2 sn c2 := hxq 7 (by omega)
        have vq9 : xq 9 = .pointer (some ⟨w3.heap.size, 0, none⟩) := hxq 9 (by omega)
        have vq10 : xq 10 = .agg #[.int .i64 (n0 : Nat), .int .i64 (t0 : Nat), .int .i64 (l0 : Nat), .int .i64 W, .int .i64 S, .int .i64 R] := hxq 10 (by omega)
        have vq11 : xq 11 = .slice A2 sn c2 := hxq 11 (by omega)
        have vq12 : xq 12 = .int .i64 t := hxq 12 (by omega)
        obtain ⟨Xd, dd, vq14, xd⟩ : (SP.bN da t0).p (xq 14) wq := hxq 14 (by omega)
        obtain ⟨Xz, dz, vq15, xz⟩ : (SP.bN ze t0).p (xq 15) wq := hxq 15 (by omega)
        obtain ⟨Xb, db, vq16, xb⟩ : (SP.bN [] 0).p (xq 16) wq := hxq 16 (by omega)
        show Exit.then _ _ Exit.normal (Drawn.acts _ [(15, some (xq 16)), (14, some (xq 15)), (13, some (xq 14)), (61, some (xq 13)), (60, some (xq 12)), (59, some (xq 11)), (58, some (xq 10)), (57, some (xq 9)), (56, some (xq 8)), (55, some (xq 7)), (54, some (xq 6)), (53, some (xq 5)), (52, some (xq 4)), (51, some (xq 3)), (50, some (xq 2)), (49, some (xq 1)), (48, some (xq 0))]) _
        rw [vq0, vq1, vq2, vq3, vq5, vq6, vq7, vq9, vq10, vq11, vq12, vq14, vq15, vq16]
        clear hxq vq0 vq1 vq2 vq3 vq5 vq6 vq7 vq9 vq10 vq11 vq12 vq14 vq15 vq16
        generalize xq 4 = yq4
        generalize xq 8 = yq8
        generalize xq 13 = yq13
        clear xq
        simp only [Drawn.acts]
        go_simp
        have HB5 := Lib.hid (bstep HB4.out hb)
        have HA5 := Lib.hid (HA4.out.below hb)
        have HXD := Lib.hid xd; have HXZ := Lib.hid xz; have HXB := Lib.hid xb
        have HTP := Lib.hid (TP.out.below HB5.out)
        have HOE := Lib.hid (Own.empty wq wq.heap.size (Nat.le_refl _))
        clear xd xz xb hb HA3 HA4
        go_at_K
        go_wp2_with (at_builtin; refine wpList_append_bytes rfl _ _ rfl wq.heap.size _ [] tape rfl HOE.out A3 tn c3 rfl HTN.out (HTP.out.below (balloc _ _)) (by simp; have := HTN.out; omega) (by simp) ?_; intro v6 w6 ho6 hb6; have HO6 := Lib.hid ho6; have HB6 := Lib.hid (show Below wq.heap.size wq w6 from (balloc wq _).trans hb6); clear ho6 hb6)
        have ho := HO6.out
        rw [List.nil_append] at ho
        obtain ⟨X6, c6, hv6, _, _, _⟩ := ho.bytes
        rw [← HTN.out] at hv6
        subst hv6
        have HO6' := Lib.hid ho
        clear ho HO6 HOE
        go_loopw [67] (fun i wr => ∃ k : Nat, k ≤ sn ∧ i = .int .i64 k ∧ Own wr wq.heap.size (.slice X6 tn c6) (apply tape aq (sh.take k)) ∧ Below wq.heap.size wq wr) (fun i _ => sn - (intOf i).toNat)
        case atStart => exact ⟨0, Nat.zero_le _, rfl, by rw [HAP0.out]; exact HO6'.out, HB6.out⟩
        case round =>
          obtain ⟨k, hk, rfl, hO, hbr⟩ := hrel
          rename World => wr
          by_cases hlt : k < sn
          · by_cases hin : 0 ≤ aq ∧ aq + k < (tn : Int)
            · obtain ⟨y, hy⟩ : ∃ y : Nat, aq + k = y := ⟨(aq + k).toNat, by omega⟩
              obtain ⟨g, c7, e, hg, hgl, s1, s2, s3⟩ := hO.place (i := y) (by rw [HAL.out]; omega)
              injection e with e1 e2 e3
              subst e1; subst e3
              obtain ⟨b2, o2, rfl, f2⟩ := (SH.out.below (bstep HB5.out hbr)) k (by have := HSN.out; omega)
              have hst := HAS.out k y (by have := HSN.out; omega) hin.1 (by omega) hy (by rw [HAL.out]; omega) (by have := HSN.out; omega)
              have h3 := s3 0 (GfM.add ((apply tape aq (sh.take k))[y]'(by rw [HAL.out]; omega)) (sh[k]'(by have := HSN.out; omega)))
              rw [hst] at h3
              have HO3 := Lib.hid (show Own (wr.setCell _ _) _ _ _ from h3)
              generalize (apply tape aq (sh.take k))[y]'(by rw [HAL.out]; omega) = u at *
              generalize sh[k]'(by have := HSN.out; omega) = z at *
              have i1 : IntKind.i64.wrap (aq + (k : Int)) = (y : Int) := by rw [hy]; exact IntWalk.i64_in _ (by omega)
              have i2 : IntKind.i64.wrap ((tn : Int) - k) = (tn : Int) - k := IntWalk.i64_in _ (by omega)
              have j1 : 0 ≤ aq := hin.1
              have j2 : aq < (tn : Int) - k := by omega
              have j3 : y < tn := by omega
              have HBS := Lib.hid (fun v => hbr.setCell (p := ⟨g, y, none⟩) hg v)
              clear hO hbr s3 hst h3 e2 hin hy
              go_wp2
              go_region
              all_goals
                go_wp2
                go_roundw
                case rel => exact ⟨k + 1, by omega, by go_num, HO3.out, by first | exact HBS.out _ | exact below_drewN (HBS.out _) 1⟩
                case measure => simp [intOf] <;> omega
            · have hsa := HSM.out k hlt hin
              have HSA := Lib.hid hsa
              have HOO := Lib.hid hO
              have i2 : IntKind.i64.wrap ((tn : Int) - k) = (tn : Int) - k := IntWalk.i64_in _ (by omega)
              clear hsa hO
              by_cases j1 : 0 ≤ aq
              · have j2 : ¬ aq < (tn : Int) - k := by omega
                clear hin
                go_wp2
                go_roundw
                case rel => exact ⟨k + 1, by omega, by go_num, by rw [← HSA.out]; exact HOO.out, hbr⟩
                case measure => simp [intOf] <;> omega
              · clear hin
                go_wp2
                go_roundw
                case rel => exact ⟨k + 1, by omega, by go_num, by rw [← HSA.out]; exact HOO.out, hbr⟩
                case measure => simp [intOf] <;> omega
          · obtain rfl : k = sn := by omega
            rw [HTK.out] at hO
            obtain ⟨X7, c7, e7, _, _, hX7⟩ := hO.bytes
            rw [HALL.out] at e7
            injection e7 with e1 e2 e3
            subst e1; subst e3
            have HX7 := Lib.hid hX7
            have HB7 := Lib.hid (bstep HB5.out hbr)
            have HA7 := Lib.hid (HA5.out.below hbr)
            replace HXD := Lib.hid (HXD.out.below hbr); replace HXZ := Lib.hid (HXZ.out.below hbr); replace HXB := Lib.hid (HXB.out.below hbr)
            clear hO hX7 e2 hbr
            go_wp2_with fail
            refine (HAPP.out wr (TP.out.below HB7.out) (SH.out.below HB7.out)).mono ?_
            rintro e w8 ⟨X8, c8, rfl, hX8, hb8⟩
            have C := same_yes X8 _ (apply tape aq sh) tn HALL.out.symm c8 c6 w8 hX8 (HX7.out.below hb8) HMT.out
            have HC := Lib.hid C
            have HB8 := Lib.hid (bstep HB7.out hb8)
            have HA8 := Lib.hid (HA7.out.below hb8)
            replace HXD := Lib.hid (HXD.out.below hb8); replace HXZ := Lib.hid (HXZ.out.below hb8); replace HXB := Lib.hid (HXB.out.below hb8)
            clear C hb8 hX8
            go_wp2_with fail
            refine HC.out.mono ?_
            rintro e w9 ⟨rfl, hb9⟩
            have HB9 := Lib.hid (bstep HB8.out hb9)
            have HA9 := Lib.hid (HA8.out.below hb9)
            replace HXD := Lib.hid (HXD.out.below hb9); replace HXZ := Lib.hid (HXZ.out.below hb9); replace HXB := Lib.hid (HXB.out.below hb9)
            clear HC hb9 HA5 HA7 HA8
            obtain ⟨p0, p1, p2, p3, p4, p5⟩ := six HA9.out
            go_wp2_with fail
            refine (HR.out _).mono ?_
            rintro e w10 ⟨rfl, hb10⟩
            clear p0 p1 p2 p3 p4 p5
            have HB10 := Lib.hid (bstep HB9.out hb10)
            have HA10 := Lib.hid (HA9.out.below hb10)
            replace HXD := Lib.hid (HXD.out.below hb10); replace HXZ := Lib.hid (HXZ.out.below hb10); replace HXB := Lib.hid (HXB.out.below hb10)
            clear hb10 HA9
            obtain ⟨p0, p1, p2, p3, p4, p5⟩ := six HA10.out
            go_wp2_with fail
            refine (HIS.out _).mono ?_
            rintro e w11 ⟨rfl, hb11⟩
            clear p0 p1 p2 p3 p4 p5
            have HB11 := Lib.hid (bstep HB10.out hb11)
            have HA11 := Lib.hid (HA10.out.below hb11)
            replace HXD := Lib.hid (HXD.out.below hb11)
            replace HXZ := Lib.hid (HXZ.out.below hb11)
            replace HXB := Lib.hid (HXB.out.below hb11)
            clear hb11
            obtain ⟨p0, p1, p2, p3, p4, p5⟩ := six HA11.out
            go_wp2_with fail
            refine (HRD.out w11 (D.out.below HB11.out) (SH.out.below HB11.out)).mono ?_
            rintro e w14 ⟨Y1, dy1, rfl, hY1, hb14⟩
            clear p0 p1 p2 p3 p4 p5
            have HY1 := Lib.hid hY1
            clear hY1
            have HB14 := Lib.hid (bstep HB11.out hb14)
            have HA14 := Lib.hid (HA11.out.below hb14)
            replace HXD := Lib.hid (HXD.out.below hb14)
            replace HXZ := Lib.hid (HXZ.out.below hb14)
            replace HXB := Lib.hid (HXB.out.below hb14)
            clear hb14
            go_wp2_with fail
            refine (same_yes Xd Y1 da t0 HLD.out dd dy1 w14 HXD.out HY1.out HMD.out).mono ?_
            rintro e w15 ⟨rfl, hb15⟩
            have HB15 := Lib.hid (bstep HB14.out hb15)
            have HA15 := Lib.hid (HA14.out.below hb15)
            replace HXD := Lib.hid (HXD.out.below hb15)
            replace HXZ := Lib.hid (HXZ.out.below hb15)
            replace HXB := Lib.hid (HXB.out.below hb15)
            clear hb15
            obtain ⟨p0, p1, p2, p3, p4, p5⟩ := six HA15.out
            go_wp2_with fail
            refine (HRZ.out w15 (SH.out.below HB15.out)).mono ?_
            rintro e w16 ⟨Y2, dy2, rfl, hY2, hb16⟩
            clear p0 p1 p2 p3 p4 p5
            have HY2 := Lib.hid hY2
            clear hY2
            have HB16 := Lib.hid (bstep HB15.out hb16)
            have HA16 := Lib.hid (HA15.out.below hb16)
            replace HXD := Lib.hid (HXD.out.below hb16)
            replace HXZ := Lib.hid (HXZ.out.below hb16)
            replace HXB := Lib.hid (HXB.out.below hb16)
            clear hb16
            go_wp2_with fail
            refine (same_yes Xz Y2 ze t0 HLZ.out dz dy2 w16 HXZ.out HY2.out HMZ.out).mono ?_
            rintro e w17 ⟨rfl, hb17⟩
            have HB17 := Lib.hid (bstep HB16.out hb17)
            have HA17 := Lib.hid (HA16.out.below hb17)
            replace HXD := Lib.hid (HXD.out.below hb17)
            replace HXZ := Lib.hid (HXZ.out.below hb17)
            replace HXB := Lib.hid (HXB.out.below hb17)
            clear hb17
            go_wp2_with fail
            refine (alive_any _).mono ?_
            rintro e w9 ⟨rfl, hb9⟩
            go_wp2
            go_ret
            exact ⟨rfl, bstep HB17.out hb9⟩
theorem masks_law (q : P) (A1 : Option Addr) (delta : List UInt8) (c1 : Nat) (A2 : Option Addr) (sh : List UInt8) (c2 : Nat) (A3 : Option Addr) (tape : List UInt8) (c3 : Nat) (t aq : Int) (w : World) (hp : q.In) (h1 : BytesAt w A1 delta) (_k1 : delta.length ≤ c1) (_z1 : c1 ≤ maxLen) (h2 : BytesAt w A2 sh) (_k2 : sh.length ≤ c2) (_z2 : c2 ≤ maxLen) (h3 : BytesAt w A3 tape) (_k3 : tape.length ≤ c3) (_z3 : c3 ≤ maxLen) (hti : In64 t) (hai : In64 aq) :
    Calls Try.prog 4 #[q.val, .agg #[.slice A1 delta.length c1, .slice A2 sh.length c2, .slice A3 tape.length c3], .agg #[.int .i64 t, .int .i64 aq]] w fun e w' => e = .returned (.bool true) ∧ Below w.heap.size w w' := by
  obtain ⟨N, T, L, W, S, R⟩ := q
  unfold P.val
  by_cases hl : N ≤ 12 ∧ L ≤ 12 ∧ T ≤ 12
  · by_cases hd : delta.length ≤ 20
    · by_cases hs : sh.length ≤ 30
      · by_cases ht : tape.length ≤ 60
        · by_cases hM : (⟨N, T, L, W, S, R⟩ : P).May
          · have hM' := hM
            unfold P.May at hM'
            simp only at hM'
            obtain ⟨n0, rfl⟩ : ∃ n0 : Nat, N = n0 := ⟨N.toNat, by omega⟩
            obtain ⟨t0, rfl⟩ : ∃ t0 : Nat, T = t0 := ⟨T.toNat, by omega⟩
            obtain ⟨l0, rfl⟩ : ∃ l0 : Nat, L = l0 := ⟨L.toNat, by omega⟩
            rcases his : P.is ⟨n0, t0, l0, W, S, R⟩ t with _ | _
            · exact masks_out W S R t aq n0 t0 l0 A1 A2 A3 delta sh tape c1 c2 c3 w hp h1 h2 h3 hd hs ht hti hai hl hM his
            · exact masks_in W S R t aq n0 t0 l0 A1 A2 A3 delta sh tape c1 c2 c3 w hp h1 h2 h3 hd hs ht hti hai hl hM his
          · exact masks_no N T L W S R t aq A1 A2 A3 delta sh tape c1 c2 c3 w hp h1 h2 h3 hd hs ht hti hai hl hM
        · exact masks_much N T L W S R t aq A1 A2 A3 delta.length sh.length tape.length c1 c2 c3 w hl hd hs (by omega)
      · exact masks_many N T L W S R t aq A1 A2 A3 delta.length sh.length tape.length c1 c2 c3 w hl hd (by omega)
    · exact masks_long N T L W S R t aq A1 A2 A3 delta.length sh.length tape.length c1 c2 c3 w hl (by omega)
  · exact masks_heavy N T L W S R t aq A1 A2 A3 delta.length sh.length tape.length c1 c2 c3 w hl
end Go.Proofs.Ytompeiemioeohaa.Law14
