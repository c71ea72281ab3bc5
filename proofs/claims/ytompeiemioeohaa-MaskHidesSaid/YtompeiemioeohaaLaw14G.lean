/- the walk of MaskHides: the cases in which nothing is asked -/
import Derived.Test.YtompeiemioeohaaLaw14D
set_option maxRecDepth 100000
namespace Go.Proofs.Ytompeiemioeohaa.Law14
open Go.RowKit PlanM StripeM LagrM DealM RebM ZeroM MaskM Law08 Law10

structure LiesH (w : World) (g : Nat) (N T L W S R : Int) (p0 p1 p2 : Value) : Prop where
  plan : PlanLies w g N T L W S R
  a0 : w.cell? ⟨g + 1, 0, none⟩ = some p0
  a1 : w.cell? ⟨g + 1, 1, none⟩ = some p1
  a2 : w.cell? ⟨g + 1, 2, none⟩ = some p2
theorem LiesH.below {w w' : World} {g : Nat} {N T L W S R : Int} {p0 p1 p2 : Value} (h : LiesH w g N T L W S R p0 p1 p2) (hb : Below w.heap.size w w') : LiesH w' g N T L W S R p0 p1 p2 :=
  ⟨h.plan.below hb, (hb.cell (p := ⟨g + 1, 0, none⟩) (cell_lt h.a0)).trans h.a0, (hb.cell (p := ⟨g + 1, 1, none⟩) (cell_lt h.a1)).trans h.a1, (hb.cell (p := ⟨g + 1, 2, none⟩) (cell_lt h.a2)).trans h.a2⟩
theorem liesH_aux (w : World) (g : Nat) (hg : w.heap.size = g + 1) (N T L W S R : Int) (p0 p1 p2 : Value) (t : TypeId) (h : PlanLies w g N T L W S R) : LiesH (w.alloc (.cells #[p0, p1, p2] t)) g N T L W S R p0 p1 p2 := by
  have a0 : (w.alloc (.cells #[p0, p1, p2] t)).cell? ⟨w.heap.size, 0, none⟩ = some p0 := by simp
  have a1 : (w.alloc (.cells #[p0, p1, p2] t)).cell? ⟨w.heap.size, 1, none⟩ = some p1 := by simp
  have a2 : (w.alloc (.cells #[p0, p1, p2] t)).cell? ⟨w.heap.size, 2, none⟩ = some p2 := by simp
  rw [hg] at a0 a1 a2
  exact ⟨h.below (balloc _ _), a0, a1, a2⟩
theorem LiesH.new (w : World) (N T L W S R : Int) (p0 p1 p2 : Value) (t : TypeId) : LiesH ((w.alloc (.cells #[.int .i64 N, .int .i64 T, .int .i64 L, .int .i64 W, .int .i64 S, .int .i64 R] 23)).alloc (.cells #[p0, p1, p2] t)) w.heap.size N T L W S R p0 p1 p2 :=
  liesH_aux (w.alloc (.cells #[.int .i64 N, .int .i64 T, .int .i64 L, .int .i64 W, .int .i64 S, .int .i64 R] 23)) w.heap.size (by simp) N T L W S R p0 p1 p2 t (PlanLies.new w N T L W S R)
set_option maxHeartbeats 4000000 in
theorem hides_heavy (N T L W S R : Int) (A1 A2 A3 A4 : Option Addr) (an bn tn zn c1 c2 c3 c4 : Nat) (w : World) (hp : P.In ⟨N, T, L, W, S, R⟩) (hl : ¬ (N ≤ 12 ∧ L ≤ 12 ∧ T ≤ 12)) :
    Calls Try.prog 5 #[.agg #[.int .i64 N, .int .i64 T, .int .i64 L, .int .i64 W, .int .i64 S, .int .i64 R], .agg #[.slice A1 an c1, .slice A2 bn c2, .slice A3 tn c3], .slice A4 zn c4] w fun e w' => e = .returned (.bool true) ∧ Below w.heap.size w w' := by
  have K0 := fun w => Law10.light_any N T L W S R w
  rw [decide_eq_false hl] at K0
  have H0 := Lib.hid K0
  have KR := fun V => R08.right_any ⟨N, T, L, W, S, R⟩ V hp
  simp only [P.val] at KR
  have HR := Lib.hid KR
  clear K0 KR hl hp
  have HA := Lib.hid (LiesH.new w N T L W S R (.slice A1 an c1) (.slice A2 bn c2) (.slice A3 tn c3) 40)
  have HB0 := Lib.hid (show Below w.heap.size w (((w.alloc (.cells #[.int .i64 N, .int .i64 T, .int .i64 L, .int .i64 W, .int .i64 S, .int .i64 R] 23)).alloc (.cells #[.slice A1 an c1, .slice A2 bn c2, .slice A3 tn c3] 40))) from bstep (balloc _ _) (balloc _ _))
  go_enter Try.func5, Try.ntmps5
  go_wp2_with fail
  generalize ((w.alloc (.cells #[.int .i64 N, .int .i64 T, .int .i64 L, .int .i64 W, .int .i64 S, .int .i64 R] 23)).alloc (.cells #[.slice A1 an c1, .slice A2 bn c2, .slice A3 tn c3] 40)) = w0 at *
  refine Drawn.wp_region_flowL 9 [Drawn.SP.is (.pointer (some ⟨w.heap.size + 1, 0, none⟩)), Drawn.SP.is (.slice A1 an c1), Drawn.SP.is (.pointer (some ⟨w.heap.size + 1, 1, none⟩)), Drawn.SP.is (.slice A2 bn c2), Drawn.SP.is (.pointer (some ⟨w.heap.size + 1, 2, none⟩)), Drawn.SP.is (.slice A3 tn c3), Drawn.SP.is (.slice A1 an c1), Drawn.SP.is (.slice A2 bn c2), Drawn.SP.is (.slice A3 tn c3)] (by kernel_rfl) (by kernel_rfl) ?_ ?_
  · intro i hi a w1 hb hev hdep
    rcases (show i = 0 ∨ i = 1 ∨ i = 2 ∨ i = 3 ∨ i = 4 ∨ i = 5 ∨ i = 6 ∨ i = 7 ∨ i = 8 by omega) with rfl | rfl | rfl | rfl | rfl | rfl | rfl | rfl | rfl
    · have e4 : a.tmps[4]?.getD undef = .pointer (some ⟨w.heap.size + 1, 0, none⟩) := hev 4 rfl
      refine Drawn.wpOp_flow 30 rfl rfl rfl ?_
      clear hev hdep hb
      go_simp
      exact ⟨_, rfl, rfl, Below.refl _ _⟩
    · have d0 : a.tmps[30]?.getD undef = .pointer (some ⟨w.heap.size + 1, 0, none⟩) := hdep 0 rfl
      refine Drawn.wpOp_flow 31 rfl rfl rfl ?_
      have a0 := (HA.out.below hb).a0; have a1 := (HA.out.below hb).a1; have a2 := (HA.out.below hb).a2
      clear hev hdep hb
      go_simp
      exact ⟨_, rfl, rfl, Below.refl _ _⟩
    · have e4 : a.tmps[4]?.getD undef = .pointer (some ⟨w.heap.size + 1, 0, none⟩) := hev 4 rfl
      refine Drawn.wpOp_flow 32 rfl rfl rfl ?_
      clear hev hdep hb
      go_simp
      exact ⟨_, rfl, rfl, Below.refl _ _⟩
    · have d2 : a.tmps[32]?.getD undef = .pointer (some ⟨w.heap.size + 1, 1, none⟩) := hdep 2 rfl
      refine Drawn.wpOp_flow 33 rfl rfl rfl ?_
      have a0 := (HA.out.below hb).a0; have a1 := (HA.out.below hb).a1; have a2 := (HA.out.below hb).a2
      clear hev hdep hb
      go_simp
      exact ⟨_, rfl, rfl, Below.refl _ _⟩
    · have e4 : a.tmps[4]?.getD undef = .pointer (some ⟨w.heap.size + 1, 0, none⟩) := hev 4 rfl
      refine Drawn.wpOp_flow 34 rfl rfl rfl ?_
      clear hev hdep hb
      go_simp
      exact ⟨_, rfl, rfl, Below.refl _ _⟩
    · have d4 : a.tmps[34]?.getD undef = .pointer (some ⟨w.heap.size + 1, 2, none⟩) := hdep 4 rfl
      refine Drawn.wpOp_flow 35 rfl rfl rfl ?_
      have a0 := (HA.out.below hb).a0; have a1 := (HA.out.below hb).a1; have a2 := (HA.out.below hb).a2
      clear hev hdep hb
      go_simp
      exact ⟨_, rfl, rfl, Below.refl _ _⟩
    · have d1 : a.tmps[31]?.getD undef = .slice A1 an c1 := hdep 1 rfl
      refine Drawn.wpOp_flow 7 rfl rfl rfl ?_
      clear hev hdep hb
      go_simp
      exact ⟨_, rfl, rfl, Below.refl _ _⟩
    · have d3 : a.tmps[33]?.getD undef = .slice A2 bn c2 := hdep 3 rfl
      refine Drawn.wpOp_flow 8 rfl rfl rfl ?_
      clear hev hdep hb
      go_simp
      exact ⟨_, rfl, rfl, Below.refl _ _⟩
    · have d5 : a.tmps[35]?.getD undef = .slice A3 tn c3 := hdep 5 rfl
      refine Drawn.wpOp_flow 9 rfl rfl rfl ?_
      clear hev hdep hb
      go_simp
      exact ⟨_, rfl, rfl, Below.refl _ _⟩
  · intro xq w1 hb hxq
    have vq0 : xq 0 = .pointer (some ⟨w.heap.size + 1, 0, none⟩) := hxq 0 (by omega)
    have vq1 : xq 1 = .slice A1 an c1 := hxq 1 (by omega)
    have vq2 : xq 2 = .pointer (some ⟨w.heap.size + 1, 1, none⟩) := hxq 2 (by omega)
    have vq3 : xq 3 = .slice A2 bn c2 := hxq 3 (by omega)
    have vq4 : xq 4 = .pointer (some ⟨w.heap.size + 1, 2, none⟩) := hxq 4 (by omega)
    have vq5 : xq 5 = .slice A3 tn c3 := hxq 5 (by omega)
    have vq6 : xq 6 = .slice A1 an c1 := hxq 6 (by omega)
    have vq7 : xq 7 = .slice A2 bn c2 := hxq 7 (by omega)
    have vq8 : xq 8 = .slice A3 tn c3 := hxq 8 (by omega)
    show Exit.then _ _ Exit.normal (Drawn.acts _ [(9, some (xq 8)), (8, some (xq 7)), (7, some (xq 6)), (35, some (xq 5)), (34, some (xq 4)), (33, some (xq 3)), (32, some (xq 2)), (31, some (xq 1)), (30, some (xq 0))]) _
    rw [vq0, vq1, vq2, vq3, vq4, vq5, vq6, vq7, vq8]
    clear hxq vq0 vq1 vq2 vq3 vq4 vq5 vq6 vq7 vq8
    clear xq
    simp only [Drawn.acts]
    go_simp
    have HB1 := Lib.hid (bstep HB0.out hb)
    have HA1 := Lib.hid (HA.out.below hb)
    clear hb HA
    go_at_K
    go_wp2_with fail
    refine Drawn.wp_region_flowL 38 [Drawn.SP.is (.agg #[.int .i64 N, .int .i64 T, .int .i64 L, .int .i64 W, .int .i64 S, .int .i64 R]), Drawn.SP.is (.bool false), Drawn.SP.is (.bool true), Drawn.SP.is (.bool true), Drawn.SP.is (undef), Drawn.SP.is (undef), Drawn.SP.is (undef), Drawn.SP.is (.bool true), Drawn.SP.is (.bool true), Drawn.SP.is (undef), Drawn.SP.is (undef), Drawn.SP.is (undef), Drawn.SP.is (.bool true), Drawn.SP.is (.bool true), Drawn.SP.is (undef), Drawn.SP.is (undef), Drawn.SP.is (undef), Drawn.SP.is (undef), Drawn.SP.is (undef), Drawn.SP.is (.bool true), Drawn.SP.is (.bool true), Drawn.SP.is (undef), Drawn.SP.is (undef), Drawn.SP.is (undef), Drawn.SP.is (undef), Drawn.SP.is (undef), Drawn.SP.is (undef), Drawn.SP.is (undef), Drawn.SP.is (.bool true), Drawn.SP.is (.bool true), Drawn.SP.is (undef), Drawn.SP.is (undef), Drawn.SP.is (undef), Drawn.SP.is (undef), Drawn.SP.is (undef), Drawn.SP.is (undef), Drawn.SP.is (undef), Drawn.SP.is (.bool true)] (by kernel_rfl) (by kernel_rfl) ?_ ?_
    · intro i hi a wq hb hev hdep
      rcases (show i = 0 ∨ i = 1 ∨ i = 2 ∨ i = 3 ∨ i = 4 ∨ i = 5 ∨ i = 6 ∨ i = 7 ∨ i = 8 ∨ i = 9 ∨ i = 10 ∨ i = 11 ∨ i = 12 ∨ i = 13 ∨ i = 14 ∨ i = 15 ∨ i = 16 ∨ i = 17 ∨ i = 18 ∨ i = 19 ∨ i = 20 ∨ i = 21 ∨ i = 22 ∨ i = 23 ∨ i = 24 ∨ i = 25 ∨ i = 26 ∨ i = 27 ∨ i = 28 ∨ i = 29 ∨ i = 30 ∨ i = 31 ∨ i = 32 ∨ i = 33 ∨ i = 34 ∨ i = 35 ∨ i = 36 ∨ i = 37 by omega) with rfl | rfl | rfl | rfl | rfl | rfl | rfl | rfl | rfl | rfl | rfl | rfl | rfl | rfl | rfl | rfl | rfl | rfl | rfl | rfl | rfl | rfl | rfl | rfl | rfl | rfl | rfl | rfl | rfl | rfl | rfl | rfl | rfl | rfl | rfl | rfl | rfl | rfl
      · have e3 : a.tmps[3]?.getD undef = .pointer (some ⟨w.heap.size, 0, none⟩) := hev 3 rfl
        refine Drawn.wpOp_flow 36 rfl rfl rfl ?_
        obtain ⟨p0, p1, p2, p3, p4, p5⟩ := six (HA1.out.below hb).plan
        clear hev hdep hb
        go_simp
        exact ⟨_, rfl, rfl, Below.refl _ _⟩
      · have d0 : a.tmps[36]?.getD undef = .agg #[.int .i64 N, .int .i64 T, .int .i64 L, .int .i64 W, .int .i64 S, .int .i64 R] := hdep 0 rfl
        refine Drawn.wpOp_flow 37 rfl rfl rfl ?_
        clear hev hdep
        have C := H0.out wq
        clear hb
        go_simp
        refine C.mono ?_
        rintro e w' ⟨rfl, hb'⟩
        exact ⟨_, rfl, rfl, hb'⟩
      · have d1 : a.tmps[37]?.getD undef = .bool false := hdep 1 rfl
        refine Drawn.wpOp_flow 38 rfl rfl rfl ?_
        clear hev hdep hb
        go_simp
        exact ⟨_, rfl, rfl, Below.refl _ _⟩
      · have d2 : a.tmps[38]?.getD undef = .bool true := hdep 2 rfl
        refine Drawn.wpOp_flow 39 rfl rfl rfl ?_
        clear hev hdep hb
        go_simp
        exact ⟨_, rfl, rfl, Below.refl _ _⟩
      · have dg : a.tmps[39]?.getD undef = .bool true := hdep 3 rfl
        exact Drawn.wpOp_flow_skip 40 rfl (Drawn.unwanted_of rfl rfl rfl dg rfl) rfl rfl
      · have dg : a.tmps[39]?.getD undef = .bool true := hdep 3 rfl
        exact Drawn.wpOp_flow_skip 41 rfl (Drawn.unwanted_of rfl rfl rfl dg rfl) rfl rfl
      · have dg : a.tmps[39]?.getD undef = .bool true := hdep 3 rfl
        exact Drawn.wpOp_flow_skip 42 rfl (Drawn.unwanted_of rfl rfl rfl dg rfl) rfl rfl
      · have d3 : a.tmps[39]?.getD undef = .bool true := hdep 3 rfl
        have d6 : a.tmps[42]?.getD undef = undef := hdep 6 rfl
        refine Drawn.wpOp_flow 43 rfl rfl rfl ?_
        clear hev hdep hb
        go_simp
        exact ⟨_, rfl, rfl, Below.refl _ _⟩
      · have d7 : a.tmps[43]?.getD undef = .bool true := hdep 7 rfl
        refine Drawn.wpOp_flow 44 rfl rfl rfl ?_
        clear hev hdep hb
        go_simp
        exact ⟨_, rfl, rfl, Below.refl _ _⟩
      · have dg : a.tmps[44]?.getD undef = .bool true := hdep 8 rfl
        exact Drawn.wpOp_flow_skip 45 rfl (Drawn.unwanted_of rfl rfl rfl dg rfl) rfl rfl
      · have dg : a.tmps[44]?.getD undef = .bool true := hdep 8 rfl
        exact Drawn.wpOp_flow_skip 46 rfl (Drawn.unwanted_of rfl rfl rfl dg rfl) rfl rfl
      · have dg : a.tmps[44]?.getD undef = .bool true := hdep 8 rfl
        exact Drawn.wpOp_flow_skip 47 rfl (Drawn.unwanted_of rfl rfl rfl dg rfl) rfl rfl
      · have d8 : a.tmps[44]?.getD undef = .bool true := hdep 8 rfl
        have d11 : a.tmps[47]?.getD undef = undef := hdep 11 rfl
        refine Drawn.wpOp_flow 48 rfl rfl rfl ?_
        clear hev hdep hb
        go_simp
        exact ⟨_, rfl, rfl, Below.refl _ _⟩
      · have d12 : a.tmps[48]?.getD undef = .bool true := hdep 12 rfl
        refine Drawn.wpOp_flow 49 rfl rfl rfl ?_
        clear hev hdep hb
        go_simp
        exact ⟨_, rfl, rfl, Below.refl _ _⟩
      · have dg : a.tmps[49]?.getD undef = .bool true := hdep 13 rfl
        exact Drawn.wpOp_flow_skip 50 rfl (Drawn.unwanted_of rfl rfl rfl dg rfl) rfl rfl
      · have dg : a.tmps[49]?.getD undef = .bool true := hdep 13 rfl
        exact Drawn.wpOp_flow_skip 51 rfl (Drawn.unwanted_of rfl rfl rfl dg rfl) rfl rfl
      · have dg : a.tmps[49]?.getD undef = .bool true := hdep 13 rfl
        exact Drawn.wpOp_flow_skip 52 rfl (Drawn.unwanted_of rfl rfl rfl dg rfl) rfl rfl
      · have dg : a.tmps[49]?.getD undef = .bool true := hdep 13 rfl
        exact Drawn.wpOp_flow_skip 53 rfl (Drawn.unwanted_of rfl rfl rfl dg rfl) rfl rfl
      · have dg : a.tmps[49]?.getD undef = .bool true := hdep 13 rfl
        exact Drawn.wpOp_flow_skip 54 rfl (Drawn.unwanted_of rfl rfl rfl dg rfl) rfl rfl
      · have d13 : a.tmps[49]?.getD undef = .bool true := hdep 13 rfl
        have d18 : a.tmps[54]?.getD undef = undef := hdep 18 rfl
        refine Drawn.wpOp_flow 55 rfl rfl rfl ?_
        clear hev hdep hb
        go_simp
        exact ⟨_, rfl, rfl, Below.refl _ _⟩
      · have d19 : a.tmps[55]?.getD undef = .bool true := hdep 19 rfl
        refine Drawn.wpOp_flow 56 rfl rfl rfl ?_
        clear hev hdep hb
        go_simp
        exact ⟨_, rfl, rfl, Below.refl _ _⟩
      · have dg : a.tmps[56]?.getD undef = .bool true := hdep 20 rfl
        exact Drawn.wpOp_flow_skip 57 rfl (Drawn.unwanted_of rfl rfl rfl dg rfl) rfl rfl
      · have dg : a.tmps[56]?.getD undef = .bool true := hdep 20 rfl
        exact Drawn.wpOp_flow_skip 58 rfl (Drawn.unwanted_of rfl rfl rfl dg rfl) rfl rfl
      · have dg : a.tmps[56]?.getD undef = .bool true := hdep 20 rfl
        exact Drawn.wpOp_flow_skip 59 rfl (Drawn.unwanted_of rfl rfl rfl dg rfl) rfl rfl
      · have dg : a.tmps[56]?.getD undef = .bool true := hdep 20 rfl
        exact Drawn.wpOp_flow_skip 60 rfl (Drawn.unwanted_of rfl rfl rfl dg rfl) rfl rfl
      · have dg : a.tmps[56]?.getD undef = .bool true := hdep 20 rfl
        exact Drawn.wpOp_flow_skip 61 rfl (Drawn.unwanted_of rfl rfl rfl dg rfl) rfl rfl
      · have dg : a.tmps[56]?.getD undef = .bool true := hdep 20 rfl
        exact Drawn.wpOp_flow_skip 62 rfl (Drawn.unwanted_of rfl rfl rfl dg rfl) rfl rfl
      · have dg : a.tmps[56]?.getD undef = .bool true := hdep 20 rfl
        exact Drawn.wpOp_flow_skip 63 rfl (Drawn.unwanted_of rfl rfl rfl dg rfl) rfl rfl
      · have d20 : a.tmps[56]?.getD undef = .bool true := hdep 20 rfl
        have d27 : a.tmps[63]?.getD undef = undef := hdep 27 rfl
        refine Drawn.wpOp_flow 64 rfl rfl rfl ?_
        clear hev hdep hb
        go_simp
        exact ⟨_, rfl, rfl, Below.refl _ _⟩
      · have d28 : a.tmps[64]?.getD undef = .bool true := hdep 28 rfl
        refine Drawn.wpOp_flow 65 rfl rfl rfl ?_
        clear hev hdep hb
        go_simp
        exact ⟨_, rfl, rfl, Below.refl _ _⟩
      · have dg : a.tmps[65]?.getD undef = .bool true := hdep 29 rfl
        exact Drawn.wpOp_flow_skip 66 rfl (Drawn.unwanted_of rfl rfl rfl dg rfl) rfl rfl
      · have dg : a.tmps[65]?.getD undef = .bool true := hdep 29 rfl
        exact Drawn.wpOp_flow_skip 67 rfl (Drawn.unwanted_of rfl rfl rfl dg rfl) rfl rfl
      · have dg : a.tmps[65]?.getD undef = .bool true := hdep 29 rfl
        exact Drawn.wpOp_flow_skip 68 rfl (Drawn.unwanted_of rfl rfl rfl dg rfl) rfl rfl
      · have dg : a.tmps[65]?.getD undef = .bool true := hdep 29 rfl
        exact Drawn.wpOp_flow_skip 69 rfl (Drawn.unwanted_of rfl rfl rfl dg rfl) rfl rfl
      · have dg : a.tmps[65]?.getD undef = .bool true := hdep 29 rfl
        exact Drawn.wpOp_flow_skip 70 rfl (Drawn.unwanted_of rfl rfl rfl dg rfl) rfl rfl
      · have dg : a.tmps[65]?.getD undef = .bool true := hdep 29 rfl
        exact Drawn.wpOp_flow_skip 71 rfl (Drawn.unwanted_of rfl rfl rfl dg rfl) rfl rfl
      · have dg : a.tmps[65]?.getD undef = .bool true := hdep 29 rfl
        exact Drawn.wpOp_flow_skip 72 rfl (Drawn.unwanted_of rfl rfl rfl dg rfl) rfl rfl
      · have d29 : a.tmps[65]?.getD undef = .bool true := hdep 29 rfl
        have d36 : a.tmps[72]?.getD undef = undef := hdep 36 rfl
        refine Drawn.wpOp_flow 73 rfl rfl rfl ?_
        clear hev hdep hb
        go_simp
        exact ⟨_, rfl, rfl, Below.refl _ _⟩
    · intro xq wq hb hxq
      have vq0 : xq 0 = .agg #[.int .i64 N, .int .i64 T, .int .i64 L, .int .i64 W, .int .i64 S, .int .i64 R] := hxq 0 (by omega)
      have vq1 : xq 1 = .bool false := hxq 1 (by omega)
      have vq2 : xq 2 = .bool true := hxq 2 (by omega)
      have vq3 : xq 3 = .bool true := hxq 3 (by omega)
      have vq4 : xq 4 = undef := hxq 4 (by omega)
      have vq5 : xq 5 = undef := hxq 5 (by omega)
      have vq6 : xq 6 = undef := hxq 6 (by omega)
      have vq7 : xq 7 = .bool true := hxq 7 (by omega)
      have vq8 : xq 8 = .bool true := hxq 8 (by omega)
      have vq9 : xq 9 = undef := hxq 9 (by omega)
      have vq10 : xq 10 = undef := hxq 10 (by omega)
      have vq11 : xq 11 = undef := hxq 11 (by omega)
      have vq12 : xq 12 = .bool true := hxq 12 (by omega)
      have vq13 : xq 13 = .bool true := hxq 13 (by omega)
      have vq14 : xq 14 = undef := hxq 14 (by omega)
      have vq15 : xq 15 = undef := hxq 15 (by omega)
      have vq16 : xq 16 = undef := hxq 16 (by omega)
      have vq17 : xq 17 = undef := hxq 17 (by omega)
      have vq18 : xq 18 = undef := hxq 18 (by omega)
      have vq19 : xq 19 = .bool true := hxq 19 (by omega)
      have vq20 : xq 20 = .bool true := hxq 20 (by omega)
      have vq21 : xq 21 = undef := hxq 21 (by omega)
      have vq22 : xq 22 = undef := hxq 22 (by omega)
      have vq23 : xq 23 = undef := hxq 23 (by omega)
      have vq24 : xq 24 = undef := hxq 24 (by omega)
      have vq25 : xq 25 = undef := hxq 25 (by omega)
      have vq26 : xq 26 = undef := hxq 26 (by omega)
      have vq27 : xq 27 = undef := hxq 27 (by omega)
      have vq28 : xq 28 = .bool true := hxq 28 (by omega)
      have vq29 : xq 29 = .bool true := hxq 29 (by omega)
      have vq30 : xq 30 = undef := hxq 30 (by omega)
      have vq31 : xq 31 = undef := hxq 31 (by omega)
      have vq32 : xq 32 = undef := hxq 32 (by omega)
      have vq33 : xq 33 = undef := hxq 33 (by omega)
      have vq34 : xq 34 = undef := hxq 34 (by omega)
      have vq35 : xq 35 = undef := hxq 35 (by omega)
      have vq36 : xq 36 = undef := hxq 36 (by omega)
      have vq37 : xq 37 = .bool true := hxq 37 (by omega)
      show Exit.then _ _ Exit.normal (Drawn.acts _ [(73, some (xq 37)), (72, some (xq 36)), (71, some (xq 35)), (70, some (xq 34)), (69, some (xq 33)), (68, some (xq 32)), (67, some (xq 31)), (66, some (xq 30)), (65, some (xq 29)), (64, some (xq 28)), (63, some (xq 27)), (62, some (xq 26)), (61, some (xq 25)), (60, some (xq 24)), (59, some (xq 23)), (58, some (xq 22)), (57, some (xq 21)), (56, some (xq 20)), (55, some (xq 19)), (54, some (xq 18)), (53, some (xq 17)), (52, some (xq 16)), (51, some (xq 15)), (50, some (xq 14)), (49, some (xq 13)), (48, some (xq 12)), (47, some (xq 11)), (46, some (xq 10)), (45, some (xq 9)), (44, some (xq 8)), (43, some (xq 7)), (42, some (xq 6)), (41, some (xq 5)), (40, some (xq 4)), (39, some (xq 3)), (38, some (xq 2)), (37, some (xq 1)), (36, some (xq 0))]) _
      rw [vq0, vq1, vq2, vq3, vq4, vq5, vq6, vq7, vq8, vq9, vq10, vq11, vq12, vq13, vq14, vq15, vq16, vq17, vq18, vq19, vq20, vq21, vq22, vq23, vq24, vq25, vq26, vq27, vq28, vq29, vq30, vq31, vq32, vq33, vq34, vq35, vq36, vq37]
      clear hxq vq0 vq1 vq2 vq3 vq4 vq5 vq6 vq7 vq8 vq9 vq10 vq11 vq12 vq13 vq14 vq15 vq16 vq17 vq18 vq19 vq20 vq21 vq22 vq23 vq24 vq25 vq26 vq27 vq28 vq29 vq30 vq31 vq32 vq33 vq34 vq35 vq36 vq37
      clear xq
      simp only [Drawn.acts]
      go_simp
      have HB2 := Lib.hid (bstep HB1.out hb)
      have HA2 := Lib.hid (HA1.out.below hb).plan
      clear hb HA1
      go_at_K
      go_wp2_with fail
      refine (alive_any _).mono ?_
      rintro e w9 ⟨rfl, hb9⟩
      go_wp2
      go_ret
      exact ⟨rfl, bstep HB2.out hb9⟩
set_option maxHeartbeats 4000000 in
theorem hides_right (N T L W S R : Int) (A1 A2 A3 A4 : Option Addr) (an bn tn zn c1 c2 c3 c4 : Nat) (w : World) (hp : P.In ⟨N, T, L, W, S, R⟩) (hl : N ≤ 12 ∧ L ≤ 12 ∧ T ≤ 12) (hr : P.right ⟨N, T, L, W, S, R⟩ = false) :
    Calls Try.prog 5 #[.agg #[.int .i64 N, .int .i64 T, .int .i64 L, .int .i64 W, .int .i64 S, .int .i64 R], .agg #[.slice A1 an c1, .slice A2 bn c2, .slice A3 tn c3], .slice A4 zn c4] w fun e w' => e = .returned (.bool true) ∧ Below w.heap.size w w' := by
  have K0 := fun w => Law10.light_any N T L W S R w
  rw [decide_eq_true hl] at K0
  have H0 := Lib.hid K0
  have KR := fun V => R08.right_any ⟨N, T, L, W, S, R⟩ V hp
  simp only [P.val] at KR
  rw [hr] at KR
  have HR := Lib.hid KR
  clear K0 KR hl hp hr
  have HA := Lib.hid (LiesH.new w N T L W S R (.slice A1 an c1) (.slice A2 bn c2) (.slice A3 tn c3) 40)
  have HB0 := Lib.hid (show Below w.heap.size w (((w.alloc (.cells #[.int .i64 N, .int .i64 T, .int .i64 L, .int .i64 W, .int .i64 S, .int .i64 R] 23)).alloc (.cells #[.slice A1 an c1, .slice A2 bn c2, .slice A3 tn c3] 40))) from bstep (balloc _ _) (balloc _ _))
  go_enter Try.func5, Try.ntmps5
  go_wp2_with fail
  generalize ((w.alloc (.cells #[.int .i64 N, .int .i64 T, .int .i64 L, .int .i64 W, .int .i64 S, .int .i64 R] 23)).alloc (.cells #[.slice A1 an c1, .slice A2 bn c2, .slice A3 tn c3] 40)) = w0 at *
  refine Drawn.wp_region_flowL 9 [Drawn.SP.is (.pointer (some ⟨w.heap.size + 1, 0, none⟩)), Drawn.SP.is (.slice A1 an c1), Drawn.SP.is (.pointer (some ⟨w.heap.size + 1, 1, none⟩)), Drawn.SP.is (.slice A2 bn c2), Drawn.SP.is (.pointer (some ⟨w.heap.size + 1, 2, none⟩)), Drawn.SP.is (.slice A3 tn c3), Drawn.SP.is (.slice A1 an c1), Drawn.SP.is (.slice A2 bn c2), Drawn.SP.is (.slice A3 tn c3)] (by kernel_rfl) (by kernel_rfl) ?_ ?_
  · intro i hi a w1 hb hev hdep
    rcases (show i = 0 ∨ i = 1 ∨ i = 2 ∨ i = 3 ∨ i = 4 ∨ i = 5 ∨ i = 6 ∨ i = 7 ∨ i = 8 by omega) with rfl | rfl | rfl | rfl | rfl | rfl | rfl | rfl | rfl
    · have e4 : a.tmps[4]?.getD undef = .pointer (some ⟨w.heap.size + 1, 0, none⟩) := hev 4 rfl
      refine Drawn.wpOp_flow 30 rfl rfl rfl ?_
      clear hev hdep hb
      go_simp
      exact ⟨_, rfl, rfl, Below.refl _ _⟩
    · have d0 : a.tmps[30]?.getD undef = .pointer (some ⟨w.heap.size + 1, 0, none⟩) := hdep 0 rfl
      refine Drawn.wpOp_flow 31 rfl rfl rfl ?_
      have a0 := (HA.out.below hb).a0; have a1 := (HA.out.below hb).a1; have a2 := (HA.out.below hb).a2
      clear hev hdep hb
      go_simp
      exact ⟨_, rfl, rfl, Below.refl _ _⟩
    · have e4 : a.tmps[4]?.getD undef = .pointer (some ⟨w.heap.size + 1, 0, none⟩) := hev 4 rfl
      refine Drawn.wpOp_flow 32 rfl rfl rfl ?_
      clear hev hdep hb
      go_simp
      exact ⟨_, rfl, rfl, Below.refl _ _⟩
    · have d2 : a.tmps[32]?.getD undef = .pointer (some ⟨w.heap.size + 1, 1, none⟩) := hdep 2 rfl
      refine Drawn.wpOp_flow 33 rfl rfl rfl ?_
      have a0 := (HA.out.below hb).a0; have a1 := (HA.out.below hb).a1; have a2 := (HA.out.below hb).a2
      clear hev hdep hb
      go_simp
      exact ⟨_, rfl, rfl, Below.refl _ _⟩
    · have e4 : a.tmps[4]?.getD undef = .pointer (some ⟨w.heap.size + 1, 0, none⟩) := hev 4 rfl
      refine Drawn.wpOp_flow 34 rfl rfl rfl ?_
      clear hev hdep hb
      go_simp
      exact ⟨_, rfl, rfl, Below.refl _ _⟩
    · have d4 : a.tmps[34]?.getD undef = .pointer (some ⟨w.heap.size + 1, 2, none⟩) := hdep 4 rfl
      refine Drawn.wpOp_flow 35 rfl rfl rfl ?_
      have a0 := (HA.out.below hb).a0; have a1 := (HA.out.below hb).a1; have a2 := (HA.out.below hb).a2
      clear hev hdep hb
      go_simp
      exact ⟨_, rfl, rfl, Below.refl _ _⟩
    · have d1 : a.tmps[31]?.getD undef = .slice A1 an c1 := hdep 1 rfl
      refine Drawn.wpOp_flow 7 rfl rfl rfl ?_
      clear hev hdep hb
      go_simp
      exact ⟨_, rfl, rfl, Below.refl _ _⟩
    · have d3 : a.tmps[33]?.getD undef = .slice A2 bn c2 := hdep 3 rfl
      refine Drawn.wpOp_flow 8 rfl rfl rfl ?_
      clear hev hdep hb
      go_simp
      exact ⟨_, rfl, rfl, Below.refl _ _⟩
    · have d5 : a.tmps[35]?.getD undef = .slice A3 tn c3 := hdep 5 rfl
      refine Drawn.wpOp_flow 9 rfl rfl rfl ?_
      clear hev hdep hb
      go_simp
      exact ⟨_, rfl, rfl, Below.refl _ _⟩
  · intro xq w1 hb hxq
    have vq0 : xq 0 = .pointer (some ⟨w.heap.size + 1, 0, none⟩) := hxq 0 (by omega)
    have vq1 : xq 1 = .slice A1 an c1 := hxq 1 (by omega)
    have vq2 : xq 2 = .pointer (some ⟨w.heap.size + 1, 1, none⟩) := hxq 2 (by omega)
    have vq3 : xq 3 = .slice A2 bn c2 := hxq 3 (by omega)
    have vq4 : xq 4 = .pointer (some ⟨w.heap.size + 1, 2, none⟩) := hxq 4 (by omega)
    have vq5 : xq 5 = .slice A3 tn c3 := hxq 5 (by omega)
    have vq6 : xq 6 = .slice A1 an c1 := hxq 6 (by omega)
    have vq7 : xq 7 = .slice A2 bn c2 := hxq 7 (by omega)
    have vq8 : xq 8 = .slice A3 tn c3 := hxq 8 (by omega)
    show Exit.then _ _ Exit.normal (Drawn.acts _ [(9, some (xq 8)), (8, some (xq 7)), (7, some (xq 6)), (35, some (xq 5)), (34, some (xq 4)), (33, some (xq 3)), (32, some (xq 2)), (31, some (xq 1)), (30, some (xq 0))]) _
    rw [vq0, vq1, vq2, vq3, vq4, vq5, vq6, vq7, vq8]
    clear hxq vq0 vq1 vq2 vq3 vq4 vq5 vq6 vq7 vq8
    clear xq
    simp only [Drawn.acts]
    go_simp
    have HB1 := Lib.hid (bstep HB0.out hb)
    have HA1 := Lib.hid (HA.out.below hb)
    clear hb HA
    go_at_K
    go_wp2_with fail
    refine Drawn.wp_region_flowL 38 [Drawn.SP.is (.agg #[.int .i64 N, .int .i64 T, .int .i64 L, .int .i64 W, .int .i64 S, .int .i64 R]), Drawn.SP.is (.bool true), Drawn.SP.is (.bool false), Drawn.SP.is (.bool false), Drawn.SP.is (.agg #[.int .i64 N, .int .i64 T, .int .i64 L, .int .i64 W, .int .i64 S, .int .i64 R]), Drawn.SP.is (.bool false), Drawn.SP.is (.bool true), Drawn.SP.is (.bool true), Drawn.SP.is (.bool true), Drawn.SP.is (undef), Drawn.SP.is (undef), Drawn.SP.is (undef), Drawn.SP.is (.bool true), Drawn.SP.is (.bool true), Drawn.SP.is (undef), Drawn.SP.is (undef), Drawn.SP.is (undef), Drawn.SP.is (undef), Drawn.SP.is (undef), Drawn.SP.is (.bool true), Drawn.SP.is (.bool true), Drawn.SP.is (undef), Drawn.SP.is (undef), Drawn.SP.is (undef), Drawn.SP.is (undef), Drawn.SP.is (undef), Drawn.SP.is (undef), Drawn.SP.is (undef), Drawn.SP.is (.bool true), Drawn.SP.is (.bool true), Drawn.SP.is (undef), Drawn.SP.is (undef), Drawn.SP.is (undef), Drawn.SP.is (undef), Drawn.SP.is (undef), Drawn.SP.is (undef), Drawn.SP.is (undef), Drawn.SP.is (.bool true)] (by kernel_rfl) (by kernel_rfl) ?_ ?_
    · intro i hi a wq hb hev hdep
      rcases (show i = 0 ∨ i = 1 ∨ i = 2 ∨ i = 3 ∨ i = 4 ∨ i = 5 ∨ i = 6 ∨ i = 7 ∨ i = 8 ∨ i = 9 ∨ i = 10 ∨ i = 11 ∨ i = 12 ∨ i = 13 ∨ i = 14 ∨ i = 15 ∨ i = 16 ∨ i = 17 ∨ i = 18 ∨ i = 19 ∨ i = 20 ∨ i = 21 ∨ i = 22 ∨ i = 23 ∨ i = 24 ∨ i = 25 ∨ i = 26 ∨ i = 27 ∨ i = 28 ∨ i = 29 ∨ i = 30 ∨ i = 31 ∨ i = 32 ∨ i = 33 ∨ i = 34 ∨ i = 35 ∨ i = 36 ∨ i = 37 by omega) with rfl | rfl | rfl | rfl | rfl | rfl | rfl | rfl | rfl | rfl | rfl | rfl | rfl | rfl | rfl | rfl | rfl | rfl | rfl | rfl | rfl | rfl | rfl | rfl | rfl | rfl | rfl | rfl | rfl | rfl | rfl | rfl | rfl | rfl | rfl | rfl | rfl | rfl
      · have e3 : a.tmps[3]?.getD undef = .pointer (some ⟨w.heap.size, 0, none⟩) := hev 3 rfl
        refine Drawn.wpOp_flow 36 rfl rfl rfl ?_
        obtain ⟨p0, p1, p2, p3, p4, p5⟩ := six (HA1.out.below hb).plan
        clear hev hdep hb
        go_simp
        exact ⟨_, rfl, rfl, Below.refl _ _⟩
      · have d0 : a.tmps[36]?.getD undef = .agg #[.int .i64 N, .int .i64 T, .int .i64 L, .int .i64 W, .int .i64 S, .int .i64 R] := hdep 0 rfl
        refine Drawn.wpOp_flow 37 rfl rfl rfl ?_
        clear hev hdep
        have C := H0.out wq
        clear hb
        go_simp
        refine C.mono ?_
        rintro e w' ⟨rfl, hb'⟩
        exact ⟨_, rfl, rfl, hb'⟩
      · have d1 : a.tmps[37]?.getD undef = .bool true := hdep 1 rfl
        refine Drawn.wpOp_flow 38 rfl rfl rfl ?_
        clear hev hdep hb
        go_simp
        exact ⟨_, rfl, rfl, Below.refl _ _⟩
      · have d2 : a.tmps[38]?.getD undef = .bool false := hdep 2 rfl
        refine Drawn.wpOp_flow 39 rfl rfl rfl ?_
        clear hev hdep hb
        go_simp
        exact ⟨_, rfl, rfl, Below.refl _ _⟩
      · have e3 : a.tmps[3]?.getD undef = .pointer (some ⟨w.heap.size, 0, none⟩) := hev 3 rfl
        have dg : a.tmps[39]?.getD undef = .bool false := hdep 3 rfl
        refine Drawn.wpOp_flow 40 rfl (Drawn.wanted_of rfl rfl rfl dg) rfl ?_
        obtain ⟨p0, p1, p2, p3, p4, p5⟩ := six (HA1.out.below hb).plan
        clear dg
        clear hev hdep hb
        go_simp
        exact ⟨_, rfl, rfl, Below.refl _ _⟩
      · have d4 : a.tmps[40]?.getD undef = .agg #[.int .i64 N, .int .i64 T, .int .i64 L, .int .i64 W, .int .i64 S, .int .i64 R] := hdep 4 rfl
        have dg : a.tmps[39]?.getD undef = .bool false := hdep 3 rfl
        refine Drawn.wpOp_flow 41 rfl (Drawn.wanted_of rfl rfl rfl dg) rfl ?_
        clear hev hdep
        clear dg
        have C := HR.out wq
        clear hb
        go_simp
        refine C.mono ?_
        rintro e w' ⟨rfl, hb'⟩
        exact ⟨_, rfl, rfl, hb'⟩
      · have d5 : a.tmps[41]?.getD undef = .bool false := hdep 5 rfl
        have dg : a.tmps[39]?.getD undef = .bool false := hdep 3 rfl
        refine Drawn.wpOp_flow 42 rfl (Drawn.wanted_of rfl rfl rfl dg) rfl ?_
        clear dg
        clear hev hdep hb
        go_simp
        exact ⟨_, rfl, rfl, Below.refl _ _⟩
      · have d3 : a.tmps[39]?.getD undef = .bool false := hdep 3 rfl
        have d6 : a.tmps[42]?.getD undef = .bool true := hdep 6 rfl
        refine Drawn.wpOp_flow 43 rfl rfl rfl ?_
        clear hev hdep hb
        go_simp
        exact ⟨_, rfl, rfl, Below.refl _ _⟩
      · have d7 : a.tmps[43]?.getD undef = .bool true := hdep 7 rfl
        refine Drawn.wpOp_flow 44 rfl rfl rfl ?_
        clear hev hdep hb
        go_simp
        exact ⟨_, rfl, rfl, Below.refl _ _⟩
      · have dg : a.tmps[44]?.getD undef = .bool true := hdep 8 rfl
        exact Drawn.wpOp_flow_skip 45 rfl (Drawn.unwanted_of rfl rfl rfl dg rfl) rfl rfl
      · have dg : a.tmps[44]?.getD undef = .bool true := hdep 8 rfl
        exact Drawn.wpOp_flow_skip 46 rfl (Drawn.unwanted_of rfl rfl rfl dg rfl) rfl rfl
      · have dg : a.tmps[44]?.getD undef = .bool true := hdep 8 rfl
        exact Drawn.wpOp_flow_skip 47 rfl (Drawn.unwanted_of rfl rfl rfl dg rfl) rfl rfl
      · have d8 : a.tmps[44]?.getD undef = .bool true := hdep 8 rfl
        have d11 : a.tmps[47]?.getD undef = undef := hdep 11 rfl
        refine Drawn.wpOp_flow 48 rfl rfl rfl ?_
        clear hev hdep hb
        go_simp
        exact ⟨_, rfl, rfl, Below.refl _ _⟩
      · have d12 : a.tmps[48]?.getD undef = .bool true := hdep 12 rfl
        refine Drawn.wpOp_flow 49 rfl rfl rfl ?_
        clear hev hdep hb
        go_simp
        exact ⟨_, rfl, rfl, Below.refl _ _⟩
      · have dg : a.tmps[49]?.getD undef = .bool true := hdep 13 rfl
        exact Drawn.wpOp_flow_skip 50 rfl (Drawn.unwanted_of rfl rfl rfl dg rfl) rfl rfl
      · have dg : a.tmps[49]?.getD undef = .bool true := hdep 13 rfl
        exact Drawn.wpOp_flow_skip 51 rfl (Drawn.unwanted_of rfl rfl rfl dg rfl) rfl rfl
      · have dg : a.tmps[49]?.getD undef = .bool true := hdep 13 rfl
        exact Drawn.wpOp_flow_skip 52 rfl (Drawn.unwanted_of rfl rfl rfl dg rfl) rfl rfl
      · have dg : a.tmps[49]?.getD undef = .bool true := hdep 13 rfl
        exact Drawn.wpOp_flow_skip 53 rfl (Drawn.unwanted_of rfl rfl rfl dg rfl) rfl rfl
      · have dg : a.tmps[49]?.getD undef = .bool true := hdep 13 rfl
        exact Drawn.wpOp_flow_skip 54 rfl (Drawn.unwanted_of rfl rfl rfl dg rfl) rfl rfl
      · have d13 : a.tmps[49]?.getD undef = .bool true := hdep 13 rfl
        have d18 : a.tmps[54]?.getD undef = undef := hdep 18 rfl
        refine Drawn.wpOp_flow 55 rfl rfl rfl ?_
        clear hev hdep hb
        go_simp
        exact ⟨_, rfl, rfl, Below.refl _ _⟩
      · have d19 : a.tmps[55]?.getD undef = .bool true := hdep 19 rfl
        refine Drawn.wpOp_flow 56 rfl rfl rfl ?_
        clear hev hdep hb
        go_simp
        exact ⟨_, rfl, rfl, Below.refl _ _⟩
      · have dg : a.tmps[56]?.getD undef = .bool true := hdep 20 rfl
        exact Drawn.wpOp_flow_skip 57 rfl (Drawn.unwanted_of rfl rfl rfl dg rfl) rfl rfl
      · have dg : a.tmps[56]?.getD undef = .bool true := hdep 20 rfl
        exact Drawn.wpOp_flow_skip 58 rfl (Drawn.unwanted_of rfl rfl rfl dg rfl) rfl rfl
      · have dg : a.tmps[56]?.getD undef = .bool true := hdep 20 rfl
        exact Drawn.wpOp_flow_skip 59 rfl (Drawn.unwanted_of rfl rfl rfl dg rfl) rfl rfl
      · have dg : a.tmps[56]?.getD undef = .bool true := hdep 20 rfl
        exact Drawn.wpOp_flow_skip 60 rfl (Drawn.unwanted_of rfl rfl rfl dg rfl) rfl rfl
      · have dg : a.tmps[56]?.getD undef = .bool true := hdep 20 rfl
        exact Drawn.wpOp_flow_skip 61 rfl (Drawn.unwanted_of rfl rfl rfl dg rfl) rfl rfl
      · have dg : a.tmps[56]?.getD undef = .bool true := hdep 20 rfl
        exact Drawn.wpOp_flow_skip 62 rfl (Drawn.unwanted_of rfl rfl rfl dg rfl) rfl rfl
      · have dg : a.tmps[56]?.getD undef = .bool true := hdep 20 rfl
        exact Drawn.wpOp_flow_skip 63 rfl (Drawn.unwanted_of rfl rfl rfl dg rfl) rfl rfl
      · have d20 : a.tmps[56]?.getD undef = .bool true := hdep 20 rfl
        have d27 : a.tmps[63]?.getD undef = undef := hdep 27 rfl
        refine Drawn.wpOp_flow 64 rfl rfl rfl ?_
        clear hev hdep hb
        go_simp
        exact ⟨_, rfl, rfl, Below.refl _ _⟩
      · have d28 : a.tmps[64]?.getD undef = .bool true := hdep 28 rfl
        refine Drawn.wpOp_flow 65 rfl rfl rfl ?_
        clear hev hdep hb
        go_simp
        exact ⟨_, rfl, rfl, Below.refl _ _⟩
      · have dg : a.tmps[65]?.getD undef = .bool true := hdep 29 rfl
        exact Drawn.wpOp_flow_skip 66 rfl (Drawn.unwanted_of rfl rfl rfl dg rfl) rfl rfl
      · have dg : a.tmps[65]?.getD undef = .bool true := hdep 29 rfl
        exact Drawn.wpOp_flow_skip 67 rfl (Drawn.unwanted_of rfl rfl rfl dg rfl) rfl rfl
      · have dg : a.tmps[65]?.getD undef = .bool true := hdep 29 rfl
        exact Drawn.wpOp_flow_skip 68 rfl (Drawn.unwanted_of rfl rfl rfl dg rfl) rfl rfl
      · have dg : a.tmps[65]?.getD undef = .bool true := hdep 29 rfl
        exact Drawn.wpOp_flow_skip 69 rfl (Drawn.unwanted_of rfl rfl rfl dg rfl) rfl rfl
      · have dg : a.tmps[65]?.getD undef = .bool true := hdep 29 rfl
        exact Drawn.wpOp_flow_skip 70 rfl (Drawn.unwanted_of rfl rfl rfl dg rfl) rfl rfl
      · have dg : a.tmps[65]?.getD undef = .bool true := hdep 29 rfl
        exact Drawn.wpOp_flow_skip 71 rfl (Drawn.unwanted_of rfl rfl rfl dg rfl) rfl rfl
      · have dg : a.tmps[65]?.getD undef = .bool true := hdep 29 rfl
        exact Drawn.wpOp_flow_skip 72 rfl (Drawn.unwanted_of rfl rfl rfl dg rfl) rfl rfl
      · have d29 : a.tmps[65]?.getD undef = .bool true := hdep 29 rfl
        have d36 : a.tmps[72]?.getD undef = undef := hdep 36 rfl
        refine Drawn.wpOp_flow 73 rfl rfl rfl ?_
        clear hev hdep hb
        go_simp
        exact ⟨_, rfl, rfl, Below.refl _ _⟩
    · intro xq wq hb hxq
      have vq0 : xq 0 = .agg #[.int .i64 N, .int .i64 T, .int .i64 L, .int .i64 W, .int .i64 S, .int .i64 R] := hxq 0 (by omega)
      have vq1 : xq 1 = .bool true := hxq 1 (by omega)
      have vq2 : xq 2 = .bool false := hxq 2 (by omega)
      have vq3 : xq 3 = .bool false := hxq 3 (by omega)
      have vq4 : xq 4 = .agg #[.int .i64 N, .int .i64 T, .int .i64 L, .int .i64 W, .int .i64 S, .int .i64 R] := hxq 4 (by omega)
      have vq5 : xq 5 = .bool false := hxq 5 (by omega)
      have vq6 : xq 6 = .bool true := hxq 6 (by omega)
      have vq7 : xq 7 = .bool true := hxq 7 (by omega)
      have vq8 : xq 8 = .bool true := hxq 8 (by omega)
      have vq9 : xq 9 = undef := hxq 9 (by omega)
      have vq10 : xq 10 = undef := hxq 10 (by omega)
      have vq11 : xq 11 = undef := hxq 11 (by omega)
      have vq12 : xq 12 = .bool true := hxq 12 (by omega)
      have vq13 : xq 13 = .bool true := hxq 13 (by omega)
      have vq14 : xq 14 = undef := hxq 14 (by omega)
      have vq15 : xq 15 = undef := hxq 15 (by omega)
      have vq16 : xq 16 = undef := hxq 16 (by omega)
      have vq17 : xq 17 = undef := hxq 17 (by omega)
      have vq18 : xq 18 = undef := hxq 18 (by omega)
      have vq19 : xq 19 = .bool true := hxq 19 (by omega)
      have vq20 : xq 20 = .bool true := hxq 20 (by omega)
      have vq21 : xq 21 = undef := hxq 21 (by omega)
      have vq22 : xq 22 = undef := hxq 22 (by omega)
      have vq23 : xq 23 = undef := hxq 23 (by omega)
      have vq24 : xq 24 = undef := hxq 24 (by omega)
      have vq25 : xq 25 = undef := hxq 25 (by omega)
      have vq26 : xq 26 = undef := hxq 26 (by omega)
      have vq27 : xq 27 = undef := hxq 27 (by omega)
      have vq28 : xq 28 = .bool true := hxq 28 (by omega)
      have vq29 : xq 29 = .bool true := hxq 29 (by omega)
      have vq30 : xq 30 = undef := hxq 30 (by omega)
      have vq31 : xq 31 = undef := hxq 31 (by omega)
      have vq32 : xq 32 = undef := hxq 32 (by omega)
      have vq33 : xq 33 = undef := hxq 33 (by omega)
      have vq34 : xq 34 = undef := hxq 34 (by omega)
      have vq35 : xq 35 = undef := hxq 35 (by omega)
      have vq36 : xq 36 = undef := hxq 36 (by omega)
      have vq37 : xq 37 = .bool true := hxq 37 (by omega)
      show Exit.then _ _ Exit.normal (Drawn.acts _ [(73, some (xq 37)), (72, some (xq 36)), (71, some (xq 35)), (70, some (xq 34)), (69, some (xq 33)), (68, some (xq 32)), (67, some (xq 31)), (66, some (xq 30)), (65, some (xq 29)), (64, some (xq 28)), (63, some (xq 27)), (62, some (xq 26)), (61, some (xq 25)), (60, some (xq 24)), (59, some (xq 23)), (58, some (xq 22)), (57, some (xq 21)), (56, some (xq 20)), (55, some (xq 19)), (54, some (xq 18)), (53, some (xq 17)), (52, some (xq 16)), (51, some (xq 15)), (50, some (xq 14)), (49, some (xq 13)), (48, some (xq 12)), (47, some (xq 11)), (46, some (xq 10)), (45, some (xq 9)), (44, some (xq 8)), (43, some (xq 7)), (42, some (xq 6)), (41, some (xq 5)), (40, some (xq 4)), (39, some (xq 3)), (38, some (xq 2)), (37, some (xq 1)), (36, some (xq 0))]) _
      rw [vq0, vq1, vq2, vq3, vq4, vq5, vq6, vq7, vq8, vq9, vq10, vq11, vq12, vq13, vq14, vq15, vq16, vq17, vq18, vq19, vq20, vq21, vq22, vq23, vq24, vq25, vq26, vq27, vq28, vq29, vq30, vq31, vq32, vq33, vq34, vq35, vq36, vq37]
      clear hxq vq0 vq1 vq2 vq3 vq4 vq5 vq6 vq7 vq8 vq9 vq10 vq11 vq12 vq13 vq14 vq15 vq16 vq17 vq18 vq19 vq20 vq21 vq22 vq23 vq24 vq25 vq26 vq27 vq28 vq29 vq30 vq31 vq32 vq33 vq34 vq35 vq36 vq37
      clear xq
      simp only [Drawn.acts]
      go_simp
      have HB2 := Lib.hid (bstep HB1.out hb)
      have HA2 := Lib.hid (HA1.out.below hb).plan
      clear hb HA1
      go_at_K
      go_wp2_with fail
      refine (alive_any _).mono ?_
      rintro e w9 ⟨rfl, hb9⟩
      go_wp2
      go_ret
      exact ⟨rfl, bstep HB2.out hb9⟩
set_option maxHeartbeats 4000000 in
theorem hides_long (W S R : Int) (n0 t0 l0 : Nat) (A1 A2 A3 A4 : Option Addr) (an bn tn zn c1 c2 c3 c4 : Nat) (w : World) (hp : P.In ⟨n0, t0, l0, W, S, R⟩) (hl : (n0 : Int) ≤ 12 ∧ (l0 : Int) ≤ 12 ∧ (t0 : Int) ≤ 12) (hM : P.May ⟨n0, t0, l0, W, S, R⟩) (h60 : 60 < an) :
    Calls Try.prog 5 #[.agg #[.int .i64 (n0 : Nat), .int .i64 (t0 : Nat), .int .i64 (l0 : Nat), .int .i64 W, .int .i64 S, .int .i64 R], .agg #[.slice A1 an c1, .slice A2 bn c2, .slice A3 tn c3], .slice A4 zn c4] w fun e w' => e = .returned (.bool true) ∧ Below w.heap.size w w' := by
  have K0 := fun w => Law10.light_any n0 t0 l0 W S R w
  rw [decide_eq_true hl] at K0
  have H0 := Lib.hid K0
  have KR := fun V => R08.right_any ⟨n0, t0, l0, W, S, R⟩ V hp
  simp only [P.val] at KR
  rw [P.right_yes hM] at KR
  have hM' := hM
  unfold P.May at hM'
  simp only at hM'
  have HR := Lib.hid KR
  clear K0 KR hl hp hM hM'
  have HA := Lib.hid (LiesH.new w n0 t0 l0 W S R (.slice A1 an c1) (.slice A2 bn c2) (.slice A3 tn c3) 40)
  have HB0 := Lib.hid (show Below w.heap.size w (((w.alloc (.cells #[.int .i64 (n0 : Nat), .int .i64 (t0 : Nat), .int .i64 (l0 : Nat), .int .i64 W, .int .i64 S, .int .i64 R] 23)).alloc (.cells #[.slice A1 an c1, .slice A2 bn c2, .slice A3 tn c3] 40))) from bstep (balloc _ _) (balloc _ _))
  go_enter Try.func5, Try.ntmps5
  go_wp2_with fail
  generalize ((w.alloc (.cells #[.int .i64 (n0 : Nat), .int .i64 (t0 : Nat), .int .i64 (l0 : Nat), .int .i64 W, .int .i64 S, .int .i64 R] 23)).alloc (.cells #[.slice A1 an c1, .slice A2 bn c2, .slice A3 tn c3] 40)) = w0 at *
  refine Drawn.wp_region_flowL 9 [Drawn.SP.is (.pointer (some ⟨w.heap.size + 1, 0, none⟩)), Drawn.SP.is (.slice A1 an c1), Drawn.SP.is (.pointer (some ⟨w.heap.size + 1, 1, none⟩)), Drawn.SP.is (.slice A2 bn c2), Drawn.SP.is (.pointer (some ⟨w.heap.size + 1, 2, none⟩)), Drawn.SP.is (.slice A3 tn c3), Drawn.SP.is (.slice A1 an c1), Drawn.SP.is (.slice A2 bn c2), Drawn.SP.is (.slice A3 tn c3)] (by kernel_rfl) (by kernel_rfl) ?_ ?_
  · intro i hi a w1 hb hev hdep
    rcases (show i = 0 ∨ i = 1 ∨ i = 2 ∨ i = 3 ∨ i = 4 ∨ i = 5 ∨ i = 6 ∨ i = 7 ∨ i = 8 by omega) with rfl | rfl | rfl | rfl | rfl | rfl | rfl | rfl | rfl
    · have e4 : a.tmps[4]?.getD undef = .pointer (some ⟨w.heap.size + 1, 0, none⟩) := hev 4 rfl
      refine Drawn.wpOp_flow 30 rfl rfl rfl ?_
      clear hev hdep hb
      go_simp
      exact ⟨_, rfl, rfl, Below.refl _ _⟩
    · have d0 : a.tmps[30]?.getD undef = .pointer (some ⟨w.heap.size + 1, 0, none⟩) := hdep 0 rfl
      refine Drawn.wpOp_flow 31 rfl rfl rfl ?_
      have a0 := (HA.out.below hb).a0; have a1 := (HA.out.below hb).a1; have a2 := (HA.out.below hb).a2
      clear hev hdep hb
      go_simp
      exact ⟨_, rfl, rfl, Below.refl _ _⟩
    · have e4 : a.tmps[4]?.getD undef = .pointer (some ⟨w.heap.size + 1, 0, none⟩) := hev 4 rfl
      refine Drawn.wpOp_flow 32 rfl rfl rfl ?_
      clear hev hdep hb
      go_simp
      exact ⟨_, rfl, rfl, Below.refl _ _⟩
    · have d2 : a.tmps[32]?.getD undef = .pointer (some ⟨w.heap.size + 1, 1, none⟩) := hdep 2 rfl
      refine Drawn.wpOp_flow 33 rfl rfl rfl ?_
      have a0 := (HA.out.below hb).a0; have a1 := (HA.out.below hb).a1; have a2 := (HA.out.below hb).a2
      clear hev hdep hb
      go_simp
      exact ⟨_, rfl, rfl, Below.refl _ _⟩
    · have e4 : a.tmps[4]?.getD undef = .pointer (some ⟨w.heap.size + 1, 0, none⟩) := hev 4 rfl
      refine Drawn.wpOp_flow 34 rfl rfl rfl ?_
      clear hev hdep hb
      go_simp
      exact ⟨_, rfl, rfl, Below.refl _ _⟩
    · have d4 : a.tmps[34]?.getD undef = .pointer (some ⟨w.heap.size + 1, 2, none⟩) := hdep 4 rfl
      refine Drawn.wpOp_flow 35 rfl rfl rfl ?_
      have a0 := (HA.out.below hb).a0; have a1 := (HA.out.below hb).a1; have a2 := (HA.out.below hb).a2
      clear hev hdep hb
      go_simp
      exact ⟨_, rfl, rfl, Below.refl _ _⟩
    · have d1 : a.tmps[31]?.getD undef = .slice A1 an c1 := hdep 1 rfl
      refine Drawn.wpOp_flow 7 rfl rfl rfl ?_
      clear hev hdep hb
      go_simp
      exact ⟨_, rfl, rfl, Below.refl _ _⟩
    · have d3 : a.tmps[33]?.getD undef = .slice A2 bn c2 := hdep 3 rfl
      refine Drawn.wpOp_flow 8 rfl rfl rfl ?_
      clear hev hdep hb
      go_simp
      exact ⟨_, rfl, rfl, Below.refl _ _⟩
    · have d5 : a.tmps[35]?.getD undef = .slice A3 tn c3 := hdep 5 rfl
      refine Drawn.wpOp_flow 9 rfl rfl rfl ?_
      clear hev hdep hb
      go_simp
      exact ⟨_, rfl, rfl, Below.refl _ _⟩
  · intro xq w1 hb hxq
    have vq0 : xq 0 = .pointer (some ⟨w.heap.size + 1, 0, none⟩) := hxq 0 (by omega)
    have vq1 : xq 1 = .slice A1 an c1 := hxq 1 (by omega)
    have vq2 : xq 2 = .pointer (some ⟨w.heap.size + 1, 1, none⟩) := hxq 2 (by omega)
    have vq3 : xq 3 = .slice A2 bn c2 := hxq 3 (by omega)
    have vq4 : xq 4 = .pointer (some ⟨w.heap.size + 1, 2, none⟩) := hxq 4 (by omega)
    have vq5 : xq 5 = .slice A3 tn c3 := hxq 5 (by omega)
    have vq6 : xq 6 = .slice A1 an c1 := hxq 6 (by omega)
    have vq7 : xq 7 = .slice A2 bn c2 := hxq 7 (by omega)
    have vq8 : xq 8 = .slice A3 tn c3 := hxq 8 (by omega)
    show Exit.then _ _ Exit.normal (Drawn.acts _ [(9, some (xq 8)), (8, some (xq 7)), (7, some (xq 6)), (35, some (xq 5)), (34, some (xq 4)), (33, some (xq 3)), (32, some (xq 2)), (31, some (xq 1)), (30, some (xq 0))]) _
    rw [vq0, vq1, vq2, vq3, vq4, vq5, vq6, vq7, vq8]
    clear hxq vq0 vq1 vq2 vq3 vq4 vq5 vq6 vq7 vq8
    clear xq
    simp only [Drawn.acts]
    go_simp
    have HB1 := Lib.hid (bstep HB0.out hb)
    have HA1 := Lib.hid (HA.out.below hb)
    clear hb HA
    go_at_K
    go_wp2_with fail
    refine Drawn.wp_region_flowL 38 [Drawn.SP.is (.agg #[.int .i64 (n0 : Nat), .int .i64 (t0 : Nat), .int .i64 (l0 : Nat), .int .i64 W, .int .i64 S, .int .i64 R]), Drawn.SP.is (.bool true), Drawn.SP.is (.bool false), Drawn.SP.is (.bool false), Drawn.SP.is (.agg #[.int .i64 (n0 : Nat), .int .i64 (t0 : Nat), .int .i64 (l0 : Nat), .int .i64 W, .int .i64 S, .int .i64 R]), Drawn.SP.is (.bool true), Drawn.SP.is (.bool false), Drawn.SP.is (.bool false), Drawn.SP.is (.bool false), Drawn.SP.is (.slice A1 an c1), Drawn.SP.is (.int .i64 (an : Nat)), Drawn.SP.is (.bool true), Drawn.SP.is (.bool true), Drawn.SP.is (.bool true), Drawn.SP.is (undef), Drawn.SP.is (undef), Drawn.SP.is (undef), Drawn.SP.is (undef), Drawn.SP.is (undef), Drawn.SP.is (.bool true), Drawn.SP.is (.bool true), Drawn.SP.is (undef), Drawn.SP.is (undef), Drawn.SP.is (undef), Drawn.SP.is (undef), Drawn.SP.is (undef), Drawn.SP.is (undef), Drawn.SP.is (undef), Drawn.SP.is (.bool true), Drawn.SP.is (.bool true), Drawn.SP.is (undef), Drawn.SP.is (undef), Drawn.SP.is (undef), Drawn.SP.is (undef), Drawn.SP.is (undef), Drawn.SP.is (undef), Drawn.SP.is (undef), Drawn.SP.is (.bool true)] (by kernel_rfl) (by kernel_rfl) ?_ ?_
    · intro i hi a wq hb hev hdep
      rcases (show i = 0 ∨ i = 1 ∨ i = 2 ∨ i = 3 ∨ i = 4 ∨ i = 5 ∨ i = 6 ∨ i = 7 ∨ i = 8 ∨ i = 9 ∨ i = 10 ∨ i = 11 ∨ i = 12 ∨ i = 13 ∨ i = 14 ∨ i = 15 ∨ i = 16 ∨ i = 17 ∨ i = 18 ∨ i = 19 ∨ i = 20 ∨ i = 21 ∨ i = 22 ∨ i = 23 ∨ i = 24 ∨ i = 25 ∨ i = 26 ∨ i = 27 ∨ i = 28 ∨ i = 29 ∨ i = 30 ∨ i = 31 ∨ i = 32 ∨ i = 33 ∨ i = 34 ∨ i = 35 ∨ i = 36 ∨ i = 37 by omega) with rfl | rfl | rfl | rfl | rfl | rfl | rfl | rfl | rfl | rfl | rfl | rfl | rfl | rfl | rfl | rfl | rfl | rfl | rfl | rfl | rfl | rfl | rfl | rfl | rfl | rfl | rfl | rfl | rfl | rfl | rfl | rfl | rfl | rfl | rfl | rfl | rfl | rfl
      · have e3 : a.tmps[3]?.getD undef = .pointer (some ⟨w.heap.size, 0, none⟩) := hev 3 rfl
        refine Drawn.wpOp_flow 36 rfl rfl rfl ?_
        obtain ⟨p0, p1, p2, p3, p4, p5⟩ := six (HA1.out.below hb).plan
        clear hev hdep hb
        go_simp
        exact ⟨_, rfl, rfl, Below.refl _ _⟩
      · have d0 : a.tmps[36]?.getD undef = .agg #[.int .i64 (n0 : Nat), .int .i64 (t0 : Nat), .int .i64 (l0 : Nat), .int .i64 W, .int .i64 S, .int .i64 R] := hdep 0 rfl
        refine Drawn.wpOp_flow 37 rfl rfl rfl ?_
        clear hev hdep
        have C := H0.out wq
        clear hb
        go_simp
        refine C.mono ?_
        rintro e w' ⟨rfl, hb'⟩
        exact ⟨_, rfl, rfl, hb'⟩
      · have d1 : a.tmps[37]?.getD undef = .bool true := hdep 1 rfl
        refine Drawn.wpOp_flow 38 rfl rfl rfl ?_
        clear hev hdep hb
        go_simp
        exact ⟨_, rfl, rfl, Below.refl _ _⟩
      · have d2 : a.tmps[38]?.getD undef = .bool false := hdep 2 rfl
        refine Drawn.wpOp_flow 39 rfl rfl rfl ?_
        clear hev hdep hb
        go_simp
        exact ⟨_, rfl, rfl, Below.refl _ _⟩
      · have e3 : a.tmps[3]?.getD undef = .pointer (some ⟨w.heap.size, 0, none⟩) := hev 3 rfl
        have dg : a.tmps[39]?.getD undef = .bool false := hdep 3 rfl
        refine Drawn.wpOp_flow 40 rfl (Drawn.wanted_of rfl rfl rfl dg) rfl ?_
        obtain ⟨p0, p1, p2, p3, p4, p5⟩ := six (HA1.out.below hb).plan
        clear dg
        clear hev hdep hb
        go_simp
        exact ⟨_, rfl, rfl, Below.refl _ _⟩
      · have d4 : a.tmps[40]?.getD undef = .agg #[.int .i64 (n0 : Nat), .int .i64 (t0 : Nat), .int .i64 (l0 : Nat), .int .i64 W, .int .i64 S, .int .i64 R] := hdep 4 rfl
        have dg : a.tmps[39]?.getD undef = .bool false := hdep 3 rfl
        refine Drawn.wpOp_flow 41 rfl (Drawn.wanted_of rfl rfl rfl dg) rfl ?_
        clear hev hdep
        clear dg
        have C := HR.out wq
        clear hb
        go_simp
        refine C.mono ?_
        rintro e w' ⟨rfl, hb'⟩
        exact ⟨_, rfl, rfl, hb'⟩
      · have d5 : a.tmps[41]?.getD undef = .bool true := hdep 5 rfl
        have dg : a.tmps[39]?.getD undef = .bool false := hdep 3 rfl
        refine Drawn.wpOp_flow 42 rfl (Drawn.wanted_of rfl rfl rfl dg) rfl ?_
        clear dg
        clear hev hdep hb
        go_simp
        exact ⟨_, rfl, rfl, Below.refl _ _⟩
      · have d3 : a.tmps[39]?.getD undef = .bool false := hdep 3 rfl
        have d6 : a.tmps[42]?.getD undef = .bool false := hdep 6 rfl
        refine Drawn.wpOp_flow 43 rfl rfl rfl ?_
        clear hev hdep hb
        go_simp
        exact ⟨_, rfl, rfl, Below.refl _ _⟩
      · have d7 : a.tmps[43]?.getD undef = .bool false := hdep 7 rfl
        refine Drawn.wpOp_flow 44 rfl rfl rfl ?_
        clear hev hdep hb
        go_simp
        exact ⟨_, rfl, rfl, Below.refl _ _⟩
      · have e7 : a.tmps[7]?.getD undef = .slice A1 an c1 := hev 7 rfl
        have dg : a.tmps[44]?.getD undef = .bool false := hdep 8 rfl
        refine Drawn.wpOp_flow 45 rfl (Drawn.wanted_of rfl rfl rfl dg) rfl ?_
        clear dg
        clear hev hdep hb
        go_simp
        exact ⟨_, rfl, rfl, Below.refl _ _⟩
      · have d9 : a.tmps[45]?.getD undef = .slice A1 an c1 := hdep 9 rfl
        have dg : a.tmps[44]?.getD undef = .bool false := hdep 8 rfl
        refine Drawn.wpOp_flow 46 rfl (Drawn.wanted_of rfl rfl rfl dg) rfl ?_
        clear dg
        clear hev hdep hb
        go_simp
        exact ⟨_, rfl, rfl, Below.refl _ _⟩
      · have d10 : a.tmps[46]?.getD undef = .int .i64 (an : Nat) := hdep 10 rfl
        have dg : a.tmps[44]?.getD undef = .bool false := hdep 8 rfl
        refine Drawn.wpOp_flow 47 rfl (Drawn.wanted_of rfl rfl rfl dg) rfl ?_
        clear hev hdep
        clear dg hb
        go_simp
        exact ⟨_, rfl, (by first | rfl | (show Value.bool _ = Value.bool _; congr 1; first | (simp; done) | (simp; omega))), Below.refl _ _⟩
      · have d8 : a.tmps[44]?.getD undef = .bool false := hdep 8 rfl
        have d11 : a.tmps[47]?.getD undef = .bool true := hdep 11 rfl
        refine Drawn.wpOp_flow 48 rfl rfl rfl ?_
        clear hev hdep hb
        go_simp
        exact ⟨_, rfl, rfl, Below.refl _ _⟩
      · have d12 : a.tmps[48]?.getD undef = .bool true := hdep 12 rfl
        refine Drawn.wpOp_flow 49 rfl rfl rfl ?_
        clear hev hdep hb
        go_simp
        exact ⟨_, rfl, rfl, Below.refl _ _⟩
      · have dg : a.tmps[49]?.getD undef = .bool true := hdep 13 rfl
        exact Drawn.wpOp_flow_skip 50 rfl (Drawn.unwanted_of rfl rfl rfl dg rfl) rfl rfl
      · have dg : a.tmps[49]?.getD undef = .bool true := hdep 13 rfl
        exact Drawn.wpOp_flow_skip 51 rfl (Drawn.unwanted_of rfl rfl rfl dg rfl) rfl rfl
      · have dg : a.tmps[49]?.getD undef = .bool true := hdep 13 rfl
        exact Drawn.wpOp_flow_skip 52 rfl (Drawn.unwanted_of rfl rfl rfl dg rfl) rfl rfl
      · have dg : a.tmps[49]?.getD undef = .bool true := hdep 13 rfl
        exact Drawn.wpOp_flow_skip 53 rfl (Drawn.unwanted_of rfl rfl rfl dg rfl) rfl rfl
      · have dg : a.tmps[49]?.getD undef = .bool true := hdep 13 rfl
        exact Drawn.wpOp_flow_skip 54 rfl (Drawn.unwanted_of rfl rfl rfl dg rfl) rfl rfl
      · have d13 : a.tmps[49]?.getD undef = .bool true := hdep 13 rfl
        have d18 : a.tmps[54]?.getD undef = undef := hdep 18 rfl
        refine Drawn.wpOp_flow 55 rfl rfl rfl ?_
        clear hev hdep hb
        go_simp
        exact ⟨_, rfl, rfl, Below.refl _ _⟩
      · have d19 : a.tmps[55]?.getD undef = .bool true := hdep 19 rfl
        refine Drawn.wpOp_flow 56 rfl rfl rfl ?_
        clear hev hdep hb
        go_simp
        exact ⟨_, rfl, rfl, Below.refl _ _⟩
      · have dg : a.tmps[56]?.getD undef = .bool true := hdep 20 rfl
        exact Drawn.wpOp_flow_skip 57 rfl (Drawn.unwanted_of rfl rfl rfl dg rfl) rfl rfl
      · have dg : a.tmps[56]?.getD undef = .bool true := hdep 20 rfl
        exact Drawn.wpOp_flow_skip 58 rfl (Drawn.unwanted_of rfl rfl rfl dg rfl) rfl rfl
      · have dg : a.tmps[56]?.getD undef = .bool true := hdep 20 rfl
        exact Drawn.wpOp_flow_skip 59 rfl (Drawn.unwanted_of rfl rfl rfl dg rfl) rfl rfl
      · have dg : a.tmps[56]?.getD undef = .bool true := hdep 20 rfl
        exact Drawn.wpOp_flow_skip 60 rfl (Drawn.unwanted_of rfl rfl rfl dg rfl) rfl rfl
      · have dg : a.tmps[56]?.getD undef = .bool true := hdep 20 rfl
        exact Drawn.wpOp_flow_skip 61 rfl (Drawn.unwanted_of rfl rfl rfl dg rfl) rfl rfl
      · have dg : a.tmps[56]?.getD undef = .bool true := hdep 20 rfl
        exact Drawn.wpOp_flow_skip 62 rfl (Drawn.unwanted_of rfl rfl rfl dg rfl) rfl rfl
      · have dg : a.tmps[56]?.getD undef = .bool true := hdep 20 rfl
        exact Drawn.wpOp_flow_skip 63 rfl (Drawn.unwanted_of rfl rfl rfl dg rfl) rfl rfl
      · have d20 : a.tmps[56]?.getD undef = .bool true := hdep 20 rfl
        have d27 : a.tmps[63]?.getD undef = undef := hdep 27 rfl
        refine Drawn.wpOp_flow 64 rfl rfl rfl ?_
        clear hev hdep hb
        go_simp
        exact ⟨_, rfl, rfl, Below.refl _ _⟩
      · have d28 : a.tmps[64]?.getD undef = .bool true := hdep 28 rfl
        refine Drawn.wpOp_flow 65 rfl rfl rfl ?_
        clear hev hdep hb
        go_simp
        exact ⟨_, rfl, rfl, Below.refl _ _⟩
      · have dg : a.tmps[65]?.getD undef = .bool true := hdep 29 rfl
        exact Drawn.wpOp_flow_skip 66 rfl (Drawn.unwanted_of rfl rfl rfl dg rfl) rfl rfl
      · have dg : a.tmps[65]?.getD undef = .bool true := hdep 29 rfl
        exact Drawn.wpOp_flow_skip 67 rfl (Drawn.unwanted_of rfl rfl rfl dg rfl) rfl rfl
      · have dg : a.tmps[65]?.getD undef = .bool true := hdep 29 rfl
        exact Drawn.wpOp_flow_skip 68 rfl (Drawn.unwanted_of rfl rfl rfl dg rfl) rfl rfl
      · have dg : a.tmps[65]?.getD undef = .bool true := hdep 29 rfl
        exact Drawn.wpOp_flow_skip 69 rfl (Drawn.unwanted_of rfl rfl rfl dg rfl) rfl rfl
      · have dg : a.tmps[65]?.getD undef = .bool true := hdep 29 rfl
        exact Drawn.wpOp_flow_skip 70 rfl (Drawn.unwanted_of rfl rfl rfl dg rfl) rfl rfl
      · have dg : a.tmps[65]?.getD undef = .bool true := hdep 29 rfl
        exact Drawn.wpOp_flow_skip 71 rfl (Drawn.unwanted_of rfl rfl rfl dg rfl) rfl rfl
      · have dg : a.tmps[65]?.getD undef = .bool true := hdep 29 rfl
        exact Drawn.wpOp_flow_skip 72 rfl (Drawn.unwanted_of rfl rfl rfl dg rfl) rfl rfl
      · have d29 : a.tmps[65]?.getD undef = .bool true := hdep 29 rfl
        have d36 : a.tmps[72]?.getD undef = undef := hdep 36 rfl
        refine Drawn.wpOp_flow 73 rfl rfl rfl ?_
        clear hev hdep hb
        go_simp
        exact ⟨_, rfl, rfl, Below.refl _ _⟩
    · intro xq wq hb hxq
      have vq0 : xq 0 = .agg #[.int .i64 (n0 : Nat), .int .i64 (t0 : Nat), .int .i64 (l0 : Nat), .int .i64 W, .int .i64 S, .int .i64 R] := hxq 0 (by omega)
      have vq1 : xq 1 = .bool true := hxq 1 (by omega)
      have vq2 : xq 2 = .bool false := hxq 2 (by omega)
      have vq3 : xq 3 = .bool false := hxq 3 (by omega)
      have vq4 : xq 4 = .agg #[.int .i64 (n0 : Nat), .int .i64 (t0 : Nat), .int .i64 (l0 : Nat), .int .i64 W, .int .i64 S, .int .i64 R] := hxq 4 (by omega)
      have vq5 : xq 5 = .bool true := hxq 5 (by omega)
      have vq6 : xq 6 = .bool false := hxq 6 (by omega)
      have vq7 : xq 7 = .bool false := hxq 7 (by omega)
      have vq8 : xq 8 = .bool false := hxq 8 (by omega)
      have vq9 : xq 9 = .slice A1 an c1 := hxq 9 (by omega)
      have vq10 : xq 10 = .int .i64 (an : Nat) := hxq 10 (by omega)
      have vq11 : xq 11 = .bool true := hxq 11 (by omega)
      have vq12 : xq 12 = .bool true := hxq 12 (by omega)
      have vq13 : xq 13 = .bool true := hxq 13 (by omega)
      have vq14 : xq 14 = undef := hxq 14 (by omega)
      have vq15 : xq 15 = undef := hxq 15 (by omega)
      have vq16 : xq 16 = undef := hxq 16 (by omega)
      have vq17 : xq 17 = undef := hxq 17 (by omega)
      have vq18 : xq 18 = undef := hxq 18 (by omega)
      have vq19 : xq 19 = .bool true := hxq 19 (by omega)
      have vq20 : xq 20 = .bool true := hxq 20 (by omega)
      have vq21 : xq 21 = undef := hxq 21 (by omega)
      have vq22 : xq 22 = undef := hxq 22 (by omega)
      have vq23 : xq 23 = undef := hxq 23 (by omega)
      have vq24 : xq 24 = undef := hxq 24 (by omega)
      have vq25 : xq 25 = undef := hxq 25 (by omega)
      have vq26 : xq 26 = undef := hxq 26 (by omega)
      have vq27 : xq 27 = undef := hxq 27 (by omega)
      have vq28 : xq 28 = .bool true := hxq 28 (by omega)
      have vq29 : xq 29 = .bool true := hxq 29 (by omega)
      have vq30 : xq 30 = undef := hxq 30 (by omega)
      have vq31 : xq 31 = undef := hxq 31 (by omega)
      have vq32 : xq 32 = undef := hxq 32 (by omega)
      have vq33 : xq 33 = undef := hxq 33 (by omega)
      have vq34 : xq 34 = undef := hxq 34 (by omega)
      have vq35 : xq 35 = undef := hxq 35 (by omega)
      have vq36 : xq 36 = undef := hxq 36 (by omega)
      have vq37 : xq 37 = .bool true := hxq 37 (by omega)
      show Exit.then _ _ Exit.normal (Drawn.acts _ [(73, some (xq 37)), (72, some (xq 36)), (71, some (xq 35)), (70, some (xq 34)), (69, some (xq 33)), (68, some (xq 32)), (67, some (xq 31)), (66, some (xq 30)), (65, some (xq 29)), (64, some (xq 28)), (63, some (xq 27)), (62, some (xq 26)), (61, some (xq 25)), (60, some (xq 24)), (59, some (xq 23)), (58, some (xq 22)), (57, some (xq 21)), (56, some (xq 20)), (55, some (xq 19)), (54, some (xq 18)), (53, some (xq 17)), (52, some (xq 16)), (51, some (xq 15)), (50, some (xq 14)), (49, some (xq 13)), (48, some (xq 12)), (47, some (xq 11)), (46, some (xq 10)), (45, some (xq 9)), (44, some (xq 8)), (43, some (xq 7)), (42, some (xq 6)), (41, some (xq 5)), (40, some (xq 4)), (39, some (xq 3)), (38, some (xq 2)), (37, some (xq 1)), (36, some (xq 0))]) _
      rw [vq0, vq1, vq2, vq3, vq4, vq5, vq6, vq7, vq8, vq9, vq10, vq11, vq12, vq13, vq14, vq15, vq16, vq17, vq18, vq19, vq20, vq21, vq22, vq23, vq24, vq25, vq26, vq27, vq28, vq29, vq30, vq31, vq32, vq33, vq34, vq35, vq36, vq37]
      clear hxq vq0 vq1 vq2 vq3 vq4 vq5 vq6 vq7 vq8 vq9 vq10 vq11 vq12 vq13 vq14 vq15 vq16 vq17 vq18 vq19 vq20 vq21 vq22 vq23 vq24 vq25 vq26 vq27 vq28 vq29 vq30 vq31 vq32 vq33 vq34 vq35 vq36 vq37
      clear xq
      simp only [Drawn.acts]
      go_simp
      have HB2 := Lib.hid (bstep HB1.out hb)
      have HA2 := Lib.hid (HA1.out.below hb).plan
      clear hb HA1
      go_at_K
      go_wp2_with fail
      refine (alive_any _).mono ?_
      rintro e w9 ⟨rfl, hb9⟩
      go_wp2
      go_ret
      exact ⟨rfl, bstep HB2.out hb9⟩
set_option maxHeartbeats 4000000 in
theorem hides_differ (W S R : Int) (n0 t0 l0 : Nat) (A1 A2 A3 A4 : Option Addr) (an bn tn zn c1 c2 c3 c4 : Nat) (w : World) (hp : P.In ⟨n0, t0, l0, W, S, R⟩) (hl : (n0 : Int) ≤ 12 ∧ (l0 : Int) ≤ 12 ∧ (t0 : Int) ≤ 12) (hM : P.May ⟨n0, t0, l0, W, S, R⟩) (h60 : an ≤ 60) (hne : an ≠ bn) :
    Calls Try.prog 5 #[.agg #[.int .i64 (n0 : Nat), .int .i64 (t0 : Nat), .int .i64 (l0 : Nat), .int .i64 W, .int .i64 S, .int .i64 R], .agg #[.slice A1 an c1, .slice A2 bn c2, .slice A3 tn c3], .slice A4 zn c4] w fun e w' => e = .returned (.bool true) ∧ Below w.heap.size w w' := by
  have K0 := fun w => Law10.light_any n0 t0 l0 W S R w
  rw [decide_eq_true hl] at K0
  have H0 := Lib.hid K0
  have KR := fun V => R08.right_any ⟨n0, t0, l0, W, S, R⟩ V hp
  simp only [P.val] at KR
  rw [P.right_yes hM] at KR
  have hM' := hM
  unfold P.May at hM'
  simp only at hM'
  have HR := Lib.hid KR
  clear K0 KR hl hp hM hM'
  have HA := Lib.hid (LiesH.new w n0 t0 l0 W S R (.slice A1 an c1) (.slice A2 bn c2) (.slice A3 tn c3) 40)
  have HB0 := Lib.hid (show Below w.heap.size w (((w.alloc (.cells #[.int .i64 (n0 : Nat), .int .i64 (t0 : Nat), .int .i64 (l0 : Nat), .int .i64 W, .int .i64 S, .int .i64 R] 23)).alloc (.cells #[.slice A1 an c1, .slice A2 bn c2, .slice A3 tn c3] 40))) from bstep (balloc _ _) (balloc _ _))
  go_enter Try.func5, Try.ntmps5
  go_wp2_with fail
  generalize ((w.alloc (.cells #[.int .i64 (n0 : Nat), .int .i64 (t0 : Nat), .int .i64 (l0 : Nat), .int .i64 W, .int .i64 S, .int .i64 R] 23)).alloc (.cells #[.slice A1 an c1, .slice A2 bn c2, .slice A3 tn c3] 40)) = w0 at *
  refine Drawn.wp_region_flowL 9 [Drawn.SP.is (.pointer (some ⟨w.heap.size + 1, 0, none⟩)), Drawn.SP.is (.slice A1 an c1), Drawn.SP.is (.pointer (some ⟨w.heap.size + 1, 1, none⟩)), Drawn.SP.is (.slice A2 bn c2), Drawn.SP.is (.pointer (some ⟨w.heap.size + 1, 2, none⟩)), Drawn.SP.is (.slice A3 tn c3), Drawn.SP.is (.slice A1 an c1), Drawn.SP.is (.slice A2 bn c2), Drawn.SP.is (.slice A3 tn c3)] (by kernel_rfl) (by kernel_rfl) ?_ ?_
  · intro i hi a w1 hb hev hdep
    rcases (show i = 0 ∨ i = 1 ∨ i = 2 ∨ i = 3 ∨ i = 4 ∨ i = 5 ∨ i = 6 ∨ i = 7 ∨ i = 8 by omega) with rfl | rfl | rfl | rfl | rfl | rfl | rfl | rfl | rfl
    · have e4 : a.tmps[4]?.getD undef = .pointer (some ⟨w.heap.size + 1, 0, none⟩) := hev 4 rfl
      refine Drawn.wpOp_flow 30 rfl rfl rfl ?_
      clear hev hdep hb
      go_simp
      exact ⟨_, rfl, rfl, Below.refl _ _⟩
    · have d0 : a.tmps[30]?.getD undef = .pointer (some ⟨w.heap.size + 1, 0, none⟩) := hdep 0 rfl
      refine Drawn.wpOp_flow 31 rfl rfl rfl ?_
      have a0 := (HA.out.below hb).a0; have a1 := (HA.out.below hb).a1; have a2 := (HA.out.below hb).a2
      clear hev hdep hb
      go_simp
      exact ⟨_, rfl, rfl, Below.refl _ _⟩
    · have e4 : a.tmps[4]?.getD undef = .pointer (some ⟨w.heap.size + 1, 0, none⟩) := hev 4 rfl
      refine Drawn.wpOp_flow 32 rfl rfl rfl ?_
      clear hev hdep hb
      go_simp
      exact ⟨_, rfl, rfl, Below.refl _ _⟩
    · have d2 : a.tmps[32]?.getD undef = .pointer (some ⟨w.heap.size + 1, 1, none⟩) := hdep 2 rfl
      refine Drawn.wpOp_flow 33 rfl rfl rfl ?_
      have a0 := (HA.out.below hb).a0; have a1 := (HA.out.below hb).a1; have a2 := (HA.out.below hb).a2
      clear hev hdep hb
      go_simp
      exact ⟨_, rfl, rfl, Below.refl _ _⟩
    · have e4 : a.tmps[4]?.getD undef = .pointer (some ⟨w.heap.size + 1, 0, none⟩) := hev 4 rfl
      refine Drawn.wpOp_flow 34 rfl rfl rfl ?_
      clear hev hdep hb
      go_simp
      exact ⟨_, rfl, rfl, Below.refl _ _⟩
    · have d4 : a.tmps[34]?.getD undef = .pointer (some ⟨w.heap.size + 1, 2, none⟩) := hdep 4 rfl
      refine Drawn.wpOp_flow 35 rfl rfl rfl ?_
      have a0 := (HA.out.below hb).a0; have a1 := (HA.out.below hb).a1; have a2 := (HA.out.below hb).a2
      clear hev hdep hb
      go_simp
      exact ⟨_, rfl, rfl, Below.refl _ _⟩
    · have d1 : a.tmps[31]?.getD undef = .slice A1 an c1 := hdep 1 rfl
      refine Drawn.wpOp_flow 7 rfl rfl rfl ?_
      clear hev hdep hb
      go_simp
      exact ⟨_, rfl, rfl, Below.refl _ _⟩
    · have d3 : a.tmps[33]?.getD undef = .slice A2 bn c2 := hdep 3 rfl
      refine Drawn.wpOp_flow 8 rfl rfl rfl ?_
      clear hev hdep hb
      go_simp
      exact ⟨_, rfl, rfl, Below.refl _ _⟩
    · have d5 : a.tmps[35]?.getD undef = .slice A3 tn c3 := hdep 5 rfl
      refine Drawn.wpOp_flow 9 rfl rfl rfl ?_
      clear hev hdep hb
      go_simp
      exact ⟨_, rfl, rfl, Below.refl _ _⟩
  · intro xq w1 hb hxq
    have vq0 : xq 0 = .pointer (some ⟨w.heap.size + 1, 0, none⟩) := hxq 0 (by omega)
    have vq1 : xq 1 = .slice A1 an c1 := hxq 1 (by omega)
    have vq2 : xq 2 = .pointer (some ⟨w.heap.size + 1, 1, none⟩) := hxq 2 (by omega)
    have vq3 : xq 3 = .slice A2 bn c2 := hxq 3 (by omega)
    have vq4 : xq 4 = .pointer (some ⟨w.heap.size + 1, 2, none⟩) := hxq 4 (by omega)
    have vq5 : xq 5 = .slice A3 tn c3 := hxq 5 (by omega)
    have vq6 : xq 6 = .slice A1 an c1 := hxq 6 (by omega)
    have vq7 : xq 7 = .slice A2 bn c2 := hxq 7 (by omega)
    have vq8 : xq 8 = .slice A3 tn c3 := hxq 8 (by omega)
    show Exit.then _ _ Exit.normal (Drawn.acts _ [(9, some (xq 8)), (8, some (xq 7)), (7, some (xq 6)), (35, some (xq 5)), (34, some (xq 4)), (33, some (xq 3)), (32, some (xq 2)), (31, some (xq 1)), (30, some (xq 0))]) _
    rw [vq0, vq1, vq2, vq3, vq4, vq5, vq6, vq7, vq8]
    clear hxq vq0 vq1 vq2 vq3 vq4 vq5 vq6 vq7 vq8
    clear xq
    simp only [Drawn.acts]
    go_simp
    have HB1 := Lib.hid (bstep HB0.out hb)
    have HA1 := Lib.hid (HA.out.below hb)
    clear hb HA
    go_at_K
    go_wp2_with fail
    refine Drawn.wp_region_flowL 38 [Drawn.SP.is (.agg #[.int .i64 (n0 : Nat), .int .i64 (t0 : Nat), .int .i64 (l0 : Nat), .int .i64 W, .int .i64 S, .int .i64 R]), Drawn.SP.is (.bool true), Drawn.SP.is (.bool false), Drawn.SP.is (.bool false), Drawn.SP.is (.agg #[.int .i64 (n0 : Nat), .int .i64 (t0 : Nat), .int .i64 (l0 : Nat), .int .i64 W, .int .i64 S, .int .i64 R]), Drawn.SP.is (.bool true), Drawn.SP.is (.bool false), Drawn.SP.is (.bool false), Drawn.SP.is (.bool false), Drawn.SP.is (.slice A1 an c1), Drawn.SP.is (.int .i64 (an : Nat)), Drawn.SP.is (.bool false), Drawn.SP.is (.bool false), Drawn.SP.is (.bool false), Drawn.SP.is (.slice A1 an c1), Drawn.SP.is (.int .i64 (an : Nat)), Drawn.SP.is (.slice A2 bn c2), Drawn.SP.is (.int .i64 (bn : Nat)), Drawn.SP.is (.bool true), Drawn.SP.is (.bool true), Drawn.SP.is (.bool true), Drawn.SP.is (undef), Drawn.SP.is (undef), Drawn.SP.is (undef), Drawn.SP.is (undef), Drawn.SP.is (undef), Drawn.SP.is (undef), Drawn.SP.is (undef), Drawn.SP.is (.bool true), Drawn.SP.is (.bool true), Drawn.SP.is (undef), Drawn.SP.is (undef), Drawn.SP.is (undef), Drawn.SP.is (undef), Drawn.SP.is (undef), Drawn.SP.is (undef), Drawn.SP.is (undef), Drawn.SP.is (.bool true)] (by kernel_rfl) (by kernel_rfl) ?_ ?_
    · intro i hi a wq hb hev hdep
      rcases (show i = 0 ∨ i = 1 ∨ i = 2 ∨ i = 3 ∨ i = 4 ∨ i = 5 ∨ i = 6 ∨ i = 7 ∨ i = 8 ∨ i = 9 ∨ i = 10 ∨ i = 11 ∨ i = 12 ∨ i = 13 ∨ i = 14 ∨ i = 15 ∨ i = 16 ∨ i = 17 ∨ i = 18 ∨ i = 19 ∨ i = 20 ∨ i = 21 ∨ i = 22 ∨ i = 23 ∨ i = 24 ∨ i = 25 ∨ i = 26 ∨ i = 27 ∨ i = 28 ∨ i = 29 ∨ i = 30 ∨ i = 31 ∨ i = 32 ∨ i = 33 ∨ i = 34 ∨ i = 35 ∨ i = 36 ∨ i = 37 by omega) with rfl | rfl | rfl | rfl | rfl | rfl | rfl | rfl | rfl | rfl | rfl | rfl | rfl | rfl | rfl | rfl | rfl | rfl | rfl | rfl | rfl | rfl | rfl | rfl | rfl | rfl | rfl | rfl | rfl | rfl | rfl | rfl | rfl | rfl | rfl | rfl | rfl | rfl
      · have e3 : a.tmps[3]?.getD undef = .pointer (some ⟨w.heap.size, 0, none⟩) := hev 3 rfl
        refine Drawn.wpOp_flow 36 rfl rfl rfl ?_
        obtain ⟨p0, p1, p2, p3, p4, p5⟩ := six (HA1.out.below hb).plan
        clear hev hdep hb
        go_simp
        exact ⟨_, rfl, rfl, Below.refl _ _⟩
      · have d0 : a.tmps[36]?.getD undef = .agg #[.int .i64 (n0 : Nat), .int .i64 (t0 : Nat), .int .i64 (l0 : Nat), .int .i64 W, .int .i64 S, .int .i64 R] := hdep 0 rfl
        refine Drawn.wpOp_flow 37 rfl rfl rfl ?_
        clear hev hdep
        have C := H0.out wq
        clear hb
        go_simp
        refine C.mono ?_
        rintro e w' ⟨rfl, hb'⟩
        exact ⟨_, rfl, rfl, hb'⟩
      · have d1 : a.tmps[37]?.getD undef = .bool true := hdep 1 rfl
        refine Drawn.wpOp_flow 38 rfl rfl rfl ?_
        clear hev hdep hb
        go_simp
        exact ⟨_, rfl, rfl, Below.refl _ _⟩
      · have d2 : a.tmps[38]?.getD undef = .bool false := hdep 2 rfl
        refine Drawn.wpOp_flow 39 rfl rfl rfl ?_
        clear hev hdep hb
        go_simp
        exact ⟨_, rfl, rfl, Below.refl _ _⟩
      · have e3 : a.tmps[3]?.getD undef = .pointer (some ⟨w.heap.size, 0, none⟩) := hev 3 rfl
        have dg : a.tmps[39]?.getD undef = .bool false := hdep 3 rfl
        refine Drawn.wpOp_flow 40 rfl (Drawn.wanted_of rfl rfl rfl dg) rfl ?_
        obtain ⟨p0, p1, p2, p3, p4, p5⟩ := six (HA1.out.below hb).plan
        clear dg
        clear hev hdep hb
        go_simp
        exact ⟨_, rfl, rfl, Below.refl _ _⟩
      · have d4 : a.tmps[40]?.getD undef = .agg #[.int .i64 (n0 : Nat), .int .i64 (t0 : Nat), .int .i64 (l0 : Nat), .int .i64 W, .int .i64 S, .int .i64 R] := hdep 4 rfl
        have dg : a.tmps[39]?.getD undef = .bool false := hdep 3 rfl
        refine Drawn.wpOp_flow 41 rfl (Drawn.wanted_of rfl rfl rfl dg) rfl ?_
        clear hev hdep
        clear dg
        have C := HR.out wq
        clear hb
        go_simp
        refine C.mono ?_
        rintro e w' ⟨rfl, hb'⟩
        exact ⟨_, rfl, rfl, hb'⟩
      · have d5 : a.tmps[41]?.getD undef = .bool true := hdep 5 rfl
        have dg : a.tmps[39]?.getD undef = .bool false := hdep 3 rfl
        refine Drawn.wpOp_flow 42 rfl (Drawn.wanted_of rfl rfl rfl dg) rfl ?_
        clear dg
        clear hev hdep hb
        go_simp
        exact ⟨_, rfl, rfl, Below.refl _ _⟩
      · have d3 : a.tmps[39]?.getD undef = .bool false := hdep 3 rfl
        have d6 : a.tmps[42]?.getD undef = .bool false := hdep 6 rfl
        refine Drawn.wpOp_flow 43 rfl rfl rfl ?_
        clear hev hdep hb
        go_simp
        exact ⟨_, rfl, rfl, Below.refl _ _⟩
      · have d7 : a.tmps[43]?.getD undef = .bool false := hdep 7 rfl
        refine Drawn.wpOp_flow 44 rfl rfl rfl ?_
        clear hev hdep hb
        go_simp
        exact ⟨_, rfl, rfl, Below.refl _ _⟩
      · have e7 : a.tmps[7]?.getD undef = .slice A1 an c1 := hev 7 rfl
        have dg : a.tmps[44]?.getD undef = .bool false := hdep 8 rfl
        refine Drawn.wpOp_flow 45 rfl (Drawn.wanted_of rfl rfl rfl dg) rfl ?_
        clear dg
        clear hev hdep hb
        go_simp
        exact ⟨_, rfl, rfl, Below.refl _ _⟩
      · have d9 : a.tmps[45]?.getD undef = .slice A1 an c1 := hdep 9 rfl
        have dg : a.tmps[44]?.getD undef = .bool false := hdep 8 rfl
        refine Drawn.wpOp_flow 46 rfl (Drawn.wanted_of rfl rfl rfl dg) rfl ?_
        clear dg
        clear hev hdep hb
        go_simp
        exact ⟨_, rfl, rfl, Below.refl _ _⟩
      · have d10 : a.tmps[46]?.getD undef = .int .i64 (an : Nat) := hdep 10 rfl
        have dg : a.tmps[44]?.getD undef = .bool false := hdep 8 rfl
        refine Drawn.wpOp_flow 47 rfl (Drawn.wanted_of rfl rfl rfl dg) rfl ?_
        clear hev hdep
        clear dg hb
        go_simp
        exact ⟨_, rfl, (by first | rfl | (show Value.bool _ = Value.bool _; congr 1; first | (simp; done) | (simp; omega))), Below.refl _ _⟩
      · have d8 : a.tmps[44]?.getD undef = .bool false := hdep 8 rfl
        have d11 : a.tmps[47]?.getD undef = .bool false := hdep 11 rfl
        refine Drawn.wpOp_flow 48 rfl rfl rfl ?_
        clear hev hdep hb
        go_simp
        exact ⟨_, rfl, rfl, Below.refl _ _⟩
      · have d12 : a.tmps[48]?.getD undef = .bool false := hdep 12 rfl
        refine Drawn.wpOp_flow 49 rfl rfl rfl ?_
        clear hev hdep hb
        go_simp
        exact ⟨_, rfl, rfl, Below.refl _ _⟩
      · have e7 : a.tmps[7]?.getD undef = .slice A1 an c1 := hev 7 rfl
        have dg : a.tmps[49]?.getD undef = .bool false := hdep 13 rfl
        refine Drawn.wpOp_flow 50 rfl (Drawn.wanted_of rfl rfl rfl dg) rfl ?_
        clear dg
        clear hev hdep hb
        go_simp
        exact ⟨_, rfl, rfl, Below.refl _ _⟩
      · have d14 : a.tmps[50]?.getD undef = .slice A1 an c1 := hdep 14 rfl
        have dg : a.tmps[49]?.getD undef = .bool false := hdep 13 rfl
        refine Drawn.wpOp_flow 51 rfl (Drawn.wanted_of rfl rfl rfl dg) rfl ?_
        clear dg
        clear hev hdep hb
        go_simp
        exact ⟨_, rfl, rfl, Below.refl _ _⟩
      · have e8 : a.tmps[8]?.getD undef = .slice A2 bn c2 := hev 8 rfl
        have dg : a.tmps[49]?.getD undef = .bool false := hdep 13 rfl
        refine Drawn.wpOp_flow 52 rfl (Drawn.wanted_of rfl rfl rfl dg) rfl ?_
        clear dg
        clear hev hdep hb
        go_simp
        exact ⟨_, rfl, rfl, Below.refl _ _⟩
      · have d16 : a.tmps[52]?.getD undef = .slice A2 bn c2 := hdep 16 rfl
        have dg : a.tmps[49]?.getD undef = .bool false := hdep 13 rfl
        refine Drawn.wpOp_flow 53 rfl (Drawn.wanted_of rfl rfl rfl dg) rfl ?_
        clear dg
        clear hev hdep hb
        go_simp
        exact ⟨_, rfl, rfl, Below.refl _ _⟩
      · have d15 : a.tmps[51]?.getD undef = .int .i64 (an : Nat) := hdep 15 rfl
        have d17 : a.tmps[53]?.getD undef = .int .i64 (bn : Nat) := hdep 17 rfl
        have dg : a.tmps[49]?.getD undef = .bool false := hdep 13 rfl
        refine Drawn.wpOp_flow 54 rfl (Drawn.wanted_of rfl rfl rfl dg) rfl ?_
        clear hev hdep
        clear dg hb
        go_simp
        exact ⟨_, rfl, (by first | rfl | (show Value.bool _ = Value.bool _; congr 1; first | (simp; done) | (simp; omega))), Below.refl _ _⟩
      · have d13 : a.tmps[49]?.getD undef = .bool false := hdep 13 rfl
        have d18 : a.tmps[54]?.getD undef = .bool true := hdep 18 rfl
        refine Drawn.wpOp_flow 55 rfl rfl rfl ?_
        clear hev hdep hb
        go_simp
        exact ⟨_, rfl, rfl, Below.refl _ _⟩
      · have d19 : a.tmps[55]?.getD undef = .bool true := hdep 19 rfl
        refine Drawn.wpOp_flow 56 rfl rfl rfl ?_
        clear hev hdep hb
        go_simp
        exact ⟨_, rfl, rfl, Below.refl _ _⟩
      · have dg : a.tmps[56]?.getD undef = .bool true := hdep 20 rfl
        exact Drawn.wpOp_flow_skip 57 rfl (Drawn.unwanted_of rfl rfl rfl dg rfl) rfl rfl
      · have dg : a.tmps[56]?.getD undef = .bool true := hdep 20 rfl
        exact Drawn.wpOp_flow_skip 58 rfl (Drawn.unwanted_of rfl rfl rfl dg rfl) rfl rfl
      · have dg : a.tmps[56]?.getD undef = .bool true := hdep 20 rfl
        exact Drawn.wpOp_flow_skip 59 rfl (Drawn.unwanted_of rfl rfl rfl dg rfl) rfl rfl
      · have dg : a.tmps[56]?.getD undef = .bool true := hdep 20 rfl
        exact Drawn.wpOp_flow_skip 60 rfl (Drawn.unwanted_of rfl rfl rfl dg rfl) rfl rfl
      · have dg : a.tmps[56]?.getD undef = .bool true := hdep 20 rfl
        exact Drawn.wpOp_flow_skip 61 rfl (Drawn.unwanted_of rfl rfl rfl dg rfl) rfl rfl
      · have dg : a.tmps[56]?.getD undef = .bool true := hdep 20 rfl
        exact Drawn.wpOp_flow_skip 62 rfl (Drawn.unwanted_of rfl rfl rfl dg rfl) rfl rfl
      · have dg : a.tmps[56]?.getD undef = .bool true := hdep 20 rfl
        exact Drawn.wpOp_flow_skip 63 rfl (Drawn.unwanted_of rfl rfl rfl dg rfl) rfl rfl
      · have d20 : a.tmps[56]?.getD undef = .bool true := hdep 20 rfl
        have d27 : a.tmps[63]?.getD undef = undef := hdep 27 rfl
        refine Drawn.wpOp_flow 64 rfl rfl rfl ?_
        clear hev hdep hb
        go_simp
        exact ⟨_, rfl, rfl, Below.refl _ _⟩
      · have d28 : a.tmps[64]?.getD undef = .bool true := hdep 28 rfl
        refine Drawn.wpOp_flow 65 rfl rfl rfl ?_
        clear hev hdep hb
        go_simp
        exact ⟨_, rfl, rfl, Below.refl _ _⟩
      · have dg : a.tmps[65]?.getD undef = .bool true := hdep 29 rfl
        exact Drawn.wpOp_flow_skip 66 rfl (Drawn.unwanted_of rfl rfl rfl dg rfl) rfl rfl
      · have dg : a.tmps[65]?.getD undef = .bool true := hdep 29 rfl
        exact Drawn.wpOp_flow_skip 67 rfl (Drawn.unwanted_of rfl rfl rfl dg rfl) rfl rfl
      · have dg : a.tmps[65]?.getD undef = .bool true := hdep 29 rfl
        exact Drawn.wpOp_flow_skip 68 rfl (Drawn.unwanted_of rfl rfl rfl dg rfl) rfl rfl
      · have dg : a.tmps[65]?.getD undef = .bool true := hdep 29 rfl
        exact Drawn.wpOp_flow_skip 69 rfl (Drawn.unwanted_of rfl rfl rfl dg rfl) rfl rfl
      · have dg : a.tmps[65]?.getD undef = .bool true := hdep 29 rfl
        exact Drawn.wpOp_flow_skip 70 rfl (Drawn.unwanted_of rfl rfl rfl dg rfl) rfl rfl
      · have dg : a.tmps[65]?.getD undef = .bool true := hdep 29 rfl
        exact Drawn.wpOp_flow_skip 71 rfl (Drawn.unwanted_of rfl rfl rfl dg rfl) rfl rfl
      · have dg : a.tmps[65]?.getD undef = .bool true := hdep 29 rfl
        exact Drawn.wpOp_flow_skip 72 rfl (Drawn.unwanted_of rfl rfl rfl dg rfl) rfl rfl
      · have d29 : a.tmps[65]?.getD undef = .bool true := hdep 29 rfl
        have d36 : a.tmps[72]?.getD undef = undef := hdep 36 rfl
        refine Drawn.wpOp_flow 73 rfl rfl rfl ?_
        clear hev hdep hb
        go_simp
        exact ⟨_, rfl, rfl, Below.refl _ _⟩
    · intro xq wq hb hxq
      have vq0 : xq 0 = .agg #[.int .i64 (n0 : Nat), .int .i64 (t0 : Nat), .int .i64 (l0 : Nat), .int .i64 W, .int .i64 S, .int .i64 R] := hxq 0 (by omega)
      have vq1 : xq 1 = .bool true := hxq 1 (by omega)
      have vq2 : xq 2 = .bool false := hxq 2 (by omega)
      have vq3 : xq 3 = .bool false := hxq 3 (by omega)
      have vq4 : xq 4 = .agg #[.int .i64 (n0 : Nat), .int .i64 (t0 : Nat), .int .i64 (l0 : Nat), .int .i64 W, .int .i64 S, .int .i64 R] := hxq 4 (by omega)
      have vq5 : xq 5 = .bool true := hxq 5 (by omega)
      have vq6 : xq 6 = .bool false := hxq 6 (by omega)
      have vq7 : xq 7 = .bool false := hxq 7 (by omega)
      have vq8 : xq 8 = .bool false := hxq 8 (by omega)
      have vq9 : xq 9 = .slice A1 an c1 := hxq 9 (by omega)
      have vq10 : xq 10 = .int .i64 (an : Nat) := hxq 10 (by omega)
      have vq11 : xq 11 = .bool false := hxq 11 (by omega)
      have vq12 : xq 12 = .bool false := hxq 12 (by omega)
      have vq13 : xq 13 = .bool false := hxq 13 (by omega)
      have vq14 : xq 14 = .slice A1 an c1 := hxq 14 (by omega)
      have vq15 : xq 15 = .int .i64 (an : Nat) := hxq 15 (by omega)
      have vq16 : xq 16 = .slice A2 bn c2 := hxq 16 (by omega)
      have vq17 : xq 17 = .int .i64 (bn : Nat) := hxq 17 (by omega)
      have vq18 : xq 18 = .bool true := hxq 18 (by omega)
      have vq19 : xq 19 = .bool true := hxq 19 (by omega)
      have vq20 : xq 20 = .bool true := hxq 20 (by omega)
      have vq21 : xq 21 = undef := hxq 21 (by omega)
      have vq22 : xq 22 = undef := hxq 22 (by omega)
      have vq23 : xq 23 = undef := hxq 23 (by omega)
      have vq24 : xq 24 = undef := hxq 24 (by omega)
      have vq25 : xq 25 = undef := hxq 25 (by omega)
      have vq26 : xq 26 = undef := hxq 26 (by omega)
      have vq27 : xq 27 = undef := hxq 27 (by omega)
      have vq28 : xq 28 = .bool true := hxq 28 (by omega)
      have vq29 : xq 29 = .bool true := hxq 29 (by omega)
      have vq30 : xq 30 = undef := hxq 30 (by omega)
      have vq31 : xq 31 = undef := hxq 31 (by omega)
      have vq32 : xq 32 = undef := hxq 32 (by omega)
      have vq33 : xq 33 = undef := hxq 33 (by omega)
      have vq34 : xq 34 = undef := hxq 34 (by omega)
      have vq35 : xq 35 = undef := hxq 35 (by omega)
      have vq36 : xq 36 = undef := hxq 36 (by omega)
      have vq37 : xq 37 = .bool true := hxq 37 (by omega)
      show Exit.then _ _ Exit.normal (Drawn.acts _ [(73, some (xq 37)), (72, some (xq 36)), (71, some (xq 35)), (70, some (xq 34)), (69, some (xq 33)), (68, some (xq 32)), (67, some (xq 31)), (66, some (xq 30)), (65, some (xq 29)), (64, some (xq 28)), (63, some (xq 27)), (62, some (xq 26)), (61, some (xq 25)), (60, some (xq 24)), (59, some (xq 23)), (58, some (xq 22)), (57, some (xq 21)), (56, some (xq 20)), (55, some (xq 19)), (54, some (xq 18)), (53, some (xq 17)), (52, some (xq 16)), (51, some (xq 15)), (50, some (xq 14)), (49, some (xq 13)), (48, some (xq 12)), (47, some (xq 11)), (46, some (xq 10)), (45, some (xq 9)), (44, some (xq 8)), (43, some (xq 7)), (42, some (xq 6)), (41, some (xq 5)), (40, some (xq 4)), (39, some (xq 3)), (38, some (xq 2)), (37, some (xq 1)), (36, some (xq 0))]) _
      rw [vq0, vq1, vq2, vq3, vq4, vq5, vq6, vq7, vq8, vq9, vq10, vq11, vq12, vq13, vq14, vq15, vq16, vq17, vq18, vq19, vq20, vq21, vq22, vq23, vq24, vq25, vq26, vq27, vq28, vq29, vq30, vq31, vq32, vq33, vq34, vq35, vq36, vq37]
      clear hxq vq0 vq1 vq2 vq3 vq4 vq5 vq6 vq7 vq8 vq9 vq10 vq11 vq12 vq13 vq14 vq15 vq16 vq17 vq18 vq19 vq20 vq21 vq22 vq23 vq24 vq25 vq26 vq27 vq28 vq29 vq30 vq31 vq32 vq33 vq34 vq35 vq36 vq37
      clear xq
      simp only [Drawn.acts]
      go_simp
      have HB2 := Lib.hid (bstep HB1.out hb)
      have HA2 := Lib.hid (HA1.out.below hb).plan
      clear hb HA1
      go_at_K
      go_wp2_with fail
      refine (alive_any _).mono ?_
      rintro e w9 ⟨rfl, hb9⟩
      go_wp2
      go_ret
      exact ⟨rfl, bstep HB2.out hb9⟩
set_option maxHeartbeats 4000000 in
theorem hides_short (W S R : Int) (n0 t0 l0 : Nat) (A1 A2 A3 A4 : Option Addr) (an bn tn zn c1 c2 c3 c4 : Nat) (w : World) (hp : P.In ⟨n0, t0, l0, W, S, R⟩) (hl : (n0 : Int) ≤ 12 ∧ (l0 : Int) ≤ 12 ∧ (t0 : Int) ≤ 12) (hM : P.May ⟨n0, t0, l0, W, S, R⟩) (h60 : an ≤ 60) (hne : an = bn) (hco : (tn : Int) < cost ⟨n0, t0, l0, W, S, R⟩ an) :
    Calls Try.prog 5 #[.agg #[.int .i64 (n0 : Nat), .int .i64 (t0 : Nat), .int .i64 (l0 : Nat), .int .i64 W, .int .i64 S, .int .i64 R], .agg #[.slice A1 an c1, .slice A2 bn c2, .slice A3 tn c3], .slice A4 zn c4] w fun e w' => e = .returned (.bool true) ∧ Below w.heap.size w w' := by
  have K0 := fun w => Law10.light_any n0 t0 l0 W S R w
  rw [decide_eq_true hl] at K0
  have H0 := Lib.hid K0
  have KR := fun V => R08.right_any ⟨n0, t0, l0, W, S, R⟩ V hp
  simp only [P.val] at KR
  rw [P.right_yes hM] at KR
  have hM' := hM
  unfold P.May at hM'
  simp only at hM'
  have KCO := fun V => R10.cost_any n0 t0 l0 W S R (an : Int) V (by omega) (by omega)
  generalize cost ⟨n0, t0, l0, W, S, R⟩ (an : Int) = co at *
  have HCO := Lib.hid KCO
  have HR := Lib.hid KR
  clear K0 KR hl hp hM hM' KCO
  subst hne
  have HA := Lib.hid (LiesH.new w n0 t0 l0 W S R (.slice A1 an c1) (.slice A2 an c2) (.slice A3 tn c3) 40)
  have HB0 := Lib.hid (show Below w.heap.size w (((w.alloc (.cells #[.int .i64 (n0 : Nat), .int .i64 (t0 : Nat), .int .i64 (l0 : Nat), .int .i64 W, .int .i64 S, .int .i64 R] 23)).alloc (.cells #[.slice A1 an c1, .slice A2 an c2, .slice A3 tn c3] 40))) from bstep (balloc _ _) (balloc _ _))
  go_enter Try.func5, Try.ntmps5
  go_wp2_with fail
  generalize ((w.alloc (.cells #[.int .i64 (n0 : Nat), .int .i64 (t0 : Nat), .int .i64 (l0 : Nat), .int .i64 W, .int .i64 S, .int .i64 R] 23)).alloc (.cells #[.slice A1 an c1, .slice A2 an c2, .slice A3 tn c3] 40)) = w0 at *
  refine Drawn.wp_region_flowL 9 [Drawn.SP.is (.pointer (some ⟨w.heap.size + 1, 0, none⟩)), Drawn.SP.is (.slice A1 an c1), Drawn.SP.is (.pointer (some ⟨w.heap.size + 1, 1, none⟩)), Drawn.SP.is (.slice A2 an c2), Drawn.SP.is (.pointer (some ⟨w.heap.size + 1, 2, none⟩)), Drawn.SP.is (.slice A3 tn c3), Drawn.SP.is (.slice A1 an c1), Drawn.SP.is (.slice A2 an c2), Drawn.SP.is (.slice A3 tn c3)] (by kernel_rfl) (by kernel_rfl) ?_ ?_
  · intro i hi a w1 hb hev hdep
    rcases (show i = 0 ∨ i = 1 ∨ i = 2 ∨ i = 3 ∨ i = 4 ∨ i = 5 ∨ i = 6 ∨ i = 7 ∨ i = 8 by omega) with rfl | rfl | rfl | rfl | rfl | rfl | rfl | rfl | rfl
    · have e4 : a.tmps[4]?.getD undef = .pointer (some ⟨w.heap.size + 1, 0, none⟩) := hev 4 rfl
      refine Drawn.wpOp_flow 30 rfl rfl rfl ?_
      clear hev hdep hb
      go_simp
      exact ⟨_, rfl, rfl, Below.refl _ _⟩
    · have d0 : a.tmps[30]?.getD undef = .pointer (some ⟨w.heap.size + 1, 0, none⟩) := hdep 0 rfl
      refine Drawn.wpOp_flow 31 rfl rfl rfl ?_
      have a0 := (HA.out.below hb).a0; have a1 := (HA.out.below hb).a1; have a2 := (HA.out.below hb).a2
      clear hev hdep hb
      go_simp
      exact ⟨_, rfl, rfl, Below.refl _ _⟩
    · have e4 : a.tmps[4]?.getD undef = .pointer (some ⟨w.heap.size + 1, 0, none⟩) := hev 4 rfl
      refine Drawn.wpOp_flow 32 rfl rfl rfl ?_
      clear hev hdep hb
      go_simp
      exact ⟨_, rfl, rfl, Below.refl _ _⟩
    · have d2 : a.tmps[32]?.getD undef = .pointer (some ⟨w.heap.size + 1, 1, none⟩) := hdep 2 rfl
      refine Drawn.wpOp_flow 33 rfl rfl rfl ?_
      have a0 := (HA.out.below hb).a0; have a1 := (HA.out.below hb).a1; have a2 := (HA.out.below hb).a2
      clear hev hdep hb
      go_simp
      exact ⟨_, rfl, rfl, Below.refl _ _⟩
    · have e4 : a.tmps[4]?.getD undef = .pointer (some ⟨w.heap.size + 1, 0, none⟩) := hev 4 rfl
      refine Drawn.wpOp_flow 34 rfl rfl rfl ?_
      clear hev hdep hb
      go_simp
      exact ⟨_, rfl, rfl, Below.refl _ _⟩
    · have d4 : a.tmps[34]?.getD undef = .pointer (some ⟨w.heap.size + 1, 2, none⟩) := hdep 4 rfl
      refine Drawn.wpOp_flow 35 rfl rfl rfl ?_
      have a0 := (HA.out.below hb).a0; have a1 := (HA.out.below hb).a1; have a2 := (HA.out.below hb).a2
      clear hev hdep hb
      go_simp
      exact ⟨_, rfl, rfl, Below.refl _ _⟩
    · have d1 : a.tmps[31]?.getD undef = .slice A1 an c1 := hdep 1 rfl
      refine Drawn.wpOp_flow 7 rfl rfl rfl ?_
      clear hev hdep hb
      go_simp
      exact ⟨_, rfl, rfl, Below.refl _ _⟩
    · have d3 : a.tmps[33]?.getD undef = .slice A2 an c2 := hdep 3 rfl
      refine Drawn.wpOp_flow 8 rfl rfl rfl ?_
      clear hev hdep hb
      go_simp
      exact ⟨_, rfl, rfl, Below.refl _ _⟩
    · have d5 : a.tmps[35]?.getD undef = .slice A3 tn c3 := hdep 5 rfl
      refine Drawn.wpOp_flow 9 rfl rfl rfl ?_
      clear hev hdep hb
      go_simp
      exact ⟨_, rfl, rfl, Below.refl _ _⟩
  · intro xq w1 hb hxq
    have vq0 : xq 0 = .pointer (some ⟨w.heap.size + 1, 0, none⟩) := hxq 0 (by omega)
    have vq1 : xq 1 = .slice A1 an c1 := hxq 1 (by omega)
    have vq2 : xq 2 = .pointer (some ⟨w.heap.size + 1, 1, none⟩) := hxq 2 (by omega)
    have vq3 : xq 3 = .slice A2 an c2 := hxq 3 (by omega)
    have vq4 : xq 4 = .pointer (some ⟨w.heap.size + 1, 2, none⟩) := hxq 4 (by omega)
    have vq5 : xq 5 = .slice A3 tn c3 := hxq 5 (by omega)
    have vq6 : xq 6 = .slice A1 an c1 := hxq 6 (by omega)
    have vq7 : xq 7 = .slice A2 an c2 := hxq 7 (by omega)
    have vq8 : xq 8 = .slice A3 tn c3 := hxq 8 (by omega)
    show Exit.then _ _ Exit.normal (Drawn.acts _ [(9, some (xq 8)), (8, some (xq 7)), (7, some (xq 6)), (35, some (xq 5)), (34, some (xq 4)), (33, some (xq 3)), (32, some (xq 2)), (31, some (xq 1)), (30, some (xq 0))]) _
    rw [vq0, vq1, vq2, vq3, vq4, vq5, vq6, vq7, vq8]
    clear hxq vq0 vq1 vq2 vq3 vq4 vq5 vq6 vq7 vq8
    clear xq
    simp only [Drawn.acts]
    go_simp
    have HB1 := Lib.hid (bstep HB0.out hb)
    have HA1 := Lib.hid (HA.out.below hb)
    clear hb HA
    go_at_K
    go_wp2_with fail
    refine Drawn.wp_region_flowL 38 [Drawn.SP.is (.agg #[.int .i64 (n0 : Nat), .int .i64 (t0 : Nat), .int .i64 (l0 : Nat), .int .i64 W, .int .i64 S, .int .i64 R]), Drawn.SP.is (.bool true), Drawn.SP.is (.bool false), Drawn.SP.is (.bool false), Drawn.SP.is (.agg #[.int .i64 (n0 : Nat), .int .i64 (t0 : Nat), .int .i64 (l0 : Nat), .int .i64 W, .int .i64 S, .int .i64 R]), Drawn.SP.is (.bool true), Drawn.SP.is (.bool false), Drawn.SP.is (.bool false), Drawn.SP.is (.bool false), Drawn.SP.is (.slice A1 an c1), Drawn.SP.is (.int .i64 (an : Nat)), Drawn.SP.is (.bool false), Drawn.SP.is (.bool false), Drawn.SP.is (.bool false), Drawn.SP.is (.slice A1 an c1), Drawn.SP.is (.int .i64 (an : Nat)), Drawn.SP.is (.slice A2 an c2), Drawn.SP.is (.int .i64 (an : Nat)), Drawn.SP.is (.bool false), Drawn.SP.is (.bool false), Drawn.SP.is (.bool false), Drawn.SP.is (.slice A3 tn c3), Drawn.SP.is (.int .i64 (tn : Nat)), Drawn.SP.is (.agg #[.int .i64 (n0 : Nat), .int .i64 (t0 : Nat), .int .i64 (l0 : Nat), .int .i64 W, .int .i64 S, .int .i64 R]), Drawn.SP.is (.slice A1 an c1), Drawn.SP.is (.int .i64 (an : Nat)), Drawn.SP.is (.int .i64 co), Drawn.SP.is (.bool true), Drawn.SP.is (.bool true), Drawn.SP.is (.bool true), Drawn.SP.is (undef), Drawn.SP.is (undef), Drawn.SP.is (undef), Drawn.SP.is (undef), Drawn.SP.is (undef), Drawn.SP.is (undef), Drawn.SP.is (undef), Drawn.SP.is (.bool true)] (by kernel_rfl) (by kernel_rfl) ?_ ?_
    · intro i hi a wq hb hev hdep
      rcases (show i = 0 ∨ i = 1 ∨ i = 2 ∨ i = 3 ∨ i = 4 ∨ i = 5 ∨ i = 6 ∨ i = 7 ∨ i = 8 ∨ i = 9 ∨ i = 10 ∨ i = 11 ∨ i = 12 ∨ i = 13 ∨ i = 14 ∨ i = 15 ∨ i = 16 ∨ i = 17 ∨ i = 18 ∨ i = 19 ∨ i = 20 ∨ i = 21 ∨ i = 22 ∨ i = 23 ∨ i = 24 ∨ i = 25 ∨ i = 26 ∨ i = 27 ∨ i = 28 ∨ i = 29 ∨ i = 30 ∨ i = 31 ∨ i = 32 ∨ i = 33 ∨ i = 34 ∨ i = 35 ∨ i = 36 ∨ i = 37 by omega) with rfl | rfl | rfl | rfl | rfl | rfl | rfl | rfl | rfl | rfl | rfl | rfl | rfl | rfl | rfl | rfl | rfl | rfl | rfl | rfl | rfl | rfl | rfl | rfl | rfl | rfl | rfl | rfl | rfl | rfl | rfl | rfl | rfl | rfl | rfl | rfl | rfl | rfl
      · have e3 : a.tmps[3]?.getD undef = .pointer (some ⟨w.heap.size, 0, none⟩) := hev 3 rfl
        refine Drawn.wpOp_flow 36 rfl rfl rfl ?_
        obtain ⟨p0, p1, p2, p3, p4, p5⟩ := six (HA1.out.below hb).plan
        clear hev hdep hb
        go_simp
        exact ⟨_, rfl, rfl, Below.refl _ _⟩
      · have d0 : a.tmps[36]?.getD undef = .agg #[.int .i64 (n0 : Nat), .int .i64 (t0 : Nat), .int .i64 (l0 : Nat), .int .i64 W, .int .i64 S, .int .i64 R] := hdep 0 rfl
        refine Drawn.wpOp_flow 37 rfl rfl rfl ?_
        clear hev hdep
        have C := H0.out wq
        clear hb
        go_simp
        refine C.mono ?_
        rintro e w' ⟨rfl, hb'⟩
        exact ⟨_, rfl, rfl, hb'⟩
      · have d1 : a.tmps[37]?.getD undef = .bool true := hdep 1 rfl
        refine Drawn.wpOp_flow 38 rfl rfl rfl ?_
        clear hev hdep hb
        go_simp
        exact ⟨_, rfl, rfl, Below.refl _ _⟩
      · have d2 : a.tmps[38]?.getD undef = .bool false := hdep 2 rfl
        refine Drawn.wpOp_flow 39 rfl rfl rfl ?_
        clear hev hdep hb
        go_simp
        exact ⟨_, rfl, rfl, Below.refl _ _⟩
      · have e3 : a.tmps[3]?.getD undef = .pointer (some ⟨w.heap.size, 0, none⟩) := hev 3 rfl
        have dg : a.tmps[39]?.getD undef = .bool false := hdep 3 rfl
        refine Drawn.wpOp_flow 40 rfl (Drawn.wanted_of rfl rfl rfl dg) rfl ?_
        obtain ⟨p0, p1, p2, p3, p4, p5⟩ := six (HA1.out.below hb).plan
        clear dg
        clear hev hdep hb
        go_simp
        exact ⟨_, rfl, rfl, Below.refl _ _⟩
      · have d4 : a.tmps[40]?.getD undef = .agg #[.int .i64 (n0 : Nat), .int .i64 (t0 : Nat), .int .i64 (l0 : Nat), .int .i64 W, .int .i64 S, .int .i64 R] := hdep 4 rfl
        have dg : a.tmps[39]?.getD undef = .bool false := hdep 3 rfl
        refine Drawn.wpOp_flow 41 rfl (Drawn.wanted_of rfl rfl rfl dg) rfl ?_
        clear hev hdep
        clear dg
        have C := HR.out wq
        clear hb
        go_simp
        refine C.mono ?_
        rintro e w' ⟨rfl, hb'⟩
        exact ⟨_, rfl, rfl, hb'⟩
      · have d5 : a.tmps[41]?.getD undef = .bool true := hdep 5 rfl
        have dg : a.tmps[39]?.getD undef = .bool false := hdep 3 rfl
        refine Drawn.wpOp_flow 42 rfl (Drawn.wanted_of rfl rfl rfl dg) rfl ?_
        clear dg
        clear hev hdep hb
        go_simp
        exact ⟨_, rfl, rfl, Below.refl _ _⟩
      · have d3 : a.tmps[39]?.getD undef = .bool false := hdep 3 rfl
        have d6 : a.tmps[42]?.getD undef = .bool false := hdep 6 rfl
        refine Drawn.wpOp_flow 43 rfl rfl rfl ?_
        clear hev hdep hb
        go_simp
        exact ⟨_, rfl, rfl, Below.refl _ _⟩
      · have d7 : a.tmps[43]?.getD undef = .bool false := hdep 7 rfl
        refine Drawn.wpOp_flow 44 rfl rfl rfl ?_
        clear hev hdep hb
        go_simp
        exact ⟨_, rfl, rfl, Below.refl _ _⟩
      · have e7 : a.tmps[7]?.getD undef = .slice A1 an c1 := hev 7 rfl
        have dg : a.tmps[44]?.getD undef = .bool false := hdep 8 rfl
        refine Drawn.wpOp_flow 45 rfl (Drawn.wanted_of rfl rfl rfl dg) rfl ?_
        clear dg
        clear hev hdep hb
        go_simp
        exact ⟨_, rfl, rfl, Below.refl _ _⟩
      · have d9 : a.tmps[45]?.getD undef = .slice A1 an c1 := hdep 9 rfl
        have dg : a.tmps[44]?.getD undef = .bool false := hdep 8 rfl
        refine Drawn.wpOp_flow 46 rfl (Drawn.wanted_of rfl rfl rfl dg) rfl ?_
        clear dg
        clear hev hdep hb
        go_simp
        exact ⟨_, rfl, rfl, Below.refl _ _⟩
      · have d10 : a.tmps[46]?.getD undef = .int .i64 (an : Nat) := hdep 10 rfl
        have dg : a.tmps[44]?.getD undef = .bool false := hdep 8 rfl
        refine Drawn.wpOp_flow 47 rfl (Drawn.wanted_of rfl rfl rfl dg) rfl ?_
        clear hev hdep
        clear dg hb
        go_simp
        exact ⟨_, rfl, (by first | rfl | (show Value.bool _ = Value.bool _; congr 1; first | (simp; done) | (simp; omega))), Below.refl _ _⟩
      · have d8 : a.tmps[44]?.getD undef = .bool false := hdep 8 rfl
        have d11 : a.tmps[47]?.getD undef = .bool false := hdep 11 rfl
        refine Drawn.wpOp_flow 48 rfl rfl rfl ?_
        clear hev hdep hb
        go_simp
        exact ⟨_, rfl, rfl, Below.refl _ _⟩
      · have d12 : a.tmps[48]?.getD undef = .bool false := hdep 12 rfl
        refine Drawn.wpOp_flow 49 rfl rfl rfl ?_
        clear hev hdep hb
        go_simp
        exact ⟨_, rfl, rfl, Below.refl _ _⟩
      · have e7 : a.tmps[7]?.getD undef = .slice A1 an c1 := hev 7 rfl
        have dg : a.tmps[49]?.getD undef = .bool false := hdep 13 rfl
        refine Drawn.wpOp_flow 50 rfl (Drawn.wanted_of rfl rfl rfl dg) rfl ?_
        clear dg
        clear hev hdep hb
        go_simp
        exact ⟨_, rfl, rfl, Below.refl _ _⟩
      · have d14 : a.tmps[50]?.getD undef = .slice A1 an c1 := hdep 14 rfl
        have dg : a.tmps[49]?.getD undef = .bool false := hdep 13 rfl
        refine Drawn.wpOp_flow 51 rfl (Drawn.wanted_of rfl rfl rfl dg) rfl ?_
        clear dg
        clear hev hdep hb
        go_simp
        exact ⟨_, rfl, rfl, Below.refl _ _⟩
      · have e8 : a.tmps[8]?.getD undef = .slice A2 an c2 := hev 8 rfl
        have dg : a.tmps[49]?.getD undef = .bool false := hdep 13 rfl
        refine Drawn.wpOp_flow 52 rfl (Drawn.wanted_of rfl rfl rfl dg) rfl ?_
        clear dg
        clear hev hdep hb
        go_simp
        exact ⟨_, rfl, rfl, Below.refl _ _⟩
      · have d16 : a.tmps[52]?.getD undef = .slice A2 an c2 := hdep 16 rfl
        have dg : a.tmps[49]?.getD undef = .bool false := hdep 13 rfl
        refine Drawn.wpOp_flow 53 rfl (Drawn.wanted_of rfl rfl rfl dg) rfl ?_
        clear dg
        clear hev hdep hb
        go_simp
        exact ⟨_, rfl, rfl, Below.refl _ _⟩
      · have d15 : a.tmps[51]?.getD undef = .int .i64 (an : Nat) := hdep 15 rfl
        have d17 : a.tmps[53]?.getD undef = .int .i64 (an : Nat) := hdep 17 rfl
        have dg : a.tmps[49]?.getD undef = .bool false := hdep 13 rfl
        refine Drawn.wpOp_flow 54 rfl (Drawn.wanted_of rfl rfl rfl dg) rfl ?_
        clear hev hdep
        clear dg hb
        go_simp
        exact ⟨_, rfl, (by first | rfl | (show Value.bool _ = Value.bool _; congr 1; first | (simp; done) | (simp; omega))), Below.refl _ _⟩
      · have d13 : a.tmps[49]?.getD undef = .bool false := hdep 13 rfl
        have d18 : a.tmps[54]?.getD undef = .bool false := hdep 18 rfl
        refine Drawn.wpOp_flow 55 rfl rfl rfl ?_
        clear hev hdep hb
        go_simp
        exact ⟨_, rfl, rfl, Below.refl _ _⟩
      · have d19 : a.tmps[55]?.getD undef = .bool false := hdep 19 rfl
        refine Drawn.wpOp_flow 56 rfl rfl rfl ?_
        clear hev hdep hb
        go_simp
        exact ⟨_, rfl, rfl, Below.refl _ _⟩
      · have e9 : a.tmps[9]?.getD undef = .slice A3 tn c3 := hev 9 rfl
        have dg : a.tmps[56]?.getD undef = .bool false := hdep 20 rfl
        refine Drawn.wpOp_flow 57 rfl (Drawn.wanted_of rfl rfl rfl dg) rfl ?_
        clear dg
        clear hev hdep hb
        go_simp
        exact ⟨_, rfl, rfl, Below.refl _ _⟩
      · have d21 : a.tmps[57]?.getD undef = .slice A3 tn c3 := hdep 21 rfl
        have dg : a.tmps[56]?.getD undef = .bool false := hdep 20 rfl
        refine Drawn.wpOp_flow 58 rfl (Drawn.wanted_of rfl rfl rfl dg) rfl ?_
        clear dg
        clear hev hdep hb
        go_simp
        exact ⟨_, rfl, rfl, Below.refl _ _⟩
      · have e3 : a.tmps[3]?.getD undef = .pointer (some ⟨w.heap.size, 0, none⟩) := hev 3 rfl
        have dg : a.tmps[56]?.getD undef = .bool false := hdep 20 rfl
        refine Drawn.wpOp_flow 59 rfl (Drawn.wanted_of rfl rfl rfl dg) rfl ?_
        obtain ⟨p0, p1, p2, p3, p4, p5⟩ := six (HA1.out.below hb).plan
        clear dg
        clear hev hdep hb
        go_simp
        exact ⟨_, rfl, rfl, Below.refl _ _⟩
      · have e7 : a.tmps[7]?.getD undef = .slice A1 an c1 := hev 7 rfl
        have dg : a.tmps[56]?.getD undef = .bool false := hdep 20 rfl
        refine Drawn.wpOp_flow 60 rfl (Drawn.wanted_of rfl rfl rfl dg) rfl ?_
        clear dg
        clear hev hdep hb
        go_simp
        exact ⟨_, rfl, rfl, Below.refl _ _⟩
      · have d24 : a.tmps[60]?.getD undef = .slice A1 an c1 := hdep 24 rfl
        have dg : a.tmps[56]?.getD undef = .bool false := hdep 20 rfl
        refine Drawn.wpOp_flow 61 rfl (Drawn.wanted_of rfl rfl rfl dg) rfl ?_
        clear dg
        clear hev hdep hb
        go_simp
        exact ⟨_, rfl, rfl, Below.refl _ _⟩
      · have d23 : a.tmps[59]?.getD undef = .agg #[.int .i64 (n0 : Nat), .int .i64 (t0 : Nat), .int .i64 (l0 : Nat), .int .i64 W, .int .i64 S, .int .i64 R] := hdep 23 rfl
        have d25 : a.tmps[61]?.getD undef = .int .i64 (an : Nat) := hdep 25 rfl
        have dg : a.tmps[56]?.getD undef = .bool false := hdep 20 rfl
        refine Drawn.wpOp_flow 62 rfl (Drawn.wanted_of rfl rfl rfl dg) rfl ?_
        clear hev hdep
        clear dg
        have C := HCO.out wq
        clear hb
        go_simp
        refine C.mono ?_
        rintro e w' ⟨rfl, hb'⟩
        exact ⟨_, rfl, rfl, hb'⟩
      · have d22 : a.tmps[58]?.getD undef = .int .i64 (tn : Nat) := hdep 22 rfl
        have d26 : a.tmps[62]?.getD undef = .int .i64 co := hdep 26 rfl
        have dg : a.tmps[56]?.getD undef = .bool false := hdep 20 rfl
        refine Drawn.wpOp_flow 63 rfl (Drawn.wanted_of rfl rfl rfl dg) rfl ?_
        clear hev hdep
        clear dg hb
        go_simp
        exact ⟨_, rfl, (by first | rfl | (show Value.bool _ = Value.bool _; congr 1; first | (simp; done) | (simp; omega))), Below.refl _ _⟩
      · have d20 : a.tmps[56]?.getD undef = .bool false := hdep 20 rfl
        have d27 : a.tmps[63]?.getD undef = .bool true := hdep 27 rfl
        refine Drawn.wpOp_flow 64 rfl rfl rfl ?_
        clear hev hdep hb
        go_simp
        exact ⟨_, rfl, rfl, Below.refl _ _⟩
      · have d28 : a.tmps[64]?.getD undef = .bool true := hdep 28 rfl
        refine Drawn.wpOp_flow 65 rfl rfl rfl ?_
        clear hev hdep hb
        go_simp
        exact ⟨_, rfl, rfl, Below.refl _ _⟩
      · have dg : a.tmps[65]?.getD undef = .bool true := hdep 29 rfl
        exact Drawn.wpOp_flow_skip 66 rfl (Drawn.unwanted_of rfl rfl rfl dg rfl) rfl rfl
      · have dg : a.tmps[65]?.getD undef = .bool true := hdep 29 rfl
        exact Drawn.wpOp_flow_skip 67 rfl (Drawn.unwanted_of rfl rfl rfl dg rfl) rfl rfl
      · have dg : a.tmps[65]?.getD undef = .bool true := hdep 29 rfl
        exact Drawn.wpOp_flow_skip 68 rfl (Drawn.unwanted_of rfl rfl rfl dg rfl) rfl rfl
      · have dg : a.tmps[65]?.getD undef = .bool true := hdep 29 rfl
        exact Drawn.wpOp_flow_skip 69 rfl (Drawn.unwanted_of rfl rfl rfl dg rfl) rfl rfl
      · have dg : a.tmps[65]?.getD undef = .bool true := hdep 29 rfl
        exact Drawn.wpOp_flow_skip 70 rfl (Drawn.unwanted_of rfl rfl rfl dg rfl) rfl rfl
      · have dg : a.tmps[65]?.getD undef = .bool true := hdep 29 rfl
        exact Drawn.wpOp_flow_skip 71 rfl (Drawn.unwanted_of rfl rfl rfl dg rfl) rfl rfl
      · have dg : a.tmps[65]?.getD undef = .bool true := hdep 29 rfl
        exact Drawn.wpOp_flow_skip 72 rfl (Drawn.unwanted_of rfl rfl rfl dg rfl) rfl rfl
      · have d29 : a.tmps[65]?.getD undef = .bool true := hdep 29 rfl
        have d36 : a.tmps[72]?.getD undef = undef := hdep 36 rfl
        refine Drawn.wpOp_flow 73 rfl rfl rfl ?_
        clear hev hdep hb
        go_simp
        exact ⟨_, rfl, rfl, Below.refl _ _⟩
    · intro xq wq hb hxq
      have vq0 : xq 0 = .agg #[.int .i64 (n0 : Nat), .int .i64 (t0 : Nat), .int .i64 (l0 : Nat), .int .i64 W, .int .i64 S, .int .i64 R] := hxq 0 (by omega)
      have vq1 : xq 1 = .bool true := hxq 1 (by omega)
      have vq2 : xq 2 = .bool false := hxq 2 (by omega)
      have vq3 : xq 3 = .bool false := hxq 3 (by omega)
      have vq4 : xq 4 = .agg #[.int .i64 (n0 : Nat), .int .i64 (t0 : Nat), .int .i64 (l0 : Nat), .int .i64 W, .int .i64 S, .int .i64 R] := hxq 4 (by omega)
      have vq5 : xq 5 = .bool true := hxq 5 (by omega)
      have vq6 : xq 6 = .bool false := hxq 6 (by omega)
      have vq7 : xq 7 = .bool false := hxq 7 (by omega)
      have vq8 : xq 8 = .bool false := hxq 8 (by omega)
      have vq9 : xq 9 = .slice A1 an c1 := hxq 9 (by omega)
      have vq10 : xq 10 = .int .i64 (an : Nat) := hxq 10 (by omega)
      have vq11 : xq 11 = .bool false := hxq 11 (by omega)
      have vq12 : xq 12 = .bool false := hxq 12 (by omega)
      have vq13 : xq 13 = .bool false := hxq 13 (by omega)
      have vq14 : xq 14 = .slice A1 an c1 := hxq 14 (by omega)
      have vq15 : xq 15 = .int .i64 (an : Nat) := hxq 15 (by omega)
      have vq16 : xq 16 = .slice A2 an c2 := hxq 16 (by omega)
      have vq17 : xq 17 = .int .i64 (an : Nat) := hxq 17 (by omega)
      have vq18 : xq 18 = .bool false := hxq 18 (by omega)
      have vq19 : xq 19 = .bool false := hxq 19 (by omega)
      have vq20 : xq 20 = .bool false := hxq 20 (by omega)
      have vq21 : xq 21 = .slice A3 tn c3 := hxq 21 (by omega)
      have vq22 : xq 22 = .int .i64 (tn : Nat) := hxq 22 (by omega)
      have vq23 : xq 23 = .agg #[.int .i64 (n0 : Nat), .int .i64 (t0 : Nat), .int .i64 (l0 : Nat), .int .i64 W, .int .i64 S, .int .i64 R] := hxq 23 (by omega)
      have vq24 : xq 24 = .slice A1 an c1 := hxq 24 (by omega)
      have vq25 : xq 25 = .int .i64 (an : Nat) := hxq 25 (by omega)
      have vq26 : xq 26 = .int .i64 co := hxq 26 (by omega)
      have vq27 : xq 27 = .bool true := hxq 27 (by omega)
      have vq28 : xq 28 = .bool true := hxq 28 (by omega)
      have vq29 : xq 29 = .bool true := hxq 29 (by omega)
      have vq30 : xq 30 = undef := hxq 30 (by omega)
      have vq31 : xq 31 = undef := hxq 31 (by omega)
      have vq32 : xq 32 = undef := hxq 32 (by omega)
      have vq33 : xq 33 = undef := hxq 33 (by omega)
      have vq34 : xq 34 = undef := hxq 34 (by omega)
      have vq35 : xq 35 = undef := hxq 35 (by omega)
      have vq36 : xq 36 = undef := hxq 36 (by omega)
      have vq37 : xq 37 = .bool true := hxq 37 (by omega)
      show Exit.then _ _ Exit.normal (Drawn.acts _ [(73, some (xq 37)), (72, some (xq 36)), (71, some (xq 35)), (70, some (xq 34)), (69, some (xq 33)), (68, some (xq 32)), (67, some (xq 31)), (66, some (xq 30)), (65, some (xq 29)), (64, some (xq 28)), (63, some (xq 27)), (62, some (xq 26)), (61, some (xq 25)), (60, some (xq 24)), (59, some (xq 23)), (58, some (xq 22)), (57, some (xq 21)), (56, some (xq 20)), (55, some (xq 19)), (54, some (xq 18)), (53, some (xq 17)), (52, some (xq 16)), (51, some (xq 15)), (50, some (xq 14)), (49, some (xq 13)), (48, some (xq 12)), (47, some (xq 11)), (46, some (xq 10)), (45, some (xq 9)), (44, some (xq 8)), (43, some (xq 7)), (42, some (xq 6)), (41, some (xq 5)), (40, some (xq 4)), (39, some (xq 3)), (38, some (xq 2)), (37, some (xq 1)), (36, some (xq 0))]) _
      rw [vq0, vq1, vq2, vq3, vq4, vq5, vq6, vq7, vq8, vq9, vq10, vq11, vq12, vq13, vq14, vq15, vq16, vq17, vq18, vq19, vq20, vq21, vq22, vq23, vq24, vq25, vq26, vq27, vq28, vq29, vq30, vq31, vq32, vq33, vq34, vq35, vq36, vq37]
      clear hxq vq0 vq1 vq2 vq3 vq4 vq5 vq6 vq7 vq8 vq9 vq10 vq11 vq12 vq13 vq14 vq15 vq16 vq17 vq18 vq19 vq20 vq21 vq22 vq23 vq24 vq25 vq26 vq27 vq28 vq29 vq30 vq31 vq32 vq33 vq34 vq35 vq36 vq37
      clear xq
      simp only [Drawn.acts]
      go_simp
      have HB2 := Lib.hid (bstep HB1.out hb)
      have HA2 := Lib.hid (HA1.out.below hb).plan
      clear hb HA1
      go_at_K
      go_wp2_with fail
      refine (alive_any _).mono ?_
      rintro e w9 ⟨rfl, hb9⟩
      go_wp2
      go_ret
      exact ⟨rfl, bstep HB2.out hb9⟩
set_option maxHeartbeats 4000000 in
theorem hides_bad (W S R : Int) (n0 t0 l0 : Nat) (A1 A2 A3 A4 : Option Addr) (an bn tn zn c1 c2 c3 c4 : Nat) (w : World) (hp : P.In ⟨n0, t0, l0, W, S, R⟩) (hl : (n0 : Int) ≤ 12 ∧ (l0 : Int) ≤ 12 ∧ (t0 : Int) ≤ 12) (hM : P.May ⟨n0, t0, l0, W, S, R⟩) (h60 : an ≤ 60) (hne : an = bn) (hco : ¬ (tn : Int) < cost ⟨n0, t0, l0, W, S, R⟩ an) (z : List Int) (hzn : zn = z.length) (h4 : IntsAt w A4 z) (he : mcheck ⟨n0, t0, l0, W, S, R⟩ (List.replicate l0 0) z ≠ 0) :
    Calls Try.prog 5 #[.agg #[.int .i64 (n0 : Nat), .int .i64 (t0 : Nat), .int .i64 (l0 : Nat), .int .i64 W, .int .i64 S, .int .i64 R], .agg #[.slice A1 an c1, .slice A2 bn c2, .slice A3 tn c3], .slice A4 zn c4] w fun e w' => e = .returned (.bool true) ∧ Below w.heap.size w w' := by
  have K0 := fun w => Law10.light_any n0 t0 l0 W S R w
  rw [decide_eq_true hl] at K0
  have H0 := Lib.hid K0
  have KR := fun V => R08.right_any ⟨n0, t0, l0, W, S, R⟩ V hp
  simp only [P.val] at KR
  rw [P.right_yes hM] at KR
  have hM' := hM
  unfold P.May at hM'
  simp only at hM'
  have KCO := fun V => R10.cost_any n0 t0 l0 W S R (an : Int) V (by omega) (by omega)
  generalize cost ⟨n0, t0, l0, W, S, R⟩ (an : Int) = co at *
  have HCO := Lib.hid KCO
  have KCK := fun X d V h => check_all n0 t0 l0 W S R X A4 (List.replicate l0 0) z d c4 V hp h hl.2.2
  rw [List.length_replicate] at KCK
  rw [← hzn] at KCK
  generalize mcheck ⟨n0, t0, l0, W, S, R⟩ (List.replicate l0 0) z = er at *
  have hne2 : (er != 0) = true := by simpa using he
  have HL0 : Hid (l0 ≤ 1099511627776) := Lib.hid (by omega)
  have HCK := Lib.hid KCK
  have ZS := Lib.hid h4
  have HR := Lib.hid KR
  clear K0 KR hl hp hM hM' KCO KCK he h4 hzn
  subst hne
  have HA := Lib.hid (LiesH.new w n0 t0 l0 W S R (.slice A1 an c1) (.slice A2 an c2) (.slice A3 tn c3) 40)
  have HB0 := Lib.hid (show Below w.heap.size w (((w.alloc (.cells #[.int .i64 (n0 : Nat), .int .i64 (t0 : Nat), .int .i64 (l0 : Nat), .int .i64 W, .int .i64 S, .int .i64 R] 23)).alloc (.cells #[.slice A1 an c1, .slice A2 an c2, .slice A3 tn c3] 40))) from bstep (balloc _ _) (balloc _ _))
  go_enter Try.func5, Try.ntmps5
  go_wp2_with fail
  generalize ((w.alloc (.cells #[.int .i64 (n0 : Nat), .int .i64 (t0 : Nat), .int .i64 (l0 : Nat), .int .i64 W, .int .i64 S, .int .i64 R] 23)).alloc (.cells #[.slice A1 an c1, .slice A2 an c2, .slice A3 tn c3] 40)) = w0 at *
  refine Drawn.wp_region_flowL 9 [Drawn.SP.is (.pointer (some ⟨w.heap.size + 1, 0, none⟩)), Drawn.SP.is (.slice A1 an c1), Drawn.SP.is (.pointer (some ⟨w.heap.size + 1, 1, none⟩)), Drawn.SP.is (.slice A2 an c2), Drawn.SP.is (.pointer (some ⟨w.heap.size + 1, 2, none⟩)), Drawn.SP.is (.slice A3 tn c3), Drawn.SP.is (.slice A1 an c1), Drawn.SP.is (.slice A2 an c2), Drawn.SP.is (.slice A3 tn c3)] (by kernel_rfl) (by kernel_rfl) ?_ ?_
  · intro i hi a w1 hb hev hdep
    rcases (show i = 0 ∨ i = 1 ∨ i = 2 ∨ i = 3 ∨ i = 4 ∨ i = 5 ∨ i = 6 ∨ i = 7 ∨ i = 8 by omega) with rfl | rfl | rfl | rfl | rfl | rfl | rfl | rfl | rfl
    · have e4 : a.tmps[4]?.getD undef = .pointer (some ⟨w.heap.size + 1, 0, none⟩) := hev 4 rfl
      refine Drawn.wpOp_flow 30 rfl rfl rfl ?_
      clear hev hdep hb
      go_simp
      exact ⟨_, rfl, rfl, Below.refl _ _⟩
    · have d0 : a.tmps[30]?.getD undef = .pointer (some ⟨w.heap.size + 1, 0, none⟩) := hdep 0 rfl
      refine Drawn.wpOp_flow 31 rfl rfl rfl ?_
      have a0 := (HA.out.below hb).a0; have a1 := (HA.out.below hb).a1; have a2 := (HA.out.below hb).a2
      clear hev hdep hb
      go_simp
      exact ⟨_, rfl, rfl, Below.refl _ _⟩
    · have e4 : a.tmps[4]?.getD undef = .pointer (some ⟨w.heap.size + 1, 0, none⟩) := hev 4 rfl
      refine Drawn.wpOp_flow 32 rfl rfl rfl ?_
      clear hev hdep hb
      go_simp
      exact ⟨_, rfl, rfl, Below.refl _ _⟩
    · have d2 : a.tmps[32]?.getD undef = .pointer (some ⟨w.heap.size + 1, 1, none⟩) := hdep 2 rfl
      refine Drawn.wpOp_flow 33 rfl rfl rfl ?_
      have a0 := (HA.out.below hb).a0; have a1 := (HA.out.below hb).a1; have a2 := (HA.out.below hb).a2
      clear hev hdep hb
      go_simp
      exact ⟨_, rfl, rfl, Below.refl _ _⟩
    · have e4 : a.tmps[4]?.getD undef = .pointer (some ⟨w.heap.size + 1, 0, none⟩) := hev 4 rfl
      refine Drawn.wpOp_flow 34 rfl rfl rfl ?_
      clear hev hdep hb
      go_simp
      exact ⟨_, rfl, rfl, Below.refl _ _⟩
    · have d4 : a.tmps[34]?.getD undef = .pointer (some ⟨w.heap.size + 1, 2, none⟩) := hdep 4 rfl
      refine Drawn.wpOp_flow 35 rfl rfl rfl ?_
      have a0 := (HA.out.below hb).a0; have a1 := (HA.out.below hb).a1; have a2 := (HA.out.below hb).a2
      clear hev hdep hb
      go_simp
      exact ⟨_, rfl, rfl, Below.refl _ _⟩
    · have d1 : a.tmps[31]?.getD undef = .slice A1 an c1 := hdep 1 rfl
      refine Drawn.wpOp_flow 7 rfl rfl rfl ?_
      clear hev hdep hb
      go_simp
      exact ⟨_, rfl, rfl, Below.refl _ _⟩
    · have d3 : a.tmps[33]?.getD undef = .slice A2 an c2 := hdep 3 rfl
      refine Drawn.wpOp_flow 8 rfl rfl rfl ?_
      clear hev hdep hb
      go_simp
      exact ⟨_, rfl, rfl, Below.refl _ _⟩
    · have d5 : a.tmps[35]?.getD undef = .slice A3 tn c3 := hdep 5 rfl
      refine Drawn.wpOp_flow 9 rfl rfl rfl ?_
      clear hev hdep hb
      go_simp
      exact ⟨_, rfl, rfl, Below.refl _ _⟩
  · intro xq w1 hb hxq
    have vq0 : xq 0 = .pointer (some ⟨w.heap.size + 1, 0, none⟩) := hxq 0 (by omega)
    have vq1 : xq 1 = .slice A1 an c1 := hxq 1 (by omega)
    have vq2 : xq 2 = .pointer (some ⟨w.heap.size + 1, 1, none⟩) := hxq 2 (by omega)
    have vq3 : xq 3 = .slice A2 an c2 := hxq 3 (by omega)
    have vq4 : xq 4 = .pointer (some ⟨w.heap.size + 1, 2, none⟩) := hxq 4 (by omega)
    have vq5 : xq 5 = .slice A3 tn c3 := hxq 5 (by omega)
    have vq6 : xq 6 = .slice A1 an c1 := hxq 6 (by omega)
    have vq7 : xq 7 = .slice A2 an c2 := hxq 7 (by omega)
    have vq8 : xq 8 = .slice A3 tn c3 := hxq 8 (by omega)
    show Exit.then _ _ Exit.normal (Drawn.acts _ [(9, some (xq 8)), (8, some (xq 7)), (7, some (xq 6)), (35, some (xq 5)), (34, some (xq 4)), (33, some (xq 3)), (32, some (xq 2)), (31, some (xq 1)), (30, some (xq 0))]) _
    rw [vq0, vq1, vq2, vq3, vq4, vq5, vq6, vq7, vq8]
    clear hxq vq0 vq1 vq2 vq3 vq4 vq5 vq6 vq7 vq8
    clear xq
    simp only [Drawn.acts]
    go_simp
    have HB1 := Lib.hid (bstep HB0.out hb)
    have HA1 := Lib.hid (HA.out.below hb)
    clear hb HA
    go_at_K
    go_wp2_with fail
    refine Drawn.wp_region_flowL 38 [Drawn.SP.is (.agg #[.int .i64 (n0 : Nat), .int .i64 (t0 : Nat), .int .i64 (l0 : Nat), .int .i64 W, .int .i64 S, .int .i64 R]), Drawn.SP.is (.bool true), Drawn.SP.is (.bool false), Drawn.SP.is (.bool false), Drawn.SP.is (.agg #[.int .i64 (n0 : Nat), .int .i64 (t0 : Nat), .int .i64 (l0 : Nat), .int .i64 W, .int .i64 S, .int .i64 R]), Drawn.SP.is (.bool true), Drawn.SP.is (.bool false), Drawn.SP.is (.bool false), Drawn.SP.is (.bool false), Drawn.SP.is (.slice A1 an c1), Drawn.SP.is (.int .i64 (an : Nat)), Drawn.SP.is (.bool false), Drawn.SP.is (.bool false), Drawn.SP.is (.bool false), Drawn.SP.is (.slice A1 an c1), Drawn.SP.is (.int .i64 (an : Nat)), Drawn.SP.is (.slice A2 an c2), Drawn.SP.is (.int .i64 (an : Nat)), Drawn.SP.is (.bool false), Drawn.SP.is (.bool false), Drawn.SP.is (.bool false), Drawn.SP.is (.slice A3 tn c3), Drawn.SP.is (.int .i64 (tn : Nat)), Drawn.SP.is (.agg #[.int .i64 (n0 : Nat), .int .i64 (t0 : Nat), .int .i64 (l0 : Nat), .int .i64 W, .int .i64 S, .int .i64 R]), Drawn.SP.is (.slice A1 an c1), Drawn.SP.is (.int .i64 (an : Nat)), Drawn.SP.is (.int .i64 co), Drawn.SP.is (.bool false), Drawn.SP.is (.bool false), Drawn.SP.is (.bool false), Drawn.SP.is (.agg #[.int .i64 (n0 : Nat), .int .i64 (t0 : Nat), .int .i64 (l0 : Nat), .int .i64 W, .int .i64 S, .int .i64 R]), Drawn.SP.is (.pointer (some ⟨w.heap.size, 2, none⟩)), Drawn.SP.is (.int .i64 (l0 : Nat)), SP.bN (List.replicate l0 0) l0, Drawn.SP.is (.slice A4 zn c4), Drawn.SP.is (.int .i64 er), Drawn.SP.is (.bool true), Drawn.SP.is (.bool true)] (by kernel_rfl) (by kernel_rfl) ?_ ?_
    · intro i hi a wq hb hev hdep
      rcases (show i = 0 ∨ i = 1 ∨ i = 2 ∨ i = 3 ∨ i = 4 ∨ i = 5 ∨ i = 6 ∨ i = 7 ∨ i = 8 ∨ i = 9 ∨ i = 10 ∨ i = 11 ∨ i = 12 ∨ i = 13 ∨ i = 14 ∨ i = 15 ∨ i = 16 ∨ i = 17 ∨ i = 18 ∨ i = 19 ∨ i = 20 ∨ i = 21 ∨ i = 22 ∨ i = 23 ∨ i = 24 ∨ i = 25 ∨ i = 26 ∨ i = 27 ∨ i = 28 ∨ i = 29 ∨ i = 30 ∨ i = 31 ∨ i = 32 ∨ i = 33 ∨ i = 34 ∨ i = 35 ∨ i = 36 ∨ i = 37 by omega) with rfl | rfl | rfl | rfl | rfl | rfl | rfl | rfl | rfl | rfl | rfl | rfl | rfl | rfl | rfl | rfl | rfl | rfl | rfl | rfl | rfl | rfl | rfl | rfl | rfl | rfl | rfl | rfl | rfl | rfl | rfl | rfl | rfl | rfl | rfl | rfl | rfl | rfl
      · have e3 : a.tmps[3]?.getD undef = .pointer (some ⟨w.heap.size, 0, none⟩) := hev 3 rfl
        refine Drawn.wpOp_flow 36 rfl rfl rfl ?_
        obtain ⟨p0, p1, p2, p3, p4, p5⟩ := six (HA1.out.below hb).plan
        clear hev hdep hb
        go_simp
        exact ⟨_, rfl, rfl, Below.refl _ _⟩
      · have d0 : a.tmps[36]?.getD undef = .agg #[.int .i64 (n0 : Nat), .int .i64 (t0 : Nat), .int .i64 (l0 : Nat), .int .i64 W, .int .i64 S, .int .i64 R] := hdep 0 rfl
        refine Drawn.wpOp_flow 37 rfl rfl rfl ?_
        clear hev hdep
        have C := H0.out wq
        clear hb
        go_simp
        refine C.mono ?_
        rintro e w' ⟨rfl, hb'⟩
        exact ⟨_, rfl, rfl, hb'⟩
      · have d1 : a.tmps[37]?.getD undef = .bool true := hdep 1 rfl
        refine Drawn.wpOp_flow 38 rfl rfl rfl ?_
        clear hev hdep hb
        go_simp
        exact ⟨_, rfl, rfl, Below.refl _ _⟩
      · have d2 : a.tmps[38]?.getD undef = .bool false := hdep 2 rfl
        refine Drawn.wpOp_flow 39 rfl rfl rfl ?_
        clear hev hdep hb
        go_simp
        exact ⟨_, rfl, rfl, Below.refl _ _⟩
      · have e3 : a.tmps[3]?.getD undef = .pointer (some ⟨w.heap.size, 0, none⟩) := hev 3 rfl
        have dg : a.tmps[39]?.getD undef = .bool false := hdep 3 rfl
        refine Drawn.wpOp_flow 40 rfl (Drawn.wanted_of rfl rfl rfl dg) rfl ?_
        obtain ⟨p0, p1, p2, p3, p4, p5⟩ := six (HA1.out.below hb).plan
        clear dg
        clear hev hdep hb
        go_simp
        exact ⟨_, rfl, rfl, Below.refl _ _⟩
      · have d4 : a.tmps[40]?.getD undef = .agg #[.int .i64 (n0 : Nat), .int .i64 (t0 : Nat), .int .i64 (l0 : Nat), .int .i64 W, .int .i64 S, .int .i64 R] := hdep 4 rfl
        have dg : a.tmps[39]?.getD undef = .bool false := hdep 3 rfl
        refine Drawn.wpOp_flow 41 rfl (Drawn.wanted_of rfl rfl rfl dg) rfl ?_
        clear hev hdep
        clear dg
        have C := HR.out wq
        clear hb
        go_simp
        refine C.mono ?_
        rintro e w' ⟨rfl, hb'⟩
        exact ⟨_, rfl, rfl, hb'⟩
      · have d5 : a.tmps[41]?.getD undef = .bool true := hdep 5 rfl
        have dg : a.tmps[39]?.getD undef = .bool false := hdep 3 rfl
        refine Drawn.wpOp_flow 42 rfl (Drawn.wanted_of rfl rfl rfl dg) rfl ?_
        clear dg
        clear hev hdep hb
        go_simp
        exact ⟨_, rfl, rfl, Below.refl _ _⟩
      · have d3 : a.tmps[39]?.getD undef = .bool false := hdep 3 rfl
        have d6 : a.tmps[42]?.getD undef = .bool false := hdep 6 rfl
        refine Drawn.wpOp_flow 43 rfl rfl rfl ?_
        clear hev hdep hb
        go_simp
        exact ⟨_, rfl, rfl, Below.refl _ _⟩
      · have d7 : a.tmps[43]?.getD undef = .bool false := hdep 7 rfl
        refine Drawn.wpOp_flow 44 rfl rfl rfl ?_
        clear hev hdep hb
        go_simp
        exact ⟨_, rfl, rfl, Below.refl _ _⟩
      · have e7 : a.tmps[7]?.getD undef = .slice A1 an c1 := hev 7 rfl
        have dg : a.tmps[44]?.getD undef = .bool false := hdep 8 rfl
        refine Drawn.wpOp_flow 45 rfl (Drawn.wanted_of rfl rfl rfl dg) rfl ?_
        clear dg
        clear hev hdep hb
        go_simp
        exact ⟨_, rfl, rfl, Below.refl _ _⟩
      · have d9 : a.tmps[45]?.getD undef = .slice A1 an c1 := hdep 9 rfl
        have dg : a.tmps[44]?.getD undef = .bool false := hdep 8 rfl
        refine Drawn.wpOp_flow 46 rfl (Drawn.wanted_of rfl rfl rfl dg) rfl ?_
        clear dg
        clear hev hdep hb
        go_simp
        exact ⟨_, rfl, rfl, Below.refl _ _⟩
      · have d10 : a.tmps[46]?.getD undef = .int .i64 (an : Nat) := hdep 10 rfl
        have dg : a.tmps[44]?.getD undef = .bool false := hdep 8 rfl
        refine Drawn.wpOp_flow 47 rfl (Drawn.wanted_of rfl rfl rfl dg) rfl ?_
        clear hev hdep
        clear dg hb
        go_simp
        exact ⟨_, rfl, (by first | rfl | (show Value.bool _ = Value.bool _; congr 1; first | (simp; done) | (simp; omega))), Below.refl _ _⟩
      · have d8 : a.tmps[44]?.getD undef = .bool false := hdep 8 rfl
        have d11 : a.tmps[47]?.getD undef = .bool false := hdep 11 rfl
        refine Drawn.wpOp_flow 48 rfl rfl rfl ?_
        clear hev hdep hb
        go_simp
        exact ⟨_, rfl, rfl, Below.refl _ _⟩
      · have d12 : a.tmps[48]?.getD undef = .bool false := hdep 12 rfl
        refine Drawn.wpOp_flow 49 rfl rfl rfl ?_
        clear hev hdep hb
        go_simp
        exact ⟨_, rfl, rfl, Below.refl _ _⟩
      · have e7 : a.tmps[7]?.getD undef = .slice A1 an c1 := hev 7 rfl
        have dg : a.tmps[49]?.getD undef = .bool false := hdep 13 rfl
        refine Drawn.wpOp_flow 50 rfl (Drawn.wanted_of rfl rfl rfl dg) rfl ?_
        clear dg
        clear hev hdep hb
        go_simp
        exact ⟨_, rfl, rfl, Below.refl _ _⟩
      · have d14 : a.tmps[50]?.getD undef = .slice A1 an c1 := hdep 14 rfl
        have dg : a.tmps[49]?.getD undef = .bool false := hdep 13 rfl
        refine Drawn.wpOp_flow 51 rfl (Drawn.wanted_of rfl rfl rfl dg) rfl ?_
        clear dg
        clear hev hdep hb
        go_simp
        exact ⟨_, rfl, rfl, Below.refl _ _⟩
      · have e8 : a.tmps[8]?.getD undef = .slice A2 an c2 := hev 8 rfl
        have dg : a.tmps[49]?.getD undef = .bool false := hdep 13 rfl
        refine Drawn.wpOp_flow 52 rfl (Drawn.wanted_of rfl rfl rfl dg) rfl ?_
        clear dg
        clear hev hdep hb
        go_simp
        exact ⟨_, rfl, rfl, Below.refl _ _⟩
      · have d16 : a.tmps[52]?.getD undef = .slice A2 an c2 := hdep 16 rfl
        have dg : a.tmps[49]?.getD undef = .bool false := hdep 13 rfl
        refine Drawn.wpOp_flow 53 rfl (Drawn.wanted_of rfl rfl rfl dg) rfl ?_
        clear dg
        clear hev hdep hb
        go_simp
        exact ⟨_, rfl, rfl, Below.refl _ _⟩
      · have d15 : a.tmps[51]?.getD undef = .int .i64 (an : Nat) := hdep 15 rfl
        have d17 : a.tmps[53]?.getD undef = .int .i64 (an : Nat) := hdep 17 rfl
        have dg : a.tmps[49]?.getD undef = .bool false := hdep 13 rfl
        refine Drawn.wpOp_flow 54 rfl (Drawn.wanted_of rfl rfl rfl dg) rfl ?_
        clear hev hdep
        clear dg hb
        go_simp
        exact ⟨_, rfl, (by first | rfl | (show Value.bool _ = Value.bool _; congr 1; first | (simp; done) | (simp; omega))), Below.refl _ _⟩
      · have d13 : a.tmps[49]?.getD undef = .bool false := hdep 13 rfl
        have d18 : a.tmps[54]?.getD undef = .bool false := hdep 18 rfl
        refine Drawn.wpOp_flow 55 rfl rfl rfl ?_
        clear hev hdep hb
        go_simp
        exact ⟨_, rfl, rfl, Below.refl _ _⟩
      · have d19 : a.tmps[55]?.getD undef = .bool false := hdep 19 rfl
        refine Drawn.wpOp_flow 56 rfl rfl rfl ?_
        clear hev hdep hb
        go_simp
        exact ⟨_, rfl, rfl, Below.refl _ _⟩
      · have e9 : a.tmps[9]?.getD undef = .slice A3 tn c3 := hev 9 rfl
        have dg : a.tmps[56]?.getD undef = .bool false := hdep 20 rfl
        refine Drawn.wpOp_flow 57 rfl (Drawn.wanted_of rfl rfl rfl dg) rfl ?_
        clear dg
        clear hev hdep hb
        go_simp
        exact ⟨_, rfl, rfl, Below.refl _ _⟩
      · have d21 : a.tmps[57]?.getD undef = .slice A3 tn c3 := hdep 21 rfl
        have dg : a.tmps[56]?.getD undef = .bool false := hdep 20 rfl
        refine Drawn.wpOp_flow 58 rfl (Drawn.wanted_of rfl rfl rfl dg) rfl ?_
        clear dg
        clear hev hdep hb
        go_simp
        exact ⟨_, rfl, rfl, Below.refl _ _⟩
      · have e3 : a.tmps[3]?.getD undef = .pointer (some ⟨w.heap.size, 0, none⟩) := hev 3 rfl
        have dg : a.tmps[56]?.getD undef = .bool false := hdep 20 rfl
        refine Drawn.wpOp_flow 59 rfl (Drawn.wanted_of rfl rfl rfl dg) rfl ?_
        obtain ⟨p0, p1, p2, p3, p4, p5⟩ := six (HA1.out.below hb).plan
        clear dg
        clear hev hdep hb
        go_simp
        exact ⟨_, rfl, rfl, Below.refl _ _⟩
      · have e7 : a.tmps[7]?.getD undef = .slice A1 an c1 := hev 7 rfl
        have dg : a.tmps[56]?.getD undef = .bool false := hdep 20 rfl
        refine Drawn.wpOp_flow 60 rfl (Drawn.wanted_of rfl rfl rfl dg) rfl ?_
        clear dg
        clear hev hdep hb
        go_simp
        exact ⟨_, rfl, rfl, Below.refl _ _⟩
      · have d24 : a.tmps[60]?.getD undef = .slice A1 an c1 := hdep 24 rfl
        have dg : a.tmps[56]?.getD undef = .bool false := hdep 20 rfl
        refine Drawn.wpOp_flow 61 rfl (Drawn.wanted_of rfl rfl rfl dg) rfl ?_
        clear dg
        clear hev hdep hb
        go_simp
        exact ⟨_, rfl, rfl, Below.refl _ _⟩
      · have d23 : a.tmps[59]?.getD undef = .agg #[.int .i64 (n0 : Nat), .int .i64 (t0 : Nat), .int .i64 (l0 : Nat), .int .i64 W, .int .i64 S, .int .i64 R] := hdep 23 rfl
        have d25 : a.tmps[61]?.getD undef = .int .i64 (an : Nat) := hdep 25 rfl
        have dg : a.tmps[56]?.getD undef = .bool false := hdep 20 rfl
        refine Drawn.wpOp_flow 62 rfl (Drawn.wanted_of rfl rfl rfl dg) rfl ?_
        clear hev hdep
        clear dg
        have C := HCO.out wq
        clear hb
        go_simp
        refine C.mono ?_
        rintro e w' ⟨rfl, hb'⟩
        exact ⟨_, rfl, rfl, hb'⟩
      · have d22 : a.tmps[58]?.getD undef = .int .i64 (tn : Nat) := hdep 22 rfl
        have d26 : a.tmps[62]?.getD undef = .int .i64 co := hdep 26 rfl
        have dg : a.tmps[56]?.getD undef = .bool false := hdep 20 rfl
        refine Drawn.wpOp_flow 63 rfl (Drawn.wanted_of rfl rfl rfl dg) rfl ?_
        clear hev hdep
        clear dg hb
        go_simp
        exact ⟨_, rfl, (by first | rfl | (show Value.bool _ = Value.bool _; congr 1; first | (simp; done) | (simp; omega))), Below.refl _ _⟩
      · have d20 : a.tmps[56]?.getD undef = .bool false := hdep 20 rfl
        have d27 : a.tmps[63]?.getD undef = .bool false := hdep 27 rfl
        refine Drawn.wpOp_flow 64 rfl rfl rfl ?_
        clear hev hdep hb
        go_simp
        exact ⟨_, rfl, rfl, Below.refl _ _⟩
      · have d28 : a.tmps[64]?.getD undef = .bool false := hdep 28 rfl
        refine Drawn.wpOp_flow 65 rfl rfl rfl ?_
        clear hev hdep hb
        go_simp
        exact ⟨_, rfl, rfl, Below.refl _ _⟩
      · have e3 : a.tmps[3]?.getD undef = .pointer (some ⟨w.heap.size, 0, none⟩) := hev 3 rfl
        have dg : a.tmps[65]?.getD undef = .bool false := hdep 29 rfl
        refine Drawn.wpOp_flow 66 rfl (Drawn.wanted_of rfl rfl rfl dg) rfl ?_
        obtain ⟨p0, p1, p2, p3, p4, p5⟩ := six (HA1.out.below hb).plan
        clear dg
        clear hev hdep hb
        go_simp
        exact ⟨_, rfl, rfl, Below.refl _ _⟩
      · have e3 : a.tmps[3]?.getD undef = .pointer (some ⟨w.heap.size, 0, none⟩) := hev 3 rfl
        have dg : a.tmps[65]?.getD undef = .bool false := hdep 29 rfl
        refine Drawn.wpOp_flow 67 rfl (Drawn.wanted_of rfl rfl rfl dg) rfl ?_
        clear dg
        clear hev hdep hb
        go_simp
        exact ⟨_, rfl, rfl, Below.refl _ _⟩
      · have d31 : a.tmps[67]?.getD undef = .pointer (some ⟨w.heap.size, 2, none⟩) := hdep 31 rfl
        have dg : a.tmps[65]?.getD undef = .bool false := hdep 29 rfl
        refine Drawn.wpOp_flow 68 rfl (Drawn.wanted_of rfl rfl rfl dg) rfl ?_
        obtain ⟨p0, p1, p2, p3, p4, p5⟩ := six (HA1.out.below hb).plan
        clear dg
        clear hev hdep hb
        go_simp
        exact ⟨_, rfl, rfl, Below.refl _ _⟩
      · have d32 : a.tmps[68]?.getD undef = .int .i64 (l0 : Nat) := hdep 32 rfl
        have dg : a.tmps[65]?.getD undef = .bool false := hdep 29 rfl
        refine Drawn.wpOp_flow 69 rfl (Drawn.wanted_of rfl rfl rfl dg) rfl ?_
        clear hev hdep
        clear dg hb
        have hmk := make_u8 l0 HL0.out wq
        go_simp
        exact ⟨_, rfl, ⟨_, _, rfl, (Row.new wq (List.replicate l0 0)).bytes⟩, balloc _ _⟩
      · have e2 : a.tmps[2]?.getD undef = .slice A4 zn c4 := hev 2 rfl
        have dg : a.tmps[65]?.getD undef = .bool false := hdep 29 rfl
        refine Drawn.wpOp_flow 70 rfl (Drawn.wanted_of rfl rfl rfl dg) rfl ?_
        clear dg
        clear hev hdep hb
        go_simp
        exact ⟨_, rfl, rfl, Below.refl _ _⟩
      · have d30 : a.tmps[66]?.getD undef = .agg #[.int .i64 (n0 : Nat), .int .i64 (t0 : Nat), .int .i64 (l0 : Nat), .int .i64 W, .int .i64 S, .int .i64 R] := hdep 30 rfl
        obtain ⟨Xm, dm, d33, xm⟩ : (SP.bN (List.replicate l0 0) l0).p (a.tmps[69]?.getD undef) wq := hdep 33 rfl
        have d34 : a.tmps[70]?.getD undef = .slice A4 zn c4 := hdep 34 rfl
        have dg : a.tmps[65]?.getD undef = .bool false := hdep 29 rfl
        refine Drawn.wpOp_flow 71 rfl (Drawn.wanted_of rfl rfl rfl dg) rfl ?_
        clear hev hdep
        have C := HCK.out Xm dm wq (ZS.out.below (bstep HB1.out hb))
        clear dg hb xm
        go_simp
        refine C.mono ?_
        rintro e w' ⟨rfl, hb'⟩
        exact ⟨_, rfl, rfl, hb'⟩
      · have d35 : a.tmps[71]?.getD undef = .int .i64 er := hdep 35 rfl
        have dg : a.tmps[65]?.getD undef = .bool false := hdep 29 rfl
        refine Drawn.wpOp_flow 72 rfl (Drawn.wanted_of rfl rfl rfl dg) rfl ?_
        clear dg
        clear hev hdep hb
        go_simp
        exact ⟨_, rfl, rfl, Below.refl _ _⟩
      · have d29 : a.tmps[65]?.getD undef = .bool false := hdep 29 rfl
        have d36 : a.tmps[72]?.getD undef = .bool true := hdep 36 rfl
        refine Drawn.wpOp_flow 73 rfl rfl rfl ?_
        clear hev hdep hb
        go_simp
        exact ⟨_, rfl, rfl, Below.refl _ _⟩
    · intro xq wq hb hxq
      have vq0 : xq 0 = .agg #[.int .i64 (n0 : Nat), .int .i64 (t0 : Nat), .int .i64 (l0 : Nat), .int .i64 W, .int .i64 S, .int .i64 R] := hxq 0 (by omega)
      have vq1 : xq 1 = .bool true := hxq 1 (by omega)
      have vq2 : xq 2 = .bool false := hxq 2 (by omega)
      have vq3 : xq 3 = .bool false := hxq 3 (by omega)
      have vq4 : xq 4 = .agg #[.int .i64 (n0 : Nat), .int .i64 (t0 : Nat), .int .i64 (l0 : Nat), .int .i64 W, .int .i64 S, .int .i64 R] := hxq 4 (by omega)
      have vq5 : xq 5 = .bool true := hxq 5 (by omega)
      have vq6 : xq 6 = .bool false := hxq 6 (by omega)
      have vq7 : xq 7 = .bool false := hxq 7 (by omega)
      have vq8 : xq 8 = .bool false := hxq 8 (by omega)
      have vq9 : xq 9 = .slice A1 an c1 := hxq 9 (by omega)
      have vq10 : xq 10 = .int .i64 (an : Nat) := hxq 10 (by omega)
      have vq11 : xq 11 = .bool false := hxq 11 (by omega)
      have vq12 : xq 12 = .bool false := hxq 12 (by omega)
      have vq13 : xq 13 = .bool false := hxq 13 (by omega)
      have vq14 : xq 14 = .slice A1 an c1 := hxq 14 (by omega)
      have vq15 : xq 15 = .int .i64 (an : Nat) := hxq 15 (by omega)
      have vq16 : xq 16 = .slice A2 an c2 := hxq 16 (by omega)
      have vq17 : xq 17 = .int .i64 (an : Nat) := hxq 17 (by omega)
      have vq18 : xq 18 = .bool false := hxq 18 (by omega)
      have vq19 : xq 19 = .bool false := hxq 19 (by omega)
      have vq20 : xq 20 = .bool false := hxq 20 (by omega)
      have vq21 : xq 21 = .slice A3 tn c3 := hxq 21 (by omega)
      have vq22 : xq 22 = .int .i64 (tn : Nat) := hxq 22 (by omega)
      have vq23 : xq 23 = .agg #[.int .i64 (n0 : Nat), .int .i64 (t0 : Nat), .int .i64 (l0 : Nat), .int .i64 W, .int .i64 S, .int .i64 R] := hxq 23 (by omega)
      have vq24 : xq 24 = .slice A1 an c1 := hxq 24 (by omega)
      have vq25 : xq 25 = .int .i64 (an : Nat) := hxq 25 (by omega)
      have vq26 : xq 26 = .int .i64 co := hxq 26 (by omega)
      have vq27 : xq 27 = .bool false := hxq 27 (by omega)
      have vq28 : xq 28 = .bool false := hxq 28 (by omega)
      have vq29 : xq 29 = .bool false := hxq 29 (by omega)
      have vq30 : xq 30 = .agg #[.int .i64 (n0 : Nat), .int .i64 (t0 : Nat), .int .i64 (l0 : Nat), .int .i64 W, .int .i64 S, .int .i64 R] := hxq 30 (by omega)
      have vq31 : xq 31 = .pointer (some ⟨w.heap.size, 2, none⟩) := hxq 31 (by omega)
      have vq32 : xq 32 = .int .i64 (l0 : Nat) := hxq 32 (by omega)
      have vq34 : xq 34 = .slice A4 zn c4 := hxq 34 (by omega)
      have vq35 : xq 35 = .int .i64 er := hxq 35 (by omega)
      have vq36 : xq 36 = .bool true := hxq 36 (by omega)
      have vq37 : xq 37 = .bool true := hxq 37 (by omega)
      show Exit.then _ _ Exit.normal (Drawn.acts _ [(73, some (xq 37)), (72, some (xq 36)), (71, some (xq 35)), (70, some (xq 34)), (69, some (xq 33)), (68, some (xq 32)), (67, some (xq 31)), (66, some (xq 30)), (65, some (xq 29)), (64, some (xq 28)), (63, some (xq 27)), (62, some (xq 26)), (61, some (xq 25)), (60, some (xq 24)), (59, some (xq 23)), (58, some (xq 22)), (57, some (xq 21)), (56, some (xq 20)), (55, some (xq 19)), (54, some (xq 18)), (53, some (xq 17)), (52, some (xq 16)), (51, some (xq 15)), (50, some (xq 14)), (49, some (xq 13)), (48, some (xq 12)), (47, some (xq 11)), (46, some (xq 10)), (45, some (xq 9)), (44, some (xq 8)), (43, some (xq 7)), (42, some (xq 6)), (41, some (xq 5)), (40, some (xq 4)), (39, some (xq 3)), (38, some (xq 2)), (37, some (xq 1)), (36, some (xq 0))]) _
      rw [vq0, vq1, vq2, vq3, vq4, vq5, vq6, vq7, vq8, vq9, vq10, vq11, vq12, vq13, vq14, vq15, vq16, vq17, vq18, vq19, vq20, vq21, vq22, vq23, vq24, vq25, vq26, vq27, vq28, vq29, vq30, vq31, vq32, vq34, vq35, vq36, vq37]
      clear hxq vq0 vq1 vq2 vq3 vq4 vq5 vq6 vq7 vq8 vq9 vq10 vq11 vq12 vq13 vq14 vq15 vq16 vq17 vq18 vq19 vq20 vq21 vq22 vq23 vq24 vq25 vq26 vq27 vq28 vq29 vq30 vq31 vq32 vq34 vq35 vq36 vq37
      generalize xq 33 = yq33
      clear xq
      simp only [Drawn.acts]
      go_simp
      have HB2 := Lib.hid (bstep HB1.out hb)
      have HA2 := Lib.hid (HA1.out.below hb).plan
      clear hb HA1
      go_at_K
      go_wp2_with fail
      refine (alive_any _).mono ?_
      rintro e w9 ⟨rfl, hb9⟩
      go_wp2
      go_ret
      exact ⟨rfl, bstep HB2.out hb9⟩
end Go.Proofs.Ytompeiemioeohaa.Law14
