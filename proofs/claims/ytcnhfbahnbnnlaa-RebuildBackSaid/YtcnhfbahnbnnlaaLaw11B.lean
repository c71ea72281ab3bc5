/- the walk of RebuildBack -/
import Derived.Test.YtcnhfbahnbnnlaaLaw11A
import Derived.Test.YtcnhfbahnbnnlaaLaw10B
import Derived.Test.YtcnhfbahnbnnlaaMB
set_option maxRecDepth 100000
namespace Go.Proofs.Ytcnhfbahnbnnlaa.Law11
open Go.RowKit PlanM StripeM LagrM DealM RebM Law08 R11

structure LiesB (w : World) (g : Nat) (N T L W S R : Int) (p0 p1 : Value) : Prop where
  plan : PlanLies w g N T L W S R
  a0 : w.cell? ⟨g + 1, 0, none⟩ = some p0
  a1 : w.cell? ⟨g + 1, 1, none⟩ = some p1
theorem LiesB.below {w w' : World} {g : Nat} {N T L W S R : Int} {p0 p1 : Value} (h : LiesB w g N T L W S R p0 p1) (hb : Below w.heap.size w w') : LiesB w' g N T L W S R p0 p1 :=
  ⟨h.plan.below hb, (hb.cell (p := ⟨g + 1, 0, none⟩) (cell_lt h.a0)).trans h.a0, (hb.cell (p := ⟨g + 1, 1, none⟩) (cell_lt h.a1)).trans h.a1⟩
theorem liesB_aux (w : World) (g : Nat) (hg : w.heap.size = g + 1) (N T L W S R : Int) (p0 p1 : Value) (t : TypeId) (h : PlanLies w g N T L W S R) : LiesB (w.alloc (.cells #[p0, p1] t)) g N T L W S R p0 p1 := by
  have a0 : (w.alloc (.cells #[p0, p1] t)).cell? ⟨w.heap.size, 0, none⟩ = some p0 := by simp
  have a1 : (w.alloc (.cells #[p0, p1] t)).cell? ⟨w.heap.size, 1, none⟩ = some p1 := by simp
  rw [hg] at a0 a1
  exact ⟨h.below (balloc _ _), a0, a1⟩
theorem LiesB.new (w : World) (N T L W S R : Int) (p0 p1 : Value) (t : TypeId) : LiesB ((w.alloc (.cells #[.int .i64 N, .int .i64 T, .int .i64 L, .int .i64 W, .int .i64 S, .int .i64 R] 23)).alloc (.cells #[p0, p1] t)) w.heap.size N T L W S R p0 p1 :=
  liesB_aux (w.alloc (.cells #[.int .i64 N, .int .i64 T, .int .i64 L, .int .i64 W, .int .i64 S, .int .i64 R] 23)) w.heap.size (by simp) N T L W S R p0 p1 t (PlanLies.new w N T L W S R)

set_option maxHeartbeats 2000000 in
theorem back_heavy (N T L W S R : Int) (A1 A2 A3 : Option Addr) (b tp : List UInt8) (who : List Int) (u1 u2 u3 : Nat) (w : World) (hp : (⟨N, T, L, W, S, R⟩ : P).In) (hl : ¬ (N ≤ 12 ∧ L ≤ 12 ∧ T ≤ 12)) :
    Calls Try.prog 4 #[.agg #[.int .i64 N, .int .i64 T, .int .i64 L, .int .i64 W, .int .i64 S, .int .i64 R], .agg #[.slice A1 b.length u1, .slice A2 tp.length u2], .slice A3 who.length u3] w fun e w' => e = .returned (.bool true) ∧ Below w.heap.size w w' := by
  have K0 := fun w => Law10.light_any N T L W S R w
  rw [decide_eq_false hl] at K0
  have H0 := Lib.hid K0
  clear K0 hl
  have HA := Lib.hid (LiesB.new w N T L W S R (.slice A1 b.length u1) (.slice A2 tp.length u2) 42)
  have HB0 := Lib.hid (show Below w.heap.size w ((w.alloc (.cells #[.int .i64 N, .int .i64 T, .int .i64 L, .int .i64 W, .int .i64 S, .int .i64 R] 23)).alloc (.cells #[.slice A1 b.length u1, .slice A2 tp.length u2] 42)) from bstep (balloc _ _) (balloc _ _))
  go_enter Try.func4, Try.ntmps4
  go_wp2_with fail
  generalize (w.alloc (.cells #[.int .i64 N, .int .i64 T, .int .i64 L, .int .i64 W, .int .i64 S, .int .i64 R] 23)).alloc (.cells #[.slice A1 b.length u1, .slice A2 tp.length u2] 42) = w0 at *
  refine Drawn.wp_region_flowL 6 [Drawn.SP.is (.pointer (some ⟨w.heap.size + 1, 0, none⟩)), Drawn.SP.is (.slice A1 b.length u1), Drawn.SP.is (.pointer (some ⟨w.heap.size + 1, 1, none⟩)), Drawn.SP.is (.slice A2 tp.length u2), Drawn.SP.is (.slice A1 b.length u1), Drawn.SP.is (.slice A2 tp.length u2)] (by kernel_rfl) (by kernel_rfl) ?_ ?_
  · intro i hi a w1 hb hev hdep
    rcases (show i = 0 ∨ i = 1 ∨ i = 2 ∨ i = 3 ∨ i = 4 ∨ i = 5 by omega) with rfl | rfl | rfl | rfl | rfl | rfl
    · have e4 : a.tmps[4]?.getD undef = .pointer (some ⟨w.heap.size + 1, 0, none⟩) := hev 4 rfl
      refine Drawn.wpOp_flow 17 rfl rfl rfl ?_
      clear hev hdep hb
      go_simp
      exact ⟨_, rfl, rfl, Below.refl _ _⟩
    · have d0 : a.tmps[17]?.getD undef = .pointer (some ⟨w.heap.size + 1, 0, none⟩) := hdep 0 rfl
      refine Drawn.wpOp_flow 18 rfl rfl rfl ?_
      have a0 := (HA.out.below hb).a0
      have a1 := (HA.out.below hb).a1
      clear hev hdep hb
      go_simp
      exact ⟨_, rfl, rfl, Below.refl _ _⟩
    · have e4 : a.tmps[4]?.getD undef = .pointer (some ⟨w.heap.size + 1, 0, none⟩) := hev 4 rfl
      refine Drawn.wpOp_flow 19 rfl rfl rfl ?_
      clear hev hdep hb
      go_simp
      exact ⟨_, rfl, rfl, Below.refl _ _⟩
    · have d2 : a.tmps[19]?.getD undef = .pointer (some ⟨w.heap.size + 1, 1, none⟩) := hdep 2 rfl
      refine Drawn.wpOp_flow 20 rfl rfl rfl ?_
      have a0 := (HA.out.below hb).a0
      have a1 := (HA.out.below hb).a1
      clear hev hdep hb
      go_simp
      exact ⟨_, rfl, rfl, Below.refl _ _⟩
    · have d1 : a.tmps[18]?.getD undef = .slice A1 b.length u1 := hdep 1 rfl
      refine Drawn.wpOp_flow 7 rfl rfl rfl ?_
      clear hev hdep hb
      go_simp
      exact ⟨_, rfl, rfl, Below.refl _ _⟩
    · have d3 : a.tmps[20]?.getD undef = .slice A2 tp.length u2 := hdep 3 rfl
      refine Drawn.wpOp_flow 8 rfl rfl rfl ?_
      clear hev hdep hb
      go_simp
      exact ⟨_, rfl, rfl, Below.refl _ _⟩
  · intro xq w1 hb hxq
    have vq0 : xq 0 = .pointer (some ⟨w.heap.size + 1, 0, none⟩) := hxq 0 (by omega)
    have vq1 : xq 1 = .slice A1 b.length u1 := hxq 1 (by omega)
    have vq2 : xq 2 = .pointer (some ⟨w.heap.size + 1, 1, none⟩) := hxq 2 (by omega)
    have vq3 : xq 3 = .slice A2 tp.length u2 := hxq 3 (by omega)
    have vq4 : xq 4 = .slice A1 b.length u1 := hxq 4 (by omega)
    have vq5 : xq 5 = .slice A2 tp.length u2 := hxq 5 (by omega)
    show Exit.then _ _ Exit.normal (Drawn.acts _ [(8, some (xq 5)), (7, some (xq 4)), (20, some (xq 3)), (19, some (xq 2)), (18, some (xq 1)), (17, some (xq 0))]) _
    rw [vq0, vq1, vq2, vq3, vq4, vq5]
    clear hxq vq0 vq1 vq2 vq3 vq4 vq5
    clear xq
    simp only [Drawn.acts]
    go_simp
    have hb1 := hb
    clear hb
    obtain ⟨c0, c1, c2, c3, c4, c5⟩ := six (HA.out.below hb1).plan
    go_at_K
    go_wp2_with fail
    refine (H0.out _).mono ?_
    rintro e w2 ⟨rfl, hb2'⟩
    have hb2 := bstep hb1 hb2'
    clear c0 c1 c2 c3 c4 c5
    clear hb1 hb2'
    obtain ⟨c0, c1, c2, c3, c4, c5⟩ := six (HA.out.below hb2).plan
    go_wp2_with fail
    refine (alive_any _).mono ?_
    rintro e wz ⟨rfl, hbz⟩
    clear c0 c1 c2 c3 c4 c5
    go_wp2
    go_ret
    exact ⟨rfl, bstep HB0.out (bstep hb2 hbz)⟩

set_option maxHeartbeats 2000000 in
theorem back_arg (N T L W S R : Int) (A1 A2 A3 : Option Addr) (b tp : List UInt8) (who : List Int) (u1 u2 u3 : Nat) (w : World) (hp : (⟨N, T, L, W, S, R⟩ : P).In) (hl : N ≤ 12 ∧ L ≤ 12 ∧ T ≤ 12) (hr : (⟨N, T, L, W, S, R⟩ : P).right = false) :
    Calls Try.prog 4 #[.agg #[.int .i64 N, .int .i64 T, .int .i64 L, .int .i64 W, .int .i64 S, .int .i64 R], .agg #[.slice A1 b.length u1, .slice A2 tp.length u2], .slice A3 who.length u3] w fun e w' => e = .returned (.bool true) ∧ Below w.heap.size w w' := by
  have K0 := fun w => Law10.light_any N T L W S R w
  rw [decide_eq_true hl] at K0
  have H0 := Lib.hid K0
  clear K0 hl
  obtain ⟨q, hq⟩ : ∃ q : P, q = ⟨N, T, L, W, S, R⟩ := ⟨_, rfl⟩
  have hpq := hp
  rw [← hq] at hpq
  have hv : q.val = .agg #[.int .i64 N, .int .i64 T, .int .i64 L, .int .i64 W, .int .i64 S, .int .i64 R] := by rw [hq]; rfl
  have K3 := fun w => R08.right_any q w hpq
  rw [hq, hr, ← hq, hv] at K3
  have H3 := Lib.hid K3
  clear K3
  clear hq hr hp hpq hv
  have HA := Lib.hid (LiesB.new w N T L W S R (.slice A1 b.length u1) (.slice A2 tp.length u2) 42)
  have HB0 := Lib.hid (show Below w.heap.size w ((w.alloc (.cells #[.int .i64 N, .int .i64 T, .int .i64 L, .int .i64 W, .int .i64 S, .int .i64 R] 23)).alloc (.cells #[.slice A1 b.length u1, .slice A2 tp.length u2] 42)) from bstep (balloc _ _) (balloc _ _))
  go_enter Try.func4, Try.ntmps4
  go_wp2_with fail
  generalize (w.alloc (.cells #[.int .i64 N, .int .i64 T, .int .i64 L, .int .i64 W, .int .i64 S, .int .i64 R] 23)).alloc (.cells #[.slice A1 b.length u1, .slice A2 tp.length u2] 42) = w0 at *
  refine Drawn.wp_region_flowL 6 [Drawn.SP.is (.pointer (some ⟨w.heap.size + 1, 0, none⟩)), Drawn.SP.is (.slice A1 b.length u1), Drawn.SP.is (.pointer (some ⟨w.heap.size + 1, 1, none⟩)), Drawn.SP.is (.slice A2 tp.length u2), Drawn.SP.is (.slice A1 b.length u1), Drawn.SP.is (.slice A2 tp.length u2)] (by kernel_rfl) (by kernel_rfl) ?_ ?_
  · intro i hi a w1 hb hev hdep
    rcases (show i = 0 ∨ i = 1 ∨ i = 2 ∨ i = 3 ∨ i = 4 ∨ i = 5 by omega) with rfl | rfl | rfl | rfl | rfl | rfl
    · have e4 : a.tmps[4]?.getD undef = .pointer (some ⟨w.heap.size + 1, 0, none⟩) := hev 4 rfl
      refine Drawn.wpOp_flow 17 rfl rfl rfl ?_
      clear hev hdep hb
      go_simp
      exact ⟨_, rfl, rfl, Below.refl _ _⟩
    · have d0 : a.tmps[17]?.getD undef = .pointer (some ⟨w.heap.size + 1, 0, none⟩) := hdep 0 rfl
      refine Drawn.wpOp_flow 18 rfl rfl rfl ?_
      have a0 := (HA.out.below hb).a0
      have a1 := (HA.out.below hb).a1
      clear hev hdep hb
      go_simp
      exact ⟨_, rfl, rfl, Below.refl _ _⟩
    · have e4 : a.tmps[4]?.getD undef = .pointer (some ⟨w.heap.size + 1, 0, none⟩) := hev 4 rfl
      refine Drawn.wpOp_flow 19 rfl rfl rfl ?_
      clear hev hdep hb
      go_simp
      exact ⟨_, rfl, rfl, Below.refl _ _⟩
    · have d2 : a.tmps[19]?.getD undef = .pointer (some ⟨w.heap.size + 1, 1, none⟩) := hdep 2 rfl
      refine Drawn.wpOp_flow 20 rfl rfl rfl ?_
      have a0 := (HA.out.below hb).a0
      have a1 := (HA.out.below hb).a1
      clear hev hdep hb
      go_simp
      exact ⟨_, rfl, rfl, Below.refl _ _⟩
    · have d1 : a.tmps[18]?.getD undef = .slice A1 b.length u1 := hdep 1 rfl
      refine Drawn.wpOp_flow 7 rfl rfl rfl ?_
      clear hev hdep hb
      go_simp
      exact ⟨_, rfl, rfl, Below.refl _ _⟩
    · have d3 : a.tmps[20]?.getD undef = .slice A2 tp.length u2 := hdep 3 rfl
      refine Drawn.wpOp_flow 8 rfl rfl rfl ?_
      clear hev hdep hb
      go_simp
      exact ⟨_, rfl, rfl, Below.refl _ _⟩
  · intro xq w1 hb hxq
    have vq0 : xq 0 = .pointer (some ⟨w.heap.size + 1, 0, none⟩) := hxq 0 (by omega)
    have vq1 : xq 1 = .slice A1 b.length u1 := hxq 1 (by omega)
    have vq2 : xq 2 = .pointer (some ⟨w.heap.size + 1, 1, none⟩) := hxq 2 (by omega)
    have vq3 : xq 3 = .slice A2 tp.length u2 := hxq 3 (by omega)
    have vq4 : xq 4 = .slice A1 b.length u1 := hxq 4 (by omega)
    have vq5 : xq 5 = .slice A2 tp.length u2 := hxq 5 (by omega)
    show Exit.then _ _ Exit.normal (Drawn.acts _ [(8, some (xq 5)), (7, some (xq 4)), (20, some (xq 3)), (19, some (xq 2)), (18, some (xq 1)), (17, some (xq 0))]) _
    rw [vq0, vq1, vq2, vq3, vq4, vq5]
    clear hxq vq0 vq1 vq2 vq3 vq4 vq5
    clear xq
    simp only [Drawn.acts]
    go_simp
    have hb1 := hb
    clear hb
    obtain ⟨c0, c1, c2, c3, c4, c5⟩ := six (HA.out.below hb1).plan
    go_at_K
    go_wp2_with fail
    refine (H0.out _).mono ?_
    rintro e w2 ⟨rfl, hb2'⟩
    have hb2 := bstep hb1 hb2'
    clear c0 c1 c2 c3 c4 c5
    clear hb1 hb2'
    obtain ⟨c0, c1, c2, c3, c4, c5⟩ := six (HA.out.below hb2).plan
    go_wp2_with fail
    refine (H3.out _).mono ?_
    rintro e w3 ⟨rfl, hbx⟩
    have hb3 := bstep hb2 hbx
    clear c0 c1 c2 c3 c4 c5
    clear hb2 hbx
    obtain ⟨c0, c1, c2, c3, c4, c5⟩ := six (HA.out.below hb3).plan
    go_wp2_with fail
    refine (alive_any _).mono ?_
    rintro e wz ⟨rfl, hbz⟩
    clear c0 c1 c2 c3 c4 c5
    go_wp2
    go_ret
    exact ⟨rfl, bstep HB0.out (bstep hb3 hbz)⟩

set_option maxHeartbeats 2000000 in
theorem back_long (N T L W S R : Int) (A1 A2 A3 : Option Addr) (b tp : List UInt8) (who : List Int) (u1 u2 u3 : Nat) (w : World) (hp : (⟨N, T, L, W, S, R⟩ : P).In) (hl : N ≤ 12 ∧ L ≤ 12 ∧ T ≤ 12) (hr : (⟨N, T, L, W, S, R⟩ : P).right = true) (hf : 240 < b.length) :
    Calls Try.prog 4 #[.agg #[.int .i64 N, .int .i64 T, .int .i64 L, .int .i64 W, .int .i64 S, .int .i64 R], .agg #[.slice A1 b.length u1, .slice A2 tp.length u2], .slice A3 who.length u3] w fun e w' => e = .returned (.bool true) ∧ Below w.heap.size w w' := by
  have K0 := fun w => Law10.light_any N T L W S R w
  rw [decide_eq_true hl] at K0
  have H0 := Lib.hid K0
  clear K0 hl
  obtain ⟨q, hq⟩ : ∃ q : P, q = ⟨N, T, L, W, S, R⟩ := ⟨_, rfl⟩
  have hpq := hp
  rw [← hq] at hpq
  have hv : q.val = .agg #[.int .i64 N, .int .i64 T, .int .i64 L, .int .i64 W, .int .i64 S, .int .i64 R] := by rw [hq]; rfl
  have K3 := fun w => R08.right_any q w hpq
  rw [hq, hr, ← hq, hv] at K3
  have H3 := Lib.hid K3
  clear K3
  clear hq hr hp hpq hv
  have HA := Lib.hid (LiesB.new w N T L W S R (.slice A1 b.length u1) (.slice A2 tp.length u2) 42)
  have HB0 := Lib.hid (show Below w.heap.size w ((w.alloc (.cells #[.int .i64 N, .int .i64 T, .int .i64 L, .int .i64 W, .int .i64 S, .int .i64 R] 23)).alloc (.cells #[.slice A1 b.length u1, .slice A2 tp.length u2] 42)) from bstep (balloc _ _) (balloc _ _))
  go_enter Try.func4, Try.ntmps4
  go_wp2_with fail
  generalize (w.alloc (.cells #[.int .i64 N, .int .i64 T, .int .i64 L, .int .i64 W, .int .i64 S, .int .i64 R] 23)).alloc (.cells #[.slice A1 b.length u1, .slice A2 tp.length u2] 42) = w0 at *
  refine Drawn.wp_region_flowL 6 [Drawn.SP.is (.pointer (some ⟨w.heap.size + 1, 0, none⟩)), Drawn.SP.is (.slice A1 b.length u1), Drawn.SP.is (.pointer (some ⟨w.heap.size + 1, 1, none⟩)), Drawn.SP.is (.slice A2 tp.length u2), Drawn.SP.is (.slice A1 b.length u1), Drawn.SP.is (.slice A2 tp.length u2)] (by kernel_rfl) (by kernel_rfl) ?_ ?_
  · intro i hi a w1 hb hev hdep
    rcases (show i = 0 ∨ i = 1 ∨ i = 2 ∨ i = 3 ∨ i = 4 ∨ i = 5 by omega) with rfl | rfl | rfl | rfl | rfl | rfl
    · have e4 : a.tmps[4]?.getD undef = .pointer (some ⟨w.heap.size + 1, 0, none⟩) := hev 4 rfl
      refine Drawn.wpOp_flow 17 rfl rfl rfl ?_
      clear hev hdep hb
      go_simp
      exact ⟨_, rfl, rfl, Below.refl _ _⟩
    · have d0 : a.tmps[17]?.getD undef = .pointer (some ⟨w.heap.size + 1, 0, none⟩) := hdep 0 rfl
      refine Drawn.wpOp_flow 18 rfl rfl rfl ?_
      have a0 := (HA.out.below hb).a0
      have a1 := (HA.out.below hb).a1
      clear hev hdep hb
      go_simp
      exact ⟨_, rfl, rfl, Below.refl _ _⟩
    · have e4 : a.tmps[4]?.getD undef = .pointer (some ⟨w.heap.size + 1, 0, none⟩) := hev 4 rfl
      refine Drawn.wpOp_flow 19 rfl rfl rfl ?_
      clear hev hdep hb
      go_simp
      exact ⟨_, rfl, rfl, Below.refl _ _⟩
    · have d2 : a.tmps[19]?.getD undef = .pointer (some ⟨w.heap.size + 1, 1, none⟩) := hdep 2 rfl
      refine Drawn.wpOp_flow 20 rfl rfl rfl ?_
      have a0 := (HA.out.below hb).a0
      have a1 := (HA.out.below hb).a1
      clear hev hdep hb
      go_simp
      exact ⟨_, rfl, rfl, Below.refl _ _⟩
    · have d1 : a.tmps[18]?.getD undef = .slice A1 b.length u1 := hdep 1 rfl
      refine Drawn.wpOp_flow 7 rfl rfl rfl ?_
      clear hev hdep hb
      go_simp
      exact ⟨_, rfl, rfl, Below.refl _ _⟩
    · have d3 : a.tmps[20]?.getD undef = .slice A2 tp.length u2 := hdep 3 rfl
      refine Drawn.wpOp_flow 8 rfl rfl rfl ?_
      clear hev hdep hb
      go_simp
      exact ⟨_, rfl, rfl, Below.refl _ _⟩
  · intro xq w1 hb hxq
    have vq0 : xq 0 = .pointer (some ⟨w.heap.size + 1, 0, none⟩) := hxq 0 (by omega)
    have vq1 : xq 1 = .slice A1 b.length u1 := hxq 1 (by omega)
    have vq2 : xq 2 = .pointer (some ⟨w.heap.size + 1, 1, none⟩) := hxq 2 (by omega)
    have vq3 : xq 3 = .slice A2 tp.length u2 := hxq 3 (by omega)
    have vq4 : xq 4 = .slice A1 b.length u1 := hxq 4 (by omega)
    have vq5 : xq 5 = .slice A2 tp.length u2 := hxq 5 (by omega)
    show Exit.then _ _ Exit.normal (Drawn.acts _ [(8, some (xq 5)), (7, some (xq 4)), (20, some (xq 3)), (19, some (xq 2)), (18, some (xq 1)), (17, some (xq 0))]) _
    rw [vq0, vq1, vq2, vq3, vq4, vq5]
    clear hxq vq0 vq1 vq2 vq3 vq4 vq5
    clear xq
    simp only [Drawn.acts]
    go_simp
    have hb1 := hb
    clear hb
    obtain ⟨c0, c1, c2, c3, c4, c5⟩ := six (HA.out.below hb1).plan
    go_at_K
    go_wp2_with fail
    refine (H0.out _).mono ?_
    rintro e w2 ⟨rfl, hb2'⟩
    have hb2 := bstep hb1 hb2'
    clear c0 c1 c2 c3 c4 c5
    clear hb1 hb2'
    obtain ⟨c0, c1, c2, c3, c4, c5⟩ := six (HA.out.below hb2).plan
    go_wp2_with fail
    refine (H3.out _).mono ?_
    rintro e w3 ⟨rfl, hbx⟩
    have hb3 := bstep hb2 hbx
    clear c0 c1 c2 c3 c4 c5
    clear hb2 hbx
    obtain ⟨c0, c1, c2, c3, c4, c5⟩ := six (HA.out.below hb3).plan
    go_wp2_with fail
    refine (alive_any _).mono ?_
    rintro e wz ⟨rfl, hbz⟩
    clear c0 c1 c2 c3 c4 c5
    go_wp2
    go_ret
    exact ⟨rfl, bstep HB0.out (bstep hb3 hbz)⟩

set_option maxHeartbeats 2000000 in
theorem back_short (N T L W S R : Int) (A1 A2 A3 : Option Addr) (b tp : List UInt8) (who : List Int) (u1 u2 u3 : Nat) (w : World) (hp : (⟨N, T, L, W, S, R⟩ : P).In) (hl : N ≤ 12 ∧ L ≤ 12 ∧ T ≤ 12) (hr : (⟨N, T, L, W, S, R⟩ : P).right = true) (hf : b.length ≤ 240) (hc : (tp.length : Int) < cost ⟨N, T, L, W, S, R⟩ b.length) :
    Calls Try.prog 4 #[.agg #[.int .i64 N, .int .i64 T, .int .i64 L, .int .i64 W, .int .i64 S, .int .i64 R], .agg #[.slice A1 b.length u1, .slice A2 tp.length u2], .slice A3 who.length u3] w fun e w' => e = .returned (.bool true) ∧ Below w.heap.size w w' := by
  have K0 := fun w => Law10.light_any N T L W S R w
  rw [decide_eq_true hl] at K0
  have H0 := Lib.hid K0
  clear K0 hl
  obtain ⟨q, hq⟩ : ∃ q : P, q = ⟨N, T, L, W, S, R⟩ := ⟨_, rfl⟩
  have hpq := hp
  rw [← hq] at hpq
  have hv : q.val = .agg #[.int .i64 N, .int .i64 T, .int .i64 L, .int .i64 W, .int .i64 S, .int .i64 R] := by rw [hq]; rfl
  have K3 := fun w => R08.right_any q w hpq
  rw [hq, hr, ← hq, hv] at K3
  have H3 := Lib.hid K3
  clear K3
  have hM : q.May := by rw [hq]; exact of_decide_eq_true hr
  have hMM := hM
  unfold P.May at hMM
  have eN : q.N = N := by rw [hq]
  have eT : q.T = T := by rw [hq]
  have eL : q.L = L := by rw [hq]
  obtain ⟨n, hn⟩ : ∃ n : Nat, cost q b.length = n := ⟨(cost q b.length).toNat, by
    have : 0 ≤ cost q b.length := Int.mul_nonneg (by omega) (by omega)
    omega⟩
  have K9 := fun w => R10.cost_any N T L W S R b.length w (by omega) (by omega)
  rw [← hq, hn] at K9
  have H9 := Lib.hid K9
  have i1 : IntKind.i64.wrap (T + L) = T + L := IntWalk.i64_in _ (by omega)
  clear K9
  rw [← hq, hn] at hc
  have hc1 : tp.length < n := by omega
  clear hc
  clear hq hr hp hpq hv hM hMM eN eT eL hn
  have HA := Lib.hid (LiesB.new w N T L W S R (.slice A1 b.length u1) (.slice A2 tp.length u2) 42)
  have HB0 := Lib.hid (show Below w.heap.size w ((w.alloc (.cells #[.int .i64 N, .int .i64 T, .int .i64 L, .int .i64 W, .int .i64 S, .int .i64 R] 23)).alloc (.cells #[.slice A1 b.length u1, .slice A2 tp.length u2] 42)) from bstep (balloc _ _) (balloc _ _))
  go_enter Try.func4, Try.ntmps4
  go_wp2_with fail
  generalize (w.alloc (.cells #[.int .i64 N, .int .i64 T, .int .i64 L, .int .i64 W, .int .i64 S, .int .i64 R] 23)).alloc (.cells #[.slice A1 b.length u1, .slice A2 tp.length u2] 42) = w0 at *
  refine Drawn.wp_region_flowL 6 [Drawn.SP.is (.pointer (some ⟨w.heap.size + 1, 0, none⟩)), Drawn.SP.is (.slice A1 b.length u1), Drawn.SP.is (.pointer (some ⟨w.heap.size + 1, 1, none⟩)), Drawn.SP.is (.slice A2 tp.length u2), Drawn.SP.is (.slice A1 b.length u1), Drawn.SP.is (.slice A2 tp.length u2)] (by kernel_rfl) (by kernel_rfl) ?_ ?_
  · intro i hi a w1 hb hev hdep
    rcases (show i = 0 ∨ i = 1 ∨ i = 2 ∨ i = 3 ∨ i = 4 ∨ i = 5 by omega) with rfl | rfl | rfl | rfl | rfl | rfl
    · have e4 : a.tmps[4]?.getD undef = .pointer (some ⟨w.heap.size + 1, 0, none⟩) := hev 4 rfl
      refine Drawn.wpOp_flow 17 rfl rfl rfl ?_
      clear hev hdep hb
      go_simp
      exact ⟨_, rfl, rfl, Below.refl _ _⟩
    · have d0 : a.tmps[17]?.getD undef = .pointer (some ⟨w.heap.size + 1, 0, none⟩) := hdep 0 rfl
      refine Drawn.wpOp_flow 18 rfl rfl rfl ?_
      have a0 := (HA.out.below hb).a0
      have a1 := (HA.out.below hb).a1
      clear hev hdep hb
      go_simp
      exact ⟨_, rfl, rfl, Below.refl _ _⟩
    · have e4 : a.tmps[4]?.getD undef = .pointer (some ⟨w.heap.size + 1, 0, none⟩) := hev 4 rfl
      refine Drawn.wpOp_flow 19 rfl rfl rfl ?_
      clear hev hdep hb
      go_simp
      exact ⟨_, rfl, rfl, Below.refl _ _⟩
    · have d2 : a.tmps[19]?.getD undef = .pointer (some ⟨w.heap.size + 1, 1, none⟩) := hdep 2 rfl
      refine Drawn.wpOp_flow 20 rfl rfl rfl ?_
      have a0 := (HA.out.below hb).a0
      have a1 := (HA.out.below hb).a1
      clear hev hdep hb
      go_simp
      exact ⟨_, rfl, rfl, Below.refl _ _⟩
    · have d1 : a.tmps[18]?.getD undef = .slice A1 b.length u1 := hdep 1 rfl
      refine Drawn.wpOp_flow 7 rfl rfl rfl ?_
      clear hev hdep hb
      go_simp
      exact ⟨_, rfl, rfl, Below.refl _ _⟩
    · have d3 : a.tmps[20]?.getD undef = .slice A2 tp.length u2 := hdep 3 rfl
      refine Drawn.wpOp_flow 8 rfl rfl rfl ?_
      clear hev hdep hb
      go_simp
      exact ⟨_, rfl, rfl, Below.refl _ _⟩
  · intro xq w1 hb hxq
    have vq0 : xq 0 = .pointer (some ⟨w.heap.size + 1, 0, none⟩) := hxq 0 (by omega)
    have vq1 : xq 1 = .slice A1 b.length u1 := hxq 1 (by omega)
    have vq2 : xq 2 = .pointer (some ⟨w.heap.size + 1, 1, none⟩) := hxq 2 (by omega)
    have vq3 : xq 3 = .slice A2 tp.length u2 := hxq 3 (by omega)
    have vq4 : xq 4 = .slice A1 b.length u1 := hxq 4 (by omega)
    have vq5 : xq 5 = .slice A2 tp.length u2 := hxq 5 (by omega)
    show Exit.then _ _ Exit.normal (Drawn.acts _ [(8, some (xq 5)), (7, some (xq 4)), (20, some (xq 3)), (19, some (xq 2)), (18, some (xq 1)), (17, some (xq 0))]) _
    rw [vq0, vq1, vq2, vq3, vq4, vq5]
    clear hxq vq0 vq1 vq2 vq3 vq4 vq5
    clear xq
    simp only [Drawn.acts]
    go_simp
    have hb1 := hb
    clear hb
    obtain ⟨c0, c1, c2, c3, c4, c5⟩ := six (HA.out.below hb1).plan
    go_at_K
    go_wp2_with fail
    refine (H0.out _).mono ?_
    rintro e w2 ⟨rfl, hb2'⟩
    have hb2 := bstep hb1 hb2'
    clear c0 c1 c2 c3 c4 c5
    clear hb1 hb2'
    obtain ⟨c0, c1, c2, c3, c4, c5⟩ := six (HA.out.below hb2).plan
    go_wp2_with fail
    refine (H3.out _).mono ?_
    rintro e w3 ⟨rfl, hbx⟩
    have hb3 := bstep hb2 hbx
    clear c0 c1 c2 c3 c4 c5
    clear hb2 hbx
    obtain ⟨c0, c1, c2, c3, c4, c5⟩ := six (HA.out.below hb3).plan
    go_wp2_with fail
    refine (H9.out _).mono ?_
    rintro e w4 ⟨rfl, hbx⟩
    have hb4 := bstep hb3 hbx
    clear c0 c1 c2 c3 c4 c5
    clear hb3 hbx
    obtain ⟨c0, c1, c2, c3, c4, c5⟩ := six (HA.out.below hb4).plan
    go_wp2_with fail
    refine (alive_any _).mono ?_
    rintro e wz ⟨rfl, hbz⟩
    clear c0 c1 c2 c3 c4 c5
    go_wp2
    go_ret
    exact ⟨rfl, bstep HB0.out (bstep hb4 hbz)⟩

set_option maxHeartbeats 2000000 in
theorem back_many (N T L W S R : Int) (A1 A2 A3 : Option Addr) (b tp : List UInt8) (who : List Int) (u1 u2 u3 : Nat) (w : World) (hp : (⟨N, T, L, W, S, R⟩ : P).In) (hl : N ≤ 12 ∧ L ≤ 12 ∧ T ≤ 12) (hr : (⟨N, T, L, W, S, R⟩ : P).right = true) (hf : b.length ≤ 240) (hc : cost ⟨N, T, L, W, S, R⟩ b.length ≤ tp.length) (hm : 14 < who.length) :
    Calls Try.prog 4 #[.agg #[.int .i64 N, .int .i64 T, .int .i64 L, .int .i64 W, .int .i64 S, .int .i64 R], .agg #[.slice A1 b.length u1, .slice A2 tp.length u2], .slice A3 who.length u3] w fun e w' => e = .returned (.bool true) ∧ Below w.heap.size w w' := by
  have K0 := fun w => Law10.light_any N T L W S R w
  rw [decide_eq_true hl] at K0
  have H0 := Lib.hid K0
  clear K0 hl
  obtain ⟨q, hq⟩ : ∃ q : P, q = ⟨N, T, L, W, S, R⟩ := ⟨_, rfl⟩
  have hpq := hp
  rw [← hq] at hpq
  have hv : q.val = .agg #[.int .i64 N, .int .i64 T, .int .i64 L, .int .i64 W, .int .i64 S, .int .i64 R] := by rw [hq]; rfl
  have K3 := fun w => R08.right_any q w hpq
  rw [hq, hr, ← hq, hv] at K3
  have H3 := Lib.hid K3
  clear K3
  have hM : q.May := by rw [hq]; exact of_decide_eq_true hr
  have hMM := hM
  unfold P.May at hMM
  have eN : q.N = N := by rw [hq]
  have eT : q.T = T := by rw [hq]
  have eL : q.L = L := by rw [hq]
  obtain ⟨n, hn⟩ : ∃ n : Nat, cost q b.length = n := ⟨(cost q b.length).toNat, by
    have : 0 ≤ cost q b.length := Int.mul_nonneg (by omega) (by omega)
    omega⟩
  have K9 := fun w => R10.cost_any N T L W S R b.length w (by omega) (by omega)
  rw [← hq, hn] at K9
  have H9 := Lib.hid K9
  have i1 : IntKind.i64.wrap (T + L) = T + L := IntWalk.i64_in _ (by omega)
  clear K9
  rw [← hq, hn] at hc
  have hc1 : n ≤ tp.length := by omega
  clear hc
  clear hq hr hp hpq hv hM hMM eN eT eL hn
  have HA := Lib.hid (LiesB.new w N T L W S R (.slice A1 b.length u1) (.slice A2 tp.length u2) 42)
  have HB0 := Lib.hid (show Below w.heap.size w ((w.alloc (.cells #[.int .i64 N, .int .i64 T, .int .i64 L, .int .i64 W, .int .i64 S, .int .i64 R] 23)).alloc (.cells #[.slice A1 b.length u1, .slice A2 tp.length u2] 42)) from bstep (balloc _ _) (balloc _ _))
  go_enter Try.func4, Try.ntmps4
  go_wp2_with fail
  generalize (w.alloc (.cells #[.int .i64 N, .int .i64 T, .int .i64 L, .int .i64 W, .int .i64 S, .int .i64 R] 23)).alloc (.cells #[.slice A1 b.length u1, .slice A2 tp.length u2] 42) = w0 at *
  refine Drawn.wp_region_flowL 6 [Drawn.SP.is (.pointer (some ⟨w.heap.size + 1, 0, none⟩)), Drawn.SP.is (.slice A1 b.length u1), Drawn.SP.is (.pointer (some ⟨w.heap.size + 1, 1, none⟩)), Drawn.SP.is (.slice A2 tp.length u2), Drawn.SP.is (.slice A1 b.length u1), Drawn.SP.is (.slice A2 tp.length u2)] (by kernel_rfl) (by kernel_rfl) ?_ ?_
  · intro i hi a w1 hb hev hdep
    rcases (show i = 0 ∨ i = 1 ∨ i = 2 ∨ i = 3 ∨ i = 4 ∨ i = 5 by omega) with rfl | rfl | rfl | rfl | rfl | rfl
    · have e4 : a.tmps[4]?.getD undef = .pointer (some ⟨w.heap.size + 1, 0, none⟩) := hev 4 rfl
      refine Drawn.wpOp_flow 17 rfl rfl rfl ?_
      clear hev hdep hb
      go_simp
      exact ⟨_, rfl, rfl, Below.refl _ _⟩
    · have d0 : a.tmps[17]?.getD undef = .pointer (some ⟨w.heap.size + 1, 0, none⟩) := hdep 0 rfl
      refine Drawn.wpOp_flow 18 rfl rfl rfl ?_
      have a0 := (HA.out.below hb).a0
      have a1 := (HA.out.below hb).a1
      clear hev hdep hb
      go_simp
      exact ⟨_, rfl, rfl, Below.refl _ _⟩
    · have e4 : a.tmps[4]?.getD undef = .pointer (some ⟨w.heap.size + 1, 0, none⟩) := hev 4 rfl
      refine Drawn.wpOp_flow 19 rfl rfl rfl ?_
      clear hev hdep hb
      go_simp
      exact ⟨_, rfl, rfl, Below.refl _ _⟩
    · have d2 : a.tmps[19]?.getD undef = .pointer (some ⟨w.heap.size + 1, 1, none⟩) := hdep 2 rfl
      refine Drawn.wpOp_flow 20 rfl rfl rfl ?_
      have a0 := (HA.out.below hb).a0
      have a1 := (HA.out.below hb).a1
      clear hev hdep hb
      go_simp
      exact ⟨_, rfl, rfl, Below.refl _ _⟩
    · have d1 : a.tmps[18]?.getD undef = .slice A1 b.length u1 := hdep 1 rfl
      refine Drawn.wpOp_flow 7 rfl rfl rfl ?_
      clear hev hdep hb
      go_simp
      exact ⟨_, rfl, rfl, Below.refl _ _⟩
    · have d3 : a.tmps[20]?.getD undef = .slice A2 tp.length u2 := hdep 3 rfl
      refine Drawn.wpOp_flow 8 rfl rfl rfl ?_
      clear hev hdep hb
      go_simp
      exact ⟨_, rfl, rfl, Below.refl _ _⟩
  · intro xq w1 hb hxq
    have vq0 : xq 0 = .pointer (some ⟨w.heap.size + 1, 0, none⟩) := hxq 0 (by omega)
    have vq1 : xq 1 = .slice A1 b.length u1 := hxq 1 (by omega)
    have vq2 : xq 2 = .pointer (some ⟨w.heap.size + 1, 1, none⟩) := hxq 2 (by omega)
    have vq3 : xq 3 = .slice A2 tp.length u2 := hxq 3 (by omega)
    have vq4 : xq 4 = .slice A1 b.length u1 := hxq 4 (by omega)
    have vq5 : xq 5 = .slice A2 tp.length u2 := hxq 5 (by omega)
    show Exit.then _ _ Exit.normal (Drawn.acts _ [(8, some (xq 5)), (7, some (xq 4)), (20, some (xq 3)), (19, some (xq 2)), (18, some (xq 1)), (17, some (xq 0))]) _
    rw [vq0, vq1, vq2, vq3, vq4, vq5]
    clear hxq vq0 vq1 vq2 vq3 vq4 vq5
    clear xq
    simp only [Drawn.acts]
    go_simp
    have hb1 := hb
    clear hb
    obtain ⟨c0, c1, c2, c3, c4, c5⟩ := six (HA.out.below hb1).plan
    go_at_K
    go_wp2_with fail
    refine (H0.out _).mono ?_
    rintro e w2 ⟨rfl, hb2'⟩
    have hb2 := bstep hb1 hb2'
    clear c0 c1 c2 c3 c4 c5
    clear hb1 hb2'
    obtain ⟨c0, c1, c2, c3, c4, c5⟩ := six (HA.out.below hb2).plan
    go_wp2_with fail
    refine (H3.out _).mono ?_
    rintro e w3 ⟨rfl, hbx⟩
    have hb3 := bstep hb2 hbx
    clear c0 c1 c2 c3 c4 c5
    clear hb2 hbx
    obtain ⟨c0, c1, c2, c3, c4, c5⟩ := six (HA.out.below hb3).plan
    go_wp2_with fail
    refine (H9.out _).mono ?_
    rintro e w4 ⟨rfl, hbx⟩
    have hb4 := bstep hb3 hbx
    clear c0 c1 c2 c3 c4 c5
    clear hb3 hbx
    obtain ⟨c0, c1, c2, c3, c4, c5⟩ := six (HA.out.below hb4).plan
    go_wp2_with fail
    refine (alive_any _).mono ?_
    rintro e wz ⟨rfl, hbz⟩
    clear c0 c1 c2 c3 c4 c5
    go_wp2
    go_ret
    exact ⟨rfl, bstep HB0.out (bstep hb4 hbz)⟩

set_option maxHeartbeats 2000000 in
theorem back_few (N T L W S R : Int) (A1 A2 A3 : Option Addr) (b tp : List UInt8) (who : List Int) (u1 u2 u3 : Nat) (w : World) (hp : (⟨N, T, L, W, S, R⟩ : P).In) (hl : N ≤ 12 ∧ L ≤ 12 ∧ T ≤ 12) (hr : (⟨N, T, L, W, S, R⟩ : P).right = true) (hf : b.length ≤ 240) (hc : cost ⟨N, T, L, W, S, R⟩ b.length ≤ tp.length) (hm : who.length ≤ 14) (hw : (who.length : Int) < T + L) :
    Calls Try.prog 4 #[.agg #[.int .i64 N, .int .i64 T, .int .i64 L, .int .i64 W, .int .i64 S, .int .i64 R], .agg #[.slice A1 b.length u1, .slice A2 tp.length u2], .slice A3 who.length u3] w fun e w' => e = .returned (.bool true) ∧ Below w.heap.size w w' := by
  have K0 := fun w => Law10.light_any N T L W S R w
  rw [decide_eq_true hl] at K0
  have H0 := Lib.hid K0
  clear K0 hl
  obtain ⟨q, hq⟩ : ∃ q : P, q = ⟨N, T, L, W, S, R⟩ := ⟨_, rfl⟩
  have hpq := hp
  rw [← hq] at hpq
  have hv : q.val = .agg #[.int .i64 N, .int .i64 T, .int .i64 L, .int .i64 W, .int .i64 S, .int .i64 R] := by rw [hq]; rfl
  have K3 := fun w => R08.right_any q w hpq
  rw [hq, hr, ← hq, hv] at K3
  have H3 := Lib.hid K3
  clear K3
  have hM : q.May := by rw [hq]; exact of_decide_eq_true hr
  have hMM := hM
  unfold P.May at hMM
  have eN : q.N = N := by rw [hq]
  have eT : q.T = T := by rw [hq]
  have eL : q.L = L := by rw [hq]
  obtain ⟨n, hn⟩ : ∃ n : Nat, cost q b.length = n := ⟨(cost q b.length).toNat, by
    have : 0 ≤ cost q b.length := Int.mul_nonneg (by omega) (by omega)
    omega⟩
  have K9 := fun w => R10.cost_any N T L W S R b.length w (by omega) (by omega)
  rw [← hq, hn] at K9
  have H9 := Lib.hid K9
  have i1 : IntKind.i64.wrap (T + L) = T + L := IntWalk.i64_in _ (by omega)
  clear K9
  rw [← hq, hn] at hc
  have hc1 : n ≤ tp.length := by omega
  clear hc
  clear hq hr hp hpq hv hM hMM eN eT eL hn
  have HA := Lib.hid (LiesB.new w N T L W S R (.slice A1 b.length u1) (.slice A2 tp.length u2) 42)
  have HB0 := Lib.hid (show Below w.heap.size w ((w.alloc (.cells #[.int .i64 N, .int .i64 T, .int .i64 L, .int .i64 W, .int .i64 S, .int .i64 R] 23)).alloc (.cells #[.slice A1 b.length u1, .slice A2 tp.length u2] 42)) from bstep (balloc _ _) (balloc _ _))
  go_enter Try.func4, Try.ntmps4
  go_wp2_with fail
  generalize (w.alloc (.cells #[.int .i64 N, .int .i64 T, .int .i64 L, .int .i64 W, .int .i64 S, .int .i64 R] 23)).alloc (.cells #[.slice A1 b.length u1, .slice A2 tp.length u2] 42) = w0 at *
  refine Drawn.wp_region_flowL 6 [Drawn.SP.is (.pointer (some ⟨w.heap.size + 1, 0, none⟩)), Drawn.SP.is (.slice A1 b.length u1), Drawn.SP.is (.pointer (some ⟨w.heap.size + 1, 1, none⟩)), Drawn.SP.is (.slice A2 tp.length u2), Drawn.SP.is (.slice A1 b.length u1), Drawn.SP.is (.slice A2 tp.length u2)] (by kernel_rfl) (by kernel_rfl) ?_ ?_
  · intro i hi a w1 hb hev hdep
    rcases (show i = 0 ∨ i = 1 ∨ i = 2 ∨ i = 3 ∨ i = 4 ∨ i = 5 by omega) with rfl | rfl | rfl | rfl | rfl | rfl
    · have e4 : a.tmps[4]?.getD undef = .pointer (some ⟨w.heap.size + 1, 0, none⟩) := hev 4 rfl
      refine Drawn.wpOp_flow 17 rfl rfl rfl ?_
      clear hev hdep hb
      go_simp
      exact ⟨_, rfl, rfl, Below.refl _ _⟩
    · have d0 : a.tmps[17]?.getD undef = .pointer (some ⟨w.heap.size + 1, 0, none⟩) := hdep 0 rfl
      refine Drawn.wpOp_flow 18 rfl rfl rfl ?_
      have a0 := (HA.out.below hb).a0
      have a1 := (HA.out.below hb).a1
      clear hev hdep hb
      go_simp
      exact ⟨_, rfl, rfl, Below.refl _ _⟩
    · have e4 : a.tmps[4]?.getD undef = .pointer (some ⟨w.heap.size + 1, 0, none⟩) := hev 4 rfl
      refine Drawn.wpOp_flow 19 rfl rfl rfl ?_
      clear hev hdep hb
      go_simp
      exact ⟨_, rfl, rfl, Below.refl _ _⟩
    · have d2 : a.tmps[19]?.getD undef = .pointer (some ⟨w.heap.size + 1, 1, none⟩) := hdep 2 rfl
      refine Drawn.wpOp_flow 20 rfl rfl rfl ?_
      have a0 := (HA.out.below hb).a0
      have a1 := (HA.out.below hb).a1
      clear hev hdep hb
      go_simp
      exact ⟨_, rfl, rfl, Below.refl _ _⟩
    · have d1 : a.tmps[18]?.getD undef = .slice A1 b.length u1 := hdep 1 rfl
      refine Drawn.wpOp_flow 7 rfl rfl rfl ?_
      clear hev hdep hb
      go_simp
      exact ⟨_, rfl, rfl, Below.refl _ _⟩
    · have d3 : a.tmps[20]?.getD undef = .slice A2 tp.length u2 := hdep 3 rfl
      refine Drawn.wpOp_flow 8 rfl rfl rfl ?_
      clear hev hdep hb
      go_simp
      exact ⟨_, rfl, rfl, Below.refl _ _⟩
  · intro xq w1 hb hxq
    have vq0 : xq 0 = .pointer (some ⟨w.heap.size + 1, 0, none⟩) := hxq 0 (by omega)
    have vq1 : xq 1 = .slice A1 b.length u1 := hxq 1 (by omega)
    have vq2 : xq 2 = .pointer (some ⟨w.heap.size + 1, 1, none⟩) := hxq 2 (by omega)
    have vq3 : xq 3 = .slice A2 tp.length u2 := hxq 3 (by omega)
    have vq4 : xq 4 = .slice A1 b.length u1 := hxq 4 (by omega)
    have vq5 : xq 5 = .slice A2 tp.length u2 := hxq 5 (by omega)
    show Exit.then _ _ Exit.normal (Drawn.acts _ [(8, some (xq 5)), (7, some (xq 4)), (20, some (xq 3)), (19, some (xq 2)), (18, some (xq 1)), (17, some (xq 0))]) _
    rw [vq0, vq1, vq2, vq3, vq4, vq5]
    clear hxq vq0 vq1 vq2 vq3 vq4 vq5
    clear xq
    simp only [Drawn.acts]
    go_simp
    have hb1 := hb
    clear hb
    obtain ⟨c0, c1, c2, c3, c4, c5⟩ := six (HA.out.below hb1).plan
    go_at_K
    go_wp2_with fail
    refine (H0.out _).mono ?_
    rintro e w2 ⟨rfl, hb2'⟩
    have hb2 := bstep hb1 hb2'
    clear c0 c1 c2 c3 c4 c5
    clear hb1 hb2'
    obtain ⟨c0, c1, c2, c3, c4, c5⟩ := six (HA.out.below hb2).plan
    go_wp2_with fail
    refine (H3.out _).mono ?_
    rintro e w3 ⟨rfl, hbx⟩
    have hb3 := bstep hb2 hbx
    clear c0 c1 c2 c3 c4 c5
    clear hb2 hbx
    obtain ⟨c0, c1, c2, c3, c4, c5⟩ := six (HA.out.below hb3).plan
    go_wp2_with fail
    refine (H9.out _).mono ?_
    rintro e w4 ⟨rfl, hbx⟩
    have hb4 := bstep hb3 hbx
    clear c0 c1 c2 c3 c4 c5
    clear hb3 hbx
    obtain ⟨c0, c1, c2, c3, c4, c5⟩ := six (HA.out.below hb4).plan
    go_wp2_with fail
    refine (alive_any _).mono ?_
    rintro e wz ⟨rfl, hbz⟩
    clear c0 c1 c2 c3 c4 c5
    go_wp2
    go_ret
    exact ⟨rfl, bstep HB0.out (bstep hb4 hbz)⟩

set_option maxHeartbeats 2000000 in
theorem back_twice (N T L W S R : Int) (A1 A2 A3 : Option Addr) (b tp : List UInt8) (who : List Int) (u1 u2 u3 : Nat) (w : World) (hp : (⟨N, T, L, W, S, R⟩ : P).In) (h3 : IntsAt w A3 who) (hl : N ≤ 12 ∧ L ≤ 12 ∧ T ≤ 12) (hr : (⟨N, T, L, W, S, R⟩ : P).right = true) (hf : b.length ≤ 240) (hc : cost ⟨N, T, L, W, S, R⟩ b.length ≤ tp.length) (hm : who.length ≤ 14) (hw : T + L ≤ (who.length : Int)) (hu : unl (points who) = false) :
    Calls Try.prog 4 #[.agg #[.int .i64 N, .int .i64 T, .int .i64 L, .int .i64 W, .int .i64 S, .int .i64 R], .agg #[.slice A1 b.length u1, .slice A2 tp.length u2], .slice A3 who.length u3] w fun e w' => e = .returned (.bool true) ∧ Below w.heap.size w w' := by
  have K0 := fun w => Law10.light_any N T L W S R w
  rw [decide_eq_true hl] at K0
  have H0 := Lib.hid K0
  clear K0 hl
  obtain ⟨q, hq⟩ : ∃ q : P, q = ⟨N, T, L, W, S, R⟩ := ⟨_, rfl⟩
  have hpq := hp
  rw [← hq] at hpq
  have hv : q.val = .agg #[.int .i64 N, .int .i64 T, .int .i64 L, .int .i64 W, .int .i64 S, .int .i64 R] := by rw [hq]; rfl
  have K3 := fun w => R08.right_any q w hpq
  rw [hq, hr, ← hq, hv] at K3
  have H3 := Lib.hid K3
  clear K3
  have hM : q.May := by rw [hq]; exact of_decide_eq_true hr
  have hMM := hM
  unfold P.May at hMM
  have eN : q.N = N := by rw [hq]
  have eT : q.T = T := by rw [hq]
  have eL : q.L = L := by rw [hq]
  obtain ⟨n, hn⟩ : ∃ n : Nat, cost q b.length = n := ⟨(cost q b.length).toNat, by
    have : 0 ≤ cost q b.length := Int.mul_nonneg (by omega) (by omega)
    omega⟩
  have K9 := fun w => R10.cost_any N T L W S R b.length w (by omega) (by omega)
  rw [← hq, hn] at K9
  have H9 := Lib.hid K9
  have i1 : IntKind.i64.wrap (T + L) = T + L := IntWalk.i64_in _ (by omega)
  clear K9
  rw [← hq, hn] at hc
  have hc1 : n ≤ tp.length := by omega
  clear hc
  have K7 := fun V (h : IntsAt V A3 who) => R08.points_any A3 who u3 V h (by omega)
  have hpl : (points who).length = who.length := points_len who
  have K8 := fun X d V (h : BytesAt V X (points who)) => R03.unlike_any X (points who) d V h (by omega)
  rw [hu, hpl] at K8
  have H7 := Lib.hid K7; have H8 := Lib.hid K8; have HPL := Lib.hid hpl
  have B3 := Lib.hid h3
  clear K7 K8 hpl hu
  clear h3
  clear hq hr hp hpq hv hM hMM eN eT eL hn
  have HA := Lib.hid (LiesB.new w N T L W S R (.slice A1 b.length u1) (.slice A2 tp.length u2) 42)
  have HB0 := Lib.hid (show Below w.heap.size w ((w.alloc (.cells #[.int .i64 N, .int .i64 T, .int .i64 L, .int .i64 W, .int .i64 S, .int .i64 R] 23)).alloc (.cells #[.slice A1 b.length u1, .slice A2 tp.length u2] 42)) from bstep (balloc _ _) (balloc _ _))
  go_enter Try.func4, Try.ntmps4
  go_wp2_with fail
  generalize (w.alloc (.cells #[.int .i64 N, .int .i64 T, .int .i64 L, .int .i64 W, .int .i64 S, .int .i64 R] 23)).alloc (.cells #[.slice A1 b.length u1, .slice A2 tp.length u2] 42) = w0 at *
  replace B3 := Lib.hid (B3.out.below HB0.out)
  refine Drawn.wp_region_flowL 6 [Drawn.SP.is (.pointer (some ⟨w.heap.size + 1, 0, none⟩)), Drawn.SP.is (.slice A1 b.length u1), Drawn.SP.is (.pointer (some ⟨w.heap.size + 1, 1, none⟩)), Drawn.SP.is (.slice A2 tp.length u2), Drawn.SP.is (.slice A1 b.length u1), Drawn.SP.is (.slice A2 tp.length u2)] (by kernel_rfl) (by kernel_rfl) ?_ ?_
  · intro i hi a w1 hb hev hdep
    rcases (show i = 0 ∨ i = 1 ∨ i = 2 ∨ i = 3 ∨ i = 4 ∨ i = 5 by omega) with rfl | rfl | rfl | rfl | rfl | rfl
    · have e4 : a.tmps[4]?.getD undef = .pointer (some ⟨w.heap.size + 1, 0, none⟩) := hev 4 rfl
      refine Drawn.wpOp_flow 17 rfl rfl rfl ?_
      clear hev hdep hb
      go_simp
      exact ⟨_, rfl, rfl, Below.refl _ _⟩
    · have d0 : a.tmps[17]?.getD undef = .pointer (some ⟨w.heap.size + 1, 0, none⟩) := hdep 0 rfl
      refine Drawn.wpOp_flow 18 rfl rfl rfl ?_
      have a0 := (HA.out.below hb).a0
      have a1 := (HA.out.below hb).a1
      clear hev hdep hb
      go_simp
      exact ⟨_, rfl, rfl, Below.refl _ _⟩
    · have e4 : a.tmps[4]?.getD undef = .pointer (some ⟨w.heap.size + 1, 0, none⟩) := hev 4 rfl
      refine Drawn.wpOp_flow 19 rfl rfl rfl ?_
      clear hev hdep hb
      go_simp
      exact ⟨_, rfl, rfl, Below.refl _ _⟩
    · have d2 : a.tmps[19]?.getD undef = .pointer (some ⟨w.heap.size + 1, 1, none⟩) := hdep 2 rfl
      refine Drawn.wpOp_flow 20 rfl rfl rfl ?_
      have a0 := (HA.out.below hb).a0
      have a1 := (HA.out.below hb).a1
      clear hev hdep hb
      go_simp
      exact ⟨_, rfl, rfl, Below.refl _ _⟩
    · have d1 : a.tmps[18]?.getD undef = .slice A1 b.length u1 := hdep 1 rfl
      refine Drawn.wpOp_flow 7 rfl rfl rfl ?_
      clear hev hdep hb
      go_simp
      exact ⟨_, rfl, rfl, Below.refl _ _⟩
    · have d3 : a.tmps[20]?.getD undef = .slice A2 tp.length u2 := hdep 3 rfl
      refine Drawn.wpOp_flow 8 rfl rfl rfl ?_
      clear hev hdep hb
      go_simp
      exact ⟨_, rfl, rfl, Below.refl _ _⟩
  · intro xq w1 hb hxq
    have vq0 : xq 0 = .pointer (some ⟨w.heap.size + 1, 0, none⟩) := hxq 0 (by omega)
    have vq1 : xq 1 = .slice A1 b.length u1 := hxq 1 (by omega)
    have vq2 : xq 2 = .pointer (some ⟨w.heap.size + 1, 1, none⟩) := hxq 2 (by omega)
    have vq3 : xq 3 = .slice A2 tp.length u2 := hxq 3 (by omega)
    have vq4 : xq 4 = .slice A1 b.length u1 := hxq 4 (by omega)
    have vq5 : xq 5 = .slice A2 tp.length u2 := hxq 5 (by omega)
    show Exit.then _ _ Exit.normal (Drawn.acts _ [(8, some (xq 5)), (7, some (xq 4)), (20, some (xq 3)), (19, some (xq 2)), (18, some (xq 1)), (17, some (xq 0))]) _
    rw [vq0, vq1, vq2, vq3, vq4, vq5]
    clear hxq vq0 vq1 vq2 vq3 vq4 vq5
    clear xq
    simp only [Drawn.acts]
    go_simp
    have hb1 := hb
    clear hb
    obtain ⟨c0, c1, c2, c3, c4, c5⟩ := six (HA.out.below hb1).plan
    go_at_K
    go_wp2_with fail
    refine (H0.out _).mono ?_
    rintro e w2 ⟨rfl, hb2'⟩
    have hb2 := bstep hb1 hb2'
    clear c0 c1 c2 c3 c4 c5
    clear hb1 hb2'
    obtain ⟨c0, c1, c2, c3, c4, c5⟩ := six (HA.out.below hb2).plan
    go_wp2_with fail
    refine (H3.out _).mono ?_
    rintro e w3 ⟨rfl, hbx⟩
    have hb3 := bstep hb2 hbx
    clear c0 c1 c2 c3 c4 c5
    clear hb2 hbx
    obtain ⟨c0, c1, c2, c3, c4, c5⟩ := six (HA.out.below hb3).plan
    go_wp2_with fail
    refine (H9.out _).mono ?_
    rintro e w4 ⟨rfl, hbx⟩
    have hb4 := bstep hb3 hbx
    clear c0 c1 c2 c3 c4 c5
    clear hb3 hbx
    obtain ⟨c0, c1, c2, c3, c4, c5⟩ := six (HA.out.below hb4).plan
    go_wp2_with fail
    refine (H7.out _ (B3.out.below hb4)).mono ?_
    rintro e w5 ⟨X, d, rfl, _, _, hX, hbx, _⟩
    rw [HPL.out]
    have HX := Lib.hid hX
    have hb5 := bstep hb4 hbx
    clear c0 c1 c2 c3 c4 c5
    clear hb4 hbx hX
    obtain ⟨c0, c1, c2, c3, c4, c5⟩ := six (HA.out.below hb5).plan
    go_wp2_with fail
    refine (H8.out X d _ HX.out).mono ?_
    rintro e w6 ⟨rfl, hbx⟩
    have hb6 := bstep hb5 (bquiet hbx)
    clear c0 c1 c2 c3 c4 c5
    clear hb5 hbx HX
    obtain ⟨c0, c1, c2, c3, c4, c5⟩ := six (HA.out.below hb6).plan
    go_wp2_with fail
    refine (alive_any _).mono ?_
    rintro e wz ⟨rfl, hbz⟩
    clear c0 c1 c2 c3 c4 c5
    go_wp2
    go_ret
    exact ⟨rfl, bstep HB0.out (bstep hb6 hbz)⟩

set_option maxHeartbeats 8000000 in
theorem back_main (N T L W S R : Int) (A1 A2 A3 : Option Addr) (b tp : List UInt8) (who : List Int) (u1 u2 u3 : Nat) (w : World) (hp : (⟨N, T, L, W, S, R⟩ : P).In) (h1 : BytesAt w A1 b) (k1 : b.length ≤ u1) (z1 : u1 ≤ maxLen) (h2 : BytesAt w A2 tp) (k2 : tp.length ≤ u2) (z2 : u2 ≤ maxLen) (h3 : IntsAt w A3 who) (k3 : who.length ≤ u3) (z3 : u3 ≤ maxLen) (hi : ∀ x ∈ who, In64 x) (hl : N ≤ 12 ∧ L ≤ 12 ∧ T ≤ 12) (hr : (⟨N, T, L, W, S, R⟩ : P).right = true) (hf : b.length ≤ 240) (hc : cost ⟨N, T, L, W, S, R⟩ b.length ≤ tp.length) (hm : who.length ≤ 14) (hw : T + L ≤ (who.length : Int)) (hu : unl (points who) = true) :
    Calls Try.prog 4 #[.agg #[.int .i64 N, .int .i64 T, .int .i64 L, .int .i64 W, .int .i64 S, .int .i64 R], .agg #[.slice A1 b.length u1, .slice A2 tp.length u2], .slice A3 who.length u3] w fun e w' => e = .returned (.bool true) ∧ Below w.heap.size w w' := by
  have K0 := fun w => Law10.light_any N T L W S R w
  rw [decide_eq_true hl] at K0
  have H0 := Lib.hid K0
  clear K0 hl
  obtain ⟨q, hq⟩ : ∃ q : P, q = ⟨N, T, L, W, S, R⟩ := ⟨_, rfl⟩
  have hpq := hp
  rw [← hq] at hpq
  have hv : q.val = .agg #[.int .i64 N, .int .i64 T, .int .i64 L, .int .i64 W, .int .i64 S, .int .i64 R] := by rw [hq]; rfl
  have K3 := fun w => R08.right_any q w hpq
  rw [hq, hr, ← hq, hv] at K3
  have H3 := Lib.hid K3
  clear K3
  have hM : q.May := by rw [hq]; exact of_decide_eq_true hr
  have hMM := hM
  unfold P.May at hMM
  have eN : q.N = N := by rw [hq]
  have eT : q.T = T := by rw [hq]
  have eL : q.L = L := by rw [hq]
  obtain ⟨n, hn⟩ : ∃ n : Nat, cost q b.length = n := ⟨(cost q b.length).toNat, by
    have : 0 ≤ cost q b.length := Int.mul_nonneg (by omega) (by omega)
    omega⟩
  have K9 := fun w => R10.cost_any N T L W S R b.length w (by omega) (by omega)
  rw [← hq, hn] at K9
  have H9 := Lib.hid K9
  have i1 : IntKind.i64.wrap (T + L) = T + L := IntWalk.i64_in _ (by omega)
  clear K9
  rw [← hq, hn] at hc
  have hc1 : n ≤ tp.length := by omega
  obtain ⟨m, hm'⟩ : ∃ m : Nat, N = m := ⟨N.toNat, by omega⟩
  have hst := stripes_le q b.length (by omega)
  have hsn : q.stripes b.length * q.T.toNat = n := by
    have : cost q b.length = q.T * (q.stripes b.length : Nat) := rfl
    rw [this] at hn
    obtain ⟨tt, htt⟩ : ∃ tt : Nat, q.T = tt := ⟨q.T.toNat, by omega⟩
    rw [htt] at hn ⊢
    rw [Int.toNat_natCast, Nat.mul_comm]
    exact_mod_cast hn
  have E0 : dealE q b tp = 0 := by unfold dealE; rw [hq, hr, if_pos rfl, ← hq, if_neg (by omega), if_neg (by omega)]
  obtain ⟨sh, hsh⟩ : ∃ s, s = shares q (polys q b tp) := ⟨_, rfl⟩
  have D0 : dealA q b tp = sh := by unfold dealA; rw [E0, if_pos rfl, hsh]
  have hshl : sh.length = m := by rw [hsh, shares_len, eN, hm']; rfl
  obtain ⟨sx, hsx⟩ : ∃ sx : Int → List UInt8, sx = share (polys q b tp) := ⟨_, rfl⟩
  have hrow : ∀ j, (hj : j < sh.length) → sh[j] = sx ((j : Int) + 1) := fun j hj => by subst hsh; rw [shares_get, hsx]
  have hsl : ∀ x, (sx x).length ≤ 240 := fun x => by rw [hsx, share_len, polys_len]; exact hst
  have hsnoc : ∀ k, (hk : k < who.length) → gath q b tp (who.take (k + 1)) = gath q b tp (who.take k) ++ [sx who[k]] := fun k hk => by rw [gath_snoc _ _ _ _ _ hk, hsx]
  have hg0 : gath q b tp (who.take 0) = [] := rfl
  have hgl : ∀ k, k ≤ who.length → (gath q b tp (who.take k)).length = k := fun k hk => by rw [gath_len, List.length_take]; omega
  have hgall : gath q b tp (who.take who.length) = gath q b tp who := by rw [List.take_length]
  have hback : (∀ i, (hi : i < who.length) → q.is who[i] = true) → rcheck q b.length who (gath q b tp who) = 0 ∧ rblobA q b.length who (gath q b tp who) = b ∧ ragreeA q b.length who (gath q b tp who) = true := fun h => back_ok hM hf (by rw [hsn]; exact hc1) h hu (by omega)
  have hisr : ∀ x, q.is x = true → 1 ≤ x ∧ x ≤ (m : Int) := fun x h => by have := of_decide_eq_true h; omega
  have KD := fun bf w (ht : Gf.Tab w bf) (h1 : BytesAt w A1 b) (h2 : BytesAt w A2 tp) => Deal.deal_any bf q A1 A2 b tp u1 u2 w hpq ht h1 k1 z1 h2 k2 z2 (by omega)
  rw [E0, D0, hv] at KD
  have KI := fun x w => R08.is_any q x w
  rw [hv] at KI
  have hG : (gath q b tp who).length = who.length := gath_len _ _ _ _
  have KB := fun bf A c V (ht : Gf.Tab V bf) (h3 : IntsAt V A3 who) (hA : RowsAt V A (gath q b tp who)) (e1 : (gath q b tp who).length ≤ c) (e2 : c ≤ maxLen) => Rebuild.blob_any bf q b.length A3 A who (gath q b tp who) u3 c V hpq (by unfold In64; omega) ht h3 k3 z3 hi hA e1 e2 (by omega) (by omega)
  have KA := fun bf A c V (ht : Gf.Tab V bf) (h3 : IntsAt V A3 who) (hA : RowsAt V A (gath q b tp who)) (e1 : (gath q b tp who).length ≤ c) (e2 : c ≤ maxLen) => Rebuild.agree_any bf q b.length A3 A who (gath q b tp who) u3 c V hpq (by unfold In64; omega) ht h3 k3 z3 hi hA e1 e2 (by omega) (by omega)
  rw [hv, hG] at KB KA
  have hnm : ((m : Int) != N) = false := by rw [hm']; simp
  have HD := Lib.hid KD; have HI := Lib.hid KI; have HKB := Lib.hid KB; have HKA := Lib.hid KA; have HROW := Lib.hid hrow; have HSL := Lib.hid hsl; have HSN := Lib.hid hsnoc; have HGL := Lib.hid hgl; have HGA := Lib.hid hgall; have HBK := Lib.hid hback; have HIS := Lib.hid hisr; have HSHL := Lib.hid hshl; have HG0 := Lib.hid hg0
  have HML : Hid (b.length ≤ maxLen) := Lib.hid (by unfold maxLen; omega)
  have HHG := Lib.hid hG
  have B1 := Lib.hid h1; have B2 := Lib.hid h2
  have K7 := fun V (h : IntsAt V A3 who) => R08.points_any A3 who u3 V h (by omega)
  have hpl : (points who).length = who.length := points_len who
  have K8 := fun X d V (h : BytesAt V X (points who)) => R03.unlike_any X (points who) d V h (by omega)
  rw [hu, hpl] at K8
  have H7 := Lib.hid K7; have H8 := Lib.hid K8; have HPL := Lib.hid hpl
  have B3 := Lib.hid h3
  clear K7 K8 hpl hu
  clear h3
  clear hc hm' hst hsn E0 hsh D0 hshl hsx hrow hsl hsnoc hg0 hgl hgall hback hisr KD KI hG KB KA h1 h2
  clear hq hr hp hpq hv hM hMM eN eT eL hn
  have HA := Lib.hid (LiesB.new w N T L W S R (.slice A1 b.length u1) (.slice A2 tp.length u2) 42)
  have HB0 := Lib.hid (show Below w.heap.size w ((w.alloc (.cells #[.int .i64 N, .int .i64 T, .int .i64 L, .int .i64 W, .int .i64 S, .int .i64 R] 23)).alloc (.cells #[.slice A1 b.length u1, .slice A2 tp.length u2] 42)) from bstep (balloc _ _) (balloc _ _))
  go_enter Try.func4, Try.ntmps4
  go_wp2_with fail
  generalize (w.alloc (.cells #[.int .i64 N, .int .i64 T, .int .i64 L, .int .i64 W, .int .i64 S, .int .i64 R] 23)).alloc (.cells #[.slice A1 b.length u1, .slice A2 tp.length u2] 42) = w0 at *
  replace B3 := Lib.hid (B3.out.below HB0.out)
  replace B1 := Lib.hid (B1.out.below HB0.out)
  replace B2 := Lib.hid (B2.out.below HB0.out)
  refine Drawn.wp_region_flowL 6 [Drawn.SP.is (.pointer (some ⟨w.heap.size + 1, 0, none⟩)), Drawn.SP.is (.slice A1 b.length u1), Drawn.SP.is (.pointer (some ⟨w.heap.size + 1, 1, none⟩)), Drawn.SP.is (.slice A2 tp.length u2), Drawn.SP.is (.slice A1 b.length u1), Drawn.SP.is (.slice A2 tp.length u2)] (by kernel_rfl) (by kernel_rfl) ?_ ?_
  · intro i hi a w1 hb hev hdep
    rcases (show i = 0 ∨ i = 1 ∨ i = 2 ∨ i = 3 ∨ i = 4 ∨ i = 5 by omega) with rfl | rfl | rfl | rfl | rfl | rfl
    · have e4 : a.tmps[4]?.getD undef = .pointer (some ⟨w.heap.size + 1, 0, none⟩) := hev 4 rfl
      refine Drawn.wpOp_flow 17 rfl rfl rfl ?_
      clear hev hdep hb
      go_simp
      exact ⟨_, rfl, rfl, Below.refl _ _⟩
    · have d0 : a.tmps[17]?.getD undef = .pointer (some ⟨w.heap.size + 1, 0, none⟩) := hdep 0 rfl
      refine Drawn.wpOp_flow 18 rfl rfl rfl ?_
      have a0 := (HA.out.below hb).a0
      have a1 := (HA.out.below hb).a1
      clear hev hdep hb
      go_simp
      exact ⟨_, rfl, rfl, Below.refl _ _⟩
    · have e4 : a.tmps[4]?.getD undef = .pointer (some ⟨w.heap.size + 1, 0, none⟩) := hev 4 rfl
      refine Drawn.wpOp_flow 19 rfl rfl rfl ?_
      clear hev hdep hb
      go_simp
      exact ⟨_, rfl, rfl, Below.refl _ _⟩
    · have d2 : a.tmps[19]?.getD undef = .pointer (some ⟨w.heap.size + 1, 1, none⟩) := hdep 2 rfl
      refine Drawn.wpOp_flow 20 rfl rfl rfl ?_
      have a0 := (HA.out.below hb).a0
      have a1 := (HA.out.below hb).a1
      clear hev hdep hb
      go_simp
      exact ⟨_, rfl, rfl, Below.refl _ _⟩
    · have d1 : a.tmps[18]?.getD undef = .slice A1 b.length u1 := hdep 1 rfl
      refine Drawn.wpOp_flow 7 rfl rfl rfl ?_
      clear hev hdep hb
      go_simp
      exact ⟨_, rfl, rfl, Below.refl _ _⟩
    · have d3 : a.tmps[20]?.getD undef = .slice A2 tp.length u2 := hdep 3 rfl
      refine Drawn.wpOp_flow 8 rfl rfl rfl ?_
      clear hev hdep hb
      go_simp
      exact ⟨_, rfl, rfl, Below.refl _ _⟩
  · intro xq w1 hb hxq
    have vq0 : xq 0 = .pointer (some ⟨w.heap.size + 1, 0, none⟩) := hxq 0 (by omega)
    have vq1 : xq 1 = .slice A1 b.length u1 := hxq 1 (by omega)
    have vq2 : xq 2 = .pointer (some ⟨w.heap.size + 1, 1, none⟩) := hxq 2 (by omega)
    have vq3 : xq 3 = .slice A2 tp.length u2 := hxq 3 (by omega)
    have vq4 : xq 4 = .slice A1 b.length u1 := hxq 4 (by omega)
    have vq5 : xq 5 = .slice A2 tp.length u2 := hxq 5 (by omega)
    show Exit.then _ _ Exit.normal (Drawn.acts _ [(8, some (xq 5)), (7, some (xq 4)), (20, some (xq 3)), (19, some (xq 2)), (18, some (xq 1)), (17, some (xq 0))]) _
    rw [vq0, vq1, vq2, vq3, vq4, vq5]
    clear hxq vq0 vq1 vq2 vq3 vq4 vq5
    clear xq
    simp only [Drawn.acts]
    go_simp
    have hb1 := hb
    clear hb
    obtain ⟨c0, c1, c2, c3, c4, c5⟩ := six (HA.out.below hb1).plan
    go_at_K
    go_wp2_with fail
    refine (H0.out _).mono ?_
    rintro e w2 ⟨rfl, hb2'⟩
    have hb2 := bstep hb1 hb2'
    clear c0 c1 c2 c3 c4 c5
    clear hb1 hb2'
    obtain ⟨c0, c1, c2, c3, c4, c5⟩ := six (HA.out.below hb2).plan
    go_wp2_with fail
    refine (H3.out _).mono ?_
    rintro e w3 ⟨rfl, hbx⟩
    have hb3 := bstep hb2 hbx
    clear c0 c1 c2 c3 c4 c5
    clear hb2 hbx
    obtain ⟨c0, c1, c2, c3, c4, c5⟩ := six (HA.out.below hb3).plan
    go_wp2_with fail
    refine (H9.out _).mono ?_
    rintro e w4 ⟨rfl, hbx⟩
    have hb4 := bstep hb3 hbx
    clear c0 c1 c2 c3 c4 c5
    clear hb3 hbx
    obtain ⟨c0, c1, c2, c3, c4, c5⟩ := six (HA.out.below hb4).plan
    go_wp2_with fail
    refine (H7.out _ (B3.out.below hb4)).mono ?_
    rintro e w5 ⟨X, d, rfl, _, _, hX, hbx, _⟩
    rw [HPL.out]
    have HX := Lib.hid hX
    have hb5 := bstep hb4 hbx
    clear c0 c1 c2 c3 c4 c5
    clear hb4 hbx hX
    obtain ⟨c0, c1, c2, c3, c4, c5⟩ := six (HA.out.below hb5).plan
    go_wp2_with fail
    refine (H8.out X d _ HX.out).mono ?_
    rintro e w6 ⟨rfl, hbx⟩
    have hb6 := bstep hb5 (bquiet hbx)
    clear c0 c1 c2 c3 c4 c5
    clear hb5 hbx HX
    obtain ⟨c0, c1, c2, c3, c4, c5⟩ := six (HA.out.below hb6).plan
    go_wp2_with fail
    refine (Gf.new_any w6).mono ?_
    rintro e w7 ⟨rfl, ht, hbx, _⟩
    have hb7 := bstep hb6 hbx
    clear c0 c1 c2 c3 c4 c5
    clear hb6 hbx
    generalize w6.heap.size = bf at *
    have HT := Lib.hid ht
    clear ht
    obtain ⟨c0, c1, c2, c3, c4, c5⟩ := six (HA.out.below hb7).plan
    go_wp2_with fail
    refine (HD.out bf w7 HT.out (B1.out.below hb7) (B2.out.below hb7)).mono ?_
    rintro e w8 ⟨X, dX, rfl, _, _, hX, hbx, _⟩
    rw [HSHL.out]
    have hb8 := bstep hb7 hbx
    replace HT := Lib.hid (HT.out.below hbx)
    have HX := Lib.hid hX
    clear c0 c1 c2 c3 c4 c5
    clear hb7 hbx hX
    obtain ⟨c0, c1, c2, c3, c4, c5⟩ := six (HA.out.below hb8).plan
    go_wp2
    clear c0 c1 c2 c3 c4 c5
    replace HA := Lib.hid (HA.out.below hb8)
    replace B1 := Lib.hid (B1.out.below hb8)
    replace B3 := Lib.hid (B3.out.below hb8)
    replace HB0 := Lib.hid (bstep HB0.out hb8)
    clear hb8
    go_loopw [12, 85] (fun v i wr => ∃ (k : Nat) (v0 : Value), k ≤ who.length ∧ i = .int .i64 k ∧ v0 = v ∧ OwnM wr w8.heap.size v0 (gath q b tp (who.take k)) ∧ (∀ j, (hj : j < who.length) → j < k → q.is who[j] = true) ∧ Below w8.heap.size w8 wr) (fun _ i _ => who.length - (intOf i).toNat)
    case atStart => exact ⟨0, _, Nat.zero_le _, rfl, rfl, by rw [HG0.out]; exact OwnM.nil _ _, fun j _ h => by omega, Below.refl _ _⟩
    case round =>
      obtain ⟨k, v, hk, rfl, hvv, hown, hall, hbr⟩ := hrel
      subst hvv
      rename World => wr
      have HO := Lib.hid hown; have HL := Lib.hid hall
      clear hown hall
      by_cases hlt : k < who.length
      · obtain ⟨wb, wo, rfl, e1⟩ := (B3.out.below hbr).at hlt
        have hsn := HSN.out k hlt
        have HNX : Hid (q.is who[k] = true → ∀ j, (hj : j < who.length) → j < k + 1 → q.is who[j] = true) := Lib.hid fun h j hj hjk => by
          by_cases e : j = k
          · subst e; exact h
          · exact HL.out j hj (by omega)
        have hwi := hi who[k] (List.getElem_mem hlt)
        unfold In64 at hwi
        generalize who[k] = x at *
        have HS := Lib.hid hsn
        clear hsn
        obtain ⟨c0, c1, c2, c3, c4, c5⟩ := six (HA.out.below hbr).plan
        have C := HI.out x wr
        rcases his : q.is x with _ | _
        · rw [his] at C
          clear his HNX
          go_wp2_with fail
          refine C.mono ?_
          clear C
          rintro e wx ⟨rfl, hbx⟩
          have hb9 := bstep hbr hbx
          clear c0 c1 c2 c3 c4 c5
          clear hbx
          go_wp2_with fail
          refine (alive_any _).mono ?_
          rintro e wz ⟨rfl, hbz⟩
          go_wp2
          go_ret
          exact ⟨rfl, bstep HB0.out (bstep hb9 hbz)⟩
        · obtain ⟨hx1, hx2⟩ := HIS.out x his
          have HX1 := Lib.hid (HNX.out his)
          rw [his] at C
          obtain ⟨j, hj⟩ : ∃ j : Nat, x - 1 = j := ⟨(x - 1).toNat, by omega⟩
          have hjm : j < m := by omega
          have hjs : j < sh.length := by rw [HSHL.out]; exact hjm
          obtain ⟨xb, xo, B, d, hXe, f1, g1, g2, hB⟩ := HX.out.row hjs
          subst hXe
          have hrw := HROW.out j hjs
          rw [show (j : Int) + 1 = x by omega] at hrw
          rw [hrw] at f1 g1 hB
          have i2 : IntKind.i64.wrap (x - 1) = (j : Int) := by rw [hj]; exact IntWalk.i64_in _ (by omega)
          have hb8s := hbr.size
          have F1 := Lib.hid ((hbr.cell (p := ⟨xb, xo + j, none⟩) (cell_lt f1)).trans f1)
          have FL := Lib.hid (fun h0 a e => hB.lt h0 a e)
          have HB := Lib.hid (hB.below hbr)
          have hsx := HSL.out x
          generalize sx x = r at *
          have hgk := HGL.out k (by omega)
          have HGK := Lib.hid hgk
          clear his HNX hrw hj hB f1 hgk hwi hx1 hx2
          go_wp2_with fail
          refine C.mono ?_
          clear C
          rintro e wx ⟨rfl, hbx⟩
          have f1 := (hbx.cell (p := ⟨xb, xo + j, none⟩) (cell_lt F1.out)).trans F1.out
          have hbr2 := hbr.trans (hbx.mono hbr.size)
          have hz2 := hbr2.size
          replace HO := Lib.hid (HO.out.below hbx)
          replace HB := Lib.hid (HB.out.below hbx)
          clear c0 c1 c2 c3 c4 c5
          clear hbx
          go_wp2_with (at_builtin; refine wpList_append_row rfl _ _ rfl w8.heap.size _ (gath q b tp (who.take k)) rfl (HO.out.alloc _) wx.heap.size 1 r B d rfl (by simp) g1 g2 (HB.out.alloc _) (fun h0 a e e' => by have h1 := (HO.out.ownlt _ e').1; have h2 := FL.out h0 a e; omega) (by have := HGK.out; omega) (by simp; omega) ?_; intro v' w9 hown1 hb9)
          go_roundw
          case rel => exact ⟨k + 1, v', by omega, by go_num, rfl, by rw [HS.out]; exact hown1, HX1.out, hbr2.trans (((Below.refl _ _).alloc hz2 _).trans hb9)⟩
          case measure => simp [intOf] <;> omega
      · obtain rfl : k = who.length := by omega
        have hall := HL.out
        obtain ⟨r1, r2, r3⟩ := HBK.out fun i hi => hall i hi hi
        have ho := HO.out
        rw [HGA.out] at ho
        obtain ⟨Z, dz, hv, hz1, hz2, hZ, _⟩ := ho.rows
        rw [HHG.out] at hv hz1
        subst hv
        have HZ := Lib.hid hZ
        have C1 := HKB.out bf Z dz wr (HT.out.below hbr) (B3.out.below hbr) HZ.out hz1 hz2
        have C2 := fun V hb => HKA.out bf Z dz V ((HT.out.below hbr).below hb) ((B3.out.below hbr).below hb) (HZ.out.below hb) hz1 hz2
        rw [r1, r2] at C1
        rw [r3] at C2
        have HC2 := Lib.hid C2
        obtain ⟨c0, c1, c2, c3, c4, c5⟩ := six (HA.out.below hbr).plan
        clear hall r1 r2 r3 ho hZ hz1 hz2 C2
        go_wp2_with fail
        refine C1.mono ?_
        clear C1
        rintro e wx ⟨Y, dy, rfl, _, _, hY, hbx, _⟩
        have HY := Lib.hid hY
        clear c0 c1 c2 c3 c4 c5
        clear hY
        go_wp2_with fail
        have C := R01.same_any Y A1 b b dy u1 wx HY.out ((B1.out.below hbr).below hbx) HML.out HML.out
        rw [same_self] at C
        refine C.mono ?_
        clear C
        rintro e wy ⟨rfl, hq⟩
        have hby := bstep hbx (bquiet hq)
        clear hq hbx
        obtain ⟨c0, c1, c2, c3, c4, c5⟩ := six (HA.out.below (bstep hbr hby)).plan
        go_wp2_with fail
        refine (HC2.out wy hby).mono ?_
        rintro e wu ⟨rfl, hbu⟩
        clear c0 c1 c2 c3 c4 c5
        go_wp2_with fail
        refine (alive_any _).mono ?_
        rintro e wz ⟨rfl, hbz⟩
        go_wp2
        go_ret
        exact ⟨rfl, bstep HB0.out (bstep hbr (bstep hby (bstep hbu hbz)))⟩

theorem back_law (q : P) (A1 : Option Addr) (b : List UInt8) (u1 : Nat) (A2 : Option Addr) (tp : List UInt8) (u2 : Nat) (A3 : Option Addr) (who : List Int) (u3 : Nat) (w : World) (hp : q.In) (h1 : BytesAt w A1 b) (k1 : b.length ≤ u1) (z1 : u1 ≤ maxLen) (h2 : BytesAt w A2 tp) (k2 : tp.length ≤ u2) (z2 : u2 ≤ maxLen) (h3 : IntsAt w A3 who) (k3 : who.length ≤ u3) (z3 : u3 ≤ maxLen) (hi : ∀ x ∈ who, In64 x) :
    Calls Try.prog 4 #[q.val, .agg #[.slice A1 b.length u1, .slice A2 tp.length u2], .slice A3 who.length u3] w fun e w' => e = .returned (.bool true) ∧ Below w.heap.size w w' := by
  obtain ⟨N, T, L, W, S, R⟩ := q
  by_cases hl : N ≤ 12 ∧ L ≤ 12 ∧ T ≤ 12
  · rcases hr : (⟨N, T, L, W, S, R⟩ : P).right with _ | _
    · exact back_arg N T L W S R A1 A2 A3 b tp who u1 u2 u3 w hp hl hr
    · by_cases hf : 240 < b.length
      · exact back_long N T L W S R A1 A2 A3 b tp who u1 u2 u3 w hp hl hr hf
      · by_cases hc : (tp.length : Int) < cost ⟨N, T, L, W, S, R⟩ b.length
        · exact back_short N T L W S R A1 A2 A3 b tp who u1 u2 u3 w hp hl hr (by omega) hc
        · by_cases hm : 14 < who.length
          · exact back_many N T L W S R A1 A2 A3 b tp who u1 u2 u3 w hp hl hr (by omega) (by omega) hm
          · by_cases hw : (who.length : Int) < T + L
            · exact back_few N T L W S R A1 A2 A3 b tp who u1 u2 u3 w hp hl hr (by omega) (by omega) (by omega) hw
            · rcases hu : unl (points who) with _ | _
              · exact back_twice N T L W S R A1 A2 A3 b tp who u1 u2 u3 w hp h3 hl hr (by omega) (by omega) (by omega) (by omega) hu
              · exact back_main N T L W S R A1 A2 A3 b tp who u1 u2 u3 w hp h1 k1 z1 h2 k2 z2 h3 k3 z3 hi hl hr (by omega) (by omega) (by omega) (by omega) hu
  · exact back_heavy N T L W S R A1 A2 A3 b tp who u1 u2 u3 w hp hl

end Go.Proofs.Ytcnhfbahnbnnlaa.Law11
