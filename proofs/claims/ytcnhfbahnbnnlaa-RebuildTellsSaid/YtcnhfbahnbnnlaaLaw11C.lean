/- the walk of RebuildTells -/
import Derived.Test.YtcnhfbahnbnnlaaLaw11
import Derived.Test.YtcnhfbahnbnnlaaFlow
import Derived.Test.YtcnhfbahnbnnlaaMO
import Derived.Test.YtcnhfbahnbnnlaaTells
import Derived.Test.YtcnhfbahnbnnlaaMB
set_option maxRecDepth 100000
namespace Go.Proofs.Ytcnhfbahnbnnlaa.Law11
open Go.RowKit PlanM StripeM LagrM DealM RebM Law08 R11

structure LiesT (w : World) (g : Nat) (N T L W S R : Int) (p0 p1 t0 t1 t2 : Value) : Prop where
  plan : PlanLies w g N T L W S R
  a0 : w.cell? ⟨g + 1, 0, none⟩ = some p0
  a1 : w.cell? ⟨g + 1, 1, none⟩ = some p1
  t0 : w.cell? ⟨g + 1 + 1, 0, none⟩ = some t0
  t1 : w.cell? ⟨g + 1 + 1, 1, none⟩ = some t1
  t2 : w.cell? ⟨g + 1 + 1, 2, none⟩ = some t2
theorem LiesT.below {w w' : World} {g : Nat} {N T L W S R : Int} {p0 p1 t0 t1 t2 : Value} (h : LiesT w g N T L W S R p0 p1 t0 t1 t2) (hb : Below w.heap.size w w') : LiesT w' g N T L W S R p0 p1 t0 t1 t2 :=
  ⟨h.plan.below hb, (hb.cell (p := ⟨g + 1, 0, none⟩) (cell_lt h.a0)).trans h.a0, (hb.cell (p := ⟨g + 1, 1, none⟩) (cell_lt h.a1)).trans h.a1, (hb.cell (p := ⟨g + 1 + 1, 0, none⟩) (cell_lt h.t0)).trans h.t0, (hb.cell (p := ⟨g + 1 + 1, 1, none⟩) (cell_lt h.t1)).trans h.t1, (hb.cell (p := ⟨g + 1 + 1, 2, none⟩) (cell_lt h.t2)).trans h.t2⟩
theorem liesT_aux (w : World) (g : Nat) (hg : w.heap.size = g + 1) (N T L W S R : Int) (p0 p1 t0 t1 t2 : Value) (t t' : TypeId) (h : PlanLies w g N T L W S R) : LiesT ((w.alloc (.cells #[p0, p1] t)).alloc (.cells #[t0, t1, t2] t')) g N T L W S R p0 p1 t0 t1 t2 := by
  have a0 : (w.alloc (.cells #[p0, p1] t)).cell? ⟨w.heap.size, 0, none⟩ = some p0 := by simp
  have a1 : (w.alloc (.cells #[p0, p1] t)).cell? ⟨w.heap.size, 1, none⟩ = some p1 := by simp
  have hz : (w.alloc (.cells #[p0, p1] t)).heap.size = g + 1 + 1 := by simp [hg]
  have hl := h.below (balloc w (.cells #[p0, p1] t))
  rw [hg] at a0 a1
  generalize w.alloc (.cells #[p0, p1] t) = w1 at *
  have e0 : (w1.alloc (.cells #[t0, t1, t2] t')).cell? ⟨w1.heap.size, 0, none⟩ = some t0 := by simp
  have e1 : (w1.alloc (.cells #[t0, t1, t2] t')).cell? ⟨w1.heap.size, 1, none⟩ = some t1 := by simp
  have e2 : (w1.alloc (.cells #[t0, t1, t2] t')).cell? ⟨w1.heap.size, 2, none⟩ = some t2 := by simp
  rw [hz] at e0 e1 e2
  have hb := balloc w1 (.cells #[t0, t1, t2] t')
  exact ⟨hl.below hb, (hb.cell (p := ⟨g + 1, 0, none⟩) (cell_lt a0)).trans a0, (hb.cell (p := ⟨g + 1, 1, none⟩) (cell_lt a1)).trans a1, e0, e1, e2⟩
theorem LiesT.new (w : World) (N T L W S R : Int) (p0 p1 t0 t1 t2 : Value) (t t' : TypeId) : LiesT (((w.alloc (.cells #[.int .i64 N, .int .i64 T, .int .i64 L, .int .i64 W, .int .i64 S, .int .i64 R] 23)).alloc (.cells #[p0, p1] t)).alloc (.cells #[t0, t1, t2] t')) w.heap.size N T L W S R p0 p1 t0 t1 t2 :=
  liesT_aux (w.alloc (.cells #[.int .i64 N, .int .i64 T, .int .i64 L, .int .i64 W, .int .i64 S, .int .i64 R] 23)) w.heap.size (by simp) N T L W S R p0 p1 t0 t1 t2 t t' (PlanLies.new w N T L W S R)

set_option maxHeartbeats 2000000 in
theorem tells_heavy (N T L W S R : Int) (A1 A2 : Option Addr) (b tp : List UInt8) (u1 u2 : Nat) (x0 x1 x2 : UInt8) (w : World) (hp : (⟨N, T, L, W, S, R⟩ : P).In) (hl : ¬ (N ≤ 12 ∧ L ≤ 12 ∧ T ≤ 12)) :
    Calls Try.prog 5 #[.agg #[.int .i64 N, .int .i64 T, .int .i64 L, .int .i64 W, .int .i64 S, .int .i64 R], .agg #[.slice A1 b.length u1, .slice A2 tp.length u2], .agg #[.int .u8 (x0.toNat : Nat), .int .u8 (x1.toNat : Nat), .int .u8 (x2.toNat : Nat)]] w fun e w' => e = .returned (.bool true) ∧ Below w.heap.size w w' := by
  have K0 := fun w => Law10.light_any N T L W S R w
  rw [decide_eq_false hl] at K0
  have H0 := Lib.hid K0
  clear K0 hl
  have HA := Lib.hid (LiesT.new w N T L W S R (.slice A1 b.length u1) (.slice A2 tp.length u2) (.int .u8 (x0.toNat : Nat)) (.int .u8 (x1.toNat : Nat)) (.int .u8 (x2.toNat : Nat)) 42 50)
  have HB0 := Lib.hid (show Below w.heap.size w (((w.alloc (.cells #[.int .i64 N, .int .i64 T, .int .i64 L, .int .i64 W, .int .i64 S, .int .i64 R] 23)).alloc (.cells #[.slice A1 b.length u1, .slice A2 tp.length u2] 42)).alloc (.cells #[.int .u8 (x0.toNat : Nat), .int .u8 (x1.toNat : Nat), .int .u8 (x2.toNat : Nat)] 50)) from bstep (bstep (balloc _ _) (balloc _ _)) (balloc _ _))
  go_enter Try.func5, Try.ntmps5
  go_wp2_with fail
  generalize ((w.alloc (.cells #[.int .i64 N, .int .i64 T, .int .i64 L, .int .i64 W, .int .i64 S, .int .i64 R] 23)).alloc (.cells #[.slice A1 b.length u1, .slice A2 tp.length u2] 42)).alloc (.cells #[.int .u8 (x0.toNat : Nat), .int .u8 (x1.toNat : Nat), .int .u8 (x2.toNat : Nat)] 50) = w0 at *
  refine Drawn.wp_region_flowL 6 [Drawn.SP.is (.pointer (some ⟨w.heap.size + 1, 0, none⟩)), Drawn.SP.is (.slice A1 b.length u1), Drawn.SP.is (.pointer (some ⟨w.heap.size + 1, 1, none⟩)), Drawn.SP.is (.slice A2 tp.length u2), Drawn.SP.is (.slice A1 b.length u1), Drawn.SP.is (.slice A2 tp.length u2)] (by kernel_rfl) (by kernel_rfl) ?_ ?_
  · intro i hi a w1 hb hev hdep
    rcases (show i = 0 ∨ i = 1 ∨ i = 2 ∨ i = 3 ∨ i = 4 ∨ i = 5 by omega) with rfl | rfl | rfl | rfl | rfl | rfl
    · have e4 : a.tmps[4]?.getD undef = .pointer (some ⟨w.heap.size + 1, 0, none⟩) := hev 4 rfl
      refine Drawn.wpOp_flow 14 rfl rfl rfl ?_
      clear hev hdep hb
      go_simp
      exact ⟨_, rfl, rfl, Below.refl _ _⟩
    · have d0 : a.tmps[14]?.getD undef = .pointer (some ⟨w.heap.size + 1, 0, none⟩) := hdep 0 rfl
      refine Drawn.wpOp_flow 15 rfl rfl rfl ?_
      have a0 := (HA.out.below hb).a0
      have a1 := (HA.out.below hb).a1
      clear hev hdep hb
      go_simp
      exact ⟨_, rfl, rfl, Below.refl _ _⟩
    · have e4 : a.tmps[4]?.getD undef = .pointer (some ⟨w.heap.size + 1, 0, none⟩) := hev 4 rfl
      refine Drawn.wpOp_flow 16 rfl rfl rfl ?_
      clear hev hdep hb
      go_simp
      exact ⟨_, rfl, rfl, Below.refl _ _⟩
    · have d2 : a.tmps[16]?.getD undef = .pointer (some ⟨w.heap.size + 1, 1, none⟩) := hdep 2 rfl
      refine Drawn.wpOp_flow 17 rfl rfl rfl ?_
      have a0 := (HA.out.below hb).a0
      have a1 := (HA.out.below hb).a1
      clear hev hdep hb
      go_simp
      exact ⟨_, rfl, rfl, Below.refl _ _⟩
    · have d1 : a.tmps[15]?.getD undef = .slice A1 b.length u1 := hdep 1 rfl
      refine Drawn.wpOp_flow 7 rfl rfl rfl ?_
      clear hev hdep hb
      go_simp
      exact ⟨_, rfl, rfl, Below.refl _ _⟩
    · have d3 : a.tmps[17]?.getD undef = .slice A2 tp.length u2 := hdep 3 rfl
      refine Drawn.wpOp_flow 8 rfl rfl rfl ?_
      clear hev hdep hb
      go_simp
      exact ⟨_, rfl, rfl, Below.refl _ _⟩
  · intro xq w1 hb hxq
    have vq0 : xq 0 = .pointer (some ⟨w.heap.size + 1, 0, none⟩) := hxq 0 (by omega)
    have vq1 : xq 1 = .slice A1 b.length u1 := hxq 1 (by omega)
    have vq2 : xq 2 = .pointer (some ⟨w.heap.size + 1, 1, none⟩) := hxq 2 (by omega)
    have vq3 : xq 3 = .slice A2 tp.length u2 := hxq 3 (by omega)
    have vq4 : xq 4 = .slice A1 b.length u1 := hxq 4 (by omega)
    have vq5 : xq 5 = .slice A2 tp.length u2 := hxq 5 (by omega)
    show Exit.then _ _ Exit.normal (Drawn.acts _ [(8, some (xq 5)), (7, some (xq 4)), (17, some (xq 3)), (16, some (xq 2)), (15, some (xq 1)), (14, some (xq 0))]) _
    rw [vq0, vq1, vq2, vq3, vq4, vq5]
    clear hxq vq0 vq1 vq2 vq3 vq4 vq5
    clear xq
    simp only [Drawn.acts]
    go_simp
    have hb1 := hb
    clear hb
    obtain ⟨c0, c1, c2, c3, c4, c5⟩ := six (HA.out.below hb1).plan
    have e0 := (HA.out.below hb1).t0
    have e1 := (HA.out.below hb1).t1
    have e2 := (HA.out.below hb1).t2
    go_at_K
    go_wp2_with fail
    refine (H0.out _).mono ?_
    rintro e w2 ⟨rfl, hb2'⟩
    have hb2 := bstep hb1 hb2'
    clear c0 c1 c2 c3 c4 c5 e0 e1 e2
    clear hb1 hb2'
    obtain ⟨c0, c1, c2, c3, c4, c5⟩ := six (HA.out.below hb2).plan
    have e0 := (HA.out.below hb2).t0
    have e1 := (HA.out.below hb2).t1
    have e2 := (HA.out.below hb2).t2
    go_wp2_with fail
    refine (alive_any _).mono ?_
    rintro e wz ⟨rfl, hbz⟩
    clear c0 c1 c2 c3 c4 c5 e0 e1 e2
    go_wp2
    go_ret
    exact ⟨rfl, bstep HB0.out (bstep hb2 hbz)⟩

set_option maxHeartbeats 2000000 in
theorem tells_arg (N T L W S R : Int) (A1 A2 : Option Addr) (b tp : List UInt8) (u1 u2 : Nat) (x0 x1 x2 : UInt8) (w : World) (hp : (⟨N, T, L, W, S, R⟩ : P).In) (hl : N ≤ 12 ∧ L ≤ 12 ∧ T ≤ 12) (hr : (⟨N, T, L, W, S, R⟩ : P).right = false) :
    Calls Try.prog 5 #[.agg #[.int .i64 N, .int .i64 T, .int .i64 L, .int .i64 W, .int .i64 S, .int .i64 R], .agg #[.slice A1 b.length u1, .slice A2 tp.length u2], .agg #[.int .u8 (x0.toNat : Nat), .int .u8 (x1.toNat : Nat), .int .u8 (x2.toNat : Nat)]] w fun e w' => e = .returned (.bool true) ∧ Below w.heap.size w w' := by
  have K0 := fun w => Law10.light_any N T L W S R w
  rw [decide_eq_true hl] at K0
  have H0 := Lib.hid K0
  clear K0 hl
  obtain ⟨q, hq⟩ : ∃ q : P, q = ⟨N, T, L, W, S, R⟩ := ⟨_, rfl⟩
  have hpq := hp
  rw [← hq] at hpq
  have hv : q.val = .agg #[.int .i64 N, .int .i64 T, .int .i64 L, .int .i64 W, .int .i64 S, .int .i64 R] := by rw [hq]; rfl
  have K3 := fun w => R08.right_any q w hpq
  rw [hq, hr, ← hq, hv] at K3
  have H3 := Lib.hid K3
  clear K3
  clear hq hr hp hpq hv
  have HA := Lib.hid (LiesT.new w N T L W S R (.slice A1 b.length u1) (.slice A2 tp.length u2) (.int .u8 (x0.toNat : Nat)) (.int .u8 (x1.toNat : Nat)) (.int .u8 (x2.toNat : Nat)) 42 50)
  have HB0 := Lib.hid (show Below w.heap.size w (((w.alloc (.cells #[.int .i64 N, .int .i64 T, .int .i64 L, .int .i64 W, .int .i64 S, .int .i64 R] 23)).alloc (.cells #[.slice A1 b.length u1, .slice A2 tp.length u2] 42)).alloc (.cells #[.int .u8 (x0.toNat : Nat), .int .u8 (x1.toNat : Nat), .int .u8 (x2.toNat : Nat)] 50)) from bstep (bstep (balloc _ _) (balloc _ _)) (balloc _ _))
  go_enter Try.func5, Try.ntmps5
  go_wp2_with fail
  generalize ((w.alloc (.cells #[.int .i64 N, .int .i64 T, .int .i64 L, .int .i64 W, .int .i64 S, .int .i64 R] 23)).alloc (.cells #[.slice A1 b.length u1, .slice A2 tp.length u2] 42)).alloc (.cells #[.int .u8 (x0.toNat : Nat), .int .u8 (x1.toNat : Nat), .int .u8 (x2.toNat : Nat)] 50) = w0 at *
  refine Drawn.wp_region_flowL 6 [Drawn.SP.is (.pointer (some ⟨w.heap.size + 1, 0, none⟩)), Drawn.SP.is (.slice A1 b.length u1), Drawn.SP.is (.pointer (some ⟨w.heap.size + 1, 1, none⟩)), Drawn.SP.is (.slice A2 tp.length u2), Drawn.SP.is (.slice A1 b.length u1), Drawn.SP.is (.slice A2 tp.length u2)] (by kernel_rfl) (by kernel_rfl) ?_ ?_
  · intro i hi a w1 hb hev hdep
    rcases (show i = 0 ∨ i = 1 ∨ i = 2 ∨ i = 3 ∨ i = 4 ∨ i = 5 by omega) with rfl | rfl | rfl | rfl | rfl | rfl
    · have e4 : a.tmps[4]?.getD undef = .pointer (some ⟨w.heap.size + 1, 0, none⟩) := hev 4 rfl
      refine Drawn.wpOp_flow 14 rfl rfl rfl ?_
      clear hev hdep hb
      go_simp
      exact ⟨_, rfl, rfl, Below.refl _ _⟩
    · have d0 : a.tmps[14]?.getD undef = .pointer (some ⟨w.heap.size + 1, 0, none⟩) := hdep 0 rfl
      refine Drawn.wpOp_flow 15 rfl rfl rfl ?_
      have a0 := (HA.out.below hb).a0
      have a1 := (HA.out.below hb).a1
      clear hev hdep hb
      go_simp
      exact ⟨_, rfl, rfl, Below.refl _ _⟩
    · have e4 : a.tmps[4]?.getD undef = .pointer (some ⟨w.heap.size + 1, 0, none⟩) := hev 4 rfl
      refine Drawn.wpOp_flow 16 rfl rfl rfl ?_
      clear hev hdep hb
      go_simp
      exact ⟨_, rfl, rfl, Below.refl _ _⟩
    · have d2 : a.tmps[16]?.getD undef = .pointer (some ⟨w.heap.size + 1, 1, none⟩) := hdep 2 rfl
      refine Drawn.wpOp_flow 17 rfl rfl rfl ?_
      have a0 := (HA.out.below hb).a0
      have a1 := (HA.out.below hb).a1
      clear hev hdep hb
      go_simp
      exact ⟨_, rfl, rfl, Below.refl _ _⟩
    · have d1 : a.tmps[15]?.getD undef = .slice A1 b.length u1 := hdep 1 rfl
      refine Drawn.wpOp_flow 7 rfl rfl rfl ?_
      clear hev hdep hb
      go_simp
      exact ⟨_, rfl, rfl, Below.refl _ _⟩
    · have d3 : a.tmps[17]?.getD undef = .slice A2 tp.length u2 := hdep 3 rfl
      refine Drawn.wpOp_flow 8 rfl rfl rfl ?_
      clear hev hdep hb
      go_simp
      exact ⟨_, rfl, rfl, Below.refl _ _⟩
  · intro xq w1 hb hxq
    have vq0 : xq 0 = .pointer (some ⟨w.heap.size + 1, 0, none⟩) := hxq 0 (by omega)
    have vq1 : xq 1 = .slice A1 b.length u1 := hxq 1 (by omega)
    have vq2 : xq 2 = .pointer (some ⟨w.heap.size + 1, 1, none⟩) := hxq 2 (by omega)
    have vq3 : xq 3 = .slice A2 tp.length u2 := hxq 3 (by omega)
    have vq4 : xq 4 = .slice A1 b.length u1 := hxq 4 (by omega)
    have vq5 : xq 5 = .slice A2 tp.length u2 := hxq 5 (by omega)
    show Exit.then _ _ Exit.normal (Drawn.acts _ [(8, some (xq 5)), (7, some (xq 4)), (17, some (xq 3)), (16, some (xq 2)), (15, some (xq 1)), (14, some (xq 0))]) _
    rw [vq0, vq1, vq2, vq3, vq4, vq5]
    clear hxq vq0 vq1 vq2 vq3 vq4 vq5
    clear xq
    simp only [Drawn.acts]
    go_simp
    have hb1 := hb
    clear hb
    obtain ⟨c0, c1, c2, c3, c4, c5⟩ := six (HA.out.below hb1).plan
    have e0 := (HA.out.below hb1).t0
    have e1 := (HA.out.below hb1).t1
    have e2 := (HA.out.below hb1).t2
    go_at_K
    go_wp2_with fail
    refine (H0.out _).mono ?_
    rintro e w2 ⟨rfl, hb2'⟩
    have hb2 := bstep hb1 hb2'
    clear c0 c1 c2 c3 c4 c5 e0 e1 e2
    clear hb1 hb2'
    obtain ⟨c0, c1, c2, c3, c4, c5⟩ := six (HA.out.below hb2).plan
    have e0 := (HA.out.below hb2).t0
    have e1 := (HA.out.below hb2).t1
    have e2 := (HA.out.below hb2).t2
    go_wp2_with fail
    refine (H3.out _).mono ?_
    rintro e w3 ⟨rfl, hbx⟩
    have hb3 := bstep hb2 hbx
    clear c0 c1 c2 c3 c4 c5 e0 e1 e2
    clear hb2 hbx
    obtain ⟨c0, c1, c2, c3, c4, c5⟩ := six (HA.out.below hb3).plan
    have e0 := (HA.out.below hb3).t0
    have e1 := (HA.out.below hb3).t1
    have e2 := (HA.out.below hb3).t2
    go_wp2_with fail
    refine (alive_any _).mono ?_
    rintro e wz ⟨rfl, hbz⟩
    clear c0 c1 c2 c3 c4 c5 e0 e1 e2
    go_wp2
    go_ret
    exact ⟨rfl, bstep HB0.out (bstep hb3 hbz)⟩

set_option maxHeartbeats 2000000 in
theorem tells_long (N T L W S R : Int) (A1 A2 : Option Addr) (b tp : List UInt8) (u1 u2 : Nat) (x0 x1 x2 : UInt8) (w : World) (hp : (⟨N, T, L, W, S, R⟩ : P).In) (hl : N ≤ 12 ∧ L ≤ 12 ∧ T ≤ 12) (hr : (⟨N, T, L, W, S, R⟩ : P).right = true) (hf : 60 < b.length) :
    Calls Try.prog 5 #[.agg #[.int .i64 N, .int .i64 T, .int .i64 L, .int .i64 W, .int .i64 S, .int .i64 R], .agg #[.slice A1 b.length u1, .slice A2 tp.length u2], .agg #[.int .u8 (x0.toNat : Nat), .int .u8 (x1.toNat : Nat), .int .u8 (x2.toNat : Nat)]] w fun e w' => e = .returned (.bool true) ∧ Below w.heap.size w w' := by
  have K0 := fun w => Law10.light_any N T L W S R w
  rw [decide_eq_true hl] at K0
  have H0 := Lib.hid K0
  clear K0 hl
  obtain ⟨q, hq⟩ : ∃ q : P, q = ⟨N, T, L, W, S, R⟩ := ⟨_, rfl⟩
  have hpq := hp
  rw [← hq] at hpq
  have hv : q.val = .agg #[.int .i64 N, .int .i64 T, .int .i64 L, .int .i64 W, .int .i64 S, .int .i64 R] := by rw [hq]; rfl
  have K3 := fun w => R08.right_any q w hpq
  rw [hq, hr, ← hq, hv] at K3
  have H3 := Lib.hid K3
  clear K3
  clear hq hr hp hpq hv
  have HA := Lib.hid (LiesT.new w N T L W S R (.slice A1 b.length u1) (.slice A2 tp.length u2) (.int .u8 (x0.toNat : Nat)) (.int .u8 (x1.toNat : Nat)) (.int .u8 (x2.toNat : Nat)) 42 50)
  have HB0 := Lib.hid (show Below w.heap.size w (((w.alloc (.cells #[.int .i64 N, .int .i64 T, .int .i64 L, .int .i64 W, .int .i64 S, .int .i64 R] 23)).alloc (.cells #[.slice A1 b.length u1, .slice A2 tp.length u2] 42)).alloc (.cells #[.int .u8 (x0.toNat : Nat), .int .u8 (x1.toNat : Nat), .int .u8 (x2.toNat : Nat)] 50)) from bstep (bstep (balloc _ _) (balloc _ _)) (balloc _ _))
  go_enter Try.func5, Try.ntmps5
  go_wp2_with fail
  generalize ((w.alloc (.cells #[.int .i64 N, .int .i64 T, .int .i64 L, .int .i64 W, .int .i64 S, .int .i64 R] 23)).alloc (.cells #[.slice A1 b.length u1, .slice A2 tp.length u2] 42)).alloc (.cells #[.int .u8 (x0.toNat : Nat), .int .u8 (x1.toNat : Nat), .int .u8 (x2.toNat : Nat)] 50) = w0 at *
  refine Drawn.wp_region_flowL 6 [Drawn.SP.is (.pointer (some ⟨w.heap.size + 1, 0, none⟩)), Drawn.SP.is (.slice A1 b.length u1), Drawn.SP.is (.pointer (some ⟨w.heap.size + 1, 1, none⟩)), Drawn.SP.is (.slice A2 tp.length u2), Drawn.SP.is (.slice A1 b.length u1), Drawn.SP.is (.slice A2 tp.length u2)] (by kernel_rfl) (by kernel_rfl) ?_ ?_
  · intro i hi a w1 hb hev hdep
    rcases (show i = 0 ∨ i = 1 ∨ i = 2 ∨ i = 3 ∨ i = 4 ∨ i = 5 by omega) with rfl | rfl | rfl | rfl | rfl | rfl
    · have e4 : a.tmps[4]?.getD undef = .pointer (some ⟨w.heap.size + 1, 0, none⟩) := hev 4 rfl
      refine Drawn.wpOp_flow 14 rfl rfl rfl ?_
      clear hev hdep hb
      go_simp
      exact ⟨_, rfl, rfl, Below.refl _ _⟩
    · have d0 : a.tmps[14]?.getD undef = .pointer (some ⟨w.heap.size + 1, 0, none⟩) := hdep 0 rfl
      refine Drawn.wpOp_flow 15 rfl rfl rfl ?_
      have a0 := (HA.out.below hb).a0
      have a1 := (HA.out.below hb).a1
      clear hev hdep hb
      go_simp
      exact ⟨_, rfl, rfl, Below.refl _ _⟩
    · have e4 : a.tmps[4]?.getD undef = .pointer (some ⟨w.heap.size + 1, 0, none⟩) := hev 4 rfl
      refine Drawn.wpOp_flow 16 rfl rfl rfl ?_
      clear hev hdep hb
      go_simp
      exact ⟨_, rfl, rfl, Below.refl _ _⟩
    · have d2 : a.tmps[16]?.getD undef = .pointer (some ⟨w.heap.size + 1, 1, none⟩) := hdep 2 rfl
      refine Drawn.wpOp_flow 17 rfl rfl rfl ?_
      have a0 := (HA.out.below hb).a0
      have a1 := (HA.out.below hb).a1
      clear hev hdep hb
      go_simp
      exact ⟨_, rfl, rfl, Below.refl _ _⟩
    · have d1 : a.tmps[15]?.getD undef = .slice A1 b.length u1 := hdep 1 rfl
      refine Drawn.wpOp_flow 7 rfl rfl rfl ?_
      clear hev hdep hb
      go_simp
      exact ⟨_, rfl, rfl, Below.refl _ _⟩
    · have d3 : a.tmps[17]?.getD undef = .slice A2 tp.length u2 := hdep 3 rfl
      refine Drawn.wpOp_flow 8 rfl rfl rfl ?_
      clear hev hdep hb
      go_simp
      exact ⟨_, rfl, rfl, Below.refl _ _⟩
  · intro xq w1 hb hxq
    have vq0 : xq 0 = .pointer (some ⟨w.heap.size + 1, 0, none⟩) := hxq 0 (by omega)
    have vq1 : xq 1 = .slice A1 b.length u1 := hxq 1 (by omega)
    have vq2 : xq 2 = .pointer (some ⟨w.heap.size + 1, 1, none⟩) := hxq 2 (by omega)
    have vq3 : xq 3 = .slice A2 tp.length u2 := hxq 3 (by omega)
    have vq4 : xq 4 = .slice A1 b.length u1 := hxq 4 (by omega)
    have vq5 : xq 5 = .slice A2 tp.length u2 := hxq 5 (by omega)
    show Exit.then _ _ Exit.normal (Drawn.acts _ [(8, some (xq 5)), (7, some (xq 4)), (17, some (xq 3)), (16, some (xq 2)), (15, some (xq 1)), (14, some (xq 0))]) _
    rw [vq0, vq1, vq2, vq3, vq4, vq5]
    clear hxq vq0 vq1 vq2 vq3 vq4 vq5
    clear xq
    simp only [Drawn.acts]
    go_simp
    have hb1 := hb
    clear hb
    obtain ⟨c0, c1, c2, c3, c4, c5⟩ := six (HA.out.below hb1).plan
    have e0 := (HA.out.below hb1).t0
    have e1 := (HA.out.below hb1).t1
    have e2 := (HA.out.below hb1).t2
    go_at_K
    go_wp2_with fail
    refine (H0.out _).mono ?_
    rintro e w2 ⟨rfl, hb2'⟩
    have hb2 := bstep hb1 hb2'
    clear c0 c1 c2 c3 c4 c5 e0 e1 e2
    clear hb1 hb2'
    obtain ⟨c0, c1, c2, c3, c4, c5⟩ := six (HA.out.below hb2).plan
    have e0 := (HA.out.below hb2).t0
    have e1 := (HA.out.below hb2).t1
    have e2 := (HA.out.below hb2).t2
    go_wp2_with fail
    refine (H3.out _).mono ?_
    rintro e w3 ⟨rfl, hbx⟩
    have hb3 := bstep hb2 hbx
    clear c0 c1 c2 c3 c4 c5 e0 e1 e2
    clear hb2 hbx
    obtain ⟨c0, c1, c2, c3, c4, c5⟩ := six (HA.out.below hb3).plan
    have e0 := (HA.out.below hb3).t0
    have e1 := (HA.out.below hb3).t1
    have e2 := (HA.out.below hb3).t2
    go_wp2_with fail
    refine (alive_any _).mono ?_
    rintro e wz ⟨rfl, hbz⟩
    clear c0 c1 c2 c3 c4 c5 e0 e1 e2
    go_wp2
    go_ret
    exact ⟨rfl, bstep HB0.out (bstep hb3 hbz)⟩

set_option maxHeartbeats 2000000 in
theorem tells_empty (N T L W S R : Int) (A1 A2 : Option Addr) (b tp : List UInt8) (u1 u2 : Nat) (x0 x1 x2 : UInt8) (w : World) (hp : (⟨N, T, L, W, S, R⟩ : P).In) (hl : N ≤ 12 ∧ L ≤ 12 ∧ T ≤ 12) (hr : (⟨N, T, L, W, S, R⟩ : P).right = true) (hf : b.length = 0) :
    Calls Try.prog 5 #[.agg #[.int .i64 N, .int .i64 T, .int .i64 L, .int .i64 W, .int .i64 S, .int .i64 R], .agg #[.slice A1 b.length u1, .slice A2 tp.length u2], .agg #[.int .u8 (x0.toNat : Nat), .int .u8 (x1.toNat : Nat), .int .u8 (x2.toNat : Nat)]] w fun e w' => e = .returned (.bool true) ∧ Below w.heap.size w w' := by
  have K0 := fun w => Law10.light_any N T L W S R w
  rw [decide_eq_true hl] at K0
  have H0 := Lib.hid K0
  clear K0 hl
  obtain ⟨q, hq⟩ : ∃ q : P, q = ⟨N, T, L, W, S, R⟩ := ⟨_, rfl⟩
  have hpq := hp
  rw [← hq] at hpq
  have hv : q.val = .agg #[.int .i64 N, .int .i64 T, .int .i64 L, .int .i64 W, .int .i64 S, .int .i64 R] := by rw [hq]; rfl
  have K3 := fun w => R08.right_any q w hpq
  rw [hq, hr, ← hq, hv] at K3
  have H3 := Lib.hid K3
  clear K3
  clear hq hr hp hpq hv
  have hfz : ((b.length : Int) == 0) = true := by rw [hf]; rfl
  have hf60 : b.length ≤ 60 := by omega
  clear hf
  have HA := Lib.hid (LiesT.new w N T L W S R (.slice A1 b.length u1) (.slice A2 tp.length u2) (.int .u8 (x0.toNat : Nat)) (.int .u8 (x1.toNat : Nat)) (.int .u8 (x2.toNat : Nat)) 42 50)
  have HB0 := Lib.hid (show Below w.heap.size w (((w.alloc (.cells #[.int .i64 N, .int .i64 T, .int .i64 L, .int .i64 W, .int .i64 S, .int .i64 R] 23)).alloc (.cells #[.slice A1 b.length u1, .slice A2 tp.length u2] 42)).alloc (.cells #[.int .u8 (x0.toNat : Nat), .int .u8 (x1.toNat : Nat), .int .u8 (x2.toNat : Nat)] 50)) from bstep (bstep (balloc _ _) (balloc _ _)) (balloc _ _))
  go_enter Try.func5, Try.ntmps5
  go_wp2_with fail
  generalize ((w.alloc (.cells #[.int .i64 N, .int .i64 T, .int .i64 L, .int .i64 W, .int .i64 S, .int .i64 R] 23)).alloc (.cells #[.slice A1 b.length u1, .slice A2 tp.length u2] 42)).alloc (.cells #[.int .u8 (x0.toNat : Nat), .int .u8 (x1.toNat : Nat), .int .u8 (x2.toNat : Nat)] 50) = w0 at *
  refine Drawn.wp_region_flowL 6 [Drawn.SP.is (.pointer (some ⟨w.heap.size + 1, 0, none⟩)), Drawn.SP.is (.slice A1 b.length u1), Drawn.SP.is (.pointer (some ⟨w.heap.size + 1, 1, none⟩)), Drawn.SP.is (.slice A2 tp.length u2), Drawn.SP.is (.slice A1 b.length u1), Drawn.SP.is (.slice A2 tp.length u2)] (by kernel_rfl) (by kernel_rfl) ?_ ?_
  · intro i hi a w1 hb hev hdep
    rcases (show i = 0 ∨ i = 1 ∨ i = 2 ∨ i = 3 ∨ i = 4 ∨ i = 5 by omega) with rfl | rfl | rfl | rfl | rfl | rfl
    · have e4 : a.tmps[4]?.getD undef = .pointer (some ⟨w.heap.size + 1, 0, none⟩) := hev 4 rfl
      refine Drawn.wpOp_flow 14 rfl rfl rfl ?_
      clear hev hdep hb
      go_simp
      exact ⟨_, rfl, rfl, Below.refl _ _⟩
    · have d0 : a.tmps[14]?.getD undef = .pointer (some ⟨w.heap.size + 1, 0, none⟩) := hdep 0 rfl
      refine Drawn.wpOp_flow 15 rfl rfl rfl ?_
      have a0 := (HA.out.below hb).a0
      have a1 := (HA.out.below hb).a1
      clear hev hdep hb
      go_simp
      exact ⟨_, rfl, rfl, Below.refl _ _⟩
    · have e4 : a.tmps[4]?.getD undef = .pointer (some ⟨w.heap.size + 1, 0, none⟩) := hev 4 rfl
      refine Drawn.wpOp_flow 16 rfl rfl rfl ?_
      clear hev hdep hb
      go_simp
      exact ⟨_, rfl, rfl, Below.refl _ _⟩
    · have d2 : a.tmps[16]?.getD undef = .pointer (some ⟨w.heap.size + 1, 1, none⟩) := hdep 2 rfl
      refine Drawn.wpOp_flow 17 rfl rfl rfl ?_
      have a0 := (HA.out.below hb).a0
      have a1 := (HA.out.below hb).a1
      clear hev hdep hb
      go_simp
      exact ⟨_, rfl, rfl, Below.refl _ _⟩
    · have d1 : a.tmps[15]?.getD undef = .slice A1 b.length u1 := hdep 1 rfl
      refine Drawn.wpOp_flow 7 rfl rfl rfl ?_
      clear hev hdep hb
      go_simp
      exact ⟨_, rfl, rfl, Below.refl _ _⟩
    · have d3 : a.tmps[17]?.getD undef = .slice A2 tp.length u2 := hdep 3 rfl
      refine Drawn.wpOp_flow 8 rfl rfl rfl ?_
      clear hev hdep hb
      go_simp
      exact ⟨_, rfl, rfl, Below.refl _ _⟩
  · intro xq w1 hb hxq
    have vq0 : xq 0 = .pointer (some ⟨w.heap.size + 1, 0, none⟩) := hxq 0 (by omega)
    have vq1 : xq 1 = .slice A1 b.length u1 := hxq 1 (by omega)
    have vq2 : xq 2 = .pointer (some ⟨w.heap.size + 1, 1, none⟩) := hxq 2 (by omega)
    have vq3 : xq 3 = .slice A2 tp.length u2 := hxq 3 (by omega)
    have vq4 : xq 4 = .slice A1 b.length u1 := hxq 4 (by omega)
    have vq5 : xq 5 = .slice A2 tp.length u2 := hxq 5 (by omega)
    show Exit.then _ _ Exit.normal (Drawn.acts _ [(8, some (xq 5)), (7, some (xq 4)), (17, some (xq 3)), (16, some (xq 2)), (15, some (xq 1)), (14, some (xq 0))]) _
    rw [vq0, vq1, vq2, vq3, vq4, vq5]
    clear hxq vq0 vq1 vq2 vq3 vq4 vq5
    clear xq
    simp only [Drawn.acts]
    go_simp
    have hb1 := hb
    clear hb
    obtain ⟨c0, c1, c2, c3, c4, c5⟩ := six (HA.out.below hb1).plan
    have e0 := (HA.out.below hb1).t0
    have e1 := (HA.out.below hb1).t1
    have e2 := (HA.out.below hb1).t2
    go_at_K
    go_wp2_with fail
    refine (H0.out _).mono ?_
    rintro e w2 ⟨rfl, hb2'⟩
    have hb2 := bstep hb1 hb2'
    clear c0 c1 c2 c3 c4 c5 e0 e1 e2
    clear hb1 hb2'
    obtain ⟨c0, c1, c2, c3, c4, c5⟩ := six (HA.out.below hb2).plan
    have e0 := (HA.out.below hb2).t0
    have e1 := (HA.out.below hb2).t1
    have e2 := (HA.out.below hb2).t2
    go_wp2_with fail
    refine (H3.out _).mono ?_
    rintro e w3 ⟨rfl, hbx⟩
    have hb3 := bstep hb2 hbx
    clear c0 c1 c2 c3 c4 c5 e0 e1 e2
    clear hb2 hbx
    obtain ⟨c0, c1, c2, c3, c4, c5⟩ := six (HA.out.below hb3).plan
    have e0 := (HA.out.below hb3).t0
    have e1 := (HA.out.below hb3).t1
    have e2 := (HA.out.below hb3).t2
    go_wp2_with fail
    refine (alive_any _).mono ?_
    rintro e wz ⟨rfl, hbz⟩
    clear c0 c1 c2 c3 c4 c5 e0 e1 e2
    go_wp2
    go_ret
    exact ⟨rfl, bstep HB0.out (bstep hb3 hbz)⟩

set_option maxHeartbeats 2000000 in
theorem tells_short (N T L W S R : Int) (A1 A2 : Option Addr) (b tp : List UInt8) (u1 u2 : Nat) (x0 x1 x2 : UInt8) (w : World) (hp : (⟨N, T, L, W, S, R⟩ : P).In) (hl : N ≤ 12 ∧ L ≤ 12 ∧ T ≤ 12) (hr : (⟨N, T, L, W, S, R⟩ : P).right = true) (hf : b.length ≤ 60) (hg : b.length ≠ 0) (hc : (tp.length : Int) < cost ⟨N, T, L, W, S, R⟩ b.length) :
    Calls Try.prog 5 #[.agg #[.int .i64 N, .int .i64 T, .int .i64 L, .int .i64 W, .int .i64 S, .int .i64 R], .agg #[.slice A1 b.length u1, .slice A2 tp.length u2], .agg #[.int .u8 (x0.toNat : Nat), .int .u8 (x1.toNat : Nat), .int .u8 (x2.toNat : Nat)]] w fun e w' => e = .returned (.bool true) ∧ Below w.heap.size w w' := by
  have K0 := fun w => Law10.light_any N T L W S R w
  rw [decide_eq_true hl] at K0
  have H0 := Lib.hid K0
  clear K0 hl
  obtain ⟨q, hq⟩ : ∃ q : P, q = ⟨N, T, L, W, S, R⟩ := ⟨_, rfl⟩
  have hpq := hp
  rw [← hq] at hpq
  have hv : q.val = .agg #[.int .i64 N, .int .i64 T, .int .i64 L, .int .i64 W, .int .i64 S, .int .i64 R] := by rw [hq]; rfl
  have K3 := fun w => R08.right_any q w hpq
  rw [hq, hr, ← hq, hv] at K3
  have H3 := Lib.hid K3
  clear K3
  have hM : q.May := by rw [hq]; exact of_decide_eq_true hr
  have hMM := hM
  unfold P.May at hMM
  have eN : q.N = N := by rw [hq]
  have eT : q.T = T := by rw [hq]
  have eL : q.L = L := by rw [hq]
  obtain ⟨n, hn⟩ : ∃ n : Nat, cost q b.length = n := ⟨(cost q b.length).toNat, by
    have : 0 ≤ cost q b.length := Int.mul_nonneg (by omega) (by omega)
    omega⟩
  have K9 := fun w => R10.cost_any N T L W S R b.length w (by omega) (by omega)
  rw [← hq, hn] at K9
  have H9 := Lib.hid K9
  have i1 : IntKind.i64.wrap (T + L) = T + L := IntWalk.i64_in _ (by omega)
  clear K9
  rw [← hq, hn] at hc
  have hc1 : tp.length < n := by omega
  clear hc
  have hfz : ((b.length : Int) == 0) = false := by simpa using hg
  clear hg
  clear hq hr hp hpq hv hM hMM eN eT eL hn
  have HA := Lib.hid (LiesT.new w N T L W S R (.slice A1 b.length u1) (.slice A2 tp.length u2) (.int .u8 (x0.toNat : Nat)) (.int .u8 (x1.toNat : Nat)) (.int .u8 (x2.toNat : Nat)) 42 50)
  have HB0 := Lib.hid (show Below w.heap.size w (((w.alloc (.cells #[.int .i64 N, .int .i64 T, .int .i64 L, .int .i64 W, .int .i64 S, .int .i64 R] 23)).alloc (.cells #[.slice A1 b.length u1, .slice A2 tp.length u2] 42)).alloc (.cells #[.int .u8 (x0.toNat : Nat), .int .u8 (x1.toNat : Nat), .int .u8 (x2.toNat : Nat)] 50)) from bstep (bstep (balloc _ _) (balloc _ _)) (balloc _ _))
  go_enter Try.func5, Try.ntmps5
  go_wp2_with fail
  generalize ((w.alloc (.cells #[.int .i64 N, .int .i64 T, .int .i64 L, .int .i64 W, .int .i64 S, .int .i64 R] 23)).alloc (.cells #[.slice A1 b.length u1, .slice A2 tp.length u2] 42)).alloc (.cells #[.int .u8 (x0.toNat : Nat), .int .u8 (x1.toNat : Nat), .int .u8 (x2.toNat : Nat)] 50) = w0 at *
  refine Drawn.wp_region_flowL 6 [Drawn.SP.is (.pointer (some ⟨w.heap.size + 1, 0, none⟩)), Drawn.SP.is (.slice A1 b.length u1), Drawn.SP.is (.pointer (some ⟨w.heap.size + 1, 1, none⟩)), Drawn.SP.is (.slice A2 tp.length u2), Drawn.SP.is (.slice A1 b.length u1), Drawn.SP.is (.slice A2 tp.length u2)] (by kernel_rfl) (by kernel_rfl) ?_ ?_
  · intro i hi a w1 hb hev hdep
    rcases (show i = 0 ∨ i = 1 ∨ i = 2 ∨ i = 3 ∨ i = 4 ∨ i = 5 by omega) with rfl | rfl | rfl | rfl | rfl | rfl
    · have e4 : a.tmps[4]?.getD undef = .pointer (some ⟨w.heap.size + 1, 0, none⟩) := hev 4 rfl
      refine Drawn.wpOp_flow 14 rfl rfl rfl ?_
      clear hev hdep hb
      go_simp
      exact ⟨_, rfl, rfl, Below.refl _ _⟩
    · have d0 : a.tmps[14]?.getD undef = .pointer (some ⟨w.heap.size + 1, 0, none⟩) := hdep 0 rfl
      refine Drawn.wpOp_flow 15 rfl rfl rfl ?_
      have a0 := (HA.out.below hb).a0
      have a1 := (HA.out.below hb).a1
      clear hev hdep hb
      go_simp
      exact ⟨_, rfl, rfl, Below.refl _ _⟩
    · have e4 : a.tmps[4]?.getD undef = .pointer (some ⟨w.heap.size + 1, 0, none⟩) := hev 4 rfl
      refine Drawn.wpOp_flow 16 rfl rfl rfl ?_
      clear hev hdep hb
      go_simp
      exact ⟨_, rfl, rfl, Below.refl _ _⟩
    · have d2 : a.tmps[16]?.getD undef = .pointer (some ⟨w.heap.size + 1, 1, none⟩) := hdep 2 rfl
      refine Drawn.wpOp_flow 17 rfl rfl rfl ?_
      have a0 := (HA.out.below hb).a0
      have a1 := (HA.out.below hb).a1
      clear hev hdep hb
      go_simp
      exact ⟨_, rfl, rfl, Below.refl _ _⟩
    · have d1 : a.tmps[15]?.getD undef = .slice A1 b.length u1 := hdep 1 rfl
      refine Drawn.wpOp_flow 7 rfl rfl rfl ?_
      clear hev hdep hb
      go_simp
      exact ⟨_, rfl, rfl, Below.refl _ _⟩
    · have d3 : a.tmps[17]?.getD undef = .slice A2 tp.length u2 := hdep 3 rfl
      refine Drawn.wpOp_flow 8 rfl rfl rfl ?_
      clear hev hdep hb
      go_simp
      exact ⟨_, rfl, rfl, Below.refl _ _⟩
  · intro xq w1 hb hxq
    have vq0 : xq 0 = .pointer (some ⟨w.heap.size + 1, 0, none⟩) := hxq 0 (by omega)
    have vq1 : xq 1 = .slice A1 b.length u1 := hxq 1 (by omega)
    have vq2 : xq 2 = .pointer (some ⟨w.heap.size + 1, 1, none⟩) := hxq 2 (by omega)
    have vq3 : xq 3 = .slice A2 tp.length u2 := hxq 3 (by omega)
    have vq4 : xq 4 = .slice A1 b.length u1 := hxq 4 (by omega)
    have vq5 : xq 5 = .slice A2 tp.length u2 := hxq 5 (by omega)
    show Exit.then _ _ Exit.normal (Drawn.acts _ [(8, some (xq 5)), (7, some (xq 4)), (17, some (xq 3)), (16, some (xq 2)), (15, some (xq 1)), (14, some (xq 0))]) _
    rw [vq0, vq1, vq2, vq3, vq4, vq5]
    clear hxq vq0 vq1 vq2 vq3 vq4 vq5
    clear xq
    simp only [Drawn.acts]
    go_simp
    have hb1 := hb
    clear hb
    obtain ⟨c0, c1, c2, c3, c4, c5⟩ := six (HA.out.below hb1).plan
    have e0 := (HA.out.below hb1).t0
    have e1 := (HA.out.below hb1).t1
    have e2 := (HA.out.below hb1).t2
    go_at_K
    go_wp2_with fail
    refine (H0.out _).mono ?_
    rintro e w2 ⟨rfl, hb2'⟩
    have hb2 := bstep hb1 hb2'
    clear c0 c1 c2 c3 c4 c5 e0 e1 e2
    clear hb1 hb2'
    obtain ⟨c0, c1, c2, c3, c4, c5⟩ := six (HA.out.below hb2).plan
    have e0 := (HA.out.below hb2).t0
    have e1 := (HA.out.below hb2).t1
    have e2 := (HA.out.below hb2).t2
    go_wp2_with fail
    refine (H3.out _).mono ?_
    rintro e w3 ⟨rfl, hbx⟩
    have hb3 := bstep hb2 hbx
    clear c0 c1 c2 c3 c4 c5 e0 e1 e2
    clear hb2 hbx
    obtain ⟨c0, c1, c2, c3, c4, c5⟩ := six (HA.out.below hb3).plan
    have e0 := (HA.out.below hb3).t0
    have e1 := (HA.out.below hb3).t1
    have e2 := (HA.out.below hb3).t2
    go_wp2_with fail
    refine (H9.out _).mono ?_
    rintro e w4 ⟨rfl, hbx⟩
    have hb4 := bstep hb3 hbx
    clear c0 c1 c2 c3 c4 c5 e0 e1 e2
    clear hb3 hbx
    obtain ⟨c0, c1, c2, c3, c4, c5⟩ := six (HA.out.below hb4).plan
    have e0 := (HA.out.below hb4).t0
    have e1 := (HA.out.below hb4).t1
    have e2 := (HA.out.below hb4).t2
    go_wp2_with fail
    refine (alive_any _).mono ?_
    rintro e wz ⟨rfl, hbz⟩
    clear c0 c1 c2 c3 c4 c5 e0 e1 e2
    go_wp2
    go_ret
    exact ⟨rfl, bstep HB0.out (bstep hb4 hbz)⟩

set_option maxHeartbeats 2000000 in
theorem tells_just (N T L W S R : Int) (A1 A2 : Option Addr) (b tp : List UInt8) (u1 u2 : Nat) (x0 x1 x2 : UInt8) (w : World) (hp : (⟨N, T, L, W, S, R⟩ : P).In) (hl : N ≤ 12 ∧ L ≤ 12 ∧ T ≤ 12) (hr : (⟨N, T, L, W, S, R⟩ : P).right = true) (hf : b.length ≤ 60) (hg : b.length ≠ 0) (hc : cost ⟨N, T, L, W, S, R⟩ b.length ≤ tp.length) (hm : N = T + L) :
    Calls Try.prog 5 #[.agg #[.int .i64 N, .int .i64 T, .int .i64 L, .int .i64 W, .int .i64 S, .int .i64 R], .agg #[.slice A1 b.length u1, .slice A2 tp.length u2], .agg #[.int .u8 (x0.toNat : Nat), .int .u8 (x1.toNat : Nat), .int .u8 (x2.toNat : Nat)]] w fun e w' => e = .returned (.bool true) ∧ Below w.heap.size w w' := by
  have K0 := fun w => Law10.light_any N T L W S R w
  rw [decide_eq_true hl] at K0
  have H0 := Lib.hid K0
  clear K0 hl
  obtain ⟨q, hq⟩ : ∃ q : P, q = ⟨N, T, L, W, S, R⟩ := ⟨_, rfl⟩
  have hpq := hp
  rw [← hq] at hpq
  have hv : q.val = .agg #[.int .i64 N, .int .i64 T, .int .i64 L, .int .i64 W, .int .i64 S, .int .i64 R] := by rw [hq]; rfl
  have K3 := fun w => R08.right_any q w hpq
  rw [hq, hr, ← hq, hv] at K3
  have H3 := Lib.hid K3
  clear K3
  have hM : q.May := by rw [hq]; exact of_decide_eq_true hr
  have hMM := hM
  unfold P.May at hMM
  have eN : q.N = N := by rw [hq]
  have eT : q.T = T := by rw [hq]
  have eL : q.L = L := by rw [hq]
  obtain ⟨n, hn⟩ : ∃ n : Nat, cost q b.length = n := ⟨(cost q b.length).toNat, by
    have : 0 ≤ cost q b.length := Int.mul_nonneg (by omega) (by omega)
    omega⟩
  have K9 := fun w => R10.cost_any N T L W S R b.length w (by omega) (by omega)
  rw [← hq, hn] at K9
  have H9 := Lib.hid K9
  have i1 : IntKind.i64.wrap (T + L) = T + L := IntWalk.i64_in _ (by omega)
  clear K9
  rw [← hq, hn] at hc
  have hc1 : n ≤ tp.length := by omega
  clear hc
  have hne : (N == T + L) = true := by rw [hm]; simp
  clear hm
  have hfz : ((b.length : Int) == 0) = false := by simpa using hg
  clear hg
  clear hq hr hp hpq hv hM hMM eN eT eL hn
  have HA := Lib.hid (LiesT.new w N T L W S R (.slice A1 b.length u1) (.slice A2 tp.length u2) (.int .u8 (x0.toNat : Nat)) (.int .u8 (x1.toNat : Nat)) (.int .u8 (x2.toNat : Nat)) 42 50)
  have HB0 := Lib.hid (show Below w.heap.size w (((w.alloc (.cells #[.int .i64 N, .int .i64 T, .int .i64 L, .int .i64 W, .int .i64 S, .int .i64 R] 23)).alloc (.cells #[.slice A1 b.length u1, .slice A2 tp.length u2] 42)).alloc (.cells #[.int .u8 (x0.toNat : Nat), .int .u8 (x1.toNat : Nat), .int .u8 (x2.toNat : Nat)] 50)) from bstep (bstep (balloc _ _) (balloc _ _)) (balloc _ _))
  go_enter Try.func5, Try.ntmps5
  go_wp2_with fail
  generalize ((w.alloc (.cells #[.int .i64 N, .int .i64 T, .int .i64 L, .int .i64 W, .int .i64 S, .int .i64 R] 23)).alloc (.cells #[.slice A1 b.length u1, .slice A2 tp.length u2] 42)).alloc (.cells #[.int .u8 (x0.toNat : Nat), .int .u8 (x1.toNat : Nat), .int .u8 (x2.toNat : Nat)] 50) = w0 at *
  refine Drawn.wp_region_flowL 6 [Drawn.SP.is (.pointer (some ⟨w.heap.size + 1, 0, none⟩)), Drawn.SP.is (.slice A1 b.length u1), Drawn.SP.is (.pointer (some ⟨w.heap.size + 1, 1, none⟩)), Drawn.SP.is (.slice A2 tp.length u2), Drawn.SP.is (.slice A1 b.length u1), Drawn.SP.is (.slice A2 tp.length u2)] (by kernel_rfl) (by kernel_rfl) ?_ ?_
  · intro i hi a w1 hb hev hdep
    rcases (show i = 0 ∨ i = 1 ∨ i = 2 ∨ i = 3 ∨ i = 4 ∨ i = 5 by omega) with rfl | rfl | rfl | rfl | rfl | rfl
    · have e4 : a.tmps[4]?.getD undef = .pointer (some ⟨w.heap.size + 1, 0, none⟩) := hev 4 rfl
      refine Drawn.wpOp_flow 14 rfl rfl rfl ?_
      clear hev hdep hb
      go_simp
      exact ⟨_, rfl, rfl, Below.refl _ _⟩
    · have d0 : a.tmps[14]?.getD undef = .pointer (some ⟨w.heap.size + 1, 0, none⟩) := hdep 0 rfl
      refine Drawn.wpOp_flow 15 rfl rfl rfl ?_
      have a0 := (HA.out.below hb).a0
      have a1 := (HA.out.below hb).a1
      clear hev hdep hb
      go_simp
      exact ⟨_, rfl, rfl, Below.refl _ _⟩
    · have e4 : a.tmps[4]?.getD undef = .pointer (some ⟨w.heap.size + 1, 0, none⟩) := hev 4 rfl
      refine Drawn.wpOp_flow 16 rfl rfl rfl ?_
      clear hev hdep hb
      go_simp
      exact ⟨_, rfl, rfl, Below.refl _ _⟩
    · have d2 : a.tmps[16]?.getD undef = .pointer (some ⟨w.heap.size + 1, 1, none⟩) := hdep 2 rfl
      refine Drawn.wpOp_flow 17 rfl rfl rfl ?_
      have a0 := (HA.out.below hb).a0
      have a1 := (HA.out.below hb).a1
      clear hev hdep hb
      go_simp
      exact ⟨_, rfl, rfl, Below.refl _ _⟩
    · have d1 : a.tmps[15]?.getD undef = .slice A1 b.length u1 := hdep 1 rfl
      refine Drawn.wpOp_flow 7 rfl rfl rfl ?_
      clear hev hdep hb
      go_simp
      exact ⟨_, rfl, rfl, Below.refl _ _⟩
    · have d3 : a.tmps[17]?.getD undef = .slice A2 tp.length u2 := hdep 3 rfl
      refine Drawn.wpOp_flow 8 rfl rfl rfl ?_
      clear hev hdep hb
      go_simp
      exact ⟨_, rfl, rfl, Below.refl _ _⟩
  · intro xq w1 hb hxq
    have vq0 : xq 0 = .pointer (some ⟨w.heap.size + 1, 0, none⟩) := hxq 0 (by omega)
    have vq1 : xq 1 = .slice A1 b.length u1 := hxq 1 (by omega)
    have vq2 : xq 2 = .pointer (some ⟨w.heap.size + 1, 1, none⟩) := hxq 2 (by omega)
    have vq3 : xq 3 = .slice A2 tp.length u2 := hxq 3 (by omega)
    have vq4 : xq 4 = .slice A1 b.length u1 := hxq 4 (by omega)
    have vq5 : xq 5 = .slice A2 tp.length u2 := hxq 5 (by omega)
    show Exit.then _ _ Exit.normal (Drawn.acts _ [(8, some (xq 5)), (7, some (xq 4)), (17, some (xq 3)), (16, some (xq 2)), (15, some (xq 1)), (14, some (xq 0))]) _
    rw [vq0, vq1, vq2, vq3, vq4, vq5]
    clear hxq vq0 vq1 vq2 vq3 vq4 vq5
    clear xq
    simp only [Drawn.acts]
    go_simp
    have hb1 := hb
    clear hb
    obtain ⟨c0, c1, c2, c3, c4, c5⟩ := six (HA.out.below hb1).plan
    have e0 := (HA.out.below hb1).t0
    have e1 := (HA.out.below hb1).t1
    have e2 := (HA.out.below hb1).t2
    go_at_K
    go_wp2_with fail
    refine (H0.out _).mono ?_
    rintro e w2 ⟨rfl, hb2'⟩
    have hb2 := bstep hb1 hb2'
    clear c0 c1 c2 c3 c4 c5 e0 e1 e2
    clear hb1 hb2'
    obtain ⟨c0, c1, c2, c3, c4, c5⟩ := six (HA.out.below hb2).plan
    have e0 := (HA.out.below hb2).t0
    have e1 := (HA.out.below hb2).t1
    have e2 := (HA.out.below hb2).t2
    go_wp2_with fail
    refine (H3.out _).mono ?_
    rintro e w3 ⟨rfl, hbx⟩
    have hb3 := bstep hb2 hbx
    clear c0 c1 c2 c3 c4 c5 e0 e1 e2
    clear hb2 hbx
    obtain ⟨c0, c1, c2, c3, c4, c5⟩ := six (HA.out.below hb3).plan
    have e0 := (HA.out.below hb3).t0
    have e1 := (HA.out.below hb3).t1
    have e2 := (HA.out.below hb3).t2
    go_wp2_with fail
    refine (H9.out _).mono ?_
    rintro e w4 ⟨rfl, hbx⟩
    have hb4 := bstep hb3 hbx
    clear c0 c1 c2 c3 c4 c5 e0 e1 e2
    clear hb3 hbx
    obtain ⟨c0, c1, c2, c3, c4, c5⟩ := six (HA.out.below hb4).plan
    have e0 := (HA.out.below hb4).t0
    have e1 := (HA.out.below hb4).t1
    have e2 := (HA.out.below hb4).t2
    go_wp2_with fail
    refine (alive_any _).mono ?_
    rintro e wz ⟨rfl, hbz⟩
    clear c0 c1 c2 c3 c4 c5 e0 e1 e2
    go_wp2
    go_ret
    exact ⟨rfl, bstep HB0.out (bstep hb4 hbz)⟩

set_option maxHeartbeats 2000000 in
theorem tells_none (N T L W S R : Int) (A1 A2 : Option Addr) (b tp : List UInt8) (u1 u2 : Nat) (x0 x1 x2 : UInt8) (w : World) (hp : (⟨N, T, L, W, S, R⟩ : P).In) (hl : N ≤ 12 ∧ L ≤ 12 ∧ T ≤ 12) (hr : (⟨N, T, L, W, S, R⟩ : P).right = true) (hf : b.length ≤ 60) (hg : b.length ≠ 0) (hc : cost ⟨N, T, L, W, S, R⟩ b.length ≤ tp.length) (hm : N ≠ T + L) (hx : x2 = 0) :
    Calls Try.prog 5 #[.agg #[.int .i64 N, .int .i64 T, .int .i64 L, .int .i64 W, .int .i64 S, .int .i64 R], .agg #[.slice A1 b.length u1, .slice A2 tp.length u2], .agg #[.int .u8 (x0.toNat : Nat), .int .u8 (x1.toNat : Nat), .int .u8 (x2.toNat : Nat)]] w fun e w' => e = .returned (.bool true) ∧ Below w.heap.size w w' := by
  have K0 := fun w => Law10.light_any N T L W S R w
  rw [decide_eq_true hl] at K0
  have H0 := Lib.hid K0
  clear K0 hl
  obtain ⟨q, hq⟩ : ∃ q : P, q = ⟨N, T, L, W, S, R⟩ := ⟨_, rfl⟩
  have hpq := hp
  rw [← hq] at hpq
  have hv : q.val = .agg #[.int .i64 N, .int .i64 T, .int .i64 L, .int .i64 W, .int .i64 S, .int .i64 R] := by rw [hq]; rfl
  have K3 := fun w => R08.right_any q w hpq
  rw [hq, hr, ← hq, hv] at K3
  have H3 := Lib.hid K3
  clear K3
  have hM : q.May := by rw [hq]; exact of_decide_eq_true hr
  have hMM := hM
  unfold P.May at hMM
  have eN : q.N = N := by rw [hq]
  have eT : q.T = T := by rw [hq]
  have eL : q.L = L := by rw [hq]
  obtain ⟨n, hn⟩ : ∃ n : Nat, cost q b.length = n := ⟨(cost q b.length).toNat, by
    have : 0 ≤ cost q b.length := Int.mul_nonneg (by omega) (by omega)
    omega⟩
  have K9 := fun w => R10.cost_any N T L W S R b.length w (by omega) (by omega)
  rw [← hq, hn] at K9
  have H9 := Lib.hid K9
  have i1 : IntKind.i64.wrap (T + L) = T + L := IntWalk.i64_in _ (by omega)
  clear K9
  rw [← hq, hn] at hc
  have hc1 : n ≤ tp.length := by omega
  clear hc
  have hne : (N == T + L) = false := by simpa using hm
  have hxz : ((x2.toNat : Int) == 0) = true := by rw [hx]; rfl
  clear hm hx
  have hfz : ((b.length : Int) == 0) = false := by simpa using hg
  clear hg
  clear hq hr hp hpq hv hM hMM eN eT eL hn
  have HA := Lib.hid (LiesT.new w N T L W S R (.slice A1 b.length u1) (.slice A2 tp.length u2) (.int .u8 (x0.toNat : Nat)) (.int .u8 (x1.toNat : Nat)) (.int .u8 (x2.toNat : Nat)) 42 50)
  have HB0 := Lib.hid (show Below w.heap.size w (((w.alloc (.cells #[.int .i64 N, .int .i64 T, .int .i64 L, .int .i64 W, .int .i64 S, .int .i64 R] 23)).alloc (.cells #[.slice A1 b.length u1, .slice A2 tp.length u2] 42)).alloc (.cells #[.int .u8 (x0.toNat : Nat), .int .u8 (x1.toNat : Nat), .int .u8 (x2.toNat : Nat)] 50)) from bstep (bstep (balloc _ _) (balloc _ _)) (balloc _ _))
  go_enter Try.func5, Try.ntmps5
  go_wp2_with fail
  generalize ((w.alloc (.cells #[.int .i64 N, .int .i64 T, .int .i64 L, .int .i64 W, .int .i64 S, .int .i64 R] 23)).alloc (.cells #[.slice A1 b.length u1, .slice A2 tp.length u2] 42)).alloc (.cells #[.int .u8 (x0.toNat : Nat), .int .u8 (x1.toNat : Nat), .int .u8 (x2.toNat : Nat)] 50) = w0 at *
  refine Drawn.wp_region_flowL 6 [Drawn.SP.is (.pointer (some ⟨w.heap.size + 1, 0, none⟩)), Drawn.SP.is (.slice A1 b.length u1), Drawn.SP.is (.pointer (some ⟨w.heap.size + 1, 1, none⟩)), Drawn.SP.is (.slice A2 tp.length u2), Drawn.SP.is (.slice A1 b.length u1), Drawn.SP.is (.slice A2 tp.length u2)] (by kernel_rfl) (by kernel_rfl) ?_ ?_
  · intro i hi a w1 hb hev hdep
    rcases (show i = 0 ∨ i = 1 ∨ i = 2 ∨ i = 3 ∨ i = 4 ∨ i = 5 by omega) with rfl | rfl | rfl | rfl | rfl | rfl
    · have e4 : a.tmps[4]?.getD undef = .pointer (some ⟨w.heap.size + 1, 0, none⟩) := hev 4 rfl
      refine Drawn.wpOp_flow 14 rfl rfl rfl ?_
      clear hev hdep hb
      go_simp
      exact ⟨_, rfl, rfl, Below.refl _ _⟩
    · have d0 : a.tmps[14]?.getD undef = .pointer (some ⟨w.heap.size + 1, 0, none⟩) := hdep 0 rfl
      refine Drawn.wpOp_flow 15 rfl rfl rfl ?_
      have a0 := (HA.out.below hb).a0
      have a1 := (HA.out.below hb).a1
      clear hev hdep hb
      go_simp
      exact ⟨_, rfl, rfl, Below.refl _ _⟩
    · have e4 : a.tmps[4]?.getD undef = .pointer (some ⟨w.heap.size + 1, 0, none⟩) := hev 4 rfl
      refine Drawn.wpOp_flow 16 rfl rfl rfl ?_
      clear hev hdep hb
      go_simp
      exact ⟨_, rfl, rfl, Below.refl _ _⟩
    · have d2 : a.tmps[16]?.getD undef = .pointer (some ⟨w.heap.size + 1, 1, none⟩) := hdep 2 rfl
      refine Drawn.wpOp_flow 17 rfl rfl rfl ?_
      have a0 := (HA.out.below hb).a0
      have a1 := (HA.out.below hb).a1
      clear hev hdep hb
      go_simp
      exact ⟨_, rfl, rfl, Below.refl _ _⟩
    · have d1 : a.tmps[15]?.getD undef = .slice A1 b.length u1 := hdep 1 rfl
      refine Drawn.wpOp_flow 7 rfl rfl rfl ?_
      clear hev hdep hb
      go_simp
      exact ⟨_, rfl, rfl, Below.refl _ _⟩
    · have d3 : a.tmps[17]?.getD undef = .slice A2 tp.length u2 := hdep 3 rfl
      refine Drawn.wpOp_flow 8 rfl rfl rfl ?_
      clear hev hdep hb
      go_simp
      exact ⟨_, rfl, rfl, Below.refl _ _⟩
  · intro xq w1 hb hxq
    have vq0 : xq 0 = .pointer (some ⟨w.heap.size + 1, 0, none⟩) := hxq 0 (by omega)
    have vq1 : xq 1 = .slice A1 b.length u1 := hxq 1 (by omega)
    have vq2 : xq 2 = .pointer (some ⟨w.heap.size + 1, 1, none⟩) := hxq 2 (by omega)
    have vq3 : xq 3 = .slice A2 tp.length u2 := hxq 3 (by omega)
    have vq4 : xq 4 = .slice A1 b.length u1 := hxq 4 (by omega)
    have vq5 : xq 5 = .slice A2 tp.length u2 := hxq 5 (by omega)
    show Exit.then _ _ Exit.normal (Drawn.acts _ [(8, some (xq 5)), (7, some (xq 4)), (17, some (xq 3)), (16, some (xq 2)), (15, some (xq 1)), (14, some (xq 0))]) _
    rw [vq0, vq1, vq2, vq3, vq4, vq5]
    clear hxq vq0 vq1 vq2 vq3 vq4 vq5
    clear xq
    simp only [Drawn.acts]
    go_simp
    have hb1 := hb
    clear hb
    obtain ⟨c0, c1, c2, c3, c4, c5⟩ := six (HA.out.below hb1).plan
    have e0 := (HA.out.below hb1).t0
    have e1 := (HA.out.below hb1).t1
    have e2 := (HA.out.below hb1).t2
    go_at_K
    go_wp2_with fail
    refine (H0.out _).mono ?_
    rintro e w2 ⟨rfl, hb2'⟩
    have hb2 := bstep hb1 hb2'
    clear c0 c1 c2 c3 c4 c5 e0 e1 e2
    clear hb1 hb2'
    obtain ⟨c0, c1, c2, c3, c4, c5⟩ := six (HA.out.below hb2).plan
    have e0 := (HA.out.below hb2).t0
    have e1 := (HA.out.below hb2).t1
    have e2 := (HA.out.below hb2).t2
    go_wp2_with fail
    refine (H3.out _).mono ?_
    rintro e w3 ⟨rfl, hbx⟩
    have hb3 := bstep hb2 hbx
    clear c0 c1 c2 c3 c4 c5 e0 e1 e2
    clear hb2 hbx
    obtain ⟨c0, c1, c2, c3, c4, c5⟩ := six (HA.out.below hb3).plan
    have e0 := (HA.out.below hb3).t0
    have e1 := (HA.out.below hb3).t1
    have e2 := (HA.out.below hb3).t2
    go_wp2_with fail
    refine (H9.out _).mono ?_
    rintro e w4 ⟨rfl, hbx⟩
    have hb4 := bstep hb3 hbx
    clear c0 c1 c2 c3 c4 c5 e0 e1 e2
    clear hb3 hbx
    obtain ⟨c0, c1, c2, c3, c4, c5⟩ := six (HA.out.below hb4).plan
    have e0 := (HA.out.below hb4).t0
    have e1 := (HA.out.below hb4).t1
    have e2 := (HA.out.below hb4).t2
    go_wp2_with fail
    refine (alive_any _).mono ?_
    rintro e wz ⟨rfl, hbz⟩
    clear c0 c1 c2 c3 c4 c5 e0 e1 e2
    go_wp2
    go_ret
    exact ⟨rfl, bstep HB0.out (bstep hb4 hbz)⟩

end Go.Proofs.Ytcnhfbahnbnnlaa.Law11
