/- the walk of DealSums -/
import Derived.Test.YtmeenipcfmeopaaLaw10
import Derived.Test.YtmeenipcfmeopaaFlow
import Derived.Test.YtmeenipcfmeopaaSumMath
import Derived.Test.YtmeenipcfmeopaaOpenP
import Derived.Test.YtmeenipcfmeopaaOpenA
set_option maxRecDepth 100000
namespace Go.Proofs.Ytmeenipcfmeopaa.Law10
open Go.RowKit PlanM StripeM DealM Law08

/-- what the law's arguments are copied to -/
structure Lies2 (w : World) (g : Nat) (N T L W S R : Int) (p0 p1 q0 q1 : Value) : Prop where
  plan : PlanLies w g N T L W S R
  a0 : w.cell? ⟨g + 1, 0, none⟩ = some p0
  a1 : w.cell? ⟨g + 1, 1, none⟩ = some p1
  r0 : w.cell? ⟨g + 2, 0, none⟩ = some q0
  r1 : w.cell? ⟨g + 2, 1, none⟩ = some q1
theorem Lies2.below {w w' : World} {g : Nat} {N T L W S R : Int} {p0 p1 q0 q1 : Value} (h : Lies2 w g N T L W S R p0 p1 q0 q1) (hb : Below w.heap.size w w') : Lies2 w' g N T L W S R p0 p1 q0 q1 :=
  ⟨h.plan.below hb, (hb.cell (p := ⟨g + 1, 0, none⟩) (cell_lt h.a0)).trans h.a0, (hb.cell (p := ⟨g + 1, 1, none⟩) (cell_lt h.a1)).trans h.a1, (hb.cell (p := ⟨g + 2, 0, none⟩) (cell_lt h.r0)).trans h.r0, (hb.cell (p := ⟨g + 2, 1, none⟩) (cell_lt h.r1)).trans h.r1⟩
theorem lies2_aux (w : World) (g : Nat) (hg : w.heap.size = g + 1) (N T L W S R : Int) (p0 p1 q0 q1 : Value) (t1 t2 : TypeId) (h : PlanLies w g N T L W S R) : Lies2 ((w.alloc (.cells #[p0, p1] t1)).alloc (.cells #[q0, q1] t2)) g N T L W S R p0 p1 q0 q1 := by
  have hb := balloc w (.cells #[p0, p1] t1)
  have a0 : (w.alloc (.cells #[p0, p1] t1)).cell? ⟨w.heap.size, 0, none⟩ = some p0 := by simp
  have a1 : (w.alloc (.cells #[p0, p1] t1)).cell? ⟨w.heap.size, 1, none⟩ = some p1 := by simp
  have hs : (w.alloc (.cells #[p0, p1] t1)).heap.size = w.heap.size + 1 := by simp
  have h1 := h.below hb
  rw [hg] at a0 a1 hs
  generalize w.alloc (.cells #[p0, p1] t1) = w1 at *
  have hb2 := balloc w1 (.cells #[q0, q1] t2)
  have r0 : (w1.alloc (.cells #[q0, q1] t2)).cell? ⟨w1.heap.size, 0, none⟩ = some q0 := by simp
  have r1 : (w1.alloc (.cells #[q0, q1] t2)).cell? ⟨w1.heap.size, 1, none⟩ = some q1 := by simp
  rw [hs] at r0 r1
  exact ⟨h1.below hb2, (hb2.cell (p := ⟨g + 1, 0, none⟩) (cell_lt a0)).trans a0, (hb2.cell (p := ⟨g + 1, 1, none⟩) (cell_lt a1)).trans a1, r0, r1⟩
theorem Lies2.new (w : World) (N T L W S R : Int) (p0 p1 q0 q1 : Value) (t1 t2 : TypeId) : Lies2 (((w.alloc (.cells #[.int .i64 N, .int .i64 T, .int .i64 L, .int .i64 W, .int .i64 S, .int .i64 R] 23)).alloc (.cells #[p0, p1] t1)).alloc (.cells #[q0, q1] t2)) w.heap.size N T L W S R p0 p1 q0 q1 :=
  lies2_aux (w.alloc (.cells #[.int .i64 N, .int .i64 T, .int .i64 L, .int .i64 W, .int .i64 S, .int .i64 R] 23)) w.heap.size (by simp) N T L W S R p0 p1 q0 q1 t1 t2 (PlanLies.new w N T L W S R)
theorem Lies2.ten {w : World} {g : Nat} {N T L W S R : Int} {p0 p1 q0 q1 : Value} (h : Lies2 w g N T L W S R p0 p1 q0 q1) : (w.cell? ⟨g, 0, none⟩ = some (.int .i64 N) ∧ w.cell? ⟨g, 1, none⟩ = some (.int .i64 T) ∧ w.cell? ⟨g, 2, none⟩ = some (.int .i64 L) ∧ w.cell? ⟨g, 3, none⟩ = some (.int .i64 W) ∧ w.cell? ⟨g, 4, none⟩ = some (.int .i64 S) ∧ w.cell? ⟨g, 5, none⟩ = some (.int .i64 R)) ∧
    w.cell? ⟨g + 1, 0, none⟩ = some p0 ∧ w.cell? ⟨g + 1, 1, none⟩ = some p1 ∧ w.cell? ⟨g + 2, 0, none⟩ = some q0 ∧ w.cell? ⟨g + 2, 1, none⟩ = some q1 := ⟨six h.plan, h.a0, h.a1, h.r0, h.r1⟩

set_option maxHeartbeats 1000000 in
theorem sums_heavy (N T L W S R : Int) (A1 A2 A3 A4 : Option Addr) (b0 b1 t0 t1 : List UInt8) (u1 u2 u3 u4 : Nat) (w : World) (hp : (⟨N, T, L, W, S, R⟩ : P).In) (hl : ¬ (N ≤ 12 ∧ L ≤ 12 ∧ T ≤ 12)) :
    Calls Try.prog 4 #[.agg #[.int .i64 N, .int .i64 T, .int .i64 L, .int .i64 W, .int .i64 S, .int .i64 R], .agg #[.slice A1 b0.length u1, .slice A2 b1.length u2], .agg #[.slice A3 t0.length u3, .slice A4 t1.length u4]] w fun e w' => e = .returned (.bool true) ∧ Below w.heap.size w w' := by
  have K0 := fun w => light_any N T L W S R w
  rw [decide_eq_false hl] at K0
  have H0 := Lib.hid K0
  clear K0 hl
  have HA := Lib.hid (Lies2.new w N T L W S R (.slice A1 b0.length u1) (.slice A2 b1.length u2) (.slice A3 t0.length u3) (.slice A4 t1.length u4) 40 40)
  have hb0 : Below w.heap.size w (((w.alloc (.cells #[.int .i64 N, .int .i64 T, .int .i64 L, .int .i64 W, .int .i64 S, .int .i64 R] 23)).alloc (.cells #[.slice A1 b0.length u1, .slice A2 b1.length u2] 40)).alloc (.cells #[.slice A3 t0.length u3, .slice A4 t1.length u4] 40)) := bstep (bstep (balloc _ _) (balloc _ _)) (balloc _ _)
  have HB0 := Lib.hid hb0
  clear hb0
  go_enter Try.func4, Try.ntmps4
  go_wp2_with fail
  generalize ((w.alloc (.cells #[.int .i64 N, .int .i64 T, .int .i64 L, .int .i64 W, .int .i64 S, .int .i64 R] 23)).alloc (.cells #[.slice A1 b0.length u1, .slice A2 b1.length u2] 40)).alloc (.cells #[.slice A3 t0.length u3, .slice A4 t1.length u4] 40) = w0 at *
  obtain ⟨⟨c0, c1, c2, c3, c4, c5⟩, a0, a1, r0, r1⟩ := HA.out.ten
  refine (H0.out _).mono ?_
  rintro e w1 ⟨rfl, hb1⟩
  clear c0 c1 c2 c3 c4 c5 a0 a1 r0 r1
  obtain ⟨⟨c0, c1, c2, c3, c4, c5⟩, a0, a1, r0, r1⟩ := (HA.out.below hb1).ten
  go_wp2_with fail
  refine (alive_any _).mono ?_
  rintro e w9 ⟨rfl, hb9⟩
  clear c0 c1 c2 c3 c4 c5 a0 a1 r0 r1
  go_wp2
  go_ret
  exact ⟨rfl, bstep HB0.out (bstep hb1 hb9)⟩

set_option maxHeartbeats 1000000 in
theorem sums_arg (N T L W S R : Int) (A1 A2 A3 A4 : Option Addr) (b0 b1 t0 t1 : List UInt8) (u1 u2 u3 u4 : Nat) (w : World) (hp : (⟨N, T, L, W, S, R⟩ : P).In) (hl : N ≤ 12 ∧ L ≤ 12 ∧ T ≤ 12) (hr : (⟨N, T, L, W, S, R⟩ : P).right = false) :
    Calls Try.prog 4 #[.agg #[.int .i64 N, .int .i64 T, .int .i64 L, .int .i64 W, .int .i64 S, .int .i64 R], .agg #[.slice A1 b0.length u1, .slice A2 b1.length u2], .agg #[.slice A3 t0.length u3, .slice A4 t1.length u4]] w fun e w' => e = .returned (.bool true) ∧ Below w.heap.size w w' := by
  have K0 := fun w => light_any N T L W S R w
  rw [decide_eq_true hl] at K0
  have H0 := Lib.hid K0
  clear K0 hl
  obtain ⟨q, hq⟩ : ∃ q : P, q = ⟨N, T, L, W, S, R⟩ := ⟨_, rfl⟩
  rw [← hq] at hp
  have hv : q.val = .agg #[.int .i64 N, .int .i64 T, .int .i64 L, .int .i64 W, .int .i64 S, .int .i64 R] := by rw [hq]; rfl
  rw [← hq] at hr
  have K3 := fun w => R08.right_any q w hp
  rw [hr] at K3
  rw [hv] at K3
  have H3 := Lib.hid K3
  clear K3
  clear hv hq hr
  have HA := Lib.hid (Lies2.new w N T L W S R (.slice A1 b0.length u1) (.slice A2 b1.length u2) (.slice A3 t0.length u3) (.slice A4 t1.length u4) 40 40)
  have hb0 : Below w.heap.size w (((w.alloc (.cells #[.int .i64 N, .int .i64 T, .int .i64 L, .int .i64 W, .int .i64 S, .int .i64 R] 23)).alloc (.cells #[.slice A1 b0.length u1, .slice A2 b1.length u2] 40)).alloc (.cells #[.slice A3 t0.length u3, .slice A4 t1.length u4] 40)) := bstep (bstep (balloc _ _) (balloc _ _)) (balloc _ _)
  have HB0 := Lib.hid hb0
  clear hb0
  go_enter Try.func4, Try.ntmps4
  go_wp2_with fail
  generalize ((w.alloc (.cells #[.int .i64 N, .int .i64 T, .int .i64 L, .int .i64 W, .int .i64 S, .int .i64 R] 23)).alloc (.cells #[.slice A1 b0.length u1, .slice A2 b1.length u2] 40)).alloc (.cells #[.slice A3 t0.length u3, .slice A4 t1.length u4] 40) = w0 at *
  obtain ⟨⟨c0, c1, c2, c3, c4, c5⟩, a0, a1, r0, r1⟩ := HA.out.ten
  refine (H0.out _).mono ?_
  rintro e w1 ⟨rfl, hb1⟩
  clear c0 c1 c2 c3 c4 c5 a0 a1 r0 r1
  obtain ⟨⟨c0, c1, c2, c3, c4, c5⟩, a0, a1, r0, r1⟩ := (HA.out.below hb1).ten
  go_wp2_with fail
  refine (H3.out _).mono ?_
  rintro e w2 ⟨rfl, hb2'⟩
  have hb2 := bstep hb1 hb2'
  clear c0 c1 c2 c3 c4 c5 a0 a1 r0 r1
  clear hb1 hb2'
  obtain ⟨⟨c0, c1, c2, c3, c4, c5⟩, a0, a1, r0, r1⟩ := (HA.out.below hb2).ten
  go_wp2_with fail
  refine (alive_any _).mono ?_
  rintro e w9 ⟨rfl, hb9⟩
  clear c0 c1 c2 c3 c4 c5 a0 a1 r0 r1
  go_wp2
  go_ret
  exact ⟨rfl, bstep HB0.out (bstep hb2 hb9)⟩

set_option maxHeartbeats 1000000 in
theorem sums_long (N T L W S R : Int) (A1 A2 A3 A4 : Option Addr) (b0 b1 t0 t1 : List UInt8) (u1 u2 u3 u4 : Nat) (w : World) (hp : (⟨N, T, L, W, S, R⟩ : P).In) (hl : N ≤ 12 ∧ L ≤ 12 ∧ T ≤ 12) (hr : (⟨N, T, L, W, S, R⟩ : P).right = true) (hf : 60 < b0.length) :
    Calls Try.prog 4 #[.agg #[.int .i64 N, .int .i64 T, .int .i64 L, .int .i64 W, .int .i64 S, .int .i64 R], .agg #[.slice A1 b0.length u1, .slice A2 b1.length u2], .agg #[.slice A3 t0.length u3, .slice A4 t1.length u4]] w fun e w' => e = .returned (.bool true) ∧ Below w.heap.size w w' := by
  have K0 := fun w => light_any N T L W S R w
  rw [decide_eq_true hl] at K0
  have H0 := Lib.hid K0
  clear K0 hl
  obtain ⟨q, hq⟩ : ∃ q : P, q = ⟨N, T, L, W, S, R⟩ := ⟨_, rfl⟩
  rw [← hq] at hp
  have hv : q.val = .agg #[.int .i64 N, .int .i64 T, .int .i64 L, .int .i64 W, .int .i64 S, .int .i64 R] := by rw [hq]; rfl
  rw [← hq] at hr
  have K3 := fun w => R08.right_any q w hp
  rw [hr] at K3
  rw [hv] at K3
  have H3 := Lib.hid K3
  clear K3
  clear hv hq hr
  have HA := Lib.hid (Lies2.new w N T L W S R (.slice A1 b0.length u1) (.slice A2 b1.length u2) (.slice A3 t0.length u3) (.slice A4 t1.length u4) 40 40)
  have hb0 : Below w.heap.size w (((w.alloc (.cells #[.int .i64 N, .int .i64 T, .int .i64 L, .int .i64 W, .int .i64 S, .int .i64 R] 23)).alloc (.cells #[.slice A1 b0.length u1, .slice A2 b1.length u2] 40)).alloc (.cells #[.slice A3 t0.length u3, .slice A4 t1.length u4] 40)) := bstep (bstep (balloc _ _) (balloc _ _)) (balloc _ _)
  have HB0 := Lib.hid hb0
  clear hb0
  go_enter Try.func4, Try.ntmps4
  go_wp2_with fail
  generalize ((w.alloc (.cells #[.int .i64 N, .int .i64 T, .int .i64 L, .int .i64 W, .int .i64 S, .int .i64 R] 23)).alloc (.cells #[.slice A1 b0.length u1, .slice A2 b1.length u2] 40)).alloc (.cells #[.slice A3 t0.length u3, .slice A4 t1.length u4] 40) = w0 at *
  obtain ⟨⟨c0, c1, c2, c3, c4, c5⟩, a0, a1, r0, r1⟩ := HA.out.ten
  refine (H0.out _).mono ?_
  rintro e w1 ⟨rfl, hb1⟩
  clear c0 c1 c2 c3 c4 c5 a0 a1 r0 r1
  obtain ⟨⟨c0, c1, c2, c3, c4, c5⟩, a0, a1, r0, r1⟩ := (HA.out.below hb1).ten
  go_wp2_with fail
  refine (H3.out _).mono ?_
  rintro e w2 ⟨rfl, hb2'⟩
  have hb2 := bstep hb1 hb2'
  clear c0 c1 c2 c3 c4 c5 a0 a1 r0 r1
  clear hb1 hb2'
  obtain ⟨⟨c0, c1, c2, c3, c4, c5⟩, a0, a1, r0, r1⟩ := (HA.out.below hb2).ten
  go_wp2_with fail
  refine (alive_any _).mono ?_
  rintro e w9 ⟨rfl, hb9⟩
  clear c0 c1 c2 c3 c4 c5 a0 a1 r0 r1
  go_wp2
  go_ret
  exact ⟨rfl, bstep HB0.out (bstep hb2 hb9)⟩

set_option maxHeartbeats 1000000 in
theorem sums_odd (N T L W S R : Int) (A1 A2 A3 A4 : Option Addr) (b0 b1 t0 t1 : List UInt8) (u1 u2 u3 u4 : Nat) (w : World) (hp : (⟨N, T, L, W, S, R⟩ : P).In) (hl : N ≤ 12 ∧ L ≤ 12 ∧ T ≤ 12) (hr : (⟨N, T, L, W, S, R⟩ : P).right = true) (hf : b0.length ≤ 60) (hne : b0.length ≠ b1.length) :
    Calls Try.prog 4 #[.agg #[.int .i64 N, .int .i64 T, .int .i64 L, .int .i64 W, .int .i64 S, .int .i64 R], .agg #[.slice A1 b0.length u1, .slice A2 b1.length u2], .agg #[.slice A3 t0.length u3, .slice A4 t1.length u4]] w fun e w' => e = .returned (.bool true) ∧ Below w.heap.size w w' := by
  have K0 := fun w => light_any N T L W S R w
  rw [decide_eq_true hl] at K0
  have H0 := Lib.hid K0
  clear K0 hl
  obtain ⟨q, hq⟩ : ∃ q : P, q = ⟨N, T, L, W, S, R⟩ := ⟨_, rfl⟩
  rw [← hq] at hp
  have hv : q.val = .agg #[.int .i64 N, .int .i64 T, .int .i64 L, .int .i64 W, .int .i64 S, .int .i64 R] := by rw [hq]; rfl
  rw [← hq] at hr
  have K3 := fun w => R08.right_any q w hp
  rw [hr] at K3
  rw [hv] at K3
  have H3 := Lib.hid K3
  clear K3
  have hne2 : ((b0.length : Int) != (b1.length : Int)) = true := by rw [bne_iff_ne]; omega
  clear hne
  clear hv hq hr
  have HA := Lib.hid (Lies2.new w N T L W S R (.slice A1 b0.length u1) (.slice A2 b1.length u2) (.slice A3 t0.length u3) (.slice A4 t1.length u4) 40 40)
  have hb0 : Below w.heap.size w (((w.alloc (.cells #[.int .i64 N, .int .i64 T, .int .i64 L, .int .i64 W, .int .i64 S, .int .i64 R] 23)).alloc (.cells #[.slice A1 b0.length u1, .slice A2 b1.length u2] 40)).alloc (.cells #[.slice A3 t0.length u3, .slice A4 t1.length u4] 40)) := bstep (bstep (balloc _ _) (balloc _ _)) (balloc _ _)
  have HB0 := Lib.hid hb0
  clear hb0
  go_enter Try.func4, Try.ntmps4
  go_wp2_with fail
  generalize ((w.alloc (.cells #[.int .i64 N, .int .i64 T, .int .i64 L, .int .i64 W, .int .i64 S, .int .i64 R] 23)).alloc (.cells #[.slice A1 b0.length u1, .slice A2 b1.length u2] 40)).alloc (.cells #[.slice A3 t0.length u3, .slice A4 t1.length u4] 40) = w0 at *
  obtain ⟨⟨c0, c1, c2, c3, c4, c5⟩, a0, a1, r0, r1⟩ := HA.out.ten
  refine (H0.out _).mono ?_
  rintro e w1 ⟨rfl, hb1⟩
  clear c0 c1 c2 c3 c4 c5 a0 a1 r0 r1
  obtain ⟨⟨c0, c1, c2, c3, c4, c5⟩, a0, a1, r0, r1⟩ := (HA.out.below hb1).ten
  go_wp2_with fail
  refine (H3.out _).mono ?_
  rintro e w2 ⟨rfl, hb2'⟩
  have hb2 := bstep hb1 hb2'
  clear c0 c1 c2 c3 c4 c5 a0 a1 r0 r1
  clear hb1 hb2'
  obtain ⟨⟨c0, c1, c2, c3, c4, c5⟩, a0, a1, r0, r1⟩ := (HA.out.below hb2).ten
  go_wp2_with fail
  refine (alive_any _).mono ?_
  rintro e w9 ⟨rfl, hb9⟩
  clear c0 c1 c2 c3 c4 c5 a0 a1 r0 r1
  go_wp2
  go_ret
  exact ⟨rfl, bstep HB0.out (bstep hb2 hb9)⟩

set_option maxHeartbeats 1000000 in
theorem sums_short (N T L W S R : Int) (A1 A2 A3 A4 : Option Addr) (b0 b1 t0 t1 : List UInt8) (u1 u2 u3 u4 : Nat) (w : World) (hp : (⟨N, T, L, W, S, R⟩ : P).In) (hl : N ≤ 12 ∧ L ≤ 12 ∧ T ≤ 12) (hr : (⟨N, T, L, W, S, R⟩ : P).right = true) (hf : b0.length ≤ 60) (hbb : b0.length = b1.length) (hc : (t0.length : Int) < cost ⟨N, T, L, W, S, R⟩ b0.length) :
    Calls Try.prog 4 #[.agg #[.int .i64 N, .int .i64 T, .int .i64 L, .int .i64 W, .int .i64 S, .int .i64 R], .agg #[.slice A1 b0.length u1, .slice A2 b1.length u2], .agg #[.slice A3 t0.length u3, .slice A4 t1.length u4]] w fun e w' => e = .returned (.bool true) ∧ Below w.heap.size w w' := by
  obtain ⟨q, hq⟩ : ∃ q : P, q = ⟨N, T, L, W, S, R⟩ := ⟨_, rfl⟩
  rw [← hq] at hp
  have hv : q.val = .agg #[.int .i64 N, .int .i64 T, .int .i64 L, .int .i64 W, .int .i64 S, .int .i64 R] := by rw [hq]; rfl
  rw [← hq] at hr
  have hM : q.May := of_decide_eq_true hr
  have hMM := hM
  unfold P.May at hMM
  have eT : q.T = T := by rw [hq]
  have eL : q.L = L := by rw [hq]
  obtain ⟨n, hn⟩ : ∃ n : Nat, cost q b0.length = n := ⟨(cost q b0.length).toNat, by
    have : 0 ≤ cost q b0.length := Int.mul_nonneg (by omega) (by omega)
    omega⟩
  have K9 := fun w => R10.cost_any N T L W S R b0.length w (by omega) (by omega)
  rw [← hq] at K9
  rw [hn] at K9
  have H9 := Lib.hid K9
  clear K9
  have K3 := fun w => R08.right_any q w hp
  rw [hr] at K3
  rw [hv] at K3
  have H3 := Lib.hid K3
  clear K3
  have K0 := fun w => light_any N T L W S R w
  rw [decide_eq_true hl] at K0
  have H0 := Lib.hid K0
  clear K0 hl
  have hne2 : ((b0.length : Int) != (b1.length : Int)) = false := by rw [hbb]; simp
  rw [← hq, hn] at hc
  have hc1 : t0.length < n := by omega
  clear hc
  clear hv hq hr hM hMM eT eL hn hbb
  have HA := Lib.hid (Lies2.new w N T L W S R (.slice A1 b0.length u1) (.slice A2 b1.length u2) (.slice A3 t0.length u3) (.slice A4 t1.length u4) 40 40)
  have hb0 : Below w.heap.size w (((w.alloc (.cells #[.int .i64 N, .int .i64 T, .int .i64 L, .int .i64 W, .int .i64 S, .int .i64 R] 23)).alloc (.cells #[.slice A1 b0.length u1, .slice A2 b1.length u2] 40)).alloc (.cells #[.slice A3 t0.length u3, .slice A4 t1.length u4] 40)) := bstep (bstep (balloc _ _) (balloc _ _)) (balloc _ _)
  have HB0 := Lib.hid hb0
  clear hb0
  go_enter Try.func4, Try.ntmps4
  go_wp2_with fail
  generalize ((w.alloc (.cells #[.int .i64 N, .int .i64 T, .int .i64 L, .int .i64 W, .int .i64 S, .int .i64 R] 23)).alloc (.cells #[.slice A1 b0.length u1, .slice A2 b1.length u2] 40)).alloc (.cells #[.slice A3 t0.length u3, .slice A4 t1.length u4] 40) = w0 at *
  obtain ⟨⟨c0, c1, c2, c3, c4, c5⟩, a0, a1, r0, r1⟩ := HA.out.ten
  refine (H0.out _).mono ?_
  rintro e w1 ⟨rfl, hb1⟩
  clear c0 c1 c2 c3 c4 c5 a0 a1 r0 r1
  obtain ⟨⟨c0, c1, c2, c3, c4, c5⟩, a0, a1, r0, r1⟩ := (HA.out.below hb1).ten
  go_wp2_with fail
  refine (H3.out _).mono ?_
  rintro e w2 ⟨rfl, hb2'⟩
  have hb2 := bstep hb1 hb2'
  clear c0 c1 c2 c3 c4 c5 a0 a1 r0 r1
  clear hb1 hb2'
  obtain ⟨⟨c0, c1, c2, c3, c4, c5⟩, a0, a1, r0, r1⟩ := (HA.out.below hb2).ten
  go_wp2_with fail
  refine (H9.out _).mono ?_
  rintro e w3 ⟨rfl, hb3'⟩
  have hb3 := bstep hb2 hb3'
  clear c0 c1 c2 c3 c4 c5 a0 a1 r0 r1
  clear hb2 hb3'
  obtain ⟨⟨c0, c1, c2, c3, c4, c5⟩, a0, a1, r0, r1⟩ := (HA.out.below hb3).ten
  go_wp2_with fail
  refine (alive_any _).mono ?_
  rintro e w9 ⟨rfl, hb9⟩
  clear c0 c1 c2 c3 c4 c5 a0 a1 r0 r1
  go_wp2
  go_ret
  exact ⟨rfl, bstep HB0.out (bstep hb3 hb9)⟩

set_option maxHeartbeats 1000000 in
theorem sums_short2 (N T L W S R : Int) (A1 A2 A3 A4 : Option Addr) (b0 b1 t0 t1 : List UInt8) (u1 u2 u3 u4 : Nat) (w : World) (hp : (⟨N, T, L, W, S, R⟩ : P).In) (hl : N ≤ 12 ∧ L ≤ 12 ∧ T ≤ 12) (hr : (⟨N, T, L, W, S, R⟩ : P).right = true) (hf : b0.length ≤ 60) (hbb : b0.length = b1.length) (hc : cost ⟨N, T, L, W, S, R⟩ b0.length ≤ t0.length) (hd : (t1.length : Int) < cost ⟨N, T, L, W, S, R⟩ b0.length) :
    Calls Try.prog 4 #[.agg #[.int .i64 N, .int .i64 T, .int .i64 L, .int .i64 W, .int .i64 S, .int .i64 R], .agg #[.slice A1 b0.length u1, .slice A2 b1.length u2], .agg #[.slice A3 t0.length u3, .slice A4 t1.length u4]] w fun e w' => e = .returned (.bool true) ∧ Below w.heap.size w w' := by
  obtain ⟨q, hq⟩ : ∃ q : P, q = ⟨N, T, L, W, S, R⟩ := ⟨_, rfl⟩
  rw [← hq] at hp
  have hv : q.val = .agg #[.int .i64 N, .int .i64 T, .int .i64 L, .int .i64 W, .int .i64 S, .int .i64 R] := by rw [hq]; rfl
  rw [← hq] at hr
  have hM : q.May := of_decide_eq_true hr
  have hMM := hM
  unfold P.May at hMM
  have eT : q.T = T := by rw [hq]
  have eL : q.L = L := by rw [hq]
  obtain ⟨n, hn⟩ : ∃ n : Nat, cost q b0.length = n := ⟨(cost q b0.length).toNat, by
    have : 0 ≤ cost q b0.length := Int.mul_nonneg (by omega) (by omega)
    omega⟩
  have K9 := fun w => R10.cost_any N T L W S R b0.length w (by omega) (by omega)
  rw [← hq] at K9
  rw [hn] at K9
  have H9 := Lib.hid K9
  clear K9
  have K3 := fun w => R08.right_any q w hp
  rw [hr] at K3
  rw [hv] at K3
  have H3 := Lib.hid K3
  clear K3
  have K0 := fun w => light_any N T L W S R w
  rw [decide_eq_true hl] at K0
  have H0 := Lib.hid K0
  clear K0 hl
  have hne2 : ((b0.length : Int) != (b1.length : Int)) = false := by rw [hbb]; simp
  rw [← hq, hn] at hc hd
  have hc1 : n ≤ t0.length := by omega
  have hd1 : t1.length < n := by omega
  clear hc hd
  clear hv hq hr hM hMM eT eL hn hbb
  have HA := Lib.hid (Lies2.new w N T L W S R (.slice A1 b0.length u1) (.slice A2 b1.length u2) (.slice A3 t0.length u3) (.slice A4 t1.length u4) 40 40)
  have hb0 : Below w.heap.size w (((w.alloc (.cells #[.int .i64 N, .int .i64 T, .int .i64 L, .int .i64 W, .int .i64 S, .int .i64 R] 23)).alloc (.cells #[.slice A1 b0.length u1, .slice A2 b1.length u2] 40)).alloc (.cells #[.slice A3 t0.length u3, .slice A4 t1.length u4] 40)) := bstep (bstep (balloc _ _) (balloc _ _)) (balloc _ _)
  have HB0 := Lib.hid hb0
  clear hb0
  go_enter Try.func4, Try.ntmps4
  go_wp2_with fail
  generalize ((w.alloc (.cells #[.int .i64 N, .int .i64 T, .int .i64 L, .int .i64 W, .int .i64 S, .int .i64 R] 23)).alloc (.cells #[.slice A1 b0.length u1, .slice A2 b1.length u2] 40)).alloc (.cells #[.slice A3 t0.length u3, .slice A4 t1.length u4] 40) = w0 at *
  obtain ⟨⟨c0, c1, c2, c3, c4, c5⟩, a0, a1, r0, r1⟩ := HA.out.ten
  refine (H0.out _).mono ?_
  rintro e w1 ⟨rfl, hb1⟩
  clear c0 c1 c2 c3 c4 c5 a0 a1 r0 r1
  obtain ⟨⟨c0, c1, c2, c3, c4, c5⟩, a0, a1, r0, r1⟩ := (HA.out.below hb1).ten
  go_wp2_with fail
  refine (H3.out _).mono ?_
  rintro e w2 ⟨rfl, hb2'⟩
  have hb2 := bstep hb1 hb2'
  clear c0 c1 c2 c3 c4 c5 a0 a1 r0 r1
  clear hb1 hb2'
  obtain ⟨⟨c0, c1, c2, c3, c4, c5⟩, a0, a1, r0, r1⟩ := (HA.out.below hb2).ten
  go_wp2_with fail
  refine (H9.out _).mono ?_
  rintro e w3 ⟨rfl, hb3'⟩
  have hb3 := bstep hb2 hb3'
  clear c0 c1 c2 c3 c4 c5 a0 a1 r0 r1
  clear hb2 hb3'
  obtain ⟨⟨c0, c1, c2, c3, c4, c5⟩, a0, a1, r0, r1⟩ := (HA.out.below hb3).ten
  go_wp2_with fail
  refine (alive_any _).mono ?_
  rintro e w9 ⟨rfl, hb9⟩
  clear c0 c1 c2 c3 c4 c5 a0 a1 r0 r1
  go_wp2
  go_ret
  exact ⟨rfl, bstep HB0.out (bstep hb3 hb9)⟩

/-- what the sums of tapes are where they count -/
theorem take_sum {t0 t1 : List UInt8} {n m k : Nat} (h : n ≤ m) (hk : k < n) : PolyM.co (xorL (t0.take m) (t1.take m)) k = GfM.add (PolyM.co t0 k) (PolyM.co t1 k) ∨ t0.length ≤ k := by
  rcases Nat.lt_or_ge k t0.length with h1 | h1
  · left
    unfold xorL
    rw [PolyM.co_tab, if_pos (by rw [List.length_take]; omega), co_take, co_take, if_pos (by omega), if_pos (by omega)]
  · right; exact h1

set_option maxHeartbeats 8000000 in
theorem sums_ok (N T L W S R : Int) (A1 A2 A3 A4 : Option Addr) (b0 b1 t0 t1 : List UInt8) (u1 u2 u3 u4 : Nat) (w : World) (hp : (⟨N, T, L, W, S, R⟩ : P).In) (h1 : BytesAt w A1 b0) (h2 : BytesAt w A2 b1) (h3 : BytesAt w A3 t0) (h4 : BytesAt w A4 t1) (k1 : b0.length ≤ u1) (k2 : b1.length ≤ u2) (k3 : t0.length ≤ u3) (k4 : t1.length ≤ u4) (z1 : u1 ≤ maxLen) (z2 : u2 ≤ maxLen) (z3 : u3 ≤ maxLen) (z4 : u4 ≤ maxLen) (hl : N ≤ 12 ∧ L ≤ 12 ∧ T ≤ 12) (hr : (⟨N, T, L, W, S, R⟩ : P).right = true) (hf : b0.length ≤ 60) (hbb : b0.length = b1.length) (hc : cost ⟨N, T, L, W, S, R⟩ b0.length ≤ t0.length) (hd : cost ⟨N, T, L, W, S, R⟩ b0.length ≤ t1.length) :
    Calls Try.prog 4 #[.agg #[.int .i64 N, .int .i64 T, .int .i64 L, .int .i64 W, .int .i64 S, .int .i64 R], .agg #[.slice A1 b0.length u1, .slice A2 b1.length u2], .agg #[.slice A3 t0.length u3, .slice A4 t1.length u4]] w fun e w' => e = .returned (.bool true) ∧ Below w.heap.size w w' := by
  obtain ⟨q, hq⟩ : ∃ q : P, q = ⟨N, T, L, W, S, R⟩ := ⟨_, rfl⟩
  rw [← hq] at hp
  have hv : q.val = .agg #[.int .i64 N, .int .i64 T, .int .i64 L, .int .i64 W, .int .i64 S, .int .i64 R] := by rw [hq]; rfl
  rw [← hq] at hr hc hd
  have hM : q.May := of_decide_eq_true hr
  have hMM := hM
  unfold P.May at hMM
  have eT : q.T = T := by rw [hq]
  have eL : q.L = L := by rw [hq]
  obtain ⟨n, hn⟩ : ∃ n : Nat, cost q b0.length = n := ⟨(cost q b0.length).toNat, by
    have : 0 ≤ cost q b0.length := Int.mul_nonneg (by omega) (by omega)
    omega⟩
  have K9 := fun w => R10.cost_any N T L W S R b0.length w (by omega) (by omega)
  rw [← hq] at K9
  rw [hn] at K9
  have H9 := Lib.hid K9
  clear K9
  rw [hn] at hc hd
  have hc1 : n ≤ t0.length := by omega
  have hd1 : n ≤ t1.length := by omega
  have eN : q.N = N := by rw [hq]
  obtain ⟨m, hm⟩ : ∃ m : Nat, N = m := ⟨N.toNat, by omega⟩
  have hsn : q.stripes b0.length * q.T.toNat = n := by
    have : cost q b0.length = q.T * (q.stripes b0.length : Nat) := rfl
    rw [this] at hn
    obtain ⟨tt, htt⟩ : ∃ tt : Nat, q.T = tt := ⟨q.T.toNat, by omega⟩
    rw [htt] at hn ⊢
    rw [Int.toNat_natCast, Nat.mul_comm]
    exact_mod_cast hn
  obtain ⟨xb, hxb⟩ : ∃ xb, xb = xorL b0 b1 := ⟨_, rfl⟩
  obtain ⟨xt, hxt⟩ : ∃ xt, xt = xorL (t0.take n) (t1.take n) := ⟨_, rfl⟩
  have hxbl : xb.length = b0.length := by rw [hxb, xorL_len]
  have hxtl : xt.length = n := by rw [hxt, xorL_len, List.length_take]; omega
  have E0 : dealE q b0 t0 = 0 := by unfold dealE; rw [hr, if_pos rfl, if_neg (by omega), if_neg (by omega)]
  have E1 : dealE q b1 t1 = 0 := by unfold dealE; rw [hr, if_pos rfl, if_neg (by omega), if_neg (by rw [← hbb]; omega)]
  have E2 : dealE q xb xt = 0 := by unfold dealE; rw [hr, if_pos rfl, if_neg (by omega), if_neg (by rw [hxbl, hxtl]; omega)]
  obtain ⟨sh0, hs0⟩ : ∃ s, s = shares q (polys q b0 t0) := ⟨_, rfl⟩
  obtain ⟨sh1, hs1⟩ : ∃ s, s = shares q (polys q b1 t1) := ⟨_, rfl⟩
  obtain ⟨sh2, hs2⟩ : ∃ s, s = shares q (polys q xb xt) := ⟨_, rfl⟩
  have D0 : dealA q b0 t0 = sh0 := by unfold dealA; rw [E0, if_pos rfl, hs0]
  have D1 : dealA q b1 t1 = sh1 := by unfold dealA; rw [E1, if_pos rfl, hs1]
  have D2 : dealA q xb xt = sh2 := by unfold dealA; rw [E2, if_pos rfl, hs2]
  have l0 : sh0.length = m := by rw [hs0, shares_len, eN, hm]; rfl
  have l1 : sh1.length = m := by rw [hs1, shares_len, eN, hm]; rfl
  have l2 : sh2.length = m := by rw [hs2, shares_len, eN, hm]; rfl
  have hpl : ∀ a b : List UInt8, (polys q a b).length = q.stripes a.length := fun a b => by unfold polys; rw [polysTo_len]
  have hst : q.stripes b0.length ≤ 240 := stripes_le q _ (by omega)
  have hn2 : n ≤ 240 * 12 := by rw [← hsn]; exact Nat.mul_le_mul hst (by omega)
  have hrows : ∀ k, (h0 : k < sh0.length) → (h1 : k < sh1.length) → (h2 : k < sh2.length) → sh2[k] = xorL sh0[k] sh1[k] ∧ sh1[k].length = sh0[k].length ∧ sh0[k].length ≤ 240 := fun k h0 h1 h2 => by
    subst hs0 hs1 hs2
    rw [shares_get, shares_get, shares_get, share_len, share_len, hpl, hpl, ← hbb, hxb]
    refine ⟨share_add hM b0 b1 t0 t1 xt hbb (fun j hj => ?_) _, rfl, hst⟩
    rw [hsn] at hj
    rw [hxt, co_xorL _ _ (by rw [List.length_take, List.length_take]; omega), co_take, co_take, if_pos hj, if_pos hj]
  have HR := Lib.hid hrows; have HL0 := Lib.hid l0; have HL1 := Lib.hid l1; have HL2 := Lib.hid l2
  have KD1 := fun bf w (ht : Gf.Tab w bf) (h1 : BytesAt w A1 b0) (h3 : BytesAt w A3 t0) => Deal.deal_any bf q A1 A3 b0 t0 u1 u3 w hp ht h1 k1 z1 h3 k3 z3 (by omega)
  have KD2 := fun bf w (ht : Gf.Tab w bf) (h2 : BytesAt w A2 b1) (h4 : BytesAt w A4 t1) => Deal.deal_any bf q A2 A4 b1 t1 u2 u4 w hp ht h2 k2 z2 h4 k4 z4 (by omega)
  have KD3 := fun bf w X Y f h (ht : Gf.Tab w bf) (hX : BytesAt w X xb) (g1 : xb.length ≤ f) (g2 : f ≤ maxLen) (hY : BytesAt w Y xt) (g3 : xt.length ≤ h) (g4 : h ≤ maxLen) => Deal.deal_any bf q X Y xb xt f h w hp ht hX g1 g2 hY g3 g4 (by omega)
  rw [E0, D0, hv] at KD1
  rw [E1, D1, hv] at KD2
  rw [E2, D2, hv] at KD3
  have HD1 := Lib.hid KD1; have HD2 := Lib.hid KD2; have HD3 := Lib.hid KD3
  have HX1 : Hid (∀ W, BytesAt W A1 b0 → BytesAt W A2 b1 → Calls Try.prog 16 #[.slice A1 b0.length u1, .slice A2 b1.length u2] W (RetNew W xb)) := Lib.hid fun W h1 h2 => by
    rw [hxb]; exact R10.xor_any A1 A2 b0 b1 u1 u2 W h1 h2 (by omega) (by omega)
  have HX2 : Hid (∀ W, BytesAt W A3 t0 → BytesAt W A4 t1 → Calls Try.prog 16 #[.slice A3 n u3, .slice A4 n u4] W (RetNew W xt)) := Lib.hid fun W h3 h4 => by
    have C := R10.xor_any A3 A4 (t0.take n) (t1.take n) u3 u4 W (h3.take n) (h4.take n) (by rw [List.length_take]; omega) (by rw [List.length_take]; omega)
    rw [← hxt, List.length_take, List.length_take, Nat.min_eq_left hc1, Nat.min_eq_left hd1] at C
    exact C
  have hm12 : m ≤ 12 := by omega
  have hcap3 : n ≤ u3 := by omega
  have hcap4 : n ≤ u4 := by omega
  have B1 := Lib.hid h1; have B2 := Lib.hid h2; have B3 := Lib.hid h3; have B4 := Lib.hid h4
  have hbb2 := hbb
  have K3 := fun w => R08.right_any q w hp
  rw [hr] at K3
  rw [hv] at K3
  have H3 := Lib.hid K3
  clear K3
  have K0 := fun w => light_any N T L W S R w
  rw [decide_eq_true hl] at K0
  have H0 := Lib.hid K0
  clear K0 hl
  have hne2 : ((b0.length : Int) != (b1.length : Int)) = false := by rw [hbb]; simp
  have HM := Lib.hid hm
  have hnm : ((m : Int) != N) = false := by rw [hm]; simp
  clear hn2 hv hq hr hM hMM eT eL hn hbb hbb2 hc hd eN hsn hxb hxt hxbl hxtl E0 E1 E2 D0 D1 D2 hs0 hs1 hs2 l0 l1 l2 hpl hst hrows KD1 KD2 KD3 h1 h2 h3 h4 hm
  have z3' := z3
  have z4' := z4
  unfold maxLen at z3' z4'
  have HA := Lib.hid (Lies2.new w N T L W S R (.slice A1 b0.length u1) (.slice A2 b1.length u2) (.slice A3 t0.length u3) (.slice A4 t1.length u4) 40 40)
  have hb0 : Below w.heap.size w (((w.alloc (.cells #[.int .i64 N, .int .i64 T, .int .i64 L, .int .i64 W, .int .i64 S, .int .i64 R] 23)).alloc (.cells #[.slice A1 b0.length u1, .slice A2 b1.length u2] 40)).alloc (.cells #[.slice A3 t0.length u3, .slice A4 t1.length u4] 40)) := bstep (bstep (balloc _ _) (balloc _ _)) (balloc _ _)
  have HB0 := Lib.hid hb0
  clear hb0
  go_enter Try.func4, Try.ntmps4
  go_wp2_with fail
  generalize ((w.alloc (.cells #[.int .i64 N, .int .i64 T, .int .i64 L, .int .i64 W, .int .i64 S, .int .i64 R] 23)).alloc (.cells #[.slice A1 b0.length u1, .slice A2 b1.length u2] 40)).alloc (.cells #[.slice A3 t0.length u3, .slice A4 t1.length u4] 40) = w0 at *
  replace B1 := Lib.hid (B1.out.below HB0.out)
  replace B2 := Lib.hid (B2.out.below HB0.out)
  replace B3 := Lib.hid (B3.out.below HB0.out)
  replace B4 := Lib.hid (B4.out.below HB0.out)
  obtain ⟨⟨c0, c1, c2, c3, c4, c5⟩, a0, a1, r0, r1⟩ := HA.out.ten
  refine (H0.out _).mono ?_
  rintro e w1 ⟨rfl, hb1⟩
  clear c0 c1 c2 c3 c4 c5 a0 a1 r0 r1
  obtain ⟨⟨c0, c1, c2, c3, c4, c5⟩, a0, a1, r0, r1⟩ := (HA.out.below hb1).ten
  go_wp2_with fail
  refine (H3.out _).mono ?_
  rintro e w2 ⟨rfl, hb2'⟩
  have hb2 := bstep hb1 hb2'
  clear c0 c1 c2 c3 c4 c5 a0 a1 r0 r1
  clear hb1 hb2'
  obtain ⟨⟨c0, c1, c2, c3, c4, c5⟩, a0, a1, r0, r1⟩ := (HA.out.below hb2).ten
  go_wp2_with fail
  refine (H9.out _).mono ?_
  rintro e w3 ⟨rfl, hb3'⟩
  have hb3 := bstep hb2 hb3'
  clear c0 c1 c2 c3 c4 c5 a0 a1 r0 r1
  clear hb2 hb3'
  obtain ⟨⟨c0, c1, c2, c3, c4, c5⟩, a0, a1, r0, r1⟩ := (HA.out.below hb3).ten
  go_wp2_with fail
  refine (Gf.new_any w3).mono ?_
  rintro e w4 ⟨rfl, ht, hb4', _⟩
  have hb4 := bstep hb3 hb4'
  clear c0 c1 c2 c3 c4 c5 a0 a1 r0 r1
  clear hb3 hb4'
  generalize w3.heap.size = bf at *
  have HT := Lib.hid ht
  clear ht
  obtain ⟨⟨c0, c1, c2, c3, c4, c5⟩, a0, a1, r0, r1⟩ := (HA.out.below hb4).ten
  go_wp2_with fail
  refine (HD1.out bf w4 HT.out (B1.out.below hb4) (B3.out.below hb4)).mono ?_
  rintro e w5 ⟨X0, d0, rfl, _, _, hX0, hb5', _⟩
  rw [HL0.out]
  have hb5 := bstep hb4 hb5'
  replace HT := Lib.hid (HT.out.below hb5')
  have HX0 := Lib.hid hX0
  clear c0 c1 c2 c3 c4 c5 a0 a1 r0 r1
  clear hb4 hb5' hX0
  obtain ⟨⟨c0, c1, c2, c3, c4, c5⟩, a0, a1, r0, r1⟩ := (HA.out.below hb5).ten
  go_wp2_with fail
  refine (HD2.out bf w5 HT.out (B2.out.below hb5) (B4.out.below hb5)).mono ?_
  rintro e w6 ⟨X1, d1, rfl, _, _, hX1, hb6', _⟩
  rw [HL1.out]
  have hb6 := bstep hb5 hb6'
  replace HT := Lib.hid (HT.out.below hb6')
  replace HX0 := Lib.hid (HX0.out.below hb6')
  have HX1' := Lib.hid hX1
  replace HA := Lib.hid (HA.out.below hb6)
  replace B1 := Lib.hid (B1.out.below hb6)
  replace B2 := Lib.hid (B2.out.below hb6)
  replace B3 := Lib.hid (B3.out.below hb6)
  replace B4 := Lib.hid (B4.out.below hb6)
  replace HB0 := Lib.hid (bstep HB0.out hb6)
  clear c0 c1 c2 c3 c4 c5 a0 a1 r0 r1
  clear hb5 hb6 hb6' hX1
  go_wp2_with fail
  refine Drawn.wp_region_flowL 22 [Drawn.SP.is (.pointer (some ⟨bf, 0, none⟩)), Drawn.SP.is (.agg #[.int .i64 N, .int .i64 T, .int .i64 L, .int .i64 W, .int .i64 S, .int .i64 R]), Drawn.SP.is (.pointer (some ⟨w.heap.size + 1, 0, none⟩)), Drawn.SP.is (.slice A1 b0.length u1), Drawn.SP.is (.pointer (some ⟨w.heap.size + 1, 1, none⟩)), Drawn.SP.is (.slice A2 b1.length u2), Drawn.SP.bytes xb, Drawn.SP.is (.pointer (some ⟨w.heap.size + 2, 0, none⟩)), Drawn.SP.is (.slice A3 t0.length u3), Drawn.SP.is (.int .i64 (n : Nat)), Drawn.SP.is (.slice A3 n u3), Drawn.SP.is (.pointer (some ⟨w.heap.size + 2, 1, none⟩)), Drawn.SP.is (.slice A4 t1.length u4), Drawn.SP.is (.int .i64 (n : Nat)), Drawn.SP.is (.slice A4 n u4), Drawn.SP.bytes xt, Drawn.SP.rowsE sh2 0, Drawn.SP.rowsE sh2 0, Drawn.SP.rows sh2, Drawn.SP.is (.int .i64 0), Drawn.SP.rows sh2, Drawn.SP.is (.int .i64 0)] (by kernel_rfl) (by kernel_rfl) ?_ ?_
  · intro i hi a wz hb hev hdep
    rcases (show i = 0 ∨ i = 1 ∨ i = 2 ∨ i = 3 ∨ i = 4 ∨ i = 5 ∨ i = 6 ∨ i = 7 ∨ i = 8 ∨ i = 9 ∨ i = 10 ∨ i = 11 ∨ i = 12 ∨ i = 13 ∨ i = 14 ∨ i = 15 ∨ i = 16 ∨ i = 17 ∨ i = 18 ∨ i = 19 ∨ i = 20 ∨ i = 21 by omega) with rfl | rfl | rfl | rfl | rfl | rfl | rfl | rfl | rfl | rfl | rfl | rfl | rfl | rfl | rfl | rfl | rfl | rfl | rfl | rfl | rfl | rfl
    · have e8 : a.tmps[8]?.getD undef = .pointer (some ⟨bf, 0, none⟩) := hev 8 rfl
      refine Drawn.wpOp_flow 80 rfl rfl rfl ?_
      clear hev hdep hb
      go_simp
      exact ⟨_, rfl, rfl, Below.refl _ _⟩
    · have e3 : a.tmps[3]?.getD undef = .pointer (some ⟨w.heap.size, 0, none⟩) := hev 3 rfl
      refine Drawn.wpOp_flow 81 rfl rfl rfl ?_
      obtain ⟨⟨c0, c1, c2, c3, c4, c5⟩, a0, a1, r0, r1⟩ := (HA.out.below hb).ten
      clear hev hdep hb
      go_simp
      exact ⟨_, rfl, rfl, Below.refl _ _⟩
    · have e4 : a.tmps[4]?.getD undef = .pointer (some ⟨w.heap.size + 1, 0, none⟩) := hev 4 rfl
      refine Drawn.wpOp_flow 82 rfl rfl rfl ?_
      clear hev hdep hb
      go_simp
      exact ⟨_, rfl, rfl, Below.refl _ _⟩
    · have d2 : a.tmps[82]?.getD undef = .pointer (some ⟨w.heap.size + 1, 0, none⟩) := hdep 2 rfl
      refine Drawn.wpOp_flow 83 rfl rfl rfl ?_
      obtain ⟨⟨c0, c1, c2, c3, c4, c5⟩, a0, a1, r0, r1⟩ := (HA.out.below hb).ten
      clear hev hdep hb
      go_simp
      exact ⟨_, rfl, rfl, Below.refl _ _⟩
    · have e4 : a.tmps[4]?.getD undef = .pointer (some ⟨w.heap.size + 1, 0, none⟩) := hev 4 rfl
      refine Drawn.wpOp_flow 84 rfl rfl rfl ?_
      clear hev hdep hb
      go_simp
      exact ⟨_, rfl, rfl, Below.refl _ _⟩
    · have d4 : a.tmps[84]?.getD undef = .pointer (some ⟨w.heap.size + 1, 1, none⟩) := hdep 4 rfl
      refine Drawn.wpOp_flow 85 rfl rfl rfl ?_
      obtain ⟨⟨c0, c1, c2, c3, c4, c5⟩, a0, a1, r0, r1⟩ := (HA.out.below hb).ten
      clear hev hdep hb
      go_simp
      exact ⟨_, rfl, rfl, Below.refl _ _⟩
    · have d3 : a.tmps[83]?.getD undef = .slice A1 b0.length u1 := hdep 3 rfl
      have d5 : a.tmps[85]?.getD undef = .slice A2 b1.length u2 := hdep 5 rfl
      refine Drawn.wpOp_flow 86 rfl rfl rfl ?_
      clear hev hdep
      go_simp
      refine (HX1.out wz (B1.out.below hb) (B2.out.below hb)).mono ?_
      rintro e w' ⟨X, f, rfl, g1, g2, g3, hb', _⟩
      exact ⟨_, rfl, ⟨X, f, rfl, g1, g2, g3⟩, hb'⟩
    · have e5 : a.tmps[5]?.getD undef = .pointer (some ⟨w.heap.size + 2, 0, none⟩) := hev 5 rfl
      refine Drawn.wpOp_flow 87 rfl rfl rfl ?_
      clear hev hdep hb
      go_simp
      exact ⟨_, rfl, rfl, Below.refl _ _⟩
    · have d7 : a.tmps[87]?.getD undef = .pointer (some ⟨w.heap.size + 2, 0, none⟩) := hdep 7 rfl
      refine Drawn.wpOp_flow 88 rfl rfl rfl ?_
      obtain ⟨⟨c0, c1, c2, c3, c4, c5⟩, a0, a1, r0, r1⟩ := (HA.out.below hb).ten
      clear hev hdep hb
      go_simp
      exact ⟨_, rfl, rfl, Below.refl _ _⟩
    · have e7 : a.tmps[7]?.getD undef = .int .i64 (n : Nat) := hev 7 rfl
      refine Drawn.wpOp_flow 89 rfl rfl rfl ?_
      clear hev hdep hb
      go_simp
      exact ⟨_, rfl, rfl, Below.refl _ _⟩
    · have d8 : a.tmps[88]?.getD undef = .slice A3 t0.length u3 := hdep 8 rfl
      have d9 : a.tmps[89]?.getD undef = .int .i64 (n : Nat) := hdep 9 rfl
      refine Drawn.wpOp_flow 90 rfl rfl rfl ?_
      clear hev hdep hb
      go_simp
      exact ⟨_, rfl, rfl, Below.refl _ _⟩
    · have e5 : a.tmps[5]?.getD undef = .pointer (some ⟨w.heap.size + 2, 0, none⟩) := hev 5 rfl
      refine Drawn.wpOp_flow 91 rfl rfl rfl ?_
      clear hev hdep hb
      go_simp
      exact ⟨_, rfl, rfl, Below.refl _ _⟩
    · have d11 : a.tmps[91]?.getD undef = .pointer (some ⟨w.heap.size + 2, 1, none⟩) := hdep 11 rfl
      refine Drawn.wpOp_flow 92 rfl rfl rfl ?_
      obtain ⟨⟨c0, c1, c2, c3, c4, c5⟩, a0, a1, r0, r1⟩ := (HA.out.below hb).ten
      clear hev hdep hb
      go_simp
      exact ⟨_, rfl, rfl, Below.refl _ _⟩
    · have e7 : a.tmps[7]?.getD undef = .int .i64 (n : Nat) := hev 7 rfl
      refine Drawn.wpOp_flow 93 rfl rfl rfl ?_
      clear hev hdep hb
      go_simp
      exact ⟨_, rfl, rfl, Below.refl _ _⟩
    · have d12 : a.tmps[92]?.getD undef = .slice A4 t1.length u4 := hdep 12 rfl
      have d13 : a.tmps[93]?.getD undef = .int .i64 (n : Nat) := hdep 13 rfl
      refine Drawn.wpOp_flow 94 rfl rfl rfl ?_
      clear hev hdep hb
      go_simp
      exact ⟨_, rfl, rfl, Below.refl _ _⟩
    · have d10 : a.tmps[90]?.getD undef = .slice A3 n u3 := hdep 10 rfl
      have d14 : a.tmps[94]?.getD undef = .slice A4 n u4 := hdep 14 rfl
      refine Drawn.wpOp_flow 95 rfl rfl rfl ?_
      clear hev hdep
      go_simp
      refine (HX2.out wz (B3.out.below hb) (B4.out.below hb)).mono ?_
      rintro e w' ⟨X, f, rfl, g1, g2, g3, hb', _⟩
      exact ⟨_, rfl, ⟨X, f, rfl, g1, g2, g3⟩, hb'⟩
    · have d0 : a.tmps[80]?.getD undef = .pointer (some ⟨bf, 0, none⟩) := hdep 0 rfl
      have d1 : a.tmps[81]?.getD undef = .agg #[.int .i64 N, .int .i64 T, .int .i64 L, .int .i64 W, .int .i64 S, .int .i64 R] := hdep 1 rfl
      obtain ⟨X, f, d6, g1, g2, hX⟩ : (Drawn.SP.bytes xb).p (a.tmps[86]?.getD undef) wz := hdep 6 rfl
      obtain ⟨Y, h, d15, g3, g4, hY⟩ : (Drawn.SP.bytes xt).p (a.tmps[95]?.getD undef) wz := hdep 15 rfl
      refine Drawn.wpOp_flow 96 rfl rfl rfl ?_
      clear hev hdep
      have C := HD3.out bf wz X Y f h (HT.out.below hb) hX g1 g2 hY g3 g4
      clear g1 g2 g3 g4 hX hY
      go_simp
      refine C.mono ?_
      rintro e w' ⟨X, f, rfl, g1, g2, g3, hb', _⟩
      exact ⟨_, rfl, ⟨X, f, rfl, g1, g2, g3⟩, hb'⟩
    · have d16 := hdep 16 rfl
      refine Drawn.wpOp_flow 79 rfl rfl rfl ?_
      clear hev hdep hb
      go_simp
      exact ⟨_, rfl, d16, Below.refl _ _⟩
    · obtain ⟨Z, dz, d17, g5, g6, hZ⟩ : (Drawn.SP.rowsE sh2 0).p (a.tmps[79]?.getD undef) wz := hdep 17 rfl
      refine Drawn.wpOp_flow 97 rfl rfl rfl ?_
      clear hev hdep
      go_simp
      exact ⟨_, rfl, ⟨Z, dz, rfl, g5, g6, hZ⟩, Below.refl _ _⟩
    · obtain ⟨Z, dz, d17, g5, g6, hZ⟩ : (Drawn.SP.rowsE sh2 0).p (a.tmps[79]?.getD undef) wz := hdep 17 rfl
      refine Drawn.wpOp_flow 98 rfl rfl rfl ?_
      clear hev hdep
      clear hZ g5 g6
      go_simp
      exact ⟨_, rfl, rfl, Below.refl _ _⟩
    · have d18 := hdep 18 rfl
      refine Drawn.wpOp_flow 13 rfl rfl rfl ?_
      clear hev hdep hb
      go_simp
      exact ⟨_, rfl, d18, Below.refl _ _⟩
    · have d19 : a.tmps[98]?.getD undef = .int .i64 0 := hdep 19 rfl
      refine Drawn.wpOp_flow 14 rfl rfl rfl ?_
      clear hev hdep hb
      go_simp
      exact ⟨_, rfl, rfl, Below.refl _ _⟩
  · intro xq wz hb hxq
    have vq0 : xq 0 = .pointer (some ⟨bf, 0, none⟩) := hxq 0 (by omega)
    have vq1 : xq 1 = .agg #[.int .i64 N, .int .i64 T, .int .i64 L, .int .i64 W, .int .i64 S, .int .i64 R] := hxq 1 (by omega)
    have vq2 : xq 2 = .pointer (some ⟨w.heap.size + 1, 0, none⟩) := hxq 2 (by omega)
    have vq3 : xq 3 = .slice A1 b0.length u1 := hxq 3 (by omega)
    have vq4 : xq 4 = .pointer (some ⟨w.heap.size + 1, 1, none⟩) := hxq 4 (by omega)
    have vq5 : xq 5 = .slice A2 b1.length u2 := hxq 5 (by omega)
    have vq7 : xq 7 = .pointer (some ⟨w.heap.size + 2, 0, none⟩) := hxq 7 (by omega)
    have vq8 : xq 8 = .slice A3 t0.length u3 := hxq 8 (by omega)
    have vq9 : xq 9 = .int .i64 (n : Nat) := hxq 9 (by omega)
    have vq10 : xq 10 = .slice A3 n u3 := hxq 10 (by omega)
    have vq11 : xq 11 = .pointer (some ⟨w.heap.size + 2, 1, none⟩) := hxq 11 (by omega)
    have vq12 : xq 12 = .slice A4 t1.length u4 := hxq 12 (by omega)
    have vq13 : xq 13 = .int .i64 (n : Nat) := hxq 13 (by omega)
    have vq14 : xq 14 = .slice A4 n u4 := hxq 14 (by omega)
    have vq19 : xq 19 = .int .i64 0 := hxq 19 (by omega)
    obtain ⟨Z, dz, vq20, g5, g6, hZ⟩ : (Drawn.SP.rows sh2).p (xq 20) wz := hxq 20 (by omega)
    have vq21 : xq 21 = .int .i64 0 := hxq 21 (by omega)
    show Exit.then _ _ Exit.normal (Drawn.acts _ [(14, some (xq 21)), (13, some (xq 20)), (98, some (xq 19)), (97, some (xq 18)), (79, some (xq 17)), (96, some (xq 16)), (95, some (xq 15)), (94, some (xq 14)), (93, some (xq 13)), (92, some (xq 12)), (91, some (xq 11)), (90, some (xq 10)), (89, some (xq 9)), (88, some (xq 8)), (87, some (xq 7)), (86, some (xq 6)), (85, some (xq 5)), (84, some (xq 4)), (83, some (xq 3)), (82, some (xq 2)), (81, some (xq 1)), (80, some (xq 0))]) _
    rw [vq0, vq1, vq2, vq3, vq4, vq5, vq7, vq8, vq9, vq10, vq11, vq12, vq13, vq14, vq19, vq20, vq21]
    clear hxq vq0 vq1 vq2 vq3 vq4 vq5 vq7 vq8 vq9 vq10 vq11 vq12 vq13 vq14 vq19 vq20 vq21
    generalize xq 6 = yq6
    generalize xq 15 = yq15
    generalize xq 16 = yq16
    generalize xq 17 = yq17
    generalize xq 18 = yq18
    clear xq
    simp only [Drawn.acts]
    go_simp
    rw [HL2.out]
    have HX2' := Lib.hid hZ
    replace HX0 := Lib.hid (HX0.out.below hb)
    replace HX1' := Lib.hid (HX1'.out.below hb)
    replace HA := Lib.hid (HA.out.below hb)
    replace HB0 := Lib.hid (bstep HB0.out hb)
    clear hZ hb g5 g6
    obtain ⟨⟨c0, c1, c2, c3, c4, c5⟩, a0, a1, r0, r1⟩ := HA.out.ten
    go_at_K
    go_wp2
    clear c0 c1 c2 c3 c4 c5 a0 a1 r0 r1
    go_loopw [132] (fun i wr => ∃ k : Nat, k ≤ m ∧ i = .int .i64 k ∧ Below wz.heap.size wz wr) (fun i _ => m - (intOf i).toNat)
    case atStart => exact ⟨0, Nat.zero_le _, rfl, Below.refl _ _⟩
    case round =>
      obtain ⟨k, hk, rfl, hbr⟩ := hrel
      rename World => wr
      by_cases hlt : k < m
      · have i0 : k < sh0.length := by rw [HL0.out]; exact hlt
        have i1 : k < sh1.length := by rw [HL1.out]; exact hlt
        have i2 : k < sh2.length := by rw [HL2.out]; exact hlt
        obtain ⟨x0, o0, C0, e0, rfl, f0, g0, _, hC0⟩ := (HX0.out.below hbr).row i0
        obtain ⟨x1, o1, C1, e1, rfl, f1, g1, _, hC1⟩ := (HX1'.out.below hbr).row i1
        obtain ⟨x2, o2, C2, e2, rfl, f2, g2, _, hC2⟩ := (HX2'.out.below hbr).row i2
        obtain ⟨hx, hl1, hl0⟩ := HR.out k i0 i1 i2
        have hl2 : sh2[k].length = sh0[k].length := by rw [hx, xorL_len]
        rw [hl1] at f1
        rw [hl2] at f2
        have S0 := Lib.hid hC0; have S1 := Lib.hid hC1; have S2 := Lib.hid hC2
        generalize sh0[k] = s0 at *
        generalize sh1[k] = s1 at *
        generalize sh2[k] = s2 at *
        obtain ⟨l, hl⟩ : ∃ l, l = s0.length := ⟨_, rfl⟩
        rw [← hl] at f0 f1 f2 hl0 hl1 hl2
        have HXk : Hid (∀ W, BytesAt W C0 s0 → BytesAt W C1 s1 → Calls Try.prog 16 #[.slice C0 l e0, .slice C1 l e1] W (RetNew W s2)) := Lib.hid fun W h1 h2 => by
          have C := R10.xor_any C0 C1 s0 s1 e0 e1 W h1 h2 (by omega) (by omega)
          rw [← hx, ← hl, hl1] at C
          exact C
        have HSk : Hid (∀ W X f, BytesAt W C2 s2 → BytesAt W X s2 → Calls Try.prog 14 #[.slice C2 l e2, .slice X s2.length f] W fun e w' => e = .returned (.bool true) ∧ ∃ n, w' = W.drewN n) := Lib.hid fun W X f h1 h2 => by
          have C := R01.same_any C2 X s2 s2 e2 f W h1 h2 (by unfold maxLen; omega) (by unfold maxLen; omega)
          rw [same_self, hl2] at C
          rw [hl2]
          exact C
        have F0 := Lib.hid f0; have F1 := Lib.hid f1; have F2 := Lib.hid f2
        clear f0 f1 f2 g0 g1 g2 hC0 hC1 hC2 hx hl hl0 hl1 hl2 i0 i1 i2
        go_wp2_with fail
        refine Drawn.wp_region_flowL 28 [Drawn.SP.is (.slice (some ⟨x2, o2, none⟩) m dz), Drawn.SP.is (.int .i64 (k : Nat)), Drawn.SP.is (.pointer (some ⟨x2, o2 + k, none⟩)), Drawn.SP.is (.slice C2 l e2), Drawn.SP.is (.slice (some ⟨x0, o0, none⟩) m d0), Drawn.SP.is (.int .i64 (k : Nat)), Drawn.SP.is (.pointer (some ⟨x0, o0 + k, none⟩)), Drawn.SP.is (.slice C0 l e0), Drawn.SP.is (.slice (some ⟨x1, o1, none⟩) m d1), Drawn.SP.is (.int .i64 (k : Nat)), Drawn.SP.is (.pointer (some ⟨x1, o1 + k, none⟩)), Drawn.SP.is (.slice C1 l e1), Drawn.SP.bytes s2, Drawn.SP.is (.bool true), Drawn.SP.is (.bool false), Drawn.SP.is (.bool false), Drawn.SP.is (.slice (some ⟨x0, o0, none⟩) m d0), Drawn.SP.is (.int .i64 (k : Nat)), Drawn.SP.is (.pointer (some ⟨x0, o0 + k, none⟩)), Drawn.SP.is (.slice C0 l e0), Drawn.SP.is (.int .i64 (l : Nat)), Drawn.SP.is (.slice (some ⟨x1, o1, none⟩) m d1), Drawn.SP.is (.int .i64 (k : Nat)), Drawn.SP.is (.pointer (some ⟨x1, o1 + k, none⟩)), Drawn.SP.is (.slice C1 l e1), Drawn.SP.is (.int .i64 (l : Nat)), Drawn.SP.is (.bool false), Drawn.SP.is (.bool false)] (by kernel_rfl) (by kernel_rfl) ?_ ?_
        · intro i hi a wy hb hev hdep
          rcases (show i = 0 ∨ i = 1 ∨ i = 2 ∨ i = 3 ∨ i = 4 ∨ i = 5 ∨ i = 6 ∨ i = 7 ∨ i = 8 ∨ i = 9 ∨ i = 10 ∨ i = 11 ∨ i = 12 ∨ i = 13 ∨ i = 14 ∨ i = 15 ∨ i = 16 ∨ i = 17 ∨ i = 18 ∨ i = 19 ∨ i = 20 ∨ i = 21 ∨ i = 22 ∨ i = 23 ∨ i = 24 ∨ i = 25 ∨ i = 26 ∨ i = 27 by omega) with rfl | rfl | rfl | rfl | rfl | rfl | rfl | rfl | rfl | rfl | rfl | rfl | rfl | rfl | rfl | rfl | rfl | rfl | rfl | rfl | rfl | rfl | rfl | rfl | rfl | rfl | rfl | rfl
          · have e13 : a.tmps[13]?.getD undef = .slice (some ⟨x2, o2, none⟩) m dz := hev 13 rfl
            refine Drawn.wpOp_flow 135 rfl rfl rfl ?_
            clear hev hdep hb
            go_simp
            exact ⟨_, rfl, rfl, Below.refl _ _⟩
          · have e15 : a.tmps[15]?.getD undef = .int .i64 (k : Nat) := hev 15 rfl
            refine Drawn.wpOp_flow 136 rfl rfl rfl ?_
            clear hev hdep hb
            go_simp
            exact ⟨_, rfl, rfl, Below.refl _ _⟩
          · have d0 : a.tmps[135]?.getD undef = .slice (some ⟨x2, o2, none⟩) m dz := hdep 0 rfl
            have d1 : a.tmps[136]?.getD undef = .int .i64 (k : Nat) := hdep 1 rfl
            refine Drawn.wpOp_flow 137 rfl rfl rfl ?_
            clear hev hdep hb
            go_simp
            exact ⟨_, rfl, rfl, Below.refl _ _⟩
          · have d2 : a.tmps[137]?.getD undef = .pointer (some ⟨x2, o2 + k, none⟩) := hdep 2 rfl
            refine Drawn.wpOp_flow 138 rfl rfl rfl ?_
            have f0 := (hb.cell (p := ⟨x0, o0 + k, none⟩) (cell_lt F0.out)).trans F0.out
            have f1 := (hb.cell (p := ⟨x1, o1 + k, none⟩) (cell_lt F1.out)).trans F1.out
            have f2 := (hb.cell (p := ⟨x2, o2 + k, none⟩) (cell_lt F2.out)).trans F2.out
            clear hev hdep hb
            go_simp
            exact ⟨_, rfl, rfl, Below.refl _ _⟩
          · have e9 : a.tmps[9]?.getD undef = .slice (some ⟨x0, o0, none⟩) m d0 := hev 9 rfl
            refine Drawn.wpOp_flow 139 rfl rfl rfl ?_
            clear hev hdep hb
            go_simp
            exact ⟨_, rfl, rfl, Below.refl _ _⟩
          · have e15 : a.tmps[15]?.getD undef = .int .i64 (k : Nat) := hev 15 rfl
            refine Drawn.wpOp_flow 140 rfl rfl rfl ?_
            clear hev hdep hb
            go_simp
            exact ⟨_, rfl, rfl, Below.refl _ _⟩
          · have d4 : a.tmps[139]?.getD undef = .slice (some ⟨x0, o0, none⟩) m d0 := hdep 4 rfl
            have d5 : a.tmps[140]?.getD undef = .int .i64 (k : Nat) := hdep 5 rfl
            refine Drawn.wpOp_flow 141 rfl rfl rfl ?_
            clear hev hdep hb
            go_simp
            exact ⟨_, rfl, rfl, Below.refl _ _⟩
          · have d6 : a.tmps[141]?.getD undef = .pointer (some ⟨x0, o0 + k, none⟩) := hdep 6 rfl
            refine Drawn.wpOp_flow 142 rfl rfl rfl ?_
            have f0 := (hb.cell (p := ⟨x0, o0 + k, none⟩) (cell_lt F0.out)).trans F0.out
            have f1 := (hb.cell (p := ⟨x1, o1 + k, none⟩) (cell_lt F1.out)).trans F1.out
            have f2 := (hb.cell (p := ⟨x2, o2 + k, none⟩) (cell_lt F2.out)).trans F2.out
            clear hev hdep hb
            go_simp
            exact ⟨_, rfl, rfl, Below.refl _ _⟩
          · have e11 : a.tmps[11]?.getD undef = .slice (some ⟨x1, o1, none⟩) m d1 := hev 11 rfl
            refine Drawn.wpOp_flow 143 rfl rfl rfl ?_
            clear hev hdep hb
            go_simp
            exact ⟨_, rfl, rfl, Below.refl _ _⟩
          · have e15 : a.tmps[15]?.getD undef = .int .i64 (k : Nat) := hev 15 rfl
            refine Drawn.wpOp_flow 144 rfl rfl rfl ?_
            clear hev hdep hb
            go_simp
            exact ⟨_, rfl, rfl, Below.refl _ _⟩
          · have d8 : a.tmps[143]?.getD undef = .slice (some ⟨x1, o1, none⟩) m d1 := hdep 8 rfl
            have d9 : a.tmps[144]?.getD undef = .int .i64 (k : Nat) := hdep 9 rfl
            refine Drawn.wpOp_flow 145 rfl rfl rfl ?_
            clear hev hdep hb
            go_simp
            exact ⟨_, rfl, rfl, Below.refl _ _⟩
          · have d10 : a.tmps[145]?.getD undef = .pointer (some ⟨x1, o1 + k, none⟩) := hdep 10 rfl
            refine Drawn.wpOp_flow 146 rfl rfl rfl ?_
            have f0 := (hb.cell (p := ⟨x0, o0 + k, none⟩) (cell_lt F0.out)).trans F0.out
            have f1 := (hb.cell (p := ⟨x1, o1 + k, none⟩) (cell_lt F1.out)).trans F1.out
            have f2 := (hb.cell (p := ⟨x2, o2 + k, none⟩) (cell_lt F2.out)).trans F2.out
            clear hev hdep hb
            go_simp
            exact ⟨_, rfl, rfl, Below.refl _ _⟩
          · have d7 : a.tmps[142]?.getD undef = .slice C0 l e0 := hdep 7 rfl
            have d11 : a.tmps[146]?.getD undef = .slice C1 l e1 := hdep 11 rfl
            refine Drawn.wpOp_flow 147 rfl rfl rfl ?_
            clear hev hdep
            go_simp
            refine (HXk.out wy (S0.out.below hb) (S1.out.below hb)).mono ?_
            rintro e w' ⟨X, f, rfl, g1, g2, g3, hb', _⟩
            exact ⟨_, rfl, ⟨X, f, rfl, g1, g2, g3⟩, hb'⟩
          · have d3 : a.tmps[138]?.getD undef = .slice C2 l e2 := hdep 3 rfl
            obtain ⟨X, f, d12, g1, g2, hX⟩ : (Drawn.SP.bytes s2).p (a.tmps[147]?.getD undef) wy := hdep 12 rfl
            refine Drawn.wpOp_flow 148 rfl rfl rfl ?_
            clear hev hdep
            have C := HSk.out wy X f (S2.out.below hb) hX
            clear g1 g2 hX
            go_simp
            refine C.mono ?_
            rintro e w' ⟨rfl, hb'⟩
            exact ⟨_, rfl, rfl, bquiet hb'⟩
          · have d13 : a.tmps[148]?.getD undef = .bool true := hdep 13 rfl
            refine Drawn.wpOp_flow 149 rfl rfl rfl ?_
            clear hev hdep hb
            go_simp
            exact ⟨_, rfl, rfl, Below.refl _ _⟩
          · have d14 : a.tmps[149]?.getD undef = .bool false := hdep 14 rfl
            refine Drawn.wpOp_flow 150 rfl rfl rfl ?_
            clear hev hdep hb
            go_simp
            exact ⟨_, rfl, rfl, Below.refl _ _⟩
          · have e9 : a.tmps[9]?.getD undef = .slice (some ⟨x0, o0, none⟩) m d0 := hev 9 rfl
            have dg : a.tmps[150]?.getD undef = .bool false := hdep 15 rfl
            refine Drawn.wpOp_flow 151 rfl (Drawn.wanted_of rfl rfl rfl dg) rfl ?_
            clear dg
            clear hev hdep hb
            go_simp
            exact ⟨_, rfl, rfl, Below.refl _ _⟩
          · have e15 : a.tmps[15]?.getD undef = .int .i64 (k : Nat) := hev 15 rfl
            have dg : a.tmps[150]?.getD undef = .bool false := hdep 15 rfl
            refine Drawn.wpOp_flow 152 rfl (Drawn.wanted_of rfl rfl rfl dg) rfl ?_
            clear dg
            clear hev hdep hb
            go_simp
            exact ⟨_, rfl, rfl, Below.refl _ _⟩
          · have d16 : a.tmps[151]?.getD undef = .slice (some ⟨x0, o0, none⟩) m d0 := hdep 16 rfl
            have d17 : a.tmps[152]?.getD undef = .int .i64 (k : Nat) := hdep 17 rfl
            have dg : a.tmps[150]?.getD undef = .bool false := hdep 15 rfl
            refine Drawn.wpOp_flow 153 rfl (Drawn.wanted_of rfl rfl rfl dg) rfl ?_
            clear dg
            clear hev hdep hb
            go_simp
            exact ⟨_, rfl, rfl, Below.refl _ _⟩
          · have d18 : a.tmps[153]?.getD undef = .pointer (some ⟨x0, o0 + k, none⟩) := hdep 18 rfl
            have dg : a.tmps[150]?.getD undef = .bool false := hdep 15 rfl
            refine Drawn.wpOp_flow 154 rfl (Drawn.wanted_of rfl rfl rfl dg) rfl ?_
            have f0 := (hb.cell (p := ⟨x0, o0 + k, none⟩) (cell_lt F0.out)).trans F0.out
            have f1 := (hb.cell (p := ⟨x1, o1 + k, none⟩) (cell_lt F1.out)).trans F1.out
            have f2 := (hb.cell (p := ⟨x2, o2 + k, none⟩) (cell_lt F2.out)).trans F2.out
            clear dg
            clear hev hdep hb
            go_simp
            exact ⟨_, rfl, rfl, Below.refl _ _⟩
          · have d19 : a.tmps[154]?.getD undef = .slice C0 l e0 := hdep 19 rfl
            have dg : a.tmps[150]?.getD undef = .bool false := hdep 15 rfl
            refine Drawn.wpOp_flow 155 rfl (Drawn.wanted_of rfl rfl rfl dg) rfl ?_
            clear dg
            clear hev hdep hb
            go_simp
            exact ⟨_, rfl, rfl, Below.refl _ _⟩
          · have e11 : a.tmps[11]?.getD undef = .slice (some ⟨x1, o1, none⟩) m d1 := hev 11 rfl
            have dg : a.tmps[150]?.getD undef = .bool false := hdep 15 rfl
            refine Drawn.wpOp_flow 156 rfl (Drawn.wanted_of rfl rfl rfl dg) rfl ?_
            clear dg
            clear hev hdep hb
            go_simp
            exact ⟨_, rfl, rfl, Below.refl _ _⟩
          · have e15 : a.tmps[15]?.getD undef = .int .i64 (k : Nat) := hev 15 rfl
            have dg : a.tmps[150]?.getD undef = .bool false := hdep 15 rfl
            refine Drawn.wpOp_flow 157 rfl (Drawn.wanted_of rfl rfl rfl dg) rfl ?_
            clear dg
            clear hev hdep hb
            go_simp
            exact ⟨_, rfl, rfl, Below.refl _ _⟩
          · have d21 : a.tmps[156]?.getD undef = .slice (some ⟨x1, o1, none⟩) m d1 := hdep 21 rfl
            have d22 : a.tmps[157]?.getD undef = .int .i64 (k : Nat) := hdep 22 rfl
            have dg : a.tmps[150]?.getD undef = .bool false := hdep 15 rfl
            refine Drawn.wpOp_flow 158 rfl (Drawn.wanted_of rfl rfl rfl dg) rfl ?_
            clear dg
            clear hev hdep hb
            go_simp
            exact ⟨_, rfl, rfl, Below.refl _ _⟩
          · have d23 : a.tmps[158]?.getD undef = .pointer (some ⟨x1, o1 + k, none⟩) := hdep 23 rfl
            have dg : a.tmps[150]?.getD undef = .bool false := hdep 15 rfl
            refine Drawn.wpOp_flow 159 rfl (Drawn.wanted_of rfl rfl rfl dg) rfl ?_
            have f0 := (hb.cell (p := ⟨x0, o0 + k, none⟩) (cell_lt F0.out)).trans F0.out
            have f1 := (hb.cell (p := ⟨x1, o1 + k, none⟩) (cell_lt F1.out)).trans F1.out
            have f2 := (hb.cell (p := ⟨x2, o2 + k, none⟩) (cell_lt F2.out)).trans F2.out
            clear dg
            clear hev hdep hb
            go_simp
            exact ⟨_, rfl, rfl, Below.refl _ _⟩
          · have d24 : a.tmps[159]?.getD undef = .slice C1 l e1 := hdep 24 rfl
            have dg : a.tmps[150]?.getD undef = .bool false := hdep 15 rfl
            refine Drawn.wpOp_flow 160 rfl (Drawn.wanted_of rfl rfl rfl dg) rfl ?_
            clear dg
            clear hev hdep hb
            go_simp
            exact ⟨_, rfl, rfl, Below.refl _ _⟩
          · have d20 : a.tmps[155]?.getD undef = .int .i64 (l : Nat) := hdep 20 rfl
            have d25 : a.tmps[160]?.getD undef = .int .i64 (l : Nat) := hdep 25 rfl
            have dg : a.tmps[150]?.getD undef = .bool false := hdep 15 rfl
            refine Drawn.wpOp_flow 161 rfl (Drawn.wanted_of rfl rfl rfl dg) rfl ?_
            clear dg
            clear hev hdep hb
            go_simp
            exact ⟨_, rfl, rfl, Below.refl _ _⟩
          · have d15 : a.tmps[150]?.getD undef = .bool false := hdep 15 rfl
            have d26 : a.tmps[161]?.getD undef = .bool false := hdep 26 rfl
            refine Drawn.wpOp_flow 162 rfl rfl rfl ?_
            clear hev hdep hb
            go_simp
            exact ⟨_, rfl, rfl, Below.refl _ _⟩
        · intro xq wy hb hxq
          have vq0 : xq 0 = .slice (some ⟨x2, o2, none⟩) m dz := hxq 0 (by omega)
          have vq1 : xq 1 = .int .i64 (k : Nat) := hxq 1 (by omega)
          have vq2 : xq 2 = .pointer (some ⟨x2, o2 + k, none⟩) := hxq 2 (by omega)
          have vq3 : xq 3 = .slice C2 l e2 := hxq 3 (by omega)
          have vq4 : xq 4 = .slice (some ⟨x0, o0, none⟩) m d0 := hxq 4 (by omega)
          have vq5 : xq 5 = .int .i64 (k : Nat) := hxq 5 (by omega)
          have vq6 : xq 6 = .pointer (some ⟨x0, o0 + k, none⟩) := hxq 6 (by omega)
          have vq7 : xq 7 = .slice C0 l e0 := hxq 7 (by omega)
          have vq8 : xq 8 = .slice (some ⟨x1, o1, none⟩) m d1 := hxq 8 (by omega)
          have vq9 : xq 9 = .int .i64 (k : Nat) := hxq 9 (by omega)
          have vq10 : xq 10 = .pointer (some ⟨x1, o1 + k, none⟩) := hxq 10 (by omega)
          have vq11 : xq 11 = .slice C1 l e1 := hxq 11 (by omega)
          have vq13 : xq 13 = .bool true := hxq 13 (by omega)
          have vq14 : xq 14 = .bool false := hxq 14 (by omega)
          have vq15 : xq 15 = .bool false := hxq 15 (by omega)
          have vq16 : xq 16 = .slice (some ⟨x0, o0, none⟩) m d0 := hxq 16 (by omega)
          have vq17 : xq 17 = .int .i64 (k : Nat) := hxq 17 (by omega)
          have vq18 : xq 18 = .pointer (some ⟨x0, o0 + k, none⟩) := hxq 18 (by omega)
          have vq19 : xq 19 = .slice C0 l e0 := hxq 19 (by omega)
          have vq20 : xq 20 = .int .i64 (l : Nat) := hxq 20 (by omega)
          have vq21 : xq 21 = .slice (some ⟨x1, o1, none⟩) m d1 := hxq 21 (by omega)
          have vq22 : xq 22 = .int .i64 (k : Nat) := hxq 22 (by omega)
          have vq23 : xq 23 = .pointer (some ⟨x1, o1 + k, none⟩) := hxq 23 (by omega)
          have vq24 : xq 24 = .slice C1 l e1 := hxq 24 (by omega)
          have vq25 : xq 25 = .int .i64 (l : Nat) := hxq 25 (by omega)
          have vq26 : xq 26 = .bool false := hxq 26 (by omega)
          have vq27 : xq 27 = .bool false := hxq 27 (by omega)
          show Exit.then _ _ Exit.normal (Drawn.acts _ [(162, some (xq 27)), (161, some (xq 26)), (160, some (xq 25)), (159, some (xq 24)), (158, some (xq 23)), (157, some (xq 22)), (156, some (xq 21)), (155, some (xq 20)), (154, some (xq 19)), (153, some (xq 18)), (152, some (xq 17)), (151, some (xq 16)), (150, some (xq 15)), (149, some (xq 14)), (148, some (xq 13)), (147, some (xq 12)), (146, some (xq 11)), (145, some (xq 10)), (144, some (xq 9)), (143, some (xq 8)), (142, some (xq 7)), (141, some (xq 6)), (140, some (xq 5)), (139, some (xq 4)), (138, some (xq 3)), (137, some (xq 2)), (136, some (xq 1)), (135, some (xq 0))]) _
          rw [vq0, vq1, vq2, vq3, vq4, vq5, vq6, vq7, vq8, vq9, vq10, vq11, vq13, vq14, vq15, vq16, vq17, vq18, vq19, vq20, vq21, vq22, vq23, vq24, vq25, vq26, vq27]
          clear hxq vq0 vq1 vq2 vq3 vq4 vq5 vq6 vq7 vq8 vq9 vq10 vq11 vq13 vq14 vq15 vq16 vq17 vq18 vq19 vq20 vq21 vq22 vq23 vq24 vq25 vq26 vq27
          generalize xq 12 = yq12
          clear xq
          simp only [Drawn.acts]
          go_simp
          have hbr2 := hbr.trans (hb.mono hbr.size)
          clear hb
          go_at_K
          go_wp2
          go_roundw
          case rel => exact ⟨k + 1, by omega, by go_num, hbr2⟩
          case measure => simp [intOf] <;> omega
      · obtain rfl : k = m := by omega
        go_wp2_with fail
        refine (alive_any _).mono ?_
        rintro e w9 ⟨rfl, hb9⟩
        go_wp2
        go_ret
        exact ⟨rfl, bstep HB0.out (bstep hbr hb9)⟩
theorem sums_all (N T L W S R : Int) (A1 A2 A3 A4 : Option Addr) (b0 b1 t0 t1 : List UInt8) (u1 u2 u3 u4 : Nat) (w : World) (hp : (⟨N, T, L, W, S, R⟩ : P).In) (h1 : BytesAt w A1 b0) (h2 : BytesAt w A2 b1) (h3 : BytesAt w A3 t0) (h4 : BytesAt w A4 t1) (k1 : b0.length ≤ u1) (k2 : b1.length ≤ u2) (k3 : t0.length ≤ u3) (k4 : t1.length ≤ u4) (z1 : u1 ≤ maxLen) (z2 : u2 ≤ maxLen) (z3 : u3 ≤ maxLen) (z4 : u4 ≤ maxLen) :
    Calls Try.prog 4 #[.agg #[.int .i64 N, .int .i64 T, .int .i64 L, .int .i64 W, .int .i64 S, .int .i64 R], .agg #[.slice A1 b0.length u1, .slice A2 b1.length u2], .agg #[.slice A3 t0.length u3, .slice A4 t1.length u4]] w fun e w' => e = .returned (.bool true) ∧ Below w.heap.size w w' := by
  by_cases hl : N ≤ 12 ∧ L ≤ 12 ∧ T ≤ 12
  · rcases hr : (⟨N, T, L, W, S, R⟩ : P).right with _ | _
    · exact sums_arg N T L W S R A1 A2 A3 A4 b0 b1 t0 t1 u1 u2 u3 u4 w hp hl hr
    · by_cases hf : 60 < b0.length
      · exact sums_long N T L W S R A1 A2 A3 A4 b0 b1 t0 t1 u1 u2 u3 u4 w hp hl hr hf
      · by_cases hb : b0.length = b1.length
        · by_cases hc : (t0.length : Int) < cost ⟨N, T, L, W, S, R⟩ b0.length
          · exact sums_short N T L W S R A1 A2 A3 A4 b0 b1 t0 t1 u1 u2 u3 u4 w hp hl hr (by omega) hb hc
          · by_cases hd : (t1.length : Int) < cost ⟨N, T, L, W, S, R⟩ b0.length
            · exact sums_short2 N T L W S R A1 A2 A3 A4 b0 b1 t0 t1 u1 u2 u3 u4 w hp hl hr (by omega) hb (by omega) hd
            · exact sums_ok N T L W S R A1 A2 A3 A4 b0 b1 t0 t1 u1 u2 u3 u4 w hp h1 h2 h3 h4 k1 k2 k3 k4 z1 z2 z3 z4 hl hr (by omega) hb (by omega) (by omega)
        · exact sums_odd N T L W S R A1 A2 A3 A4 b0 b1 t0 t1 u1 u2 u3 u4 w hp hl hr (by omega) hb
  · exact sums_heavy N T L W S R A1 A2 A3 A4 b0 b1 t0 t1 u1 u2 u3 u4 w hp hl
theorem sums_law (q : P) (A1 : Option Addr) (b0 : List UInt8) (u1 : Nat) (A2 : Option Addr) (b1 : List UInt8) (u2 : Nat) (A3 : Option Addr) (t0 : List UInt8) (u3 : Nat) (A4 : Option Addr) (t1 : List UInt8) (u4 : Nat) (w : World) (hp : q.In) (h1 : BytesAt w A1 b0) (k1 : b0.length ≤ u1) (z1 : u1 ≤ maxLen) (h2 : BytesAt w A2 b1) (k2 : b1.length ≤ u2) (z2 : u2 ≤ maxLen) (h3 : BytesAt w A3 t0) (k3 : t0.length ≤ u3) (z3 : u3 ≤ maxLen) (h4 : BytesAt w A4 t1) (k4 : t1.length ≤ u4) (z4 : u4 ≤ maxLen) :
    Calls Try.prog 4 #[q.val, .agg #[.slice A1 b0.length u1, .slice A2 b1.length u2], .agg #[.slice A3 t0.length u3, .slice A4 t1.length u4]] w fun e w' => e = .returned (.bool true) ∧ Below w.heap.size w w' := by
  obtain ⟨N, T, L, W, S, R⟩ := q
  exact sums_all N T L W S R A1 A2 A3 A4 b0 b1 t0 t1 u1 u2 u3 u4 w hp h1 h2 h3 h4 k1 k2 k3 k4 z1 z2 z3 z4
end Go.Proofs.Ytmeenipcfmeopaa.Law10
