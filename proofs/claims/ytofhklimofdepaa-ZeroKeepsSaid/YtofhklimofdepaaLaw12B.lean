/- the walk of ZeroKeeps -/
import Derived.Test.YtofhklimofdepaaLaw12A
import Derived.Test.YtofhklimofdepaaKeepMath
import Derived.Test.YtofhklimofdepaaME
set_option maxRecDepth 100000
namespace Go.Proofs.Ytofhklimofdepaa.Law12
open Go.RowKit PlanM StripeM LagrM DealM RebM ZeroM Law08 Law10

structure LiesC (w : World) (g : Nat) (N T L W S R : Int) (p0 p1 p2 : Value) : Prop where
  plan : PlanLies w g N T L W S R
  a0 : w.cell? ⟨g + 1, 0, none⟩ = some p0
  a1 : w.cell? ⟨g + 1, 1, none⟩ = some p1
  a2 : w.cell? ⟨g + 1, 2, none⟩ = some p2
theorem LiesC.below {w w' : World} {g : Nat} {N T L W S R : Int} {p0 p1 p2 : Value} (h : LiesC w g N T L W S R p0 p1 p2) (hb : Below w.heap.size w w') : LiesC w' g N T L W S R p0 p1 p2 :=
  ⟨h.plan.below hb, (hb.cell (p := ⟨g + 1, 0, none⟩) (cell_lt h.a0)).trans h.a0, (hb.cell (p := ⟨g + 1, 1, none⟩) (cell_lt h.a1)).trans h.a1, (hb.cell (p := ⟨g + 1, 2, none⟩) (cell_lt h.a2)).trans h.a2⟩
theorem liesC_aux (w : World) (g : Nat) (hg : w.heap.size = g + 1) (N T L W S R : Int) (p0 p1 p2 : Value) (t : TypeId) (h : PlanLies w g N T L W S R) : LiesC (w.alloc (.cells #[p0, p1, p2] t)) g N T L W S R p0 p1 p2 := by
  have a0 : (w.alloc (.cells #[p0, p1, p2] t)).cell? ⟨w.heap.size, 0, none⟩ = some p0 := by simp
  have a1 : (w.alloc (.cells #[p0, p1, p2] t)).cell? ⟨w.heap.size, 1, none⟩ = some p1 := by simp
  have a2 : (w.alloc (.cells #[p0, p1, p2] t)).cell? ⟨w.heap.size, 2, none⟩ = some p2 := by simp
  rw [hg] at a0 a1 a2
  exact ⟨h.below (balloc _ _), a0, a1, a2⟩
theorem LiesC.new (w : World) (N T L W S R : Int) (p0 p1 p2 : Value) (t : TypeId) : LiesC ((w.alloc (.cells #[.int .i64 N, .int .i64 T, .int .i64 L, .int .i64 W, .int .i64 S, .int .i64 R] 23)).alloc (.cells #[p0, p1, p2] t)) w.heap.size N T L W S R p0 p1 p2 :=
  liesC_aux (w.alloc (.cells #[.int .i64 N, .int .i64 T, .int .i64 L, .int .i64 W, .int .i64 S, .int .i64 R] 23)) w.heap.size (by simp) N T L W S R p0 p1 p2 t (PlanLies.new w N T L W S R)
theorem rows_lit3 {w : World} {A B C : Option Addr} {l m n : List UInt8} {c d e : Nat} (h : BytesAt w A l) (h1 : l.length ≤ c) (h2 : c ≤ maxLen) (k : BytesAt w B m) (k1 : m.length ≤ d) (k2 : d ≤ maxLen) (j : BytesAt w C n) (j1 : n.length ≤ e) (j2 : e ≤ maxLen) :
    RowsAt (w.alloc (.cells #[.slice A l.length c, .slice B m.length d, .slice C n.length e] 24)) (some ⟨w.heap.size, 0, none⟩) [l, m, n] := by
  intro i hi
  match i, hi with
  | 0, _ => exact ⟨w.heap.size, 0, _, rfl, by rw [World.cell?_alloc_at _ _ _ _ rfl]; rfl, A, c, rfl, h1, h2, h.alloc _⟩
  | 1, _ => exact ⟨w.heap.size, 0, _, rfl, by rw [World.cell?_alloc_at _ _ _ _ rfl]; rfl, B, d, rfl, k1, k2, k.alloc _⟩
  | 2, _ => exact ⟨w.heap.size, 0, _, rfl, by rw [World.cell?_alloc_at _ _ _ _ rfl]; rfl, C, e, rfl, j1, j2, j.alloc _⟩
def SP.bl (l : List UInt8) (n : Nat) : Drawn.SP := ⟨fun v w => ∃ X d, v = .slice X n d ∧ n ≤ d ∧ d ≤ maxLen ∧ BytesAt w X l, fun _ _ _ h hb => by
  obtain ⟨X, d, h1, h2, h3, h4⟩ := h; exact ⟨X, d, h1, h2, h3, h4.below hb⟩⟩
def SP.bln (B : Nat) (l : List UInt8) (n : Nat) : Drawn.SP := ⟨fun v w => ∃ X d, v = .slice X n d ∧ n ≤ d ∧ d ≤ maxLen ∧ BytesAt w X l ∧ ∀ a, X = some a → B ≤ a.block, fun _ _ _ h hb => by
  obtain ⟨X, d, h1, h2, h3, h4, h5⟩ := h; exact ⟨X, d, h1, h2, h3, h4.below hb, h5⟩⟩
def SP.lit3 (m : List (List UInt8)) : Drawn.SP := ⟨fun v w => ∃ X, v = .slice X 3 3 ∧ RowsAt w X m, fun _ _ _ h hb => by
  obtain ⟨X, h1, h2⟩ := h; exact ⟨X, h1, h2.below hb⟩⟩

set_option maxHeartbeats 2000000 in
theorem keep_heavy (N T L W S R : Int) (A1 A2 A4 A3 : Option Addr) (b tp zz : List UInt8) (who : List Int) (u1 u2 u4 u3 : Nat) (w : World) (_hp : (⟨N, T, L, W, S, R⟩ : P).In) (hl : ¬ (N ≤ 12 ∧ L ≤ 12 ∧ T ≤ 12)) :
    Calls Try.prog 5 #[.agg #[.int .i64 N, .int .i64 T, .int .i64 L, .int .i64 W, .int .i64 S, .int .i64 R], .agg #[.slice A1 b.length u1, .slice A2 tp.length u2, .slice A4 zz.length u4], .slice A3 who.length u3] w fun e w' => e = .returned (.bool true) ∧ Below w.heap.size w w' := by
  have K0 := fun w => Law10.light_any N T L W S R w
  rw [decide_eq_false hl] at K0
  have H0 := Lib.hid K0
  clear K0 hl
  have HA := Lib.hid (LiesC.new w N T L W S R (.slice A1 b.length u1) (.slice A2 tp.length u2) (.slice A4 zz.length u4) 42)
  have HB0 := Lib.hid (show Below w.heap.size w ((w.alloc (.cells #[.int .i64 N, .int .i64 T, .int .i64 L, .int .i64 W, .int .i64 S, .int .i64 R] 23)).alloc (.cells #[.slice A1 b.length u1, .slice A2 tp.length u2, .slice A4 zz.length u4] 42)) from bstep (balloc _ _) (balloc _ _))
  go_enter Try.func5, Try.ntmps5
  go_wp2_with fail
  generalize (w.alloc (.cells #[.int .i64 N, .int .i64 T, .int .i64 L, .int .i64 W, .int .i64 S, .int .i64 R] 23)).alloc (.cells #[.slice A1 b.length u1, .slice A2 tp.length u2, .slice A4 zz.length u4] 42) = w0 at *
  refine Drawn.wp_region_flowL 6 [Drawn.SP.is (.pointer (some ⟨w.heap.size + 1, 0, none⟩)), Drawn.SP.is (.slice A1 b.length u1), Drawn.SP.is (.pointer (some ⟨w.heap.size + 1, 1, none⟩)), Drawn.SP.is (.slice A2 tp.length u2), Drawn.SP.is (.slice A1 b.length u1), Drawn.SP.is (.slice A2 tp.length u2)] (by kernel_rfl) (by kernel_rfl) ?_ ?_
  · intro i hi a w1 hb hev hdep
    rcases (show i = 0 ∨ i = 1 ∨ i = 2 ∨ i = 3 ∨ i = 4 ∨ i = 5 by omega) with rfl | rfl | rfl | rfl | rfl | rfl
    · have e4 : a.tmps[4]?.getD undef = .pointer (some ⟨w.heap.size + 1, 0, none⟩) := hev 4 rfl
      refine Drawn.wpOp_flow 21 rfl rfl rfl ?_
      clear hev hdep hb
      go_simp
      exact ⟨_, rfl, rfl, Below.refl _ _⟩
    · have d0 : a.tmps[21]?.getD undef = .pointer (some ⟨w.heap.size + 1, 0, none⟩) := hdep 0 rfl
      refine Drawn.wpOp_flow 22 rfl rfl rfl ?_
      have a0 := (HA.out.below hb).a0
      have a1 := (HA.out.below hb).a1
      clear hev hdep hb
      go_simp
      exact ⟨_, rfl, rfl, Below.refl _ _⟩
    · have e4 : a.tmps[4]?.getD undef = .pointer (some ⟨w.heap.size + 1, 0, none⟩) := hev 4 rfl
      refine Drawn.wpOp_flow 23 rfl rfl rfl ?_
      clear hev hdep hb
      go_simp
      exact ⟨_, rfl, rfl, Below.refl _ _⟩
    · have d2 : a.tmps[23]?.getD undef = .pointer (some ⟨w.heap.size + 1, 1, none⟩) := hdep 2 rfl
      refine Drawn.wpOp_flow 24 rfl rfl rfl ?_
      have a0 := (HA.out.below hb).a0
      have a1 := (HA.out.below hb).a1
      clear hev hdep hb
      go_simp
      exact ⟨_, rfl, rfl, Below.refl _ _⟩
    · have d1 : a.tmps[22]?.getD undef = .slice A1 b.length u1 := hdep 1 rfl
      refine Drawn.wpOp_flow 7 rfl rfl rfl ?_
      clear hev hdep hb
      go_simp
      exact ⟨_, rfl, rfl, Below.refl _ _⟩
    · have d3 : a.tmps[24]?.getD undef = .slice A2 tp.length u2 := hdep 3 rfl
      refine Drawn.wpOp_flow 8 rfl rfl rfl ?_
      clear hev hdep hb
      go_simp
      exact ⟨_, rfl, rfl, Below.refl _ _⟩
  · intro xq w1 hb hxq
    have vq0 : xq 0 = .pointer (some ⟨w.heap.size + 1, 0, none⟩) := hxq 0 (by omega)
    have vq1 : xq 1 = .slice A1 b.length u1 := hxq 1 (by omega)
    have vq2 : xq 2 = .pointer (some ⟨w.heap.size + 1, 1, none⟩) := hxq 2 (by omega)
    have vq3 : xq 3 = .slice A2 tp.length u2 := hxq 3 (by omega)
    have vq4 : xq 4 = .slice A1 b.length u1 := hxq 4 (by omega)
    have vq5 : xq 5 = .slice A2 tp.length u2 := hxq 5 (by omega)
    show Exit.then _ _ Exit.normal (Drawn.acts _ [(8, some (xq 5)), (7, some (xq 4)), (24, some (xq 3)), (23, some (xq 2)), (22, some (xq 1)), (21, some (xq 0))]) _
    rw [vq0, vq1, vq2, vq3, vq4, vq5]
    clear hxq vq0 vq1 vq2 vq3 vq4 vq5
    clear xq
    simp only [Drawn.acts]
    go_simp
    have hb1 := hb
    clear hb
    obtain ⟨c0, c1, c2, c3, c4, c5⟩ := six (HA.out.below hb1).plan
    go_at_K
    go_wp2_with fail
    refine (H0.out _).mono ?_
    rintro e w2 ⟨rfl, hb2'⟩
    have hb2 := bstep hb1 hb2'
    clear c0 c1 c2 c3 c4 c5
    clear hb1 hb2'
    obtain ⟨c0, c1, c2, c3, c4, c5⟩ := six (HA.out.below hb2).plan
    go_wp2_with fail
    refine (alive_any _).mono ?_
    rintro e wz ⟨rfl, hbz⟩
    clear c0 c1 c2 c3 c4 c5
    go_wp2
    go_ret
    exact ⟨rfl, bstep HB0.out (bstep hb2 hbz)⟩

set_option maxHeartbeats 2000000 in
theorem keep_arg (N T L W S R : Int) (A1 A2 A4 A3 : Option Addr) (b tp zz : List UInt8) (who : List Int) (u1 u2 u4 u3 : Nat) (w : World) (hp : (⟨N, T, L, W, S, R⟩ : P).In) (hl : N ≤ 12 ∧ L ≤ 12 ∧ T ≤ 12) (hr : (⟨N, T, L, W, S, R⟩ : P).right = false) :
    Calls Try.prog 5 #[.agg #[.int .i64 N, .int .i64 T, .int .i64 L, .int .i64 W, .int .i64 S, .int .i64 R], .agg #[.slice A1 b.length u1, .slice A2 tp.length u2, .slice A4 zz.length u4], .slice A3 who.length u3] w fun e w' => e = .returned (.bool true) ∧ Below w.heap.size w w' := by
  have K0 := fun w => Law10.light_any N T L W S R w
  rw [decide_eq_true hl] at K0
  have H0 := Lib.hid K0
  clear K0 hl
  obtain ⟨q, hq⟩ : ∃ q : P, q = ⟨N, T, L, W, S, R⟩ := ⟨_, rfl⟩
  have hpq := hp
  rw [← hq] at hpq
  have hv : q.val = .agg #[.int .i64 N, .int .i64 T, .int .i64 L, .int .i64 W, .int .i64 S, .int .i64 R] := by rw [hq]; rfl
  have K3 := fun w => R08.right_any q w hpq
  rw [hq, hr, ← hq, hv] at K3
  have H3 := Lib.hid K3
  clear K3
  clear hq hr hp hpq hv
  have HA := Lib.hid (LiesC.new w N T L W S R (.slice A1 b.length u1) (.slice A2 tp.length u2) (.slice A4 zz.length u4) 42)
  have HB0 := Lib.hid (show Below w.heap.size w ((w.alloc (.cells #[.int .i64 N, .int .i64 T, .int .i64 L, .int .i64 W, .int .i64 S, .int .i64 R] 23)).alloc (.cells #[.slice A1 b.length u1, .slice A2 tp.length u2, .slice A4 zz.length u4] 42)) from bstep (balloc _ _) (balloc _ _))
  go_enter Try.func5, Try.ntmps5
  go_wp2_with fail
  generalize (w.alloc (.cells #[.int .i64 N, .int .i64 T, .int .i64 L, .int .i64 W, .int .i64 S, .int .i64 R] 23)).alloc (.cells #[.slice A1 b.length u1, .slice A2 tp.length u2, .slice A4 zz.length u4] 42) = w0 at *
  refine Drawn.wp_region_flowL 6 [Drawn.SP.is (.pointer (some ⟨w.heap.size + 1, 0, none⟩)), Drawn.SP.is (.slice A1 b.length u1), Drawn.SP.is (.pointer (some ⟨w.heap.size + 1, 1, none⟩)), Drawn.SP.is (.slice A2 tp.length u2), Drawn.SP.is (.slice A1 b.length u1), Drawn.SP.is (.slice A2 tp.length u2)] (by kernel_rfl) (by kernel_rfl) ?_ ?_
  · intro i hi a w1 hb hev hdep
    rcases (show i = 0 ∨ i = 1 ∨ i = 2 ∨ i = 3 ∨ i = 4 ∨ i = 5 by omega) with rfl | rfl | rfl | rfl | rfl | rfl
    · have e4 : a.tmps[4]?.getD undef = .pointer (some ⟨w.heap.size + 1, 0, none⟩) := hev 4 rfl
      refine Drawn.wpOp_flow 21 rfl rfl rfl ?_
      clear hev hdep hb
      go_simp
      exact ⟨_, rfl, rfl, Below.refl _ _⟩
    · have d0 : a.tmps[21]?.getD undef = .pointer (some ⟨w.heap.size + 1, 0, none⟩) := hdep 0 rfl
      refine Drawn.wpOp_flow 22 rfl rfl rfl ?_
      have a0 := (HA.out.below hb).a0
      have a1 := (HA.out.below hb).a1
      clear hev hdep hb
      go_simp
      exact ⟨_, rfl, rfl, Below.refl _ _⟩
    · have e4 : a.tmps[4]?.getD undef = .pointer (some ⟨w.heap.size + 1, 0, none⟩) := hev 4 rfl
      refine Drawn.wpOp_flow 23 rfl rfl rfl ?_
      clear hev hdep hb
      go_simp
      exact ⟨_, rfl, rfl, Below.refl _ _⟩
    · have d2 : a.tmps[23]?.getD undef = .pointer (some ⟨w.heap.size + 1, 1, none⟩) := hdep 2 rfl
      refine Drawn.wpOp_flow 24 rfl rfl rfl ?_
      have a0 := (HA.out.below hb).a0
      have a1 := (HA.out.below hb).a1
      clear hev hdep hb
      go_simp
      exact ⟨_, rfl, rfl, Below.refl _ _⟩
    · have d1 : a.tmps[22]?.getD undef = .slice A1 b.length u1 := hdep 1 rfl
      refine Drawn.wpOp_flow 7 rfl rfl rfl ?_
      clear hev hdep hb
      go_simp
      exact ⟨_, rfl, rfl, Below.refl _ _⟩
    · have d3 : a.tmps[24]?.getD undef = .slice A2 tp.length u2 := hdep 3 rfl
      refine Drawn.wpOp_flow 8 rfl rfl rfl ?_
      clear hev hdep hb
      go_simp
      exact ⟨_, rfl, rfl, Below.refl _ _⟩
  · intro xq w1 hb hxq
    have vq0 : xq 0 = .pointer (some ⟨w.heap.size + 1, 0, none⟩) := hxq 0 (by omega)
    have vq1 : xq 1 = .slice A1 b.length u1 := hxq 1 (by omega)
    have vq2 : xq 2 = .pointer (some ⟨w.heap.size + 1, 1, none⟩) := hxq 2 (by omega)
    have vq3 : xq 3 = .slice A2 tp.length u2 := hxq 3 (by omega)
    have vq4 : xq 4 = .slice A1 b.length u1 := hxq 4 (by omega)
    have vq5 : xq 5 = .slice A2 tp.length u2 := hxq 5 (by omega)
    show Exit.then _ _ Exit.normal (Drawn.acts _ [(8, some (xq 5)), (7, some (xq 4)), (24, some (xq 3)), (23, some (xq 2)), (22, some (xq 1)), (21, some (xq 0))]) _
    rw [vq0, vq1, vq2, vq3, vq4, vq5]
    clear hxq vq0 vq1 vq2 vq3 vq4 vq5
    clear xq
    simp only [Drawn.acts]
    go_simp
    have hb1 := hb
    clear hb
    obtain ⟨c0, c1, c2, c3, c4, c5⟩ := six (HA.out.below hb1).plan
    go_at_K
    go_wp2_with fail
    refine (H0.out _).mono ?_
    rintro e w2 ⟨rfl, hb2'⟩
    have hb2 := bstep hb1 hb2'
    clear c0 c1 c2 c3 c4 c5
    clear hb1 hb2'
    obtain ⟨c0, c1, c2, c3, c4, c5⟩ := six (HA.out.below hb2).plan
    go_wp2_with fail
    refine (H3.out _).mono ?_
    rintro e w3 ⟨rfl, hbx⟩
    have hb3 := bstep hb2 hbx
    clear c0 c1 c2 c3 c4 c5
    clear hb2 hbx
    obtain ⟨c0, c1, c2, c3, c4, c5⟩ := six (HA.out.below hb3).plan
    go_wp2_with fail
    refine (alive_any _).mono ?_
    rintro e wz ⟨rfl, hbz⟩
    clear c0 c1 c2 c3 c4 c5
    go_wp2
    go_ret
    exact ⟨rfl, bstep HB0.out (bstep hb3 hbz)⟩

set_option maxHeartbeats 2000000 in
theorem keep_long (N T L W S R : Int) (A1 A2 A4 A3 : Option Addr) (b tp zz : List UInt8) (who : List Int) (u1 u2 u4 u3 : Nat) (w : World) (hp : (⟨N, T, L, W, S, R⟩ : P).In) (hl : N ≤ 12 ∧ L ≤ 12 ∧ T ≤ 12) (hr : (⟨N, T, L, W, S, R⟩ : P).right = true) (hf : 60 < b.length) :
    Calls Try.prog 5 #[.agg #[.int .i64 N, .int .i64 T, .int .i64 L, .int .i64 W, .int .i64 S, .int .i64 R], .agg #[.slice A1 b.length u1, .slice A2 tp.length u2, .slice A4 zz.length u4], .slice A3 who.length u3] w fun e w' => e = .returned (.bool true) ∧ Below w.heap.size w w' := by
  have K0 := fun w => Law10.light_any N T L W S R w
  rw [decide_eq_true hl] at K0
  have H0 := Lib.hid K0
  clear K0 hl
  obtain ⟨q, hq⟩ : ∃ q : P, q = ⟨N, T, L, W, S, R⟩ := ⟨_, rfl⟩
  have hpq := hp
  rw [← hq] at hpq
  have hv : q.val = .agg #[.int .i64 N, .int .i64 T, .int .i64 L, .int .i64 W, .int .i64 S, .int .i64 R] := by rw [hq]; rfl
  have K3 := fun w => R08.right_any q w hpq
  rw [hq, hr, ← hq, hv] at K3
  have H3 := Lib.hid K3
  clear K3
  clear hq hr hp hpq hv
  have HA := Lib.hid (LiesC.new w N T L W S R (.slice A1 b.length u1) (.slice A2 tp.length u2) (.slice A4 zz.length u4) 42)
  have HB0 := Lib.hid (show Below w.heap.size w ((w.alloc (.cells #[.int .i64 N, .int .i64 T, .int .i64 L, .int .i64 W, .int .i64 S, .int .i64 R] 23)).alloc (.cells #[.slice A1 b.length u1, .slice A2 tp.length u2, .slice A4 zz.length u4] 42)) from bstep (balloc _ _) (balloc _ _))
  go_enter Try.func5, Try.ntmps5
  go_wp2_with fail
  generalize (w.alloc (.cells #[.int .i64 N, .int .i64 T, .int .i64 L, .int .i64 W, .int .i64 S, .int .i64 R] 23)).alloc (.cells #[.slice A1 b.length u1, .slice A2 tp.length u2, .slice A4 zz.length u4] 42) = w0 at *
  refine Drawn.wp_region_flowL 6 [Drawn.SP.is (.pointer (some ⟨w.heap.size + 1, 0, none⟩)), Drawn.SP.is (.slice A1 b.length u1), Drawn.SP.is (.pointer (some ⟨w.heap.size + 1, 1, none⟩)), Drawn.SP.is (.slice A2 tp.length u2), Drawn.SP.is (.slice A1 b.length u1), Drawn.SP.is (.slice A2 tp.length u2)] (by kernel_rfl) (by kernel_rfl) ?_ ?_
  · intro i hi a w1 hb hev hdep
    rcases (show i = 0 ∨ i = 1 ∨ i = 2 ∨ i = 3 ∨ i = 4 ∨ i = 5 by omega) with rfl | rfl | rfl | rfl | rfl | rfl
    · have e4 : a.tmps[4]?.getD undef = .pointer (some ⟨w.heap.size + 1, 0, none⟩) := hev 4 rfl
      refine Drawn.wpOp_flow 21 rfl rfl rfl ?_
      clear hev hdep hb
      go_simp
      exact ⟨_, rfl, rfl, Below.refl _ _⟩
    · have d0 : a.tmps[21]?.getD undef = .pointer (some ⟨w.heap.size + 1, 0, none⟩) := hdep 0 rfl
      refine Drawn.wpOp_flow 22 rfl rfl rfl ?_
      have a0 := (HA.out.below hb).a0
      have a1 := (HA.out.below hb).a1
      clear hev hdep hb
      go_simp
      exact ⟨_, rfl, rfl, Below.refl _ _⟩
    · have e4 : a.tmps[4]?.getD undef = .pointer (some ⟨w.heap.size + 1, 0, none⟩) := hev 4 rfl
      refine Drawn.wpOp_flow 23 rfl rfl rfl ?_
      clear hev hdep hb
      go_simp
      exact ⟨_, rfl, rfl, Below.refl _ _⟩
    · have d2 : a.tmps[23]?.getD undef = .pointer (some ⟨w.heap.size + 1, 1, none⟩) := hdep 2 rfl
      refine Drawn.wpOp_flow 24 rfl rfl rfl ?_
      have a0 := (HA.out.below hb).a0
      have a1 := (HA.out.below hb).a1
      clear hev hdep hb
      go_simp
      exact ⟨_, rfl, rfl, Below.refl _ _⟩
    · have d1 : a.tmps[22]?.getD undef = .slice A1 b.length u1 := hdep 1 rfl
      refine Drawn.wpOp_flow 7 rfl rfl rfl ?_
      clear hev hdep hb
      go_simp
      exact ⟨_, rfl, rfl, Below.refl _ _⟩
    · have d3 : a.tmps[24]?.getD undef = .slice A2 tp.length u2 := hdep 3 rfl
      refine Drawn.wpOp_flow 8 rfl rfl rfl ?_
      clear hev hdep hb
      go_simp
      exact ⟨_, rfl, rfl, Below.refl _ _⟩
  · intro xq w1 hb hxq
    have vq0 : xq 0 = .pointer (some ⟨w.heap.size + 1, 0, none⟩) := hxq 0 (by omega)
    have vq1 : xq 1 = .slice A1 b.length u1 := hxq 1 (by omega)
    have vq2 : xq 2 = .pointer (some ⟨w.heap.size + 1, 1, none⟩) := hxq 2 (by omega)
    have vq3 : xq 3 = .slice A2 tp.length u2 := hxq 3 (by omega)
    have vq4 : xq 4 = .slice A1 b.length u1 := hxq 4 (by omega)
    have vq5 : xq 5 = .slice A2 tp.length u2 := hxq 5 (by omega)
    show Exit.then _ _ Exit.normal (Drawn.acts _ [(8, some (xq 5)), (7, some (xq 4)), (24, some (xq 3)), (23, some (xq 2)), (22, some (xq 1)), (21, some (xq 0))]) _
    rw [vq0, vq1, vq2, vq3, vq4, vq5]
    clear hxq vq0 vq1 vq2 vq3 vq4 vq5
    clear xq
    simp only [Drawn.acts]
    go_simp
    have hb1 := hb
    clear hb
    obtain ⟨c0, c1, c2, c3, c4, c5⟩ := six (HA.out.below hb1).plan
    go_at_K
    go_wp2_with fail
    refine (H0.out _).mono ?_
    rintro e w2 ⟨rfl, hb2'⟩
    have hb2 := bstep hb1 hb2'
    clear c0 c1 c2 c3 c4 c5
    clear hb1 hb2'
    obtain ⟨c0, c1, c2, c3, c4, c5⟩ := six (HA.out.below hb2).plan
    go_wp2_with fail
    refine (H3.out _).mono ?_
    rintro e w3 ⟨rfl, hbx⟩
    have hb3 := bstep hb2 hbx
    clear c0 c1 c2 c3 c4 c5
    clear hb2 hbx
    obtain ⟨c0, c1, c2, c3, c4, c5⟩ := six (HA.out.below hb3).plan
    go_wp2_with fail
    refine (alive_any _).mono ?_
    rintro e wz ⟨rfl, hbz⟩
    clear c0 c1 c2 c3 c4 c5
    go_wp2
    go_ret
    exact ⟨rfl, bstep HB0.out (bstep hb3 hbz)⟩

set_option maxHeartbeats 2000000 in
theorem keep_short (N T L W S R : Int) (A1 A2 A4 A3 : Option Addr) (b tp zz : List UInt8) (who : List Int) (u1 u2 u4 u3 : Nat) (w : World) (hp : (⟨N, T, L, W, S, R⟩ : P).In) (hl : N ≤ 12 ∧ L ≤ 12 ∧ T ≤ 12) (hr : (⟨N, T, L, W, S, R⟩ : P).right = true) (hf : b.length ≤ 60) (hc : (tp.length : Int) < cost ⟨N, T, L, W, S, R⟩ b.length) :
    Calls Try.prog 5 #[.agg #[.int .i64 N, .int .i64 T, .int .i64 L, .int .i64 W, .int .i64 S, .int .i64 R], .agg #[.slice A1 b.length u1, .slice A2 tp.length u2, .slice A4 zz.length u4], .slice A3 who.length u3] w fun e w' => e = .returned (.bool true) ∧ Below w.heap.size w w' := by
  have K0 := fun w => Law10.light_any N T L W S R w
  rw [decide_eq_true hl] at K0
  have H0 := Lib.hid K0
  clear K0 hl
  obtain ⟨q, hq⟩ : ∃ q : P, q = ⟨N, T, L, W, S, R⟩ := ⟨_, rfl⟩
  have hpq := hp
  rw [← hq] at hpq
  have hv : q.val = .agg #[.int .i64 N, .int .i64 T, .int .i64 L, .int .i64 W, .int .i64 S, .int .i64 R] := by rw [hq]; rfl
  have K3 := fun w => R08.right_any q w hpq
  rw [hq, hr, ← hq, hv] at K3
  have H3 := Lib.hid K3
  clear K3
  have hM : q.May := by rw [hq]; exact of_decide_eq_true hr
  have hMM := hM
  unfold P.May at hMM
  have eN : q.N = N := by rw [hq]
  have eT : q.T = T := by rw [hq]
  have eL : q.L = L := by rw [hq]
  obtain ⟨n, hn⟩ : ∃ n : Nat, cost q b.length = n := ⟨(cost q b.length).toNat, by
    have : 0 ≤ cost q b.length := Int.mul_nonneg (by omega) (by omega)
    omega⟩
  have K9 := fun w => R10.cost_any N T L W S R b.length w (by omega) (by omega)
  rw [← hq, hn] at K9
  have H9 := Lib.hid K9
  have i1 : IntKind.i64.wrap (T + L) = T + L := IntWalk.i64_in _ (by omega)
  clear K9
  rw [← hq, hn] at hc
  have hc1 : tp.length < n := by omega
  clear hc
  clear hq hr hp hpq hv hM hMM eN eT eL hn
  have HA := Lib.hid (LiesC.new w N T L W S R (.slice A1 b.length u1) (.slice A2 tp.length u2) (.slice A4 zz.length u4) 42)
  have HB0 := Lib.hid (show Below w.heap.size w ((w.alloc (.cells #[.int .i64 N, .int .i64 T, .int .i64 L, .int .i64 W, .int .i64 S, .int .i64 R] 23)).alloc (.cells #[.slice A1 b.length u1, .slice A2 tp.length u2, .slice A4 zz.length u4] 42)) from bstep (balloc _ _) (balloc _ _))
  go_enter Try.func5, Try.ntmps5
  go_wp2_with fail
  generalize (w.alloc (.cells #[.int .i64 N, .int .i64 T, .int .i64 L, .int .i64 W, .int .i64 S, .int .i64 R] 23)).alloc (.cells #[.slice A1 b.length u1, .slice A2 tp.length u2, .slice A4 zz.length u4] 42) = w0 at *
  refine Drawn.wp_region_flowL 6 [Drawn.SP.is (.pointer (some ⟨w.heap.size + 1, 0, none⟩)), Drawn.SP.is (.slice A1 b.length u1), Drawn.SP.is (.pointer (some ⟨w.heap.size + 1, 1, none⟩)), Drawn.SP.is (.slice A2 tp.length u2), Drawn.SP.is (.slice A1 b.length u1), Drawn.SP.is (.slice A2 tp.length u2)] (by kernel_rfl) (by kernel_rfl) ?_ ?_
  · intro i hi a w1 hb hev hdep
    rcases (show i = 0 ∨ i = 1 ∨ i = 2 ∨ i = 3 ∨ i = 4 ∨ i = 5 by omega) with rfl | rfl | rfl | rfl | rfl | rfl
    · have e4 : a.tmps[4]?.getD undef = .pointer (some ⟨w.heap.size + 1, 0, none⟩) := hev 4 rfl
      refine Drawn.wpOp_flow 21 rfl rfl rfl ?_
      clear hev hdep hb
      go_simp
      exact ⟨_, rfl, rfl, Below.refl _ _⟩
    · have d0 : a.tmps[21]?.getD undef = .pointer (some ⟨w.heap.size + 1, 0, none⟩) := hdep 0 rfl
      refine Drawn.wpOp_flow 22 rfl rfl rfl ?_
      have a0 := (HA.out.below hb).a0
      have a1 := (HA.out.below hb).a1
      clear hev hdep hb
      go_simp
      exact ⟨_, rfl, rfl, Below.refl _ _⟩
    · have e4 : a.tmps[4]?.getD undef = .pointer (some ⟨w.heap.size + 1, 0, none⟩) := hev 4 rfl
      refine Drawn.wpOp_flow 23 rfl rfl rfl ?_
      clear hev hdep hb
      go_simp
      exact ⟨_, rfl, rfl, Below.refl _ _⟩
    · have d2 : a.tmps[23]?.getD undef = .pointer (some ⟨w.heap.size + 1, 1, none⟩) := hdep 2 rfl
      refine Drawn.wpOp_flow 24 rfl rfl rfl ?_
      have a0 := (HA.out.below hb).a0
      have a1 := (HA.out.below hb).a1
      clear hev hdep hb
      go_simp
      exact ⟨_, rfl, rfl, Below.refl _ _⟩
    · have d1 : a.tmps[22]?.getD undef = .slice A1 b.length u1 := hdep 1 rfl
      refine Drawn.wpOp_flow 7 rfl rfl rfl ?_
      clear hev hdep hb
      go_simp
      exact ⟨_, rfl, rfl, Below.refl _ _⟩
    · have d3 : a.tmps[24]?.getD undef = .slice A2 tp.length u2 := hdep 3 rfl
      refine Drawn.wpOp_flow 8 rfl rfl rfl ?_
      clear hev hdep hb
      go_simp
      exact ⟨_, rfl, rfl, Below.refl _ _⟩
  · intro xq w1 hb hxq
    have vq0 : xq 0 = .pointer (some ⟨w.heap.size + 1, 0, none⟩) := hxq 0 (by omega)
    have vq1 : xq 1 = .slice A1 b.length u1 := hxq 1 (by omega)
    have vq2 : xq 2 = .pointer (some ⟨w.heap.size + 1, 1, none⟩) := hxq 2 (by omega)
    have vq3 : xq 3 = .slice A2 tp.length u2 := hxq 3 (by omega)
    have vq4 : xq 4 = .slice A1 b.length u1 := hxq 4 (by omega)
    have vq5 : xq 5 = .slice A2 tp.length u2 := hxq 5 (by omega)
    show Exit.then _ _ Exit.normal (Drawn.acts _ [(8, some (xq 5)), (7, some (xq 4)), (24, some (xq 3)), (23, some (xq 2)), (22, some (xq 1)), (21, some (xq 0))]) _
    rw [vq0, vq1, vq2, vq3, vq4, vq5]
    clear hxq vq0 vq1 vq2 vq3 vq4 vq5
    clear xq
    simp only [Drawn.acts]
    go_simp
    have hb1 := hb
    clear hb
    obtain ⟨c0, c1, c2, c3, c4, c5⟩ := six (HA.out.below hb1).plan
    go_at_K
    go_wp2_with fail
    refine (H0.out _).mono ?_
    rintro e w2 ⟨rfl, hb2'⟩
    have hb2 := bstep hb1 hb2'
    clear c0 c1 c2 c3 c4 c5
    clear hb1 hb2'
    obtain ⟨c0, c1, c2, c3, c4, c5⟩ := six (HA.out.below hb2).plan
    go_wp2_with fail
    refine (H3.out _).mono ?_
    rintro e w3 ⟨rfl, hbx⟩
    have hb3 := bstep hb2 hbx
    clear c0 c1 c2 c3 c4 c5
    clear hb2 hbx
    obtain ⟨c0, c1, c2, c3, c4, c5⟩ := six (HA.out.below hb3).plan
    go_wp2_with fail
    refine (H9.out _).mono ?_
    rintro e w4 ⟨rfl, hbx⟩
    have hb4 := bstep hb3 hbx
    clear c0 c1 c2 c3 c4 c5
    clear hb3 hbx
    obtain ⟨c0, c1, c2, c3, c4, c5⟩ := six (HA.out.below hb4).plan
    go_wp2_with fail
    refine (alive_any _).mono ?_
    rintro e wz ⟨rfl, hbz⟩
    clear c0 c1 c2 c3 c4 c5
    go_wp2
    go_ret
    exact ⟨rfl, bstep HB0.out (bstep hb4 hbz)⟩

set_option maxHeartbeats 2000000 in
theorem keep_many (N T L W S R : Int) (A1 A2 A4 A3 : Option Addr) (b tp zz : List UInt8) (who : List Int) (u1 u2 u4 u3 : Nat) (w : World) (hp : (⟨N, T, L, W, S, R⟩ : P).In) (hl : N ≤ 12 ∧ L ≤ 12 ∧ T ≤ 12) (hr : (⟨N, T, L, W, S, R⟩ : P).right = true) (hf : b.length ≤ 60) (hc : cost ⟨N, T, L, W, S, R⟩ b.length ≤ tp.length) (hm : 14 < who.length) :
    Calls Try.prog 5 #[.agg #[.int .i64 N, .int .i64 T, .int .i64 L, .int .i64 W, .int .i64 S, .int .i64 R], .agg #[.slice A1 b.length u1, .slice A2 tp.length u2, .slice A4 zz.length u4], .slice A3 who.length u3] w fun e w' => e = .returned (.bool true) ∧ Below w.heap.size w w' := by
  have K0 := fun w => Law10.light_any N T L W S R w
  rw [decide_eq_true hl] at K0
  have H0 := Lib.hid K0
  clear K0 hl
  obtain ⟨q, hq⟩ : ∃ q : P, q = ⟨N, T, L, W, S, R⟩ := ⟨_, rfl⟩
  have hpq := hp
  rw [← hq] at hpq
  have hv : q.val = .agg #[.int .i64 N, .int .i64 T, .int .i64 L, .int .i64 W, .int .i64 S, .int .i64 R] := by rw [hq]; rfl
  have K3 := fun w => R08.right_any q w hpq
  rw [hq, hr, ← hq, hv] at K3
  have H3 := Lib.hid K3
  clear K3
  have hM : q.May := by rw [hq]; exact of_decide_eq_true hr
  have hMM := hM
  unfold P.May at hMM
  have eN : q.N = N := by rw [hq]
  have eT : q.T = T := by rw [hq]
  have eL : q.L = L := by rw [hq]
  obtain ⟨n, hn⟩ : ∃ n : Nat, cost q b.length = n := ⟨(cost q b.length).toNat, by
    have : 0 ≤ cost q b.length := Int.mul_nonneg (by omega) (by omega)
    omega⟩
  have K9 := fun w => R10.cost_any N T L W S R b.length w (by omega) (by omega)
  rw [← hq, hn] at K9
  have H9 := Lib.hid K9
  have i1 : IntKind.i64.wrap (T + L) = T + L := IntWalk.i64_in _ (by omega)
  clear K9
  rw [← hq, hn] at hc
  have hc1 : n ≤ tp.length := by omega
  clear hc
  clear hq hr hp hpq hv hM hMM eN eT eL hn
  have HA := Lib.hid (LiesC.new w N T L W S R (.slice A1 b.length u1) (.slice A2 tp.length u2) (.slice A4 zz.length u4) 42)
  have HB0 := Lib.hid (show Below w.heap.size w ((w.alloc (.cells #[.int .i64 N, .int .i64 T, .int .i64 L, .int .i64 W, .int .i64 S, .int .i64 R] 23)).alloc (.cells #[.slice A1 b.length u1, .slice A2 tp.length u2, .slice A4 zz.length u4] 42)) from bstep (balloc _ _) (balloc _ _))
  go_enter Try.func5, Try.ntmps5
  go_wp2_with fail
  generalize (w.alloc (.cells #[.int .i64 N, .int .i64 T, .int .i64 L, .int .i64 W, .int .i64 S, .int .i64 R] 23)).alloc (.cells #[.slice A1 b.length u1, .slice A2 tp.length u2, .slice A4 zz.length u4] 42) = w0 at *
  refine Drawn.wp_region_flowL 6 [Drawn.SP.is (.pointer (some ⟨w.heap.size + 1, 0, none⟩)), Drawn.SP.is (.slice A1 b.length u1), Drawn.SP.is (.pointer (some ⟨w.heap.size + 1, 1, none⟩)), Drawn.SP.is (.slice A2 tp.length u2), Drawn.SP.is (.slice A1 b.length u1), Drawn.SP.is (.slice A2 tp.length u2)] (by kernel_rfl) (by kernel_rfl) ?_ ?_
  · intro i hi a w1 hb hev hdep
    rcases (show i = 0 ∨ i = 1 ∨ i = 2 ∨ i = 3 ∨ i = 4 ∨ i = 5 by omega) with rfl | rfl | rfl | rfl | rfl | rfl
    · have e4 : a.tmps[4]?.getD undef = .pointer (some ⟨w.heap.size + 1, 0, none⟩) := hev 4 rfl
      refine Drawn.wpOp_flow 21 rfl rfl rfl ?_
      clear hev hdep hb
      go_simp
      exact ⟨_, rfl, rfl, Below.refl _ _⟩
    · have d0 : a.tmps[21]?.getD undef = .pointer (some ⟨w.heap.size + 1, 0, none⟩) := hdep 0 rfl
      refine Drawn.wpOp_flow 22 rfl rfl rfl ?_
      have a0 := (HA.out.below hb).a0
      have a1 := (HA.out.below hb).a1
      clear hev hdep hb
      go_simp
      exact ⟨_, rfl, rfl, Below.refl _ _⟩
    · have e4 : a.tmps[4]?.getD undef = .pointer (some ⟨w.heap.size + 1, 0, none⟩) := hev 4 rfl
      refine Drawn.wpOp_flow 23 rfl rfl rfl ?_
      clear hev hdep hb
      go_simp
      exact ⟨_, rfl, rfl, Below.refl _ _⟩
    · have d2 : a.tmps[23]?.getD undef = .pointer (some ⟨w.heap.size + 1, 1, none⟩) := hdep 2 rfl
      refine Drawn.wpOp_flow 24 rfl rfl rfl ?_
      have a0 := (HA.out.below hb).a0
      have a1 := (HA.out.below hb).a1
      clear hev hdep hb
      go_simp
      exact ⟨_, rfl, rfl, Below.refl _ _⟩
    · have d1 : a.tmps[22]?.getD undef = .slice A1 b.length u1 := hdep 1 rfl
      refine Drawn.wpOp_flow 7 rfl rfl rfl ?_
      clear hev hdep hb
      go_simp
      exact ⟨_, rfl, rfl, Below.refl _ _⟩
    · have d3 : a.tmps[24]?.getD undef = .slice A2 tp.length u2 := hdep 3 rfl
      refine Drawn.wpOp_flow 8 rfl rfl rfl ?_
      clear hev hdep hb
      go_simp
      exact ⟨_, rfl, rfl, Below.refl _ _⟩
  · intro xq w1 hb hxq
    have vq0 : xq 0 = .pointer (some ⟨w.heap.size + 1, 0, none⟩) := hxq 0 (by omega)
    have vq1 : xq 1 = .slice A1 b.length u1 := hxq 1 (by omega)
    have vq2 : xq 2 = .pointer (some ⟨w.heap.size + 1, 1, none⟩) := hxq 2 (by omega)
    have vq3 : xq 3 = .slice A2 tp.length u2 := hxq 3 (by omega)
    have vq4 : xq 4 = .slice A1 b.length u1 := hxq 4 (by omega)
    have vq5 : xq 5 = .slice A2 tp.length u2 := hxq 5 (by omega)
    show Exit.then _ _ Exit.normal (Drawn.acts _ [(8, some (xq 5)), (7, some (xq 4)), (24, some (xq 3)), (23, some (xq 2)), (22, some (xq 1)), (21, some (xq 0))]) _
    rw [vq0, vq1, vq2, vq3, vq4, vq5]
    clear hxq vq0 vq1 vq2 vq3 vq4 vq5
    clear xq
    simp only [Drawn.acts]
    go_simp
    have hb1 := hb
    clear hb
    obtain ⟨c0, c1, c2, c3, c4, c5⟩ := six (HA.out.below hb1).plan
    go_at_K
    go_wp2_with fail
    refine (H0.out _).mono ?_
    rintro e w2 ⟨rfl, hb2'⟩
    have hb2 := bstep hb1 hb2'
    clear c0 c1 c2 c3 c4 c5
    clear hb1 hb2'
    obtain ⟨c0, c1, c2, c3, c4, c5⟩ := six (HA.out.below hb2).plan
    go_wp2_with fail
    refine (H3.out _).mono ?_
    rintro e w3 ⟨rfl, hbx⟩
    have hb3 := bstep hb2 hbx
    clear c0 c1 c2 c3 c4 c5
    clear hb2 hbx
    obtain ⟨c0, c1, c2, c3, c4, c5⟩ := six (HA.out.below hb3).plan
    go_wp2_with fail
    refine (H9.out _).mono ?_
    rintro e w4 ⟨rfl, hbx⟩
    have hb4 := bstep hb3 hbx
    clear c0 c1 c2 c3 c4 c5
    clear hb3 hbx
    obtain ⟨c0, c1, c2, c3, c4, c5⟩ := six (HA.out.below hb4).plan
    go_wp2_with fail
    refine (alive_any _).mono ?_
    rintro e wz ⟨rfl, hbz⟩
    clear c0 c1 c2 c3 c4 c5
    go_wp2
    go_ret
    exact ⟨rfl, bstep HB0.out (bstep hb4 hbz)⟩

set_option maxHeartbeats 2000000 in
theorem keep_few (N T L W S R : Int) (A1 A2 A4 A3 : Option Addr) (b tp zz : List UInt8) (who : List Int) (u1 u2 u4 u3 : Nat) (w : World) (hp : (⟨N, T, L, W, S, R⟩ : P).In) (hl : N ≤ 12 ∧ L ≤ 12 ∧ T ≤ 12) (hr : (⟨N, T, L, W, S, R⟩ : P).right = true) (hf : b.length ≤ 60) (hc : cost ⟨N, T, L, W, S, R⟩ b.length ≤ tp.length) (hm : who.length ≤ 14) (hw : (who.length : Int) < T + L) :
    Calls Try.prog 5 #[.agg #[.int .i64 N, .int .i64 T, .int .i64 L, .int .i64 W, .int .i64 S, .int .i64 R], .agg #[.slice A1 b.length u1, .slice A2 tp.length u2, .slice A4 zz.length u4], .slice A3 who.length u3] w fun e w' => e = .returned (.bool true) ∧ Below w.heap.size w w' := by
  have K0 := fun w => Law10.light_any N T L W S R w
  rw [decide_eq_true hl] at K0
  have H0 := Lib.hid K0
  clear K0 hl
  obtain ⟨q, hq⟩ : ∃ q : P, q = ⟨N, T, L, W, S, R⟩ := ⟨_, rfl⟩
  have hpq := hp
  rw [← hq] at hpq
  have hv : q.val = .agg #[.int .i64 N, .int .i64 T, .int .i64 L, .int .i64 W, .int .i64 S, .int .i64 R] := by rw [hq]; rfl
  have K3 := fun w => R08.right_any q w hpq
  rw [hq, hr, ← hq, hv] at K3
  have H3 := Lib.hid K3
  clear K3
  have hM : q.May := by rw [hq]; exact of_decide_eq_true hr
  have hMM := hM
  unfold P.May at hMM
  have eN : q.N = N := by rw [hq]
  have eT : q.T = T := by rw [hq]
  have eL : q.L = L := by rw [hq]
  obtain ⟨n, hn⟩ : ∃ n : Nat, cost q b.length = n := ⟨(cost q b.length).toNat, by
    have : 0 ≤ cost q b.length := Int.mul_nonneg (by omega) (by omega)
    omega⟩
  have K9 := fun w => R10.cost_any N T L W S R b.length w (by omega) (by omega)
  rw [← hq, hn] at K9
  have H9 := Lib.hid K9
  have i1 : IntKind.i64.wrap (T + L) = T + L := IntWalk.i64_in _ (by omega)
  clear K9
  rw [← hq, hn] at hc
  have hc1 : n ≤ tp.length := by omega
  clear hc
  clear hq hr hp hpq hv hM hMM eN eT eL hn
  have HA := Lib.hid (LiesC.new w N T L W S R (.slice A1 b.length u1) (.slice A2 tp.length u2) (.slice A4 zz.length u4) 42)
  have HB0 := Lib.hid (show Below w.heap.size w ((w.alloc (.cells #[.int .i64 N, .int .i64 T, .int .i64 L, .int .i64 W, .int .i64 S, .int .i64 R] 23)).alloc (.cells #[.slice A1 b.length u1, .slice A2 tp.length u2, .slice A4 zz.length u4] 42)) from bstep (balloc _ _) (balloc _ _))
  go_enter Try.func5, Try.ntmps5
  go_wp2_with fail
  generalize (w.alloc (.cells #[.int .i64 N, .int .i64 T, .int .i64 L, .int .i64 W, .int .i64 S, .int .i64 R] 23)).alloc (.cells #[.slice A1 b.length u1, .slice A2 tp.length u2, .slice A4 zz.length u4] 42) = w0 at *
  refine Drawn.wp_region_flowL 6 [Drawn.SP.is (.pointer (some ⟨w.heap.size + 1, 0, none⟩)), Drawn.SP.is (.slice A1 b.length u1), Drawn.SP.is (.pointer (some ⟨w.heap.size + 1, 1, none⟩)), Drawn.SP.is (.slice A2 tp.length u2), Drawn.SP.is (.slice A1 b.length u1), Drawn.SP.is (.slice A2 tp.length u2)] (by kernel_rfl) (by kernel_rfl) ?_ ?_
  · intro i hi a w1 hb hev hdep
    rcases (show i = 0 ∨ i = 1 ∨ i = 2 ∨ i = 3 ∨ i = 4 ∨ i = 5 by omega) with rfl | rfl | rfl | rfl | rfl | rfl
    · have e4 : a.tmps[4]?.getD undef = .pointer (some ⟨w.heap.size + 1, 0, none⟩) := hev 4 rfl
      refine Drawn.wpOp_flow 21 rfl rfl rfl ?_
      clear hev hdep hb
      go_simp
      exact ⟨_, rfl, rfl, Below.refl _ _⟩
    · have d0 : a.tmps[21]?.getD undef = .pointer (some ⟨w.heap.size + 1, 0, none⟩) := hdep 0 rfl
      refine Drawn.wpOp_flow 22 rfl rfl rfl ?_
      have a0 := (HA.out.below hb).a0
      have a1 := (HA.out.below hb).a1
      clear hev hdep hb
      go_simp
      exact ⟨_, rfl, rfl, Below.refl _ _⟩
    · have e4 : a.tmps[4]?.getD undef = .pointer (some ⟨w.heap.size + 1, 0, none⟩) := hev 4 rfl
      refine Drawn.wpOp_flow 23 rfl rfl rfl ?_
      clear hev hdep hb
      go_simp
      exact ⟨_, rfl, rfl, Below.refl _ _⟩
    · have d2 : a.tmps[23]?.getD undef = .pointer (some ⟨w.heap.size + 1, 1, none⟩) := hdep 2 rfl
      refine Drawn.wpOp_flow 24 rfl rfl rfl ?_
      have a0 := (HA.out.below hb).a0
      have a1 := (HA.out.below hb).a1
      clear hev hdep hb
      go_simp
      exact ⟨_, rfl, rfl, Below.refl _ _⟩
    · have d1 : a.tmps[22]?.getD undef = .slice A1 b.length u1 := hdep 1 rfl
      refine Drawn.wpOp_flow 7 rfl rfl rfl ?_
      clear hev hdep hb
      go_simp
      exact ⟨_, rfl, rfl, Below.refl _ _⟩
    · have d3 : a.tmps[24]?.getD undef = .slice A2 tp.length u2 := hdep 3 rfl
      refine Drawn.wpOp_flow 8 rfl rfl rfl ?_
      clear hev hdep hb
      go_simp
      exact ⟨_, rfl, rfl, Below.refl _ _⟩
  · intro xq w1 hb hxq
    have vq0 : xq 0 = .pointer (some ⟨w.heap.size + 1, 0, none⟩) := hxq 0 (by omega)
    have vq1 : xq 1 = .slice A1 b.length u1 := hxq 1 (by omega)
    have vq2 : xq 2 = .pointer (some ⟨w.heap.size + 1, 1, none⟩) := hxq 2 (by omega)
    have vq3 : xq 3 = .slice A2 tp.length u2 := hxq 3 (by omega)
    have vq4 : xq 4 = .slice A1 b.length u1 := hxq 4 (by omega)
    have vq5 : xq 5 = .slice A2 tp.length u2 := hxq 5 (by omega)
    show Exit.then _ _ Exit.normal (Drawn.acts _ [(8, some (xq 5)), (7, some (xq 4)), (24, some (xq 3)), (23, some (xq 2)), (22, some (xq 1)), (21, some (xq 0))]) _
    rw [vq0, vq1, vq2, vq3, vq4, vq5]
    clear hxq vq0 vq1 vq2 vq3 vq4 vq5
    clear xq
    simp only [Drawn.acts]
    go_simp
    have hb1 := hb
    clear hb
    obtain ⟨c0, c1, c2, c3, c4, c5⟩ := six (HA.out.below hb1).plan
    go_at_K
    go_wp2_with fail
    refine (H0.out _).mono ?_
    rintro e w2 ⟨rfl, hb2'⟩
    have hb2 := bstep hb1 hb2'
    clear c0 c1 c2 c3 c4 c5
    clear hb1 hb2'
    obtain ⟨c0, c1, c2, c3, c4, c5⟩ := six (HA.out.below hb2).plan
    go_wp2_with fail
    refine (H3.out _).mono ?_
    rintro e w3 ⟨rfl, hbx⟩
    have hb3 := bstep hb2 hbx
    clear c0 c1 c2 c3 c4 c5
    clear hb2 hbx
    obtain ⟨c0, c1, c2, c3, c4, c5⟩ := six (HA.out.below hb3).plan
    go_wp2_with fail
    refine (H9.out _).mono ?_
    rintro e w4 ⟨rfl, hbx⟩
    have hb4 := bstep hb3 hbx
    clear c0 c1 c2 c3 c4 c5
    clear hb3 hbx
    obtain ⟨c0, c1, c2, c3, c4, c5⟩ := six (HA.out.below hb4).plan
    go_wp2_with fail
    refine (alive_any _).mono ?_
    rintro e wz ⟨rfl, hbz⟩
    clear c0 c1 c2 c3 c4 c5
    go_wp2
    go_ret
    exact ⟨rfl, bstep HB0.out (bstep hb4 hbz)⟩

set_option maxHeartbeats 2000000 in
theorem keep_twice (N T L W S R : Int) (A1 A2 A4 A3 : Option Addr) (b tp zz : List UInt8) (who : List Int) (u1 u2 u4 u3 : Nat) (w : World) (hp : (⟨N, T, L, W, S, R⟩ : P).In) (h3 : IntsAt w A3 who) (hl : N ≤ 12 ∧ L ≤ 12 ∧ T ≤ 12) (hr : (⟨N, T, L, W, S, R⟩ : P).right = true) (hf : b.length ≤ 60) (hc : cost ⟨N, T, L, W, S, R⟩ b.length ≤ tp.length) (hm : who.length ≤ 14) (hw : T + L ≤ (who.length : Int)) (hu : unl (points who) = false) :
    Calls Try.prog 5 #[.agg #[.int .i64 N, .int .i64 T, .int .i64 L, .int .i64 W, .int .i64 S, .int .i64 R], .agg #[.slice A1 b.length u1, .slice A2 tp.length u2, .slice A4 zz.length u4], .slice A3 who.length u3] w fun e w' => e = .returned (.bool true) ∧ Below w.heap.size w w' := by
  have K0 := fun w => Law10.light_any N T L W S R w
  rw [decide_eq_true hl] at K0
  have H0 := Lib.hid K0
  clear K0 hl
  obtain ⟨q, hq⟩ : ∃ q : P, q = ⟨N, T, L, W, S, R⟩ := ⟨_, rfl⟩
  have hpq := hp
  rw [← hq] at hpq
  have hv : q.val = .agg #[.int .i64 N, .int .i64 T, .int .i64 L, .int .i64 W, .int .i64 S, .int .i64 R] := by rw [hq]; rfl
  have K3 := fun w => R08.right_any q w hpq
  rw [hq, hr, ← hq, hv] at K3
  have H3 := Lib.hid K3
  clear K3
  have hM : q.May := by rw [hq]; exact of_decide_eq_true hr
  have hMM := hM
  unfold P.May at hMM
  have eN : q.N = N := by rw [hq]
  have eT : q.T = T := by rw [hq]
  have eL : q.L = L := by rw [hq]
  obtain ⟨n, hn⟩ : ∃ n : Nat, cost q b.length = n := ⟨(cost q b.length).toNat, by
    have : 0 ≤ cost q b.length := Int.mul_nonneg (by omega) (by omega)
    omega⟩
  have K9 := fun w => R10.cost_any N T L W S R b.length w (by omega) (by omega)
  rw [← hq, hn] at K9
  have H9 := Lib.hid K9
  have i1 : IntKind.i64.wrap (T + L) = T + L := IntWalk.i64_in _ (by omega)
  clear K9
  rw [← hq, hn] at hc
  have hc1 : n ≤ tp.length := by omega
  clear hc
  have K7 := fun V (h : IntsAt V A3 who) => R08.points_any A3 who u3 V h (by omega)
  have hpl : (points who).length = who.length := points_len who
  have K8 := fun X d V (h : BytesAt V X (points who)) => R03.unlike_any X (points who) d V h (by omega)
  rw [hu, hpl] at K8
  have H7 := Lib.hid K7; have H8 := Lib.hid K8; have HPL := Lib.hid hpl
  have B3 := Lib.hid h3
  clear K7 K8 hpl hu
  clear h3
  clear hq hr hp hpq hv hM hMM eN eT eL hn
  have HA := Lib.hid (LiesC.new w N T L W S R (.slice A1 b.length u1) (.slice A2 tp.length u2) (.slice A4 zz.length u4) 42)
  have HB0 := Lib.hid (show Below w.heap.size w ((w.alloc (.cells #[.int .i64 N, .int .i64 T, .int .i64 L, .int .i64 W, .int .i64 S, .int .i64 R] 23)).alloc (.cells #[.slice A1 b.length u1, .slice A2 tp.length u2, .slice A4 zz.length u4] 42)) from bstep (balloc _ _) (balloc _ _))
  go_enter Try.func5, Try.ntmps5
  go_wp2_with fail
  generalize (w.alloc (.cells #[.int .i64 N, .int .i64 T, .int .i64 L, .int .i64 W, .int .i64 S, .int .i64 R] 23)).alloc (.cells #[.slice A1 b.length u1, .slice A2 tp.length u2, .slice A4 zz.length u4] 42) = w0 at *
  replace B3 := Lib.hid (B3.out.below HB0.out)
  refine Drawn.wp_region_flowL 6 [Drawn.SP.is (.pointer (some ⟨w.heap.size + 1, 0, none⟩)), Drawn.SP.is (.slice A1 b.length u1), Drawn.SP.is (.pointer (some ⟨w.heap.size + 1, 1, none⟩)), Drawn.SP.is (.slice A2 tp.length u2), Drawn.SP.is (.slice A1 b.length u1), Drawn.SP.is (.slice A2 tp.length u2)] (by kernel_rfl) (by kernel_rfl) ?_ ?_
  · intro i hi a w1 hb hev hdep
    rcases (show i = 0 ∨ i = 1 ∨ i = 2 ∨ i = 3 ∨ i = 4 ∨ i = 5 by omega) with rfl | rfl | rfl | rfl | rfl | rfl
    · have e4 : a.tmps[4]?.getD undef = .pointer (some ⟨w.heap.size + 1, 0, none⟩) := hev 4 rfl
      refine Drawn.wpOp_flow 21 rfl rfl rfl ?_
      clear hev hdep hb
      go_simp
      exact ⟨_, rfl, rfl, Below.refl _ _⟩
    · have d0 : a.tmps[21]?.getD undef = .pointer (some ⟨w.heap.size + 1, 0, none⟩) := hdep 0 rfl
      refine Drawn.wpOp_flow 22 rfl rfl rfl ?_
      have a0 := (HA.out.below hb).a0
      have a1 := (HA.out.below hb).a1
      clear hev hdep hb
      go_simp
      exact ⟨_, rfl, rfl, Below.refl _ _⟩
    · have e4 : a.tmps[4]?.getD undef = .pointer (some ⟨w.heap.size + 1, 0, none⟩) := hev 4 rfl
      refine Drawn.wpOp_flow 23 rfl rfl rfl ?_
      clear hev hdep hb
      go_simp
      exact ⟨_, rfl, rfl, Below.refl _ _⟩
    · have d2 : a.tmps[23]?.getD undef = .pointer (some ⟨w.heap.size + 1, 1, none⟩) := hdep 2 rfl
      refine Drawn.wpOp_flow 24 rfl rfl rfl ?_
      have a0 := (HA.out.below hb).a0
      have a1 := (HA.out.below hb).a1
      clear hev hdep hb
      go_simp
      exact ⟨_, rfl, rfl, Below.refl _ _⟩
    · have d1 : a.tmps[22]?.getD undef = .slice A1 b.length u1 := hdep 1 rfl
      refine Drawn.wpOp_flow 7 rfl rfl rfl ?_
      clear hev hdep hb
      go_simp
      exact ⟨_, rfl, rfl, Below.refl _ _⟩
    · have d3 : a.tmps[24]?.getD undef = .slice A2 tp.length u2 := hdep 3 rfl
      refine Drawn.wpOp_flow 8 rfl rfl rfl ?_
      clear hev hdep hb
      go_simp
      exact ⟨_, rfl, rfl, Below.refl _ _⟩
  · intro xq w1 hb hxq
    have vq0 : xq 0 = .pointer (some ⟨w.heap.size + 1, 0, none⟩) := hxq 0 (by omega)
    have vq1 : xq 1 = .slice A1 b.length u1 := hxq 1 (by omega)
    have vq2 : xq 2 = .pointer (some ⟨w.heap.size + 1, 1, none⟩) := hxq 2 (by omega)
    have vq3 : xq 3 = .slice A2 tp.length u2 := hxq 3 (by omega)
    have vq4 : xq 4 = .slice A1 b.length u1 := hxq 4 (by omega)
    have vq5 : xq 5 = .slice A2 tp.length u2 := hxq 5 (by omega)
    show Exit.then _ _ Exit.normal (Drawn.acts _ [(8, some (xq 5)), (7, some (xq 4)), (24, some (xq 3)), (23, some (xq 2)), (22, some (xq 1)), (21, some (xq 0))]) _
    rw [vq0, vq1, vq2, vq3, vq4, vq5]
    clear hxq vq0 vq1 vq2 vq3 vq4 vq5
    clear xq
    simp only [Drawn.acts]
    go_simp
    have hb1 := hb
    clear hb
    obtain ⟨c0, c1, c2, c3, c4, c5⟩ := six (HA.out.below hb1).plan
    go_at_K
    go_wp2_with fail
    refine (H0.out _).mono ?_
    rintro e w2 ⟨rfl, hb2'⟩
    have hb2 := bstep hb1 hb2'
    clear c0 c1 c2 c3 c4 c5
    clear hb1 hb2'
    obtain ⟨c0, c1, c2, c3, c4, c5⟩ := six (HA.out.below hb2).plan
    go_wp2_with fail
    refine (H3.out _).mono ?_
    rintro e w3 ⟨rfl, hbx⟩
    have hb3 := bstep hb2 hbx
    clear c0 c1 c2 c3 c4 c5
    clear hb2 hbx
    obtain ⟨c0, c1, c2, c3, c4, c5⟩ := six (HA.out.below hb3).plan
    go_wp2_with fail
    refine (H9.out _).mono ?_
    rintro e w4 ⟨rfl, hbx⟩
    have hb4 := bstep hb3 hbx
    clear c0 c1 c2 c3 c4 c5
    clear hb3 hbx
    obtain ⟨c0, c1, c2, c3, c4, c5⟩ := six (HA.out.below hb4).plan
    go_wp2_with fail
    refine (H7.out _ (B3.out.below hb4)).mono ?_
    rintro e w5 ⟨X, d, rfl, _, _, hX, hbx, _⟩
    rw [HPL.out]
    have HX := Lib.hid hX
    have hb5 := bstep hb4 hbx
    clear c0 c1 c2 c3 c4 c5
    clear hb4 hbx hX
    obtain ⟨c0, c1, c2, c3, c4, c5⟩ := six (HA.out.below hb5).plan
    go_wp2_with fail
    refine (H8.out X d _ HX.out).mono ?_
    rintro e w6 ⟨rfl, hbx⟩
    have hb6 := bstep hb5 (bquiet hbx)
    clear c0 c1 c2 c3 c4 c5
    clear hb5 hbx HX
    obtain ⟨c0, c1, c2, c3, c4, c5⟩ := six (HA.out.below hb6).plan
    go_wp2_with fail
    refine (alive_any _).mono ?_
    rintro e wz ⟨rfl, hbz⟩
    clear c0 c1 c2 c3 c4 c5
    go_wp2
    go_ret
    exact ⟨rfl, bstep HB0.out (bstep hb6 hbz)⟩

set_option maxHeartbeats 2000000 in
theorem keep_little (N T L W S R : Int) (A1 A2 A4 A3 : Option Addr) (b tp zz : List UInt8) (who : List Int) (u1 u2 u4 u3 : Nat) (w : World) (hp : (⟨N, T, L, W, S, R⟩ : P).In) (h3 : IntsAt w A3 who) (hl : N ≤ 12 ∧ L ≤ 12 ∧ T ≤ 12) (hr : (⟨N, T, L, W, S, R⟩ : P).right = true) (hf : b.length ≤ 60) (hc : cost ⟨N, T, L, W, S, R⟩ b.length ≤ tp.length) (hm : who.length ≤ 14) (hw : T + L ≤ (who.length : Int)) (hu : unl (points who) = true) (hy : zz.length < 2 * (T.toNat * P.stripes ⟨N, T, L, W, S, R⟩ b.length)) :
    Calls Try.prog 5 #[.agg #[.int .i64 N, .int .i64 T, .int .i64 L, .int .i64 W, .int .i64 S, .int .i64 R], .agg #[.slice A1 b.length u1, .slice A2 tp.length u2, .slice A4 zz.length u4], .slice A3 who.length u3] w fun e w' => e = .returned (.bool true) ∧ Below w.heap.size w w' := by
  have K0 := fun w => Law10.light_any N T L W S R w
  rw [decide_eq_true hl] at K0
  have H0 := Lib.hid K0
  clear K0 hl
  obtain ⟨q, hq⟩ : ∃ q : P, q = ⟨N, T, L, W, S, R⟩ := ⟨_, rfl⟩
  have hpq := hp
  rw [← hq] at hpq
  have hv : q.val = .agg #[.int .i64 N, .int .i64 T, .int .i64 L, .int .i64 W, .int .i64 S, .int .i64 R] := by rw [hq]; rfl
  have K3 := fun w => R08.right_any q w hpq
  rw [hq, hr, ← hq, hv] at K3
  have H3 := Lib.hid K3
  clear K3
  have hM : q.May := by rw [hq]; exact of_decide_eq_true hr
  have hMM := hM
  unfold P.May at hMM
  have eN : q.N = N := by rw [hq]
  have eT : q.T = T := by rw [hq]
  have eL : q.L = L := by rw [hq]
  obtain ⟨n, hn⟩ : ∃ n : Nat, cost q b.length = n := ⟨(cost q b.length).toNat, by
    have : 0 ≤ cost q b.length := Int.mul_nonneg (by omega) (by omega)
    omega⟩
  have K9 := fun w => R10.cost_any N T L W S R b.length w (by omega) (by omega)
  rw [← hq, hn] at K9
  have H9 := Lib.hid K9
  have i1 : IntKind.i64.wrap (T + L) = T + L := IntWalk.i64_in _ (by omega)
  clear K9
  have KS := fun V => R08.stripes_any q b.length V (by omega)
  rw [hv] at KS
  obtain ⟨st, hst⟩ : ∃ st, st = q.stripes b.length := ⟨_, rfl⟩
  have hst2 : st ≤ 240 := by rw [hst]; exact stripes_le q _ (by omega)
  rw [← hst] at KS
  have H5 := Lib.hid KS
  obtain ⟨t0, ht0⟩ : ∃ t0 : Nat, T = t0 := ⟨T.toNat, by omega⟩
  obtain ⟨x, hx⟩ : ∃ x, x = t0 * st := ⟨_, rfl⟩
  have hxl : x ≤ 256 * 240 := by rw [hx]; exact Nat.mul_le_mul (by omega) hst2
  have e2 : (2 : Int) * T = ((2 * t0 : Nat) : Int) := by rw [ht0, Int.natCast_mul]; rfl
  obtain ⟨t2, ht2⟩ : ∃ t2, t2 = 2 * t0 := ⟨_, rfl⟩
  rw [← ht2] at e2
  have ew2 : IntKind.i64.wrap (t2 : Int) = (t2 : Int) := IntWalk.i64_in _ (by omega)
  obtain ⟨x2, hx2⟩ : ∃ x2, x2 = 2 * x := ⟨_, rfl⟩
  have e3 : (t2 : Int) * (st : Int) = (x2 : Int) := by rw [← Int.natCast_mul, ht2, hx2, hx, Nat.mul_assoc]
  have ew3 : IntKind.i64.wrap (x2 : Int) = (x2 : Int) := IntWalk.i64_in _ (by omega)
  clear KS
  have hy1 : zz.length < x2 := by rw [hx2, hx, hst, hq]; rw [ht0] at hy; exact hy
  clear hy
  rw [← hq, hn] at hc
  have hc1 : n ≤ tp.length := by omega
  clear hc
  have K7 := fun V (h : IntsAt V A3 who) => R08.points_any A3 who u3 V h (by omega)
  have hpl : (points who).length = who.length := points_len who
  have K8 := fun X d V (h : BytesAt V X (points who)) => R03.unlike_any X (points who) d V h (by omega)
  rw [hu, hpl] at K8
  have H7 := Lib.hid K7; have H8 := Lib.hid K8; have HPL := Lib.hid hpl
  have B3 := Lib.hid h3
  clear K7 K8 hpl hu
  clear h3 hx hst ht0 ht2 hx2
  clear hq hr hp hpq hv hM hMM eN eT eL hn
  have HA := Lib.hid (LiesC.new w N T L W S R (.slice A1 b.length u1) (.slice A2 tp.length u2) (.slice A4 zz.length u4) 42)
  have HB0 := Lib.hid (show Below w.heap.size w ((w.alloc (.cells #[.int .i64 N, .int .i64 T, .int .i64 L, .int .i64 W, .int .i64 S, .int .i64 R] 23)).alloc (.cells #[.slice A1 b.length u1, .slice A2 tp.length u2, .slice A4 zz.length u4] 42)) from bstep (balloc _ _) (balloc _ _))
  go_enter Try.func5, Try.ntmps5
  go_wp2_with fail
  generalize (w.alloc (.cells #[.int .i64 N, .int .i64 T, .int .i64 L, .int .i64 W, .int .i64 S, .int .i64 R] 23)).alloc (.cells #[.slice A1 b.length u1, .slice A2 tp.length u2, .slice A4 zz.length u4] 42) = w0 at *
  replace B3 := Lib.hid (B3.out.below HB0.out)
  refine Drawn.wp_region_flowL 6 [Drawn.SP.is (.pointer (some ⟨w.heap.size + 1, 0, none⟩)), Drawn.SP.is (.slice A1 b.length u1), Drawn.SP.is (.pointer (some ⟨w.heap.size + 1, 1, none⟩)), Drawn.SP.is (.slice A2 tp.length u2), Drawn.SP.is (.slice A1 b.length u1), Drawn.SP.is (.slice A2 tp.length u2)] (by kernel_rfl) (by kernel_rfl) ?_ ?_
  · intro i hi a w1 hb hev hdep
    rcases (show i = 0 ∨ i = 1 ∨ i = 2 ∨ i = 3 ∨ i = 4 ∨ i = 5 by omega) with rfl | rfl | rfl | rfl | rfl | rfl
    · have e4 : a.tmps[4]?.getD undef = .pointer (some ⟨w.heap.size + 1, 0, none⟩) := hev 4 rfl
      refine Drawn.wpOp_flow 21 rfl rfl rfl ?_
      clear hev hdep hb
      go_simp
      exact ⟨_, rfl, rfl, Below.refl _ _⟩
    · have d0 : a.tmps[21]?.getD undef = .pointer (some ⟨w.heap.size + 1, 0, none⟩) := hdep 0 rfl
      refine Drawn.wpOp_flow 22 rfl rfl rfl ?_
      have a0 := (HA.out.below hb).a0
      have a1 := (HA.out.below hb).a1
      clear hev hdep hb
      go_simp
      exact ⟨_, rfl, rfl, Below.refl _ _⟩
    · have e4 : a.tmps[4]?.getD undef = .pointer (some ⟨w.heap.size + 1, 0, none⟩) := hev 4 rfl
      refine Drawn.wpOp_flow 23 rfl rfl rfl ?_
      clear hev hdep hb
      go_simp
      exact ⟨_, rfl, rfl, Below.refl _ _⟩
    · have d2 : a.tmps[23]?.getD undef = .pointer (some ⟨w.heap.size + 1, 1, none⟩) := hdep 2 rfl
      refine Drawn.wpOp_flow 24 rfl rfl rfl ?_
      have a0 := (HA.out.below hb).a0
      have a1 := (HA.out.below hb).a1
      clear hev hdep hb
      go_simp
      exact ⟨_, rfl, rfl, Below.refl _ _⟩
    · have d1 : a.tmps[22]?.getD undef = .slice A1 b.length u1 := hdep 1 rfl
      refine Drawn.wpOp_flow 7 rfl rfl rfl ?_
      clear hev hdep hb
      go_simp
      exact ⟨_, rfl, rfl, Below.refl _ _⟩
    · have d3 : a.tmps[24]?.getD undef = .slice A2 tp.length u2 := hdep 3 rfl
      refine Drawn.wpOp_flow 8 rfl rfl rfl ?_
      clear hev hdep hb
      go_simp
      exact ⟨_, rfl, rfl, Below.refl _ _⟩
  · intro xq w1 hb hxq
    have vq0 : xq 0 = .pointer (some ⟨w.heap.size + 1, 0, none⟩) := hxq 0 (by omega)
    have vq1 : xq 1 = .slice A1 b.length u1 := hxq 1 (by omega)
    have vq2 : xq 2 = .pointer (some ⟨w.heap.size + 1, 1, none⟩) := hxq 2 (by omega)
    have vq3 : xq 3 = .slice A2 tp.length u2 := hxq 3 (by omega)
    have vq4 : xq 4 = .slice A1 b.length u1 := hxq 4 (by omega)
    have vq5 : xq 5 = .slice A2 tp.length u2 := hxq 5 (by omega)
    show Exit.then _ _ Exit.normal (Drawn.acts _ [(8, some (xq 5)), (7, some (xq 4)), (24, some (xq 3)), (23, some (xq 2)), (22, some (xq 1)), (21, some (xq 0))]) _
    rw [vq0, vq1, vq2, vq3, vq4, vq5]
    clear hxq vq0 vq1 vq2 vq3 vq4 vq5
    clear xq
    simp only [Drawn.acts]
    go_simp
    have hb1 := hb
    clear hb
    obtain ⟨c0, c1, c2, c3, c4, c5⟩ := six (HA.out.below hb1).plan
    go_at_K
    go_wp2_with fail
    refine (H0.out _).mono ?_
    rintro e w2 ⟨rfl, hb2'⟩
    have hb2 := bstep hb1 hb2'
    clear c0 c1 c2 c3 c4 c5
    clear hb1 hb2'
    obtain ⟨c0, c1, c2, c3, c4, c5⟩ := six (HA.out.below hb2).plan
    go_wp2_with fail
    refine (H3.out _).mono ?_
    rintro e w3 ⟨rfl, hbx⟩
    have hb3 := bstep hb2 hbx
    clear c0 c1 c2 c3 c4 c5
    clear hb2 hbx
    obtain ⟨c0, c1, c2, c3, c4, c5⟩ := six (HA.out.below hb3).plan
    go_wp2_with fail
    refine (H9.out _).mono ?_
    rintro e w4 ⟨rfl, hbx⟩
    have hb4 := bstep hb3 hbx
    clear c0 c1 c2 c3 c4 c5
    clear hb3 hbx
    obtain ⟨c0, c1, c2, c3, c4, c5⟩ := six (HA.out.below hb4).plan
    go_wp2_with fail
    refine (H7.out _ (B3.out.below hb4)).mono ?_
    rintro e w5 ⟨X, d, rfl, _, _, hX, hbx, _⟩
    rw [HPL.out]
    have HX := Lib.hid hX
    have hb5 := bstep hb4 hbx
    clear c0 c1 c2 c3 c4 c5
    clear hb4 hbx hX
    obtain ⟨c0, c1, c2, c3, c4, c5⟩ := six (HA.out.below hb5).plan
    go_wp2_with fail
    refine (H8.out X d _ HX.out).mono ?_
    rintro e w6 ⟨rfl, hbx⟩
    have hb6 := bstep hb5 (bquiet hbx)
    clear c0 c1 c2 c3 c4 c5
    clear hb5 hbx HX
    obtain ⟨c0, c1, c2, c3, c4, c5⟩ := six (HA.out.below hb6).plan
    go_wp2_with fail
    refine (H5.out _).mono ?_
    rintro e w7 ⟨rfl, hbx⟩
    have hb7 := bstep hb6 hbx
    clear c0 c1 c2 c3 c4 c5
    clear hb6 hbx
    obtain ⟨c0, c1, c2, c3, c4, c5⟩ := six (HA.out.below hb7).plan
    have a2 := (HA.out.below hb7).a2
    go_wp2_with fail
    refine (alive_any _).mono ?_
    rintro e wz ⟨rfl, hbz⟩
    clear c0 c1 c2 c3 c4 c5 a2
    go_wp2
    go_ret
    exact ⟨rfl, bstep HB0.out (bstep hb7 hbz)⟩

set_option maxHeartbeats 8000000 in
theorem keep_main (L W S R : Int) (N0 t0 : Nat) (A1 A2 A4 A3 : Option Addr) (b tp zz : List UInt8) (who : List Int) (u1 u2 u4 u3 : Nat) (w : World) (hp : (⟨N0, t0, L, W, S, R⟩ : P).In) (h1 : BytesAt w A1 b) (k1 : b.length ≤ u1) (z1 : u1 ≤ maxLen) (h2 : BytesAt w A2 tp) (k2 : tp.length ≤ u2) (z2 : u2 ≤ maxLen) (h4 : BytesAt w A4 zz) (k4 : zz.length ≤ u4) (z4 : u4 ≤ maxLen) (h3 : IntsAt w A3 who) (k3 : who.length ≤ u3) (z3 : u3 ≤ maxLen) (hi : ∀ x ∈ who, In64 x) (hl : (N0 : Int) ≤ 12 ∧ L ≤ 12 ∧ (t0 : Int) ≤ 12) (hr : (⟨N0, t0, L, W, S, R⟩ : P).right = true) (hf : b.length ≤ 60) (hc : cost ⟨N0, t0, L, W, S, R⟩ b.length ≤ tp.length) (hm : who.length ≤ 14) (hw : (t0 : Int) + L ≤ (who.length : Int)) (hu : unl (points who) = true) (hy : 2 * (t0 * P.stripes ⟨N0, t0, L, W, S, R⟩ b.length) ≤ zz.length) :
    Calls Try.prog 5 #[.agg #[.int .i64 (N0 : Nat), .int .i64 (t0 : Nat), .int .i64 L, .int .i64 W, .int .i64 S, .int .i64 R], .agg #[.slice A1 b.length u1, .slice A2 tp.length u2, .slice A4 zz.length u4], .slice A3 who.length u3] w fun e w' => e = .returned (.bool true) ∧ Below w.heap.size w w' := by
  have K0 := fun w => Law10.light_any N0 t0 L W S R w
  rw [decide_eq_true hl] at K0
  have H0 := Lib.hid K0
  clear K0 hl
  obtain ⟨q, hq⟩ : ∃ q : P, q = ⟨N0, t0, L, W, S, R⟩ := ⟨_, rfl⟩
  have hpq := hp
  rw [← hq] at hpq
  have hv : q.val = .agg #[.int .i64 (N0 : Nat), .int .i64 (t0 : Nat), .int .i64 L, .int .i64 W, .int .i64 S, .int .i64 R] := by rw [hq]; rfl
  have K3 := fun w => R08.right_any q w hpq
  rw [hq, hr, ← hq, hv] at K3
  have H3 := Lib.hid K3
  clear K3
  have hM : q.May := by rw [hq]; exact of_decide_eq_true hr
  have hMM := hM
  unfold P.May at hMM
  have eN : q.N = N0 := by rw [hq]
  have eT : q.T = t0 := by rw [hq]
  have eL : q.L = L := by rw [hq]
  obtain ⟨n, hn⟩ : ∃ n : Nat, cost q b.length = n := ⟨(cost q b.length).toNat, by
    have : 0 ≤ cost q b.length := Int.mul_nonneg (by omega) (by omega)
    omega⟩
  have K9 := fun w => R10.cost_any N0 t0 L W S R b.length w (by omega) (by omega)
  rw [← hq, hn] at K9
  have H9 := Lib.hid K9
  have i1 : IntKind.i64.wrap ((t0 : Int) + L) = (t0 : Int) + L := IntWalk.i64_in _ (by omega)
  clear K9
  have KS := fun V => R08.stripes_any q b.length V (by omega)
  rw [hv] at KS
  obtain ⟨st, hst⟩ : ∃ st, st = q.stripes b.length := ⟨_, rfl⟩
  have hst2 : st ≤ 240 := by rw [hst]; exact stripes_le q _ (by omega)
  rw [← hst] at KS
  have H5 := Lib.hid KS
  obtain ⟨x, hx⟩ : ∃ x, x = t0 * st := ⟨_, rfl⟩
  have hxl : x ≤ 256 * 240 := by rw [hx]; exact Nat.mul_le_mul (by omega) hst2
  have e2 : (2 : Int) * (t0 : Int) = ((2 * t0 : Nat) : Int) := by rw [Int.natCast_mul]; rfl
  obtain ⟨t2, ht2⟩ : ∃ t2, t2 = 2 * t0 := ⟨_, rfl⟩
  rw [← ht2] at e2
  have ew2 : IntKind.i64.wrap (t2 : Int) = (t2 : Int) := IntWalk.i64_in _ (by omega)
  obtain ⟨x2, hx2⟩ : ∃ x2, x2 = 2 * x := ⟨_, rfl⟩
  have e3 : (t2 : Int) * (st : Int) = (x2 : Int) := by rw [← Int.natCast_mul, ht2, hx2, hx, Nat.mul_assoc]
  have ew3 : IntKind.i64.wrap (x2 : Int) = (x2 : Int) := IntWalk.i64_in _ (by omega)
  clear KS
  have hc1 : n ≤ tp.length := by rw [← hq, hn] at hc; omega
  have hcost : cost ⟨N0, t0, L, W, S, R⟩ b.length ≤ tp.length := hc
  have hcx : n = x := by
    have h9 : cost q b.length = q.T * (q.stripes b.length : Nat) := rfl
    rw [h9, eT, ← hst, ← Int.natCast_mul, ← hx] at hn
    omega
  have hy1 : x2 ≤ zz.length := by rw [hx2, hx, hst, hq]; exact hy
  have hyx : x ≤ zz.length := by omega
  have hyd : x ≤ (zz.drop x).length := by rw [List.length_drop]; omega
  have eTn : q.T.toNat = t0 := by rw [eT]; simp
  have eNn : q.N.toNat = N0 := by rw [eN]; simp
  have hxs : st * q.T.toNat = x := by rw [eTn, Nat.mul_comm, hx]
  have hzc : ∀ t : List UInt8, x ≤ t.length → zcheck q st t = 0 := fun t ht => by
    unfold zcheck
    rw [if_pos (P.right_yes hM), if_neg (by omega), if_neg]
    rw [eT, ← Int.natCast_mul, ← hx]; omega
  have hza : ∀ t : List UInt8, x ≤ t.length → zeroA q st t = shares q (zpolysTo q t st) := fun t ht => by
    unfold zeroA; rw [if_pos (hzc t ht), Int.toNat_natCast]
  obtain ⟨po, hpo⟩ : ∃ po, po = polys q b tp := ⟨_, rfl⟩
  have hpol : po.length = st := by rw [hpo, polys_len, hst]
  have KP := fun V (h1 : BytesAt V A1 b) (h2 : BytesAt V A2 tp) => R10.polys_wide N0 t0 L W S R A1 A2 b tp u1 u2 V (by rw [← hq]; exact hM) h1 h2 k1 z1 k2 z2 (by omega) hcost
  rw [← hq, ← hpo] at KP
  unfold RetRows at KP
  rw [hpol] at KP
  obtain ⟨sa, hsa⟩ : ∃ s, s = shares q (zpolysTo q zz st) := ⟨_, rfl⟩
  obtain ⟨sb, hsb⟩ : ∃ s, s = shares q (zpolysTo q (zz.drop x) st) := ⟨_, rfl⟩
  have hsal : sa.length = N0 := by rw [hsa, shares_len, eNn]
  have hsbl : sb.length = N0 := by rw [hsb, shares_len, eNn]
  have KZ := fun bf V (ht : Gf.Tab V bf) (h : BytesAt V A4 zz) => Zero.zero_any bf q st A4 zz u4 V hpq (by unfold In64; omega) ht h k4 z4
  rw [hza zz hyx, show zeroE q st zz = 0 from hzc zz hyx, ← hsa] at KZ
  unfold Stripe.RetRowsE at KZ
  rw [hsal, hv] at KZ
  have KZ2 := fun bf X d V (ht : Gf.Tab V bf) (h : BytesAt V X (zz.drop x)) (k : (zz.drop x).length ≤ d) (z : d ≤ maxLen) => Zero.zero_any bf q st X (zz.drop x) d V hpq (by unfold In64; omega) ht h k z
  rw [hza _ hyd, show zeroE q st (zz.drop x) = 0 from hzc _ hyd, ← hsb] at KZ2
  unfold Stripe.RetRowsE at KZ2
  rw [hsbl, hv, List.length_drop] at KZ2
  have hra : ∀ j, (hj : j < sa.length) → sa[j] = share (zpolysTo q zz st) ((j : Int) + 1) := fun j hj => by subst hsa; rw [shares_get]
  have hrb : ∀ j, (hj : j < sb.length) → sb[j] = share (zpolysTo q (zz.drop x) st) ((j : Int) + 1) := fun j hj => by subst hsb; rw [shares_get]
  have hslen : ∀ (t : List UInt8) (i : Int), (share (zpolysTo q t st) i).length = st := fun t i => by rw [share_len, zpolysTo_len]
  have KSH := fun X d i V (h : RowsAt V X po) => R10.share_any X po d i V h (by omega) (fun j hj => by
    subst hpo
    have h9 := poly_len hM (row q.L.toNat b j) (take_ q.T.toNat tp j) (take_len _ _ _ (by
      have h8 : (j + 1) * q.T.toNat ≤ st * q.T.toNat := Nat.mul_le_mul_right _ (by omega)
      omega))
    rw [polys_get]
    unfold need at h9
    omega)
  rw [hpol] at KSH
  have hshp : ∀ i, (share po i).length = st := fun i => by rw [share_len, hpol]
  have hmix : ∀ i, addL [share po i, share (zpolysTo q zz st) i, share (zpolysTo q (zz.drop x) st) i] = mix q b tp zz (zz.drop x) st i := fun i => by rw [hpo]; rfl
  have hmxl : ∀ i, (mix q b tp zz (zz.drop x) st i).length = st := fun i => mix_len hst i
  have KA3 := fun X V r1 r2 r3 (h : RowsAt V X [r1, r2, r3]) (g1 : r1.length = st) (g2 : r2.length = st) (g3 : r3.length = st) => Zero.add_any X [r1, r2, r3] 3 V h (by simp) (by unfold maxLen; omega) (by simp) (by
    intro r hr; simp at hr; rcases hr with rfl | rfl | rfl <;> omega)
  have hsnoc : ∀ k, (hk : k < who.length) → mixed q b tp zz (zz.drop x) st (who.take (k + 1)) = mixed q b tp zz (zz.drop x) st (who.take k) ++ [mix q b tp zz (zz.drop x) st who[k]] := fun k hk => mixed_snoc _ _ _ _ _ _ _ _ hk
  have hg0 : mixed q b tp zz (zz.drop x) st (who.take 0) = [] := rfl
  have hgl : ∀ k, k ≤ who.length → (mixed q b tp zz (zz.drop x) st (who.take k)).length = k := fun k hk => by rw [mixed_len, List.length_take]; omega
  have hgall : mixed q b tp zz (zz.drop x) st (who.take who.length) = mixed q b tp zz (zz.drop x) st who := by rw [List.take_length]
  have hback : (∀ i, (hi : i < who.length) → q.is who[i] = true) → rcheck q b.length who (mixed q b tp zz (zz.drop x) st who) = 0 ∧ rblobA q b.length who (mixed q b tp zz (zz.drop x) st who) = b ∧ ragreeA q b.length who (mixed q b tp zz (zz.drop x) st who) = true := fun h =>
    mixed_ok hM hst (by omega) (by rw [hxs]; omega) (by rw [hxs]; exact hyx) (by rw [hxs]; exact hyd) h hu (by omega)
  have hisr : ∀ x, q.is x = true → 1 ≤ x ∧ x ≤ (N0 : Int) := fun x h => by have := of_decide_eq_true h; omega
  have KI := fun x w => R08.is_any q x w
  rw [hv] at KI
  have hG : (mixed q b tp zz (zz.drop x) st who).length = who.length := mixed_len _ _ _ _ _ _ _
  have KB := fun bf A c V (ht : Gf.Tab V bf) (h3 : IntsAt V A3 who) (hA : RowsAt V A (mixed q b tp zz (zz.drop x) st who)) (e1 : (mixed q b tp zz (zz.drop x) st who).length ≤ c) (e2 : c ≤ maxLen) => Rebuild.blob_any bf q b.length A3 A who (mixed q b tp zz (zz.drop x) st who) u3 c V hpq (by unfold In64; omega) ht h3 k3 z3 hi hA e1 e2 (by omega) (by omega)
  have KA := fun bf A c V (ht : Gf.Tab V bf) (h3 : IntsAt V A3 who) (hA : RowsAt V A (mixed q b tp zz (zz.drop x) st who)) (e1 : (mixed q b tp zz (zz.drop x) st who).length ≤ c) (e2 : c ≤ maxLen) => Rebuild.agree_any bf q b.length A3 A who (mixed q b tp zz (zz.drop x) st who) u3 c V hpq (by unfold In64; omega) ht h3 k3 z3 hi hA e1 e2 (by omega) (by omega)
  rw [hv, hG] at KB KA
  have hZD : ∀ V, zz.length = 0 → BytesAt V none (zz.drop x) := fun V h => by rw [List.eq_nil_of_length_eq_zero h, List.drop_nil]; exact BytesAt.nil _ _
  have hZN : ∀ V X, zz.length = 0 → BytesAt V X (zz.drop x) := fun V X h => by rw [List.eq_nil_of_length_eq_zero h, List.drop_nil]; exact BytesAt.nil _ _
  have hxm : ((t0 : Int) * (st : Int)) = (x : Int) := by rw [hx, Int.natCast_mul]
  have hxw : IntKind.i64.wrap (x : Int) = (x : Int) := IntWalk.i64_in _ (by omega)
  have hgap : zz.length ≠ 0 → ¬ u4 = x := fun h0 => by omega
  obtain ⟨mx, hmxe⟩ : ∃ mx, mx = mix q b tp zz (zz.drop x) st := ⟨_, rfl⟩
  obtain ⟨md, hmde⟩ : ∃ md, md = mixed q b tp zz (zz.drop x) st := ⟨_, rfl⟩
  obtain ⟨za, hzae⟩ : ∃ za, za = share (zpolysTo q zz st) := ⟨_, rfl⟩
  obtain ⟨zb, hzbe⟩ : ∃ zb, zb = share (zpolysTo q (zz.drop x) st) := ⟨_, rfl⟩
  rw [← hmde] at hsnoc hg0 hgl hgall hback hG KB KA
  rw [← hmxe] at hsnoc hmix hmxl
  have hzal := hslen zz
  have hzbl := hslen (zz.drop x)
  rw [← hzae] at hra hmix hzal
  rw [← hzbe] at hrb hmix hzbl
  have HP := Lib.hid KP; have HZ1 := Lib.hid KZ; have HZ2 := Lib.hid KZ2; have HRA := Lib.hid hra; have HRB := Lib.hid hrb; have HZAL := Lib.hid hzal; have HZBL := Lib.hid hzbl; have HSH := Lib.hid KSH; have HSHP := Lib.hid hshp; have HMIX := Lib.hid hmix; have HMXL := Lib.hid hmxl; have HA3 := Lib.hid KA3
  have HSN := Lib.hid hsnoc; have HG0 := Lib.hid hg0; have HGL := Lib.hid hgl; have HGA := Lib.hid hgall; have HBK := Lib.hid hback; have HIS := Lib.hid hisr; have HI := Lib.hid KI; have HHG := Lib.hid hG; have HKB := Lib.hid KB; have HKA := Lib.hid KA; have HSAL := Lib.hid hsal; have HSBL := Lib.hid hsbl; have HZN := Lib.hid hZN; have HGAP := Lib.hid hgap
  have HML : Hid (b.length ≤ maxLen) := Lib.hid (by unfold maxLen; omega)
  have B1 := Lib.hid h1; have B2 := Lib.hid h2; have B4 := Lib.hid h4
  unfold maxLen at z4
  have K7 := fun V (h : IntsAt V A3 who) => R08.points_any A3 who u3 V h (by omega)
  have hpl : (points who).length = who.length := points_len who
  have K8 := fun X d V (h : BytesAt V X (points who)) => R03.unlike_any X (points who) d V h (by omega)
  rw [hu, hpl] at K8
  have H7 := Lib.hid K7; have H8 := Lib.hid K8; have HPL := Lib.hid hpl
  have B3 := Lib.hid h3
  clear K7 K8 hpl hu
  clear h3
  clear hc hcost hcx hy hyd eTn eNn hxs hzc hza hpo hpol KP hsa hsb hsal hsbl KZ KZ2 hra hrb hslen KSH hshp hmix hmxl KA3 hsnoc hg0 hgl hgall hback hisr KI hG KB KA hZD hZN hgap hmxe hmde hzae hzbe hzal hzbl h1 h2 h4 hst hx ht2 hx2
  clear hq hr hp hpq hv hM hMM eN eT eL hn
  have HA := Lib.hid (LiesC.new w N0 t0 L W S R (.slice A1 b.length u1) (.slice A2 tp.length u2) (.slice A4 zz.length u4) 42)
  have HB0 := Lib.hid (show Below w.heap.size w ((w.alloc (.cells #[.int .i64 (N0 : Nat), .int .i64 (t0 : Nat), .int .i64 L, .int .i64 W, .int .i64 S, .int .i64 R] 23)).alloc (.cells #[.slice A1 b.length u1, .slice A2 tp.length u2, .slice A4 zz.length u4] 42)) from bstep (balloc _ _) (balloc _ _))
  go_enter Try.func5, Try.ntmps5
  go_wp2_with fail
  generalize (w.alloc (.cells #[.int .i64 (N0 : Nat), .int .i64 (t0 : Nat), .int .i64 L, .int .i64 W, .int .i64 S, .int .i64 R] 23)).alloc (.cells #[.slice A1 b.length u1, .slice A2 tp.length u2, .slice A4 zz.length u4] 42) = w0 at *
  replace B3 := Lib.hid (B3.out.below HB0.out)
  replace B1 := Lib.hid (B1.out.below HB0.out)
  replace B2 := Lib.hid (B2.out.below HB0.out)
  replace B4 := Lib.hid (B4.out.below HB0.out)
  refine Drawn.wp_region_flowL 6 [Drawn.SP.is (.pointer (some ⟨w.heap.size + 1, 0, none⟩)), Drawn.SP.is (.slice A1 b.length u1), Drawn.SP.is (.pointer (some ⟨w.heap.size + 1, 1, none⟩)), Drawn.SP.is (.slice A2 tp.length u2), Drawn.SP.is (.slice A1 b.length u1), Drawn.SP.is (.slice A2 tp.length u2)] (by kernel_rfl) (by kernel_rfl) ?_ ?_
  · intro i hi a w1 hb hev hdep
    rcases (show i = 0 ∨ i = 1 ∨ i = 2 ∨ i = 3 ∨ i = 4 ∨ i = 5 by omega) with rfl | rfl | rfl | rfl | rfl | rfl
    · have e4 : a.tmps[4]?.getD undef = .pointer (some ⟨w.heap.size + 1, 0, none⟩) := hev 4 rfl
      refine Drawn.wpOp_flow 21 rfl rfl rfl ?_
      clear hev hdep hb
      go_simp
      exact ⟨_, rfl, rfl, Below.refl _ _⟩
    · have d0 : a.tmps[21]?.getD undef = .pointer (some ⟨w.heap.size + 1, 0, none⟩) := hdep 0 rfl
      refine Drawn.wpOp_flow 22 rfl rfl rfl ?_
      have a0 := (HA.out.below hb).a0
      have a1 := (HA.out.below hb).a1
      clear hev hdep hb
      go_simp
      exact ⟨_, rfl, rfl, Below.refl _ _⟩
    · have e4 : a.tmps[4]?.getD undef = .pointer (some ⟨w.heap.size + 1, 0, none⟩) := hev 4 rfl
      refine Drawn.wpOp_flow 23 rfl rfl rfl ?_
      clear hev hdep hb
      go_simp
      exact ⟨_, rfl, rfl, Below.refl _ _⟩
    · have d2 : a.tmps[23]?.getD undef = .pointer (some ⟨w.heap.size + 1, 1, none⟩) := hdep 2 rfl
      refine Drawn.wpOp_flow 24 rfl rfl rfl ?_
      have a0 := (HA.out.below hb).a0
      have a1 := (HA.out.below hb).a1
      clear hev hdep hb
      go_simp
      exact ⟨_, rfl, rfl, Below.refl _ _⟩
    · have d1 : a.tmps[22]?.getD undef = .slice A1 b.length u1 := hdep 1 rfl
      refine Drawn.wpOp_flow 7 rfl rfl rfl ?_
      clear hev hdep hb
      go_simp
      exact ⟨_, rfl, rfl, Below.refl _ _⟩
    · have d3 : a.tmps[24]?.getD undef = .slice A2 tp.length u2 := hdep 3 rfl
      refine Drawn.wpOp_flow 8 rfl rfl rfl ?_
      clear hev hdep hb
      go_simp
      exact ⟨_, rfl, rfl, Below.refl _ _⟩
  · intro xq w1 hb hxq
    have vq0 : xq 0 = .pointer (some ⟨w.heap.size + 1, 0, none⟩) := hxq 0 (by omega)
    have vq1 : xq 1 = .slice A1 b.length u1 := hxq 1 (by omega)
    have vq2 : xq 2 = .pointer (some ⟨w.heap.size + 1, 1, none⟩) := hxq 2 (by omega)
    have vq3 : xq 3 = .slice A2 tp.length u2 := hxq 3 (by omega)
    have vq4 : xq 4 = .slice A1 b.length u1 := hxq 4 (by omega)
    have vq5 : xq 5 = .slice A2 tp.length u2 := hxq 5 (by omega)
    show Exit.then _ _ Exit.normal (Drawn.acts _ [(8, some (xq 5)), (7, some (xq 4)), (24, some (xq 3)), (23, some (xq 2)), (22, some (xq 1)), (21, some (xq 0))]) _
    rw [vq0, vq1, vq2, vq3, vq4, vq5]
    clear hxq vq0 vq1 vq2 vq3 vq4 vq5
    clear xq
    simp only [Drawn.acts]
    go_simp
    have hb1 := hb
    clear hb
    obtain ⟨c0, c1, c2, c3, c4, c5⟩ := six (HA.out.below hb1).plan
    go_at_K
    go_wp2_with fail
    refine (H0.out _).mono ?_
    rintro e w2 ⟨rfl, hb2'⟩
    have hb2 := bstep hb1 hb2'
    clear c0 c1 c2 c3 c4 c5
    clear hb1 hb2'
    obtain ⟨c0, c1, c2, c3, c4, c5⟩ := six (HA.out.below hb2).plan
    go_wp2_with fail
    refine (H3.out _).mono ?_
    rintro e w3 ⟨rfl, hbx⟩
    have hb3 := bstep hb2 hbx
    clear c0 c1 c2 c3 c4 c5
    clear hb2 hbx
    obtain ⟨c0, c1, c2, c3, c4, c5⟩ := six (HA.out.below hb3).plan
    go_wp2_with fail
    refine (H9.out _).mono ?_
    rintro e w4 ⟨rfl, hbx⟩
    have hb4 := bstep hb3 hbx
    clear c0 c1 c2 c3 c4 c5
    clear hb3 hbx
    obtain ⟨c0, c1, c2, c3, c4, c5⟩ := six (HA.out.below hb4).plan
    go_wp2_with fail
    refine (H7.out _ (B3.out.below hb4)).mono ?_
    rintro e w5 ⟨X, d, rfl, _, _, hX, hbx, _⟩
    rw [HPL.out]
    have HX := Lib.hid hX
    have hb5 := bstep hb4 hbx
    clear c0 c1 c2 c3 c4 c5
    clear hb4 hbx hX
    obtain ⟨c0, c1, c2, c3, c4, c5⟩ := six (HA.out.below hb5).plan
    go_wp2_with fail
    refine (H8.out X d _ HX.out).mono ?_
    rintro e w6 ⟨rfl, hbx⟩
    have hb6 := bstep hb5 (bquiet hbx)
    clear c0 c1 c2 c3 c4 c5
    clear hb5 hbx HX
    obtain ⟨c0, c1, c2, c3, c4, c5⟩ := six (HA.out.below hb6).plan
    go_wp2_with fail
    refine (H5.out _).mono ?_
    rintro e w7 ⟨rfl, hbx⟩
    have hb7 := bstep hb6 hbx
    clear c0 c1 c2 c3 c4 c5
    clear hb6 hbx
    obtain ⟨c0, c1, c2, c3, c4, c5⟩ := six (HA.out.below hb7).plan
    have a2 := (HA.out.below hb7).a2
    go_wp2_with fail
    clear a2
    have a2 := (HA.out.below hb7).a2
    refine (Gf.new_any w7).mono ?_
    rintro e w8 ⟨rfl, ht, hbx, _⟩
    have hb8 := bstep hb7 hbx
    clear c0 c1 c2 c3 c4 c5
    clear hb7 hbx a2
    generalize w7.heap.size = bf at *
    have HT := Lib.hid ht
    clear ht
    obtain ⟨c0, c1, c2, c3, c4, c5⟩ := six (HA.out.below hb8).plan
    go_wp2_with fail
    refine (HP.out w8 (B1.out.below hb8) (B2.out.below hb8)).mono ?_
    rintro e w9 ⟨Xp, dp, rfl, _, _, hXp, hbx, _⟩
    have hb9 := bstep hb8 hbx
    replace HT := Lib.hid (HT.out.below hbx)
    have HXP := Lib.hid hXp
    clear c0 c1 c2 c3 c4 c5
    clear hb8 hbx hXp
    obtain ⟨c0, c1, c2, c3, c4, c5⟩ := six (HA.out.below hb9).plan
    have a2 := (HA.out.below hb9).a2
    go_wp2_with fail
    refine (HZ1.out bf w9 HT.out (B4.out.below hb9)).mono ?_
    rintro e w10 ⟨Xa, da, rfl, _, _, hXa, hbx, _⟩
    have hb10 := bstep hb9 hbx
    replace HT := Lib.hid (HT.out.below hbx)
    replace HXP := Lib.hid (HXP.out.below hbx)
    have HXA := Lib.hid hXa
    clear c0 c1 c2 c3 c4 c5
    clear hb9 hbx hXa a2
    go_wp2_with fail
    refine Drawn.wp_region_flowL 16 [Drawn.SP.is (.pointer (some ⟨bf, 0, none⟩)), Drawn.SP.is (.agg #[.int .i64 (N0 : Nat), .int .i64 (t0 : Nat), .int .i64 L, .int .i64 W, .int .i64 S, .int .i64 R]), Drawn.SP.is (.int .i64 (st : Nat)), Drawn.SP.is (.pointer (some ⟨w.heap.size + 1, 2, none⟩)), Drawn.SP.is (.slice A4 zz.length u4), Drawn.SP.is (.pointer (some ⟨w.heap.size, 1, none⟩)), Drawn.SP.is (.int .i64 (t0 : Nat)), Drawn.SP.is (.int .i64 (st : Nat)), Drawn.SP.is (.int .i64 (x : Nat)), SP.bl (zz.drop x) (zz.length - x), SP.rE sb N0 0, SP.rE sb N0 0, SP.rn sb N0, Drawn.SP.is (.int .i64 0), SP.rn sb N0, Drawn.SP.is (.int .i64 0)] (by kernel_rfl) (by kernel_rfl) ?_ ?_
    · intro i hi a wy hb hev hdep
      rcases (show i = 0 ∨ i = 1 ∨ i = 2 ∨ i = 3 ∨ i = 4 ∨ i = 5 ∨ i = 6 ∨ i = 7 ∨ i = 8 ∨ i = 9 ∨ i = 10 ∨ i = 11 ∨ i = 12 ∨ i = 13 ∨ i = 14 ∨ i = 15 by omega) with rfl | rfl | rfl | rfl | rfl | rfl | rfl | rfl | rfl | rfl | rfl | rfl | rfl | rfl | rfl | rfl
      · have e10 : a.tmps[10]?.getD undef = .pointer (some ⟨bf, 0, none⟩) := hev 10 rfl
        refine Drawn.wpOp_flow 98 rfl rfl rfl ?_
        clear hev hdep hb
        go_simp
        exact ⟨_, rfl, rfl, Below.refl _ _⟩
      · have e3 : a.tmps[3]?.getD undef = .pointer (some ⟨w.heap.size, 0, none⟩) := hev 3 rfl
        refine Drawn.wpOp_flow 99 rfl rfl rfl ?_
        obtain ⟨c0, c1, c2, c3, c4, c5⟩ := six (HA.out.below (bstep hb10 hb)).plan
        have a2 := (HA.out.below (bstep hb10 hb)).a2
        clear hev hdep hb
        go_simp
        exact ⟨_, rfl, rfl, Below.refl _ _⟩
      · have e9 : a.tmps[9]?.getD undef = .int .i64 (st : Nat) := hev 9 rfl
        refine Drawn.wpOp_flow 100 rfl rfl rfl ?_
        clear hev hdep hb
        go_simp
        exact ⟨_, rfl, rfl, Below.refl _ _⟩
      · have e4 : a.tmps[4]?.getD undef = .pointer (some ⟨w.heap.size + 1, 0, none⟩) := hev 4 rfl
        refine Drawn.wpOp_flow 101 rfl rfl rfl ?_
        clear hev hdep hb
        go_simp
        exact ⟨_, rfl, rfl, Below.refl _ _⟩
      · have d3 : a.tmps[101]?.getD undef = .pointer (some ⟨w.heap.size + 1, 2, none⟩) := hdep 3 rfl
        refine Drawn.wpOp_flow 102 rfl rfl rfl ?_
        obtain ⟨c0, c1, c2, c3, c4, c5⟩ := six (HA.out.below (bstep hb10 hb)).plan
        have a2 := (HA.out.below (bstep hb10 hb)).a2
        clear hev hdep hb
        go_simp
        exact ⟨_, rfl, rfl, Below.refl _ _⟩
      · have e3 : a.tmps[3]?.getD undef = .pointer (some ⟨w.heap.size, 0, none⟩) := hev 3 rfl
        refine Drawn.wpOp_flow 103 rfl rfl rfl ?_
        clear hev hdep hb
        go_simp
        exact ⟨_, rfl, rfl, Below.refl _ _⟩
      · have d5 : a.tmps[103]?.getD undef = .pointer (some ⟨w.heap.size, 1, none⟩) := hdep 5 rfl
        refine Drawn.wpOp_flow 104 rfl rfl rfl ?_
        obtain ⟨c0, c1, c2, c3, c4, c5⟩ := six (HA.out.below (bstep hb10 hb)).plan
        have a2 := (HA.out.below (bstep hb10 hb)).a2
        clear hev hdep hb
        go_simp
        exact ⟨_, rfl, rfl, Below.refl _ _⟩
      · have e9 : a.tmps[9]?.getD undef = .int .i64 (st : Nat) := hev 9 rfl
        refine Drawn.wpOp_flow 105 rfl rfl rfl ?_
        clear hev hdep hb
        go_simp
        exact ⟨_, rfl, rfl, Below.refl _ _⟩
      · have d6 : a.tmps[104]?.getD undef = .int .i64 (t0 : Nat) := hdep 6 rfl
        have d7 : a.tmps[105]?.getD undef = .int .i64 (st : Nat) := hdep 7 rfl
        refine Drawn.wpOp_flow 106 rfl rfl rfl ?_
        clear hev hdep hb
        go_simp
        exact ⟨_, rfl, rfl, Below.refl _ _⟩
      · have d4 : a.tmps[102]?.getD undef = .slice A4 zz.length u4 := hdep 4 rfl
        have d8 : a.tmps[106]?.getD undef = .int .i64 (x : Nat) := hdep 8 rfl
        refine Drawn.wpOp_flow 107 rfl rfl rfl ?_
        clear hev hdep
        have hB4 := HZN.out
        have B4x := B4.out.below (bstep hb10 hb)
        have hG4 := HGAP.out
        clear hb
        by_cases h0 : zz.length = 0
        · have hx0 : x = 0 := by omega
          have HB := Lib.hid (fun X => hB4 wy X h0)
          have HBZ := Lib.hid (fun X => (show BytesAt wy X zz from by rw [List.eq_nil_of_length_eq_zero h0]; exact BytesAt.nil _ _))
          have HX0 := Lib.hid hx0
          have hsx : zz.length - x = 0 := by omega
          have hxle : x ≤ zz.length := by omega
          clear hB4 hG4 B4x
          go_simp
          exact ⟨_, rfl, ⟨_, _, by first | rfl | (congr 1; omega), by omega, by unfold maxLen; omega, (by first | exact HB.out _ | exact HBZ.out _)⟩, Below.refl _ _⟩
        · obtain ⟨b4, o4, hA4⟩ : ∃ b o, A4 = some ⟨b, o, none⟩ := by
            obtain ⟨b4, o4, h, _⟩ := B4x 0 (by omega)
            exact ⟨b4, o4, h⟩
          subst hA4
          have hg := hG4 h0
          have HB := Lib.hid (BytesAt.drop B4x x)
          clear hB4 hG4 B4x h0
          go_simp
          exact ⟨_, rfl, ⟨_, _, rfl, by omega, by unfold maxLen; omega, HB.out⟩, Below.refl _ _⟩
      · have d0 : a.tmps[98]?.getD undef = .pointer (some ⟨bf, 0, none⟩) := hdep 0 rfl
        have d1 : a.tmps[99]?.getD undef = .agg #[.int .i64 (N0 : Nat), .int .i64 (t0 : Nat), .int .i64 L, .int .i64 W, .int .i64 S, .int .i64 R] := hdep 1 rfl
        have d2 : a.tmps[100]?.getD undef = .int .i64 (st : Nat) := hdep 2 rfl
        obtain ⟨Xz, dz, d9, y1, y2, y3⟩ : (SP.bl (zz.drop x) (zz.length - x)).p (a.tmps[107]?.getD undef) wy := hdep 9 rfl
        refine Drawn.wpOp_flow 108 rfl rfl rfl ?_
        clear hev hdep
        have C := HZ2.out bf Xz dz wy (HT.out.below hb) y3 y1 y2
        clear hb y3
        go_simp
        refine C.mono ?_
        rintro e w' ⟨X, f, rfl, g1, g2, g3, hb', _⟩
        exact ⟨_, rfl, ⟨X, f, rfl, g1, g2, g3⟩, hb'⟩
      · have d10 := hdep 10 rfl
        refine Drawn.wpOp_flow 97 rfl rfl rfl ?_
        clear hev hdep hb
        go_simp
        exact ⟨_, rfl, d10, Below.refl _ _⟩
      · obtain ⟨Xb, db, d11, q1, q2, q3⟩ : (SP.rE sb N0 0).p (a.tmps[97]?.getD undef) wy := hdep 11 rfl
        refine Drawn.wpOp_flow 109 rfl rfl rfl ?_
        clear hev hdep
        clear hb
        go_simp
        exact ⟨_, rfl, ⟨Xb, db, rfl, q1, q2, q3⟩, Below.refl _ _⟩
      · obtain ⟨Xb, db, d11, q1, q2, q3⟩ : (SP.rE sb N0 0).p (a.tmps[97]?.getD undef) wy := hdep 11 rfl
        refine Drawn.wpOp_flow 110 rfl rfl rfl ?_
        clear hev hdep hb
        go_simp
        exact ⟨_, rfl, rfl, Below.refl _ _⟩
      · have d12 := hdep 12 rfl
        refine Drawn.wpOp_flow 14 rfl rfl rfl ?_
        clear hev hdep hb
        go_simp
        exact ⟨_, rfl, d12, Below.refl _ _⟩
      · have d13 : a.tmps[110]?.getD undef = .int .i64 0 := hdep 13 rfl
        refine Drawn.wpOp_flow 15 rfl rfl rfl ?_
        clear hev hdep hb
        go_simp
        exact ⟨_, rfl, rfl, Below.refl _ _⟩
    · intro xq wy hb hxq
      have vq0 : xq 0 = .pointer (some ⟨bf, 0, none⟩) := hxq 0 (by omega)
      have vq1 : xq 1 = .agg #[.int .i64 (N0 : Nat), .int .i64 (t0 : Nat), .int .i64 L, .int .i64 W, .int .i64 S, .int .i64 R] := hxq 1 (by omega)
      have vq2 : xq 2 = .int .i64 (st : Nat) := hxq 2 (by omega)
      have vq3 : xq 3 = .pointer (some ⟨w.heap.size + 1, 2, none⟩) := hxq 3 (by omega)
      have vq4 : xq 4 = .slice A4 zz.length u4 := hxq 4 (by omega)
      have vq5 : xq 5 = .pointer (some ⟨w.heap.size, 1, none⟩) := hxq 5 (by omega)
      have vq6 : xq 6 = .int .i64 (t0 : Nat) := hxq 6 (by omega)
      have vq7 : xq 7 = .int .i64 (st : Nat) := hxq 7 (by omega)
      have vq8 : xq 8 = .int .i64 (x : Nat) := hxq 8 (by omega)
      have vq13 : xq 13 = .int .i64 0 := hxq 13 (by omega)
      obtain ⟨Xb, db, vq14, q1, q2, q3⟩ : (SP.rn sb N0).p (xq 14) wy := hxq 14 (by omega)
      have vq15 : xq 15 = .int .i64 0 := hxq 15 (by omega)
      show Exit.then _ _ Exit.normal (Drawn.acts _ [(15, some (xq 15)), (14, some (xq 14)), (110, some (xq 13)), (109, some (xq 12)), (97, some (xq 11)), (108, some (xq 10)), (107, some (xq 9)), (106, some (xq 8)), (105, some (xq 7)), (104, some (xq 6)), (103, some (xq 5)), (102, some (xq 4)), (101, some (xq 3)), (100, some (xq 2)), (99, some (xq 1)), (98, some (xq 0))]) _
      rw [vq0, vq1, vq2, vq3, vq4, vq5, vq6, vq7, vq8, vq13, vq14, vq15]
      clear hxq vq0 vq1 vq2 vq3 vq4 vq5 vq6 vq7 vq8 vq13 vq14 vq15
      generalize xq 9 = yq9
      generalize xq 10 = yq10
      generalize xq 11 = yq11
      generalize xq 12 = yq12
      clear xq
      simp only [Drawn.acts]
      go_simp
      have hb11 := bstep hb10 hb
      have HT1 := Lib.hid (HT.out.below hb)
      have HXP1 := Lib.hid (HXP.out.below hb)
      have HXA1 := Lib.hid (HXA.out.below hb)
      have HXB1 := Lib.hid q3
      clear hb10 hb q3 HT HXP HXA
      obtain ⟨c0, c1, c2, c3, c4, c5⟩ := six (HA.out.below hb11).plan
      go_wp2_with fail
      clear c0 c1 c2 c3 c4 c5
      have HAw := Lib.hid (HA.out.below hb11)
      have B1w := Lib.hid (B1.out.below hb11)
      have B3w := Lib.hid (B3.out.below hb11)
      have HB0w := Lib.hid (bstep HB0.out hb11)
      clear hb11
      go_loopw [16, 133] (fun v i wr => ∃ (k : Nat) (v0 : Value), k ≤ who.length ∧ i = .int .i64 k ∧ v0 = v ∧ OwnM wr wy.heap.size v0 (md (who.take k)) ∧ (∀ j, (hj : j < who.length) → j < k → q.is who[j] = true) ∧ Below wy.heap.size wy wr) (fun _ i _ => who.length - (intOf i).toNat)
      case atStart => exact ⟨0, _, Nat.zero_le _, rfl, rfl, by rw [HG0.out]; exact OwnM.nil _ _, fun j _ h => by omega, Below.refl _ _⟩
      case round =>
      obtain ⟨k, v, hk, rfl, hvv, hown, hall, hbr⟩ := hrel
      subst hvv
      rename World => wr
      have HO := Lib.hid hown; have HL := Lib.hid hall
      clear hown hall
      by_cases hlt : k < who.length
      · obtain ⟨wb, wo, rfl, e1⟩ := (B3w.out.below hbr).at hlt
        have hsn := HSN.out k hlt
        have HNX : Hid (q.is who[k] = true → ∀ j, (hj : j < who.length) → j < k + 1 → q.is who[j] = true) := Lib.hid fun h j hj hjk => by
          by_cases e : j = k
          · subst e; exact h
          · exact HL.out j hj (by omega)
        have hwi := hi who[k] (List.getElem_mem hlt)
        unfold In64 at hwi
        generalize who[k] = y at *
        have HS := Lib.hid hsn
        clear hsn
        obtain ⟨c0, c1, c2, c3, c4, c5⟩ := six (HAw.out.below hbr).plan
        have C := HI.out y wr
        rcases his : q.is y with _ | _
        · rw [his] at C
          clear his HNX
          go_wp2_with fail
          refine C.mono ?_
          clear C
          rintro e wx ⟨rfl, hbx⟩
          have hbz9 := bstep hbr hbx
          clear c0 c1 c2 c3 c4 c5
          clear hbx
          go_wp2_with fail
          refine (alive_any _).mono ?_
          rintro e wz ⟨rfl, hbz⟩
          go_wp2
          go_ret
          exact ⟨rfl, bstep HB0w.out (bstep hbz9 hbz)⟩
        · obtain ⟨hx1, hx2⟩ := HIS.out y his
          have HX1 := Lib.hid (HNX.out his)
          rw [his] at C
          obtain ⟨j, hj⟩ : ∃ j : Nat, y - 1 = j := ⟨(y - 1).toNat, by omega⟩
          have hjm : j < N0 := by omega
          obtain ⟨ab, ao, B1x, e1x, hXe, f1, g1a, g2a, hBA⟩ := HXA1.out.row (i := j) (by rw [HSAL.out]; exact hjm)
          subst hXe
          obtain ⟨bb, bo, B2x, e2x, hXe, f2, g1b, g2b, hBB⟩ := HXB1.out.row (i := j) (by rw [HSBL.out]; exact hjm)
          subst hXe
          have hra := HRA.out j (by rw [HSAL.out]; exact hjm)
          have hrb := HRB.out j (by rw [HSBL.out]; exact hjm)
          rw [show (j : Int) + 1 = y by omega] at hra hrb
          rw [hra, HZAL.out] at f1 g1a
          rw [hra] at hBA
          rw [hrb, HZBL.out] at f2 g1b
          rw [hrb] at hBB
          have i2 : IntKind.i64.wrap (y - 1) = (j : Int) := by rw [hj]; exact IntWalk.i64_in _ (by omega)
          have F1w := Lib.hid ((hbr.cell (p := ⟨ab, ao + j, none⟩) (cell_lt f1)).trans f1)
          have F2w := Lib.hid ((hbr.cell (p := ⟨bb, bo + j, none⟩) (cell_lt f2)).trans f2)
          have HBAw := Lib.hid (hBA.below hbr); have HBBw := Lib.hid (hBB.below hbr)
          have hgk := HGL.out k (by omega)
          have HGK := Lib.hid hgk
          clear his HNX hra hrb hj hBA hBB f1 f2 hgk hwi hx1 hx2
          go_wp2_with fail
          refine C.mono ?_
          clear C
          rintro e wx ⟨rfl, hbx⟩
          have F1 := Lib.hid ((hbx.cell (p := ⟨ab, ao + j, none⟩) (cell_lt F1w.out)).trans F1w.out)
          have F2 := Lib.hid ((hbx.cell (p := ⟨bb, bo + j, none⟩) (cell_lt F2w.out)).trans F2w.out)
          have hbrx := hbr.trans (hbx.mono hbr.size)
          have HBA := Lib.hid (HBAw.out.below hbx); have HBB := Lib.hid (HBBw.out.below hbx)
          have HOx := Lib.hid (HO.out.below hbx)
          have HOL := Lib.hid HOx.out.ownlt
          have HXP := HXP1
          clear c0 c1 c2 c3 c4 c5
          clear hbx F1w F2w HBAw HBBw
          go_wp2_with fail
          refine Drawn.wp_region_flowT 17 [Drawn.SP.is (v), Drawn.SP.is (.slice Xp st dp), Drawn.SP.is (.int .i64 y), SP.bl (share po y) st, Drawn.SP.is (.slice (some ⟨ab, ao, none⟩) N0 da), Drawn.SP.is (.int .i64 y), Drawn.SP.is (.int .i64 (j : Nat)), Drawn.SP.is (.pointer (some ⟨ab, ao + j, none⟩)), Drawn.SP.is (.slice B1x st e1x), Drawn.SP.is (.slice (some ⟨bb, bo, none⟩) N0 db), Drawn.SP.is (.int .i64 y), Drawn.SP.is (.int .i64 (j : Nat)), Drawn.SP.is (.pointer (some ⟨bb, bo + j, none⟩)), Drawn.SP.is (.slice B2x st e2x), SP.lit3 [share po y, za y, zb y], SP.bln wx.heap.size (mx y) st, R12.SP.lit wx.heap.size (mx y) st] (by kernel_rfl) (by kernel_rfl) ?_ ?_
          · intro i hi a wg hb hev hdep
            rcases (show i = 0 ∨ i = 1 ∨ i = 2 ∨ i = 3 ∨ i = 4 ∨ i = 5 ∨ i = 6 ∨ i = 7 ∨ i = 8 ∨ i = 9 ∨ i = 10 ∨ i = 11 ∨ i = 12 ∨ i = 13 ∨ i = 14 ∨ i = 15 ∨ i = 16 by omega) with rfl | rfl | rfl | rfl | rfl | rfl | rfl | rfl | rfl | rfl | rfl | rfl | rfl | rfl | rfl | rfl | rfl
            · have e16 : a.tmps[16]?.getD undef = v := hev 16 rfl
              refine Drawn.wpOp_flow 142 rfl rfl rfl ?_
              clear hev hdep hb
              go_simp
              exact ⟨_, rfl, rfl, Below.refl _ _⟩
            · have e11 : a.tmps[11]?.getD undef = .slice Xp st dp := hev 11 rfl
              refine Drawn.wpOp_flow 143 rfl rfl rfl ?_
              clear hev hdep hb
              go_simp
              exact ⟨_, rfl, rfl, Below.refl _ _⟩
            · have e18 : a.tmps[18]?.getD undef = .int .i64 y := hev 18 rfl
              refine Drawn.wpOp_flow 144 rfl rfl rfl ?_
              clear hev hdep hb
              go_simp
              exact ⟨_, rfl, rfl, Below.refl _ _⟩
            · have d1 : a.tmps[143]?.getD undef = .slice Xp st dp := hdep 1 rfl
              have d2 : a.tmps[144]?.getD undef = .int .i64 y := hdep 2 rfl
              refine Drawn.wpOp_flow 145 rfl rfl rfl ?_
              clear hev hdep
              have C := HSH.out Xp dp y wg (HXP.out.below (hbrx.trans (hb.mono hbrx.size)))
              clear hb
              go_simp
              refine C.mono ?_
              rintro e w' ⟨X, d, rfl, g1, g2, g3, hb', _⟩
              rw [HSHP.out] at g1
              exact ⟨_, rfl, ⟨X, d, by rw [HSHP.out], g1, g2, g3⟩, hb'⟩
            · have e12 : a.tmps[12]?.getD undef = .slice (some ⟨ab, ao, none⟩) N0 da := hev 12 rfl
              refine Drawn.wpOp_flow 146 rfl rfl rfl ?_
              clear hev hdep hb
              go_simp
              exact ⟨_, rfl, rfl, Below.refl _ _⟩
            · have e18 : a.tmps[18]?.getD undef = .int .i64 y := hev 18 rfl
              refine Drawn.wpOp_flow 147 rfl rfl rfl ?_
              clear hev hdep hb
              go_simp
              exact ⟨_, rfl, rfl, Below.refl _ _⟩
            · have d5 : a.tmps[147]?.getD undef = .int .i64 y := hdep 5 rfl
              refine Drawn.wpOp_flow 148 rfl rfl rfl ?_
              clear hev hdep hb
              go_simp
              exact ⟨_, rfl, rfl, Below.refl _ _⟩
            · have d4 : a.tmps[146]?.getD undef = .slice (some ⟨ab, ao, none⟩) N0 da := hdep 4 rfl
              have d6 : a.tmps[148]?.getD undef = .int .i64 (j : Nat) := hdep 6 rfl
              refine Drawn.wpOp_flow 149 rfl rfl rfl ?_
              clear hev hdep hb
              go_simp
              exact ⟨_, rfl, rfl, Below.refl _ _⟩
            · have d7 : a.tmps[149]?.getD undef = .pointer (some ⟨ab, ao + j, none⟩) := hdep 7 rfl
              refine Drawn.wpOp_flow 150 rfl rfl rfl ?_
              have k1 := (hb.cell (p := ⟨ab, ao + j, none⟩) (cell_lt F1.out)).trans F1.out
              have k2 := (hb.cell (p := ⟨bb, bo + j, none⟩) (cell_lt F2.out)).trans F2.out
              clear hev hdep hb
              go_simp
              exact ⟨_, rfl, rfl, Below.refl _ _⟩
            · have e14 : a.tmps[14]?.getD undef = .slice (some ⟨bb, bo, none⟩) N0 db := hev 14 rfl
              refine Drawn.wpOp_flow 151 rfl rfl rfl ?_
              clear hev hdep hb
              go_simp
              exact ⟨_, rfl, rfl, Below.refl _ _⟩
            · have e18 : a.tmps[18]?.getD undef = .int .i64 y := hev 18 rfl
              refine Drawn.wpOp_flow 152 rfl rfl rfl ?_
              clear hev hdep hb
              go_simp
              exact ⟨_, rfl, rfl, Below.refl _ _⟩
            · have d10 : a.tmps[152]?.getD undef = .int .i64 y := hdep 10 rfl
              refine Drawn.wpOp_flow 153 rfl rfl rfl ?_
              clear hev hdep hb
              go_simp
              exact ⟨_, rfl, rfl, Below.refl _ _⟩
            · have d9 : a.tmps[151]?.getD undef = .slice (some ⟨bb, bo, none⟩) N0 db := hdep 9 rfl
              have d11 : a.tmps[153]?.getD undef = .int .i64 (j : Nat) := hdep 11 rfl
              refine Drawn.wpOp_flow 154 rfl rfl rfl ?_
              clear hev hdep hb
              go_simp
              exact ⟨_, rfl, rfl, Below.refl _ _⟩
            · have d12 : a.tmps[154]?.getD undef = .pointer (some ⟨bb, bo + j, none⟩) := hdep 12 rfl
              refine Drawn.wpOp_flow 155 rfl rfl rfl ?_
              have k1 := (hb.cell (p := ⟨ab, ao + j, none⟩) (cell_lt F1.out)).trans F1.out
              have k2 := (hb.cell (p := ⟨bb, bo + j, none⟩) (cell_lt F2.out)).trans F2.out
              clear hev hdep hb
              go_simp
              exact ⟨_, rfl, rfl, Below.refl _ _⟩
            · obtain ⟨X1, d1, d3, s1, s2, s3⟩ : (SP.bl (share po y) st).p (a.tmps[145]?.getD undef) wg := hdep 3 rfl
              have d8 : a.tmps[150]?.getD undef = .slice B1x st e1x := hdep 8 rfl
              have d13 : a.tmps[155]?.getD undef = .slice B2x st e2x := hdep 13 rfl
              refine Drawn.wpOp_flow 156 rfl rfl rfl ?_
              clear hev hdep
              have R3 := rows_lit3 (l := share po y) (m := za y) (n := zb y) s3 (by rw [HSHP.out]; exact s1) s2 (HBA.out.below hb) (by rw [HZAL.out]; exact g1a) g2a (HBB.out.below hb) (by rw [HZBL.out]; exact g1b) g2b
              rw [HSHP.out, HZAL.out, HZBL.out] at R3
              clear hb s3
              go_simp
              exact ⟨_, rfl, ⟨_, rfl, R3⟩, balloc _ _⟩
            · obtain ⟨X3, d14, t3⟩ : (SP.lit3 [share po y, za y, zb y]).p (a.tmps[156]?.getD undef) wg := hdep 14 rfl
              refine Drawn.wpOp_flow 157 rfl rfl rfl ?_
              clear hev hdep
              have C := HA3.out X3 wg _ _ _ t3 (HSHP.out y) (HZAL.out y) (HZBL.out y)
              rw [HMIX.out] at C
              have hz := hb.size
              clear hb t3
              go_simp
              refine C.mono ?_
              rintro e w' ⟨X, d, rfl, g1, g2, g3, hb', hn'⟩
              rw [HMXL.out] at g1
              exact ⟨_, rfl, ⟨X, d, by rw [HMXL.out], g1, g2, g3, fun a e => Nat.le_trans hz (hn' a e)⟩, hb'⟩
            · obtain ⟨Xm, dm, d15, p1, p2, p3, p4⟩ : (SP.bln wx.heap.size (mx y) st).p (a.tmps[157]?.getD undef) wg := hdep 15 rfl
              refine Drawn.wpOp_flow 158 rfl rfl rfl ?_
              clear hev hdep
              clear hb
              have p3' := p3.alloc (.cells #[.slice Xm st dm] 24)
              clear p3
              go_simp
              exact ⟨_, rfl, ⟨wg.heap.size, Xm, dm, rfl, by simp, p1, p2, p3', p4⟩, balloc _ _⟩
          · intro xq wg hb hxq
            have vq0 : xq 0 = v := hxq 0 (by omega)
            have vq1 : xq 1 = .slice Xp st dp := hxq 1 (by omega)
            have vq2 : xq 2 = .int .i64 y := hxq 2 (by omega)
            have vq4 : xq 4 = .slice (some ⟨ab, ao, none⟩) N0 da := hxq 4 (by omega)
            have vq5 : xq 5 = .int .i64 y := hxq 5 (by omega)
            have vq6 : xq 6 = .int .i64 (j : Nat) := hxq 6 (by omega)
            have vq7 : xq 7 = .pointer (some ⟨ab, ao + j, none⟩) := hxq 7 (by omega)
            have vq8 : xq 8 = .slice B1x st e1x := hxq 8 (by omega)
            have vq9 : xq 9 = .slice (some ⟨bb, bo, none⟩) N0 db := hxq 9 (by omega)
            have vq10 : xq 10 = .int .i64 y := hxq 10 (by omega)
            have vq11 : xq 11 = .int .i64 (j : Nat) := hxq 11 (by omega)
            have vq12 : xq 12 = .pointer (some ⟨bb, bo + j, none⟩) := hxq 12 (by omega)
            have vq13 : xq 13 = .slice B2x st e2x := hxq 13 (by omega)
            obtain ⟨gl, Xm, dm, vq16, q0, q1, q2, q3, q4⟩ : (R12.SP.lit wx.heap.size (mx y) st).p (xq 16) wg := hxq 16 (by omega)
            show wpList _ _ _ _ (Drawn.acts _ [(158, some (xq 16)), (157, some (xq 15)), (156, some (xq 14)), (155, some (xq 13)), (154, some (xq 12)), (153, some (xq 11)), (152, some (xq 10)), (151, some (xq 9)), (150, some (xq 8)), (149, some (xq 7)), (148, some (xq 6)), (147, some (xq 5)), (146, some (xq 4)), (145, some (xq 3)), (144, some (xq 2)), (143, some (xq 1)), (142, some (xq 0))]) _
            rw [vq0, vq1, vq2, vq4, vq5, vq6, vq7, vq8, vq9, vq10, vq11, vq12, vq13, vq16]
            clear hxq vq0 vq1 vq2 vq4 vq5 vq6 vq7 vq8 vq9 vq10 vq11 vq12 vq13 vq16
            generalize xq 3 = yq3
            generalize xq 14 = yq14
            generalize xq 15 = yq15
            clear xq
            simp only [Drawn.acts, List.drop_succ_cons, List.drop_zero]
            go_simp
            go_wp2_with (at_builtin; refine wpList_append_row rfl _ _ rfl wy.heap.size v (md (who.take k)) rfl (HOx.out.below hb) gl 1 (mx y) Xm dm rfl (by rw [HMXL.out]; exact q0) (by rw [HMXL.out]; exact q1) q2 q3 (fun _ a e e' => by have h1 := (HOL.out _ e').2; have h2 := q4 a e; omega) (by have := HGK.out; omega) (by have := hb.size; have := hbrx.size; omega) ?_; intro v' w7' hown1 hb7')
            have HO1 := Lib.hid hown1; have HB7 := Lib.hid ((hbrx.trans (hb.mono hbrx.size)).trans hb7')
            clear hown1 hb7' hb q0 q3 q4
            go_wp2
            go_roundw
            case rel => exact ⟨k + 1, v', by omega, by go_num, rfl, by rw [HS.out]; exact HO1.out, HX1.out, HB7.out⟩
            case measure => simp [intOf] <;> omega
      · obtain rfl : k = who.length := by omega
        have hall := HL.out
        obtain ⟨r1, r2, r3⟩ := HBK.out fun i hi => hall i hi hi
        have ho := HO.out
        rw [HGA.out] at ho
        obtain ⟨Z, dzz, hv, hz1, hz2, hZ, _⟩ := ho.rows
        rw [HHG.out] at hv hz1
        subst hv
        have HZ := Lib.hid hZ
        have C1 := HKB.out bf Z dzz wr (HT1.out.below hbr) (B3w.out.below hbr) HZ.out hz1 hz2
        have C2 := fun V hb => HKA.out bf Z dzz V ((HT1.out.below hbr).below hb) ((B3w.out.below hbr).below hb) (HZ.out.below hb) hz1 hz2
        rw [r1, r2] at C1
        rw [r3] at C2
        have HC2 := Lib.hid C2
        obtain ⟨c0, c1, c2, c3, c4, c5⟩ := six (HAw.out.below hbr).plan
        clear hall r1 r2 r3 ho hZ hz1 hz2 C2
        go_wp2_with fail
        refine C1.mono ?_
        clear C1
        rintro e wx ⟨Y, dy, rfl, _, _, hY, hbx, _⟩
        have HY := Lib.hid hY
        clear c0 c1 c2 c3 c4 c5
        clear hY
        go_wp2_with fail
        have C := R01.same_any Y A1 b b dy u1 wx HY.out ((B1w.out.below hbr).below hbx) HML.out HML.out
        rw [same_self] at C
        refine C.mono ?_
        clear C
        rintro e wy2 ⟨rfl, hq⟩
        have hby := bstep hbx (bquiet hq)
        clear hq hbx
        obtain ⟨c0, c1, c2, c3, c4, c5⟩ := six (HAw.out.below (bstep hbr hby)).plan
        go_wp2_with fail
        refine (HC2.out wy2 hby).mono ?_
        rintro e wu ⟨rfl, hbu⟩
        clear c0 c1 c2 c3 c4 c5
        go_wp2_with fail
        refine (alive_any _).mono ?_
        rintro e wz ⟨rfl, hbz⟩
        go_wp2
        go_ret
        exact ⟨rfl, bstep HB0w.out (bstep hbr (bstep hby (bstep hbu hbz)))⟩

theorem keeps_law (q : P) (A1 : Option Addr) (b : List UInt8) (u1 : Nat) (A2 : Option Addr) (tp : List UInt8) (u2 : Nat) (A4 : Option Addr) (zz : List UInt8) (u4 : Nat) (A3 : Option Addr) (who : List Int) (u3 : Nat) (w : World) (hp : q.In) (h1 : BytesAt w A1 b) (k1 : b.length ≤ u1) (z1 : u1 ≤ maxLen) (h2 : BytesAt w A2 tp) (k2 : tp.length ≤ u2) (z2 : u2 ≤ maxLen) (h4 : BytesAt w A4 zz) (k4 : zz.length ≤ u4) (z4 : u4 ≤ maxLen) (h3 : IntsAt w A3 who) (k3 : who.length ≤ u3) (z3 : u3 ≤ maxLen) (hi : ∀ x ∈ who, In64 x) :
    Calls Try.prog 5 #[q.val, .agg #[.slice A1 b.length u1, .slice A2 tp.length u2, .slice A4 zz.length u4], .slice A3 who.length u3] w fun e w' => e = .returned (.bool true) ∧ Below w.heap.size w w' := by
  obtain ⟨N, T, L, W, S, R⟩ := q
  by_cases hl : N ≤ 12 ∧ L ≤ 12 ∧ T ≤ 12
  · rcases hr : (⟨N, T, L, W, S, R⟩ : P).right with _ | _
    · exact keep_arg N T L W S R A1 A2 A4 A3 b tp zz who u1 u2 u4 u3 w hp hl hr
    · by_cases hf : 60 < b.length
      · exact keep_long N T L W S R A1 A2 A4 A3 b tp zz who u1 u2 u4 u3 w hp hl hr hf
      · by_cases hc : (tp.length : Int) < cost ⟨N, T, L, W, S, R⟩ b.length
        · exact keep_short N T L W S R A1 A2 A4 A3 b tp zz who u1 u2 u4 u3 w hp hl hr (by omega) hc
        · by_cases hm : 14 < who.length
          · exact keep_many N T L W S R A1 A2 A4 A3 b tp zz who u1 u2 u4 u3 w hp hl hr (by omega) (by omega) hm
          · by_cases hw : (who.length : Int) < T + L
            · exact keep_few N T L W S R A1 A2 A4 A3 b tp zz who u1 u2 u4 u3 w hp hl hr (by omega) (by omega) (by omega) hw
            · rcases hu : unl (points who) with _ | _
              · exact keep_twice N T L W S R A1 A2 A4 A3 b tp zz who u1 u2 u4 u3 w hp h3 hl hr (by omega) (by omega) (by omega) (by omega) hu
              · by_cases hy : zz.length < 2 * (T.toNat * P.stripes ⟨N, T, L, W, S, R⟩ b.length)
                · exact keep_little N T L W S R A1 A2 A4 A3 b tp zz who u1 u2 u4 u3 w hp h3 hl hr (by omega) (by omega) (by omega) (by omega) hu hy
                · have hM : P.May ⟨N, T, L, W, S, R⟩ := of_decide_eq_true hr
                  unfold P.May at hM
                  simp only at hM
                  obtain ⟨N0, rfl⟩ : ∃ a : Nat, N = a := ⟨N.toNat, by omega⟩
                  obtain ⟨t0, rfl⟩ : ∃ a : Nat, T = a := ⟨T.toNat, by omega⟩
                  exact keep_main L W S R N0 t0 A1 A2 A4 A3 b tp zz who u1 u2 u4 u3 w hp h1 k1 z1 h2 k2 z2 h4 k4 z4 h3 k3 z3 hi hl hr (by omega) (by omega) (by omega) (by omega) hu (by rw [Int.toNat_natCast] at hy; omega)
  · exact keep_heavy N T L W S R A1 A2 A4 A3 b tp zz who u1 u2 u4 u3 w hp hl

end Go.Proofs.Ytofhklimofdepaa.Law12
