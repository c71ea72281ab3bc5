/- the walk of MaskMoves -/
import Derived.Test.YtompeiemioeohaaLaw14B
import Derived.Test.YtompeiemioeohaaMaskF
import Derived.Test.YtompeiemioeohaaMZ
import Derived.Test.YtompeiemioeohaaML
import Derived.Test.YtompeiemioeohaaR13
set_option maxRecDepth 100000
namespace Go.Proofs.Ytompeiemioeohaa.Law14
open Go.RowKit PlanM StripeM LagrM DealM RebM ZeroM MaskM Law08 Law10

structure LiesV (w : World) (g : Nat) (N T L W S R : Int) (p0 p1 i0 i1 : Value) : Prop where
  plan : PlanLies w g N T L W S R
  a0 : w.cell? ⟨g + 1, 0, none⟩ = some p0
  a1 : w.cell? ⟨g + 1, 1, none⟩ = some p1
  b0 : w.cell? ⟨g + 2, 0, none⟩ = some i0
  b1 : w.cell? ⟨g + 2, 1, none⟩ = some i1
theorem LiesV.below {w w' : World} {g : Nat} {N T L W S R : Int} {p0 p1 i0 i1 : Value} (h : LiesV w g N T L W S R p0 p1 i0 i1) (hb : Below w.heap.size w w') : LiesV w' g N T L W S R p0 p1 i0 i1 :=
  ⟨h.plan.below hb, (hb.cell (p := ⟨g + 1, 0, none⟩) (cell_lt h.a0)).trans h.a0, (hb.cell (p := ⟨g + 1, 1, none⟩) (cell_lt h.a1)).trans h.a1, (hb.cell (p := ⟨g + 2, 0, none⟩) (cell_lt h.b0)).trans h.b0, (hb.cell (p := ⟨g + 2, 1, none⟩) (cell_lt h.b1)).trans h.b1⟩
theorem LiesV.eight {w : World} {g : Nat} {N T L W S R : Int} {p0 p1 i0 i1 : Value} (h : LiesV w g N T L W S R p0 p1 i0 i1) : (w.cell? ⟨g, 0, none⟩ = some (.int .i64 N) ∧ w.cell? ⟨g, 1, none⟩ = some (.int .i64 T) ∧ w.cell? ⟨g, 2, none⟩ = some (.int .i64 L) ∧ w.cell? ⟨g, 3, none⟩ = some (.int .i64 W) ∧ w.cell? ⟨g, 4, none⟩ = some (.int .i64 S) ∧ w.cell? ⟨g, 5, none⟩ = some (.int .i64 R)) ∧
    w.cell? ⟨g + 2, 0, none⟩ = some i0 ∧ w.cell? ⟨g + 2, 1, none⟩ = some i1 := ⟨six h.plan, h.b0, h.b1⟩
theorem liesV_aux (w : World) (g : Nat) (hg : w.heap.size = g + 1) (N T L W S R : Int) (p0 p1 i0 i1 : Value) (t t' : TypeId) (h : PlanLies w g N T L W S R) : LiesV ((w.alloc (.cells #[p0, p1] t)).alloc (.cells #[i0, i1] t')) g N T L W S R p0 p1 i0 i1 := by
  have a0 : (w.alloc (.cells #[p0, p1] t)).cell? ⟨w.heap.size, 0, none⟩ = some p0 := by simp
  have a1 : (w.alloc (.cells #[p0, p1] t)).cell? ⟨w.heap.size, 1, none⟩ = some p1 := by simp
  have hs : (w.alloc (.cells #[p0, p1] t)).heap.size = g + 2 := by simp; omega
  have hp := h.below (balloc w (.cells #[p0, p1] t))
  rw [hg] at a0 a1
  generalize w.alloc (.cells #[p0, p1] t) = w1 at *
  have b0 : (w1.alloc (.cells #[i0, i1] t')).cell? ⟨w1.heap.size, 0, none⟩ = some i0 := by simp
  have b1 : (w1.alloc (.cells #[i0, i1] t')).cell? ⟨w1.heap.size, 1, none⟩ = some i1 := by simp
  rw [hs] at b0 b1
  have hb := balloc w1 (.cells #[i0, i1] t')
  exact ⟨hp.below hb, (hb.cell (p := ⟨g + 1, 0, none⟩) (cell_lt a0)).trans a0, (hb.cell (p := ⟨g + 1, 1, none⟩) (cell_lt a1)).trans a1, b0, b1⟩
theorem LiesV.new (w : World) (N T L W S R : Int) (p0 p1 i0 i1 : Value) (t t' : TypeId) : LiesV (((w.alloc (.cells #[.int .i64 N, .int .i64 T, .int .i64 L, .int .i64 W, .int .i64 S, .int .i64 R] 23)).alloc (.cells #[p0, p1] t)).alloc (.cells #[i0, i1] t')) w.heap.size N T L W S R p0 p1 i0 i1 :=
  liesV_aux (w.alloc (.cells #[.int .i64 N, .int .i64 T, .int .i64 L, .int .i64 W, .int .i64 S, .int .i64 R] 23)) w.heap.size (by simp) N T L W S R p0 p1 i0 i1 t t' (PlanLies.new w N T L W S R)
def SP.rE (m : List (List UInt8)) (n : Nat) (r : Int) : Drawn.SP := ⟨fun v w => ∃ X d, v = .tuple #[.slice X n d, .int .i64 r] ∧ RowsAt w X m, fun _ _ _ h hb => by
  obtain ⟨X, d, h1, h2⟩ := h; exact ⟨X, d, h1, h2.below hb⟩⟩
def SP.rn (m : List (List UInt8)) (n : Nat) : Drawn.SP := ⟨fun v w => ∃ X d, v = .slice X n d ∧ RowsAt w X m, fun _ _ _ h hb => by
  obtain ⟨X, d, h1, h2⟩ := h; exact ⟨X, d, h1, h2.below hb⟩⟩
/-- a tape's bytes with their room -/
def SP.bt (l : List UInt8) (n : Nat) : Drawn.SP := ⟨fun v w => ∃ X d, v = .slice X n d ∧ n ≤ d ∧ d ≤ maxLen ∧ BytesAt w X l, fun _ _ _ h hb => by
  obtain ⟨X, d, h1, h2, h3, h4⟩ := h; exact ⟨X, d, h1, h2, h3, h4.below hb⟩⟩
/-- a row of one byte -/
theorem one_row {w : World} {A : Option Addr} {m : List (List UInt8)} {k : Nat} {x : UInt8} (h : RowsAt w A m) (hk : k < m.length) (hx : m[k] = [x]) :
    ∃ b o rb ro c, A = some ⟨b, o, none⟩ ∧ w.cell? ⟨b, o + k, none⟩ = some (.slice (some ⟨rb, ro, none⟩) 1 c) ∧ 1 ≤ c ∧ w.cell? ⟨rb, ro, none⟩ = some (.int .u8 (x.toNat : Nat)) := by
  obtain ⟨b, o, B, c, h1, h2, h3, _, h5⟩ := h.row hk
  obtain ⟨rb, ro, h6, h7⟩ := h5 0 (by rw [hx]; exact Nat.zero_lt_one)
  subst h6
  rw [hx] at h2 h3
  refine ⟨b, o, rb, ro, c, h1, h2, h3, ?_⟩
  rw [Nat.add_zero] at h7
  rw [h7]
  congr 3
  simp [hx]
set_option maxHeartbeats 4000000 in
theorem moves_heavy (N T L W S R : Int) (A1 A2 A3 A4 : Option Addr) (delta tape : List UInt8) (z0 z1 : List Int) (c1 c2 c3 c4 : Nat) (w : World) (hp : (⟨N, T, L, W, S, R⟩ : P).In) (h3 : IntsAt w A3 z0) (h4 : IntsAt w A4 z1) (hl : ¬ (N ≤ 12 ∧ L ≤ 12 ∧ T ≤ 12)) :
    Calls Try.prog 6 #[.agg #[.int .i64 N, .int .i64 T, .int .i64 L, .int .i64 W, .int .i64 S, .int .i64 R], .agg #[.slice A1 delta.length c1, .slice A2 tape.length c2], .agg #[.slice A3 z0.length c3, .slice A4 z1.length c4]] w fun e w' => e = .returned (.bool true) ∧ Below w.heap.size w w' := by
  have K0 := fun w => Law10.light_any N T L W S R w
  rw [decide_eq_false hl] at K0
  have H0 := Lib.hid K0
  have KR := fun V => R08.right_any ⟨N, T, L, W, S, R⟩ V hp
  simp only [P.val] at KR
  obtain ⟨dn, hdn⟩ : ∃ dn, dn = delta.length := ⟨_, rfl⟩
  obtain ⟨tn, htn⟩ : ∃ tn, tn = tape.length := ⟨_, rfl⟩
  obtain ⟨z0n, hz0⟩ : ∃ n, n = z0.length := ⟨_, rfl⟩
  obtain ⟨z1n, hz1⟩ : ∃ n, n = z1.length := ⟨_, rfl⟩
  rw [← hdn, ← htn, ← hz0, ← hz1]
  have HR := Lib.hid KR; have Z0 := Lib.hid h3; have Z1 := Lib.hid h4
  clear K0 KR hl hp h3 h4 hdn htn hz0 hz1
  have HA := Lib.hid (LiesV.new w N T L W S R (.slice A1 dn c1) (.slice A2 tn c2) (.slice A3 z0n c3) (.slice A4 z1n c4) 58 59)
  have HB0 := Lib.hid (show Below w.heap.size w (((w.alloc (.cells #[.int .i64 N, .int .i64 T, .int .i64 L, .int .i64 W, .int .i64 S, .int .i64 R] 23)).alloc (.cells #[.slice A1 dn c1, .slice A2 tn c2] 58)).alloc (.cells #[.slice A3 z0n c3, .slice A4 z1n c4] 59)) from bstep (bstep (balloc _ _) (balloc _ _)) (balloc _ _))
  go_enter Try.func6, Try.ntmps6
  go_wp2_with fail
  generalize ((w.alloc (.cells #[.int .i64 N, .int .i64 T, .int .i64 L, .int .i64 W, .int .i64 S, .int .i64 R] 23)).alloc (.cells #[.slice A1 dn c1, .slice A2 tn c2] 58)).alloc (.cells #[.slice A3 z0n c3, .slice A4 z1n c4] 59) = w0 at *
  refine Drawn.wp_region_flowL 6 [Drawn.SP.is (.pointer (some ⟨w.heap.size + 1, 0, none⟩)), Drawn.SP.is (.slice A1 dn c1), Drawn.SP.is (.pointer (some ⟨w.heap.size + 1, 1, none⟩)), Drawn.SP.is (.slice A2 tn c2), Drawn.SP.is (.slice A1 dn c1), Drawn.SP.is (.slice A2 tn c2)] (by kernel_rfl) (by kernel_rfl) ?_ ?_
  · intro i hi a w1 hb hev hdep
    rcases (show i = 0 ∨ i = 1 ∨ i = 2 ∨ i = 3 ∨ i = 4 ∨ i = 5 by omega) with rfl | rfl | rfl | rfl | rfl | rfl
    · have e4 : a.tmps[4]?.getD undef = .pointer (some ⟨w.heap.size + 1, 0, none⟩) := hev 4 rfl
      refine Drawn.wpOp_flow 27 rfl rfl rfl ?_
      clear hev hdep hb
      go_simp
      exact ⟨_, rfl, rfl, Below.refl _ _⟩
    · have d0 : a.tmps[27]?.getD undef = .pointer (some ⟨w.heap.size + 1, 0, none⟩) := hdep 0 rfl
      refine Drawn.wpOp_flow 28 rfl rfl rfl ?_
      have a0 := (HA.out.below hb).a0; have a1 := (HA.out.below hb).a1
      clear hev hdep hb
      go_simp
      exact ⟨_, rfl, rfl, Below.refl _ _⟩
    · have e4 : a.tmps[4]?.getD undef = .pointer (some ⟨w.heap.size + 1, 0, none⟩) := hev 4 rfl
      refine Drawn.wpOp_flow 29 rfl rfl rfl ?_
      clear hev hdep hb
      go_simp
      exact ⟨_, rfl, rfl, Below.refl _ _⟩
    · have d2 : a.tmps[29]?.getD undef = .pointer (some ⟨w.heap.size + 1, 1, none⟩) := hdep 2 rfl
      refine Drawn.wpOp_flow 30 rfl rfl rfl ?_
      have a0 := (HA.out.below hb).a0; have a1 := (HA.out.below hb).a1
      clear hev hdep hb
      go_simp
      exact ⟨_, rfl, rfl, Below.refl _ _⟩
    · have d1 : a.tmps[28]?.getD undef = .slice A1 dn c1 := hdep 1 rfl
      refine Drawn.wpOp_flow 7 rfl rfl rfl ?_
      clear hev hdep hb
      go_simp
      exact ⟨_, rfl, rfl, Below.refl _ _⟩
    · have d3 : a.tmps[30]?.getD undef = .slice A2 tn c2 := hdep 3 rfl
      refine Drawn.wpOp_flow 8 rfl rfl rfl ?_
      clear hev hdep hb
      go_simp
      exact ⟨_, rfl, rfl, Below.refl _ _⟩
  · intro xq w1 hb hxq
    have vq0 : xq 0 = .pointer (some ⟨w.heap.size + 1, 0, none⟩) := hxq 0 (by omega)
    have vq1 : xq 1 = .slice A1 dn c1 := hxq 1 (by omega)
    have vq2 : xq 2 = .pointer (some ⟨w.heap.size + 1, 1, none⟩) := hxq 2 (by omega)
    have vq3 : xq 3 = .slice A2 tn c2 := hxq 3 (by omega)
    have vq4 : xq 4 = .slice A1 dn c1 := hxq 4 (by omega)
    have vq5 : xq 5 = .slice A2 tn c2 := hxq 5 (by omega)
    show Exit.then _ _ Exit.normal (Drawn.acts _ [(8, some (xq 5)), (7, some (xq 4)), (30, some (xq 3)), (29, some (xq 2)), (28, some (xq 1)), (27, some (xq 0))]) _
    rw [vq0, vq1, vq2, vq3, vq4, vq5]
    clear hxq vq0 vq1 vq2 vq3 vq4 vq5
    clear xq
    simp only [Drawn.acts]
    go_simp
    have HB1 := Lib.hid (bstep HB0.out hb)
    have HA1 := Lib.hid (HA.out.below hb)
    clear hb HA
    go_at_K
    obtain ⟨⟨p0, p1, p2, p3, p4, p5⟩, q0, q1⟩ := HA1.out.eight
    go_wp2_with fail
    refine (H0.out _).mono ?_
    rintro e w2 ⟨rfl, hb2⟩
    clear p0 p1 p2 p3 p4 p5 q0 q1
    have HB2 := Lib.hid (bstep HB1.out hb2)
    have HA2 := Lib.hid (HA1.out.below hb2)
    clear hb2
    go_wp2_with fail
    refine (alive_any _).mono ?_
    rintro e w9 ⟨rfl, hb9⟩
    go_wp2
    go_ret
    exact ⟨rfl, bstep HB2.out hb9⟩
set_option maxHeartbeats 4000000 in
theorem moves_right (N T L W S R : Int) (A1 A2 A3 A4 : Option Addr) (delta tape : List UInt8) (z0 z1 : List Int) (c1 c2 c3 c4 : Nat) (w : World) (hp : (⟨N, T, L, W, S, R⟩ : P).In) (h3 : IntsAt w A3 z0) (h4 : IntsAt w A4 z1) (hl : N ≤ 12 ∧ L ≤ 12 ∧ T ≤ 12) (hr : (⟨N, T, L, W, S, R⟩ : P).right = false) :
    Calls Try.prog 6 #[.agg #[.int .i64 N, .int .i64 T, .int .i64 L, .int .i64 W, .int .i64 S, .int .i64 R], .agg #[.slice A1 delta.length c1, .slice A2 tape.length c2], .agg #[.slice A3 z0.length c3, .slice A4 z1.length c4]] w fun e w' => e = .returned (.bool true) ∧ Below w.heap.size w w' := by
  have K0 := fun w => Law10.light_any N T L W S R w
  rw [decide_eq_true hl] at K0
  have H0 := Lib.hid K0
  have KR := fun V => R08.right_any ⟨N, T, L, W, S, R⟩ V hp
  simp only [P.val] at KR
  rw [hr] at KR
  obtain ⟨dn, hdn⟩ : ∃ dn, dn = delta.length := ⟨_, rfl⟩
  obtain ⟨tn, htn⟩ : ∃ tn, tn = tape.length := ⟨_, rfl⟩
  obtain ⟨z0n, hz0⟩ : ∃ n, n = z0.length := ⟨_, rfl⟩
  obtain ⟨z1n, hz1⟩ : ∃ n, n = z1.length := ⟨_, rfl⟩
  rw [← hdn, ← htn, ← hz0, ← hz1]
  have HR := Lib.hid KR; have Z0 := Lib.hid h3; have Z1 := Lib.hid h4
  clear K0 KR hl hp h3 h4 hdn htn hz0 hz1 hr
  have HA := Lib.hid (LiesV.new w N T L W S R (.slice A1 dn c1) (.slice A2 tn c2) (.slice A3 z0n c3) (.slice A4 z1n c4) 58 59)
  have HB0 := Lib.hid (show Below w.heap.size w (((w.alloc (.cells #[.int .i64 N, .int .i64 T, .int .i64 L, .int .i64 W, .int .i64 S, .int .i64 R] 23)).alloc (.cells #[.slice A1 dn c1, .slice A2 tn c2] 58)).alloc (.cells #[.slice A3 z0n c3, .slice A4 z1n c4] 59)) from bstep (bstep (balloc _ _) (balloc _ _)) (balloc _ _))
  go_enter Try.func6, Try.ntmps6
  go_wp2_with fail
  generalize ((w.alloc (.cells #[.int .i64 N, .int .i64 T, .int .i64 L, .int .i64 W, .int .i64 S, .int .i64 R] 23)).alloc (.cells #[.slice A1 dn c1, .slice A2 tn c2] 58)).alloc (.cells #[.slice A3 z0n c3, .slice A4 z1n c4] 59) = w0 at *
  refine Drawn.wp_region_flowL 6 [Drawn.SP.is (.pointer (some ⟨w.heap.size + 1, 0, none⟩)), Drawn.SP.is (.slice A1 dn c1), Drawn.SP.is (.pointer (some ⟨w.heap.size + 1, 1, none⟩)), Drawn.SP.is (.slice A2 tn c2), Drawn.SP.is (.slice A1 dn c1), Drawn.SP.is (.slice A2 tn c2)] (by kernel_rfl) (by kernel_rfl) ?_ ?_
  · intro i hi a w1 hb hev hdep
    rcases (show i = 0 ∨ i = 1 ∨ i = 2 ∨ i = 3 ∨ i = 4 ∨ i = 5 by omega) with rfl | rfl | rfl | rfl | rfl | rfl
    · have e4 : a.tmps[4]?.getD undef = .pointer (some ⟨w.heap.size + 1, 0, none⟩) := hev 4 rfl
      refine Drawn.wpOp_flow 27 rfl rfl rfl ?_
      clear hev hdep hb
      go_simp
      exact ⟨_, rfl, rfl, Below.refl _ _⟩
    · have d0 : a.tmps[27]?.getD undef = .pointer (some ⟨w.heap.size + 1, 0, none⟩) := hdep 0 rfl
      refine Drawn.wpOp_flow 28 rfl rfl rfl ?_
      have a0 := (HA.out.below hb).a0; have a1 := (HA.out.below hb).a1
      clear hev hdep hb
      go_simp
      exact ⟨_, rfl, rfl, Below.refl _ _⟩
    · have e4 : a.tmps[4]?.getD undef = .pointer (some ⟨w.heap.size + 1, 0, none⟩) := hev 4 rfl
      refine Drawn.wpOp_flow 29 rfl rfl rfl ?_
      clear hev hdep hb
      go_simp
      exact ⟨_, rfl, rfl, Below.refl _ _⟩
    · have d2 : a.tmps[29]?.getD undef = .pointer (some ⟨w.heap.size + 1, 1, none⟩) := hdep 2 rfl
      refine Drawn.wpOp_flow 30 rfl rfl rfl ?_
      have a0 := (HA.out.below hb).a0; have a1 := (HA.out.below hb).a1
      clear hev hdep hb
      go_simp
      exact ⟨_, rfl, rfl, Below.refl _ _⟩
    · have d1 : a.tmps[28]?.getD undef = .slice A1 dn c1 := hdep 1 rfl
      refine Drawn.wpOp_flow 7 rfl rfl rfl ?_
      clear hev hdep hb
      go_simp
      exact ⟨_, rfl, rfl, Below.refl _ _⟩
    · have d3 : a.tmps[30]?.getD undef = .slice A2 tn c2 := hdep 3 rfl
      refine Drawn.wpOp_flow 8 rfl rfl rfl ?_
      clear hev hdep hb
      go_simp
      exact ⟨_, rfl, rfl, Below.refl _ _⟩
  · intro xq w1 hb hxq
    have vq0 : xq 0 = .pointer (some ⟨w.heap.size + 1, 0, none⟩) := hxq 0 (by omega)
    have vq1 : xq 1 = .slice A1 dn c1 := hxq 1 (by omega)
    have vq2 : xq 2 = .pointer (some ⟨w.heap.size + 1, 1, none⟩) := hxq 2 (by omega)
    have vq3 : xq 3 = .slice A2 tn c2 := hxq 3 (by omega)
    have vq4 : xq 4 = .slice A1 dn c1 := hxq 4 (by omega)
    have vq5 : xq 5 = .slice A2 tn c2 := hxq 5 (by omega)
    show Exit.then _ _ Exit.normal (Drawn.acts _ [(8, some (xq 5)), (7, some (xq 4)), (30, some (xq 3)), (29, some (xq 2)), (28, some (xq 1)), (27, some (xq 0))]) _
    rw [vq0, vq1, vq2, vq3, vq4, vq5]
    clear hxq vq0 vq1 vq2 vq3 vq4 vq5
    clear xq
    simp only [Drawn.acts]
    go_simp
    have HB1 := Lib.hid (bstep HB0.out hb)
    have HA1 := Lib.hid (HA.out.below hb)
    clear hb HA
    go_at_K
    obtain ⟨⟨p0, p1, p2, p3, p4, p5⟩, q0, q1⟩ := HA1.out.eight
    go_wp2_with fail
    refine (H0.out _).mono ?_
    rintro e w2 ⟨rfl, hb2⟩
    clear p0 p1 p2 p3 p4 p5 q0 q1
    have HB2 := Lib.hid (bstep HB1.out hb2)
    have HA2 := Lib.hid (HA1.out.below hb2)
    clear hb2
    obtain ⟨⟨p0, p1, p2, p3, p4, p5⟩, q0, q1⟩ := HA2.out.eight
    go_wp2_with fail
    refine (HR.out _).mono ?_
    rintro e w3 ⟨rfl, hb3⟩
    clear p0 p1 p2 p3 p4 p5 q0 q1
    have HB3 := Lib.hid (bstep HB2.out hb3)
    have HA3 := Lib.hid (HA2.out.below hb3)
    clear hb3
    go_wp2_with fail
    refine (alive_any _).mono ?_
    rintro e w9 ⟨rfl, hb9⟩
    go_wp2
    go_ret
    exact ⟨rfl, bstep HB3.out hb9⟩
set_option maxHeartbeats 4000000 in
theorem moves_first (N T L W S R : Int) (A1 A2 A3 A4 : Option Addr) (delta tape : List UInt8) (z0 z1 : List Int) (c1 c2 c3 c4 : Nat) (w : World) (hp : (⟨N, T, L, W, S, R⟩ : P).In) (h3 : IntsAt w A3 z0) (h4 : IntsAt w A4 z1) (hl : N ≤ 12 ∧ L ≤ 12 ∧ T ≤ 12) (hr : (⟨N, T, L, W, S, R⟩ : P).right = true) (e0 : mcheck ⟨N, T, L, W, S, R⟩ delta z0 ≠ 0) :
    Calls Try.prog 6 #[.agg #[.int .i64 N, .int .i64 T, .int .i64 L, .int .i64 W, .int .i64 S, .int .i64 R], .agg #[.slice A1 delta.length c1, .slice A2 tape.length c2], .agg #[.slice A3 z0.length c3, .slice A4 z1.length c4]] w fun e w' => e = .returned (.bool true) ∧ Below w.heap.size w w' := by
  have K0 := fun w => Law10.light_any N T L W S R w
  rw [decide_eq_true hl] at K0
  have H0 := Lib.hid K0
  have KR := fun V => R08.right_any ⟨N, T, L, W, S, R⟩ V hp
  simp only [P.val] at KR
  rw [hr] at KR
  have K1 := fun V h => check_all N T L W S R A1 A3 delta z0 c1 c3 V hp h hl.2.2
  have K2 := fun V h => check_all N T L W S R A1 A4 delta z1 c1 c4 V hp h hl.2.2
  generalize mcheck ⟨N, T, L, W, S, R⟩ delta z0 = er at *
  have hne : (er != 0) = true := by simpa using e0
  clear K2
  obtain ⟨dn, hdn⟩ : ∃ dn, dn = delta.length := ⟨_, rfl⟩
  obtain ⟨tn, htn⟩ : ∃ tn, tn = tape.length := ⟨_, rfl⟩
  obtain ⟨z0n, hz0⟩ : ∃ n, n = z0.length := ⟨_, rfl⟩
  obtain ⟨z1n, hz1⟩ : ∃ n, n = z1.length := ⟨_, rfl⟩
  rw [← hdn, ← hz0] at K1
  rw [← hdn, ← htn, ← hz0, ← hz1]
  have HR := Lib.hid KR; have Z0 := Lib.hid h3; have Z1 := Lib.hid h4
  have H1 := Lib.hid K1
  clear K0 KR hl hp h3 h4 hdn htn hz0 hz1 hr K1 e0
  have HA := Lib.hid (LiesV.new w N T L W S R (.slice A1 dn c1) (.slice A2 tn c2) (.slice A3 z0n c3) (.slice A4 z1n c4) 58 59)
  have HB0 := Lib.hid (show Below w.heap.size w (((w.alloc (.cells #[.int .i64 N, .int .i64 T, .int .i64 L, .int .i64 W, .int .i64 S, .int .i64 R] 23)).alloc (.cells #[.slice A1 dn c1, .slice A2 tn c2] 58)).alloc (.cells #[.slice A3 z0n c3, .slice A4 z1n c4] 59)) from bstep (bstep (balloc _ _) (balloc _ _)) (balloc _ _))
  go_enter Try.func6, Try.ntmps6
  go_wp2_with fail
  generalize ((w.alloc (.cells #[.int .i64 N, .int .i64 T, .int .i64 L, .int .i64 W, .int .i64 S, .int .i64 R] 23)).alloc (.cells #[.slice A1 dn c1, .slice A2 tn c2] 58)).alloc (.cells #[.slice A3 z0n c3, .slice A4 z1n c4] 59) = w0 at *
  refine Drawn.wp_region_flowL 6 [Drawn.SP.is (.pointer (some ⟨w.heap.size + 1, 0, none⟩)), Drawn.SP.is (.slice A1 dn c1), Drawn.SP.is (.pointer (some ⟨w.heap.size + 1, 1, none⟩)), Drawn.SP.is (.slice A2 tn c2), Drawn.SP.is (.slice A1 dn c1), Drawn.SP.is (.slice A2 tn c2)] (by kernel_rfl) (by kernel_rfl) ?_ ?_
  · intro i hi a w1 hb hev hdep
    rcases (show i = 0 ∨ i = 1 ∨ i = 2 ∨ i = 3 ∨ i = 4 ∨ i = 5 by omega) with rfl | rfl | rfl | rfl | rfl | rfl
    · have e4 : a.tmps[4]?.getD undef = .pointer (some ⟨w.heap.size + 1, 0, none⟩) := hev 4 rfl
      refine Drawn.wpOp_flow 27 rfl rfl rfl ?_
      clear hev hdep hb
      go_simp
      exact ⟨_, rfl, rfl, Below.refl _ _⟩
    · have d0 : a.tmps[27]?.getD undef = .pointer (some ⟨w.heap.size + 1, 0, none⟩) := hdep 0 rfl
      refine Drawn.wpOp_flow 28 rfl rfl rfl ?_
      have a0 := (HA.out.below hb).a0; have a1 := (HA.out.below hb).a1
      clear hev hdep hb
      go_simp
      exact ⟨_, rfl, rfl, Below.refl _ _⟩
    · have e4 : a.tmps[4]?.getD undef = .pointer (some ⟨w.heap.size + 1, 0, none⟩) := hev 4 rfl
      refine Drawn.wpOp_flow 29 rfl rfl rfl ?_
      clear hev hdep hb
      go_simp
      exact ⟨_, rfl, rfl, Below.refl _ _⟩
    · have d2 : a.tmps[29]?.getD undef = .pointer (some ⟨w.heap.size + 1, 1, none⟩) := hdep 2 rfl
      refine Drawn.wpOp_flow 30 rfl rfl rfl ?_
      have a0 := (HA.out.below hb).a0; have a1 := (HA.out.below hb).a1
      clear hev hdep hb
      go_simp
      exact ⟨_, rfl, rfl, Below.refl _ _⟩
    · have d1 : a.tmps[28]?.getD undef = .slice A1 dn c1 := hdep 1 rfl
      refine Drawn.wpOp_flow 7 rfl rfl rfl ?_
      clear hev hdep hb
      go_simp
      exact ⟨_, rfl, rfl, Below.refl _ _⟩
    · have d3 : a.tmps[30]?.getD undef = .slice A2 tn c2 := hdep 3 rfl
      refine Drawn.wpOp_flow 8 rfl rfl rfl ?_
      clear hev hdep hb
      go_simp
      exact ⟨_, rfl, rfl, Below.refl _ _⟩
  · intro xq w1 hb hxq
    have vq0 : xq 0 = .pointer (some ⟨w.heap.size + 1, 0, none⟩) := hxq 0 (by omega)
    have vq1 : xq 1 = .slice A1 dn c1 := hxq 1 (by omega)
    have vq2 : xq 2 = .pointer (some ⟨w.heap.size + 1, 1, none⟩) := hxq 2 (by omega)
    have vq3 : xq 3 = .slice A2 tn c2 := hxq 3 (by omega)
    have vq4 : xq 4 = .slice A1 dn c1 := hxq 4 (by omega)
    have vq5 : xq 5 = .slice A2 tn c2 := hxq 5 (by omega)
    show Exit.then _ _ Exit.normal (Drawn.acts _ [(8, some (xq 5)), (7, some (xq 4)), (30, some (xq 3)), (29, some (xq 2)), (28, some (xq 1)), (27, some (xq 0))]) _
    rw [vq0, vq1, vq2, vq3, vq4, vq5]
    clear hxq vq0 vq1 vq2 vq3 vq4 vq5
    clear xq
    simp only [Drawn.acts]
    go_simp
    have HB1 := Lib.hid (bstep HB0.out hb)
    have HA1 := Lib.hid (HA.out.below hb)
    clear hb HA
    go_at_K
    obtain ⟨⟨p0, p1, p2, p3, p4, p5⟩, q0, q1⟩ := HA1.out.eight
    go_wp2_with fail
    refine (H0.out _).mono ?_
    rintro e w2 ⟨rfl, hb2⟩
    clear p0 p1 p2 p3 p4 p5 q0 q1
    have HB2 := Lib.hid (bstep HB1.out hb2)
    have HA2 := Lib.hid (HA1.out.below hb2)
    clear hb2
    obtain ⟨⟨p0, p1, p2, p3, p4, p5⟩, q0, q1⟩ := HA2.out.eight
    go_wp2_with fail
    refine (HR.out _).mono ?_
    rintro e w3 ⟨rfl, hb3⟩
    clear p0 p1 p2 p3 p4 p5 q0 q1
    have HB3 := Lib.hid (bstep HB2.out hb3)
    have HA3 := Lib.hid (HA2.out.below hb3)
    clear hb3
    obtain ⟨⟨p0, p1, p2, p3, p4, p5⟩, q0, q1⟩ := HA3.out.eight
    go_wp2_with fail
    refine (H1.out _ (Z0.out.below HB3.out)).mono ?_
    rintro e w4 ⟨rfl, hb4⟩
    clear p0 p1 p2 p3 p4 p5 q0 q1
    have HB4 := Lib.hid (bstep HB3.out hb4)
    have HA4 := Lib.hid (HA3.out.below hb4)
    clear hb4
    go_wp2_with fail
    refine (alive_any _).mono ?_
    rintro e w9 ⟨rfl, hb9⟩
    go_wp2
    go_ret
    exact ⟨rfl, bstep HB4.out hb9⟩
set_option maxHeartbeats 4000000 in
theorem moves_second (N T L W S R : Int) (A1 A2 A3 A4 : Option Addr) (delta tape : List UInt8) (z0 z1 : List Int) (c1 c2 c3 c4 : Nat) (w : World) (hp : (⟨N, T, L, W, S, R⟩ : P).In) (h3 : IntsAt w A3 z0) (h4 : IntsAt w A4 z1) (hl : N ≤ 12 ∧ L ≤ 12 ∧ T ≤ 12) (hr : (⟨N, T, L, W, S, R⟩ : P).right = true) (e0 : mcheck ⟨N, T, L, W, S, R⟩ delta z0 = 0) (e1 : mcheck ⟨N, T, L, W, S, R⟩ delta z1 ≠ 0) :
    Calls Try.prog 6 #[.agg #[.int .i64 N, .int .i64 T, .int .i64 L, .int .i64 W, .int .i64 S, .int .i64 R], .agg #[.slice A1 delta.length c1, .slice A2 tape.length c2], .agg #[.slice A3 z0.length c3, .slice A4 z1.length c4]] w fun e w' => e = .returned (.bool true) ∧ Below w.heap.size w w' := by
  have K0 := fun w => Law10.light_any N T L W S R w
  rw [decide_eq_true hl] at K0
  have H0 := Lib.hid K0
  have KR := fun V => R08.right_any ⟨N, T, L, W, S, R⟩ V hp
  simp only [P.val] at KR
  rw [hr] at KR
  have K1 := fun V h => check_all N T L W S R A1 A3 delta z0 c1 c3 V hp h hl.2.2
  have K2 := fun V h => check_all N T L W S R A1 A4 delta z1 c1 c4 V hp h hl.2.2
  rw [e0] at K1
  generalize mcheck ⟨N, T, L, W, S, R⟩ delta z1 = er at *
  have hne : (er != 0) = true := by simpa using e1
  obtain ⟨dn, hdn⟩ : ∃ dn, dn = delta.length := ⟨_, rfl⟩
  obtain ⟨tn, htn⟩ : ∃ tn, tn = tape.length := ⟨_, rfl⟩
  obtain ⟨z0n, hz0⟩ : ∃ n, n = z0.length := ⟨_, rfl⟩
  obtain ⟨z1n, hz1⟩ : ∃ n, n = z1.length := ⟨_, rfl⟩
  rw [← hdn, ← hz0] at K1
  rw [← hdn, ← hz1] at K2
  rw [← hdn, ← htn, ← hz0, ← hz1]
  have HR := Lib.hid KR; have Z0 := Lib.hid h3; have Z1 := Lib.hid h4
  have H1 := Lib.hid K1
  have H2 := Lib.hid K2
  clear K0 KR hl hp h3 h4 hdn htn hz0 hz1 hr K1 K2 e1 e0
  have HA := Lib.hid (LiesV.new w N T L W S R (.slice A1 dn c1) (.slice A2 tn c2) (.slice A3 z0n c3) (.slice A4 z1n c4) 58 59)
  have HB0 := Lib.hid (show Below w.heap.size w (((w.alloc (.cells #[.int .i64 N, .int .i64 T, .int .i64 L, .int .i64 W, .int .i64 S, .int .i64 R] 23)).alloc (.cells #[.slice A1 dn c1, .slice A2 tn c2] 58)).alloc (.cells #[.slice A3 z0n c3, .slice A4 z1n c4] 59)) from bstep (bstep (balloc _ _) (balloc _ _)) (balloc _ _))
  go_enter Try.func6, Try.ntmps6
  go_wp2_with fail
  generalize ((w.alloc (.cells #[.int .i64 N, .int .i64 T, .int .i64 L, .int .i64 W, .int .i64 S, .int .i64 R] 23)).alloc (.cells #[.slice A1 dn c1, .slice A2 tn c2] 58)).alloc (.cells #[.slice A3 z0n c3, .slice A4 z1n c4] 59) = w0 at *
  refine Drawn.wp_region_flowL 6 [Drawn.SP.is (.pointer (some ⟨w.heap.size + 1, 0, none⟩)), Drawn.SP.is (.slice A1 dn c1), Drawn.SP.is (.pointer (some ⟨w.heap.size + 1, 1, none⟩)), Drawn.SP.is (.slice A2 tn c2), Drawn.SP.is (.slice A1 dn c1), Drawn.SP.is (.slice A2 tn c2)] (by kernel_rfl) (by kernel_rfl) ?_ ?_
  · intro i hi a w1 hb hev hdep
    rcases (show i = 0 ∨ i = 1 ∨ i = 2 ∨ i = 3 ∨ i = 4 ∨ i = 5 by omega) with rfl | rfl | rfl | rfl | rfl | rfl
    · have e4 : a.tmps[4]?.getD undef = .pointer (some ⟨w.heap.size + 1, 0, none⟩) := hev 4 rfl
      refine Drawn.wpOp_flow 27 rfl rfl rfl ?_
      clear hev hdep hb
      go_simp
      exact ⟨_, rfl, rfl, Below.refl _ _⟩
    · have d0 : a.tmps[27]?.getD undef = .pointer (some ⟨w.heap.size + 1, 0, none⟩) := hdep 0 rfl
      refine Drawn.wpOp_flow 28 rfl rfl rfl ?_
      have a0 := (HA.out.below hb).a0; have a1 := (HA.out.below hb).a1
      clear hev hdep hb
      go_simp
      exact ⟨_, rfl, rfl, Below.refl _ _⟩
    · have e4 : a.tmps[4]?.getD undef = .pointer (some ⟨w.heap.size + 1, 0, none⟩) := hev 4 rfl
      refine Drawn.wpOp_flow 29 rfl rfl rfl ?_
      clear hev hdep hb
      go_simp
      exact ⟨_, rfl, rfl, Below.refl _ _⟩
    · have d2 : a.tmps[29]?.getD undef = .pointer (some ⟨w.heap.size + 1, 1, none⟩) := hdep 2 rfl
      refine Drawn.wpOp_flow 30 rfl rfl rfl ?_
      have a0 := (HA.out.below hb).a0; have a1 := (HA.out.below hb).a1
      clear hev hdep hb
      go_simp
      exact ⟨_, rfl, rfl, Below.refl _ _⟩
    · have d1 : a.tmps[28]?.getD undef = .slice A1 dn c1 := hdep 1 rfl
      refine Drawn.wpOp_flow 7 rfl rfl rfl ?_
      clear hev hdep hb
      go_simp
      exact ⟨_, rfl, rfl, Below.refl _ _⟩
    · have d3 : a.tmps[30]?.getD undef = .slice A2 tn c2 := hdep 3 rfl
      refine Drawn.wpOp_flow 8 rfl rfl rfl ?_
      clear hev hdep hb
      go_simp
      exact ⟨_, rfl, rfl, Below.refl _ _⟩
  · intro xq w1 hb hxq
    have vq0 : xq 0 = .pointer (some ⟨w.heap.size + 1, 0, none⟩) := hxq 0 (by omega)
    have vq1 : xq 1 = .slice A1 dn c1 := hxq 1 (by omega)
    have vq2 : xq 2 = .pointer (some ⟨w.heap.size + 1, 1, none⟩) := hxq 2 (by omega)
    have vq3 : xq 3 = .slice A2 tn c2 := hxq 3 (by omega)
    have vq4 : xq 4 = .slice A1 dn c1 := hxq 4 (by omega)
    have vq5 : xq 5 = .slice A2 tn c2 := hxq 5 (by omega)
    show Exit.then _ _ Exit.normal (Drawn.acts _ [(8, some (xq 5)), (7, some (xq 4)), (30, some (xq 3)), (29, some (xq 2)), (28, some (xq 1)), (27, some (xq 0))]) _
    rw [vq0, vq1, vq2, vq3, vq4, vq5]
    clear hxq vq0 vq1 vq2 vq3 vq4 vq5
    clear xq
    simp only [Drawn.acts]
    go_simp
    have HB1 := Lib.hid (bstep HB0.out hb)
    have HA1 := Lib.hid (HA.out.below hb)
    clear hb HA
    go_at_K
    obtain ⟨⟨p0, p1, p2, p3, p4, p5⟩, q0, q1⟩ := HA1.out.eight
    go_wp2_with fail
    refine (H0.out _).mono ?_
    rintro e w2 ⟨rfl, hb2⟩
    clear p0 p1 p2 p3 p4 p5 q0 q1
    have HB2 := Lib.hid (bstep HB1.out hb2)
    have HA2 := Lib.hid (HA1.out.below hb2)
    clear hb2
    obtain ⟨⟨p0, p1, p2, p3, p4, p5⟩, q0, q1⟩ := HA2.out.eight
    go_wp2_with fail
    refine (HR.out _).mono ?_
    rintro e w3 ⟨rfl, hb3⟩
    clear p0 p1 p2 p3 p4 p5 q0 q1
    have HB3 := Lib.hid (bstep HB2.out hb3)
    have HA3 := Lib.hid (HA2.out.below hb3)
    clear hb3
    obtain ⟨⟨p0, p1, p2, p3, p4, p5⟩, q0, q1⟩ := HA3.out.eight
    go_wp2_with fail
    refine (H1.out _ (Z0.out.below HB3.out)).mono ?_
    rintro e w4 ⟨rfl, hb4⟩
    clear p0 p1 p2 p3 p4 p5 q0 q1
    have HB4 := Lib.hid (bstep HB3.out hb4)
    have HA4 := Lib.hid (HA3.out.below hb4)
    clear hb4
    obtain ⟨⟨p0, p1, p2, p3, p4, p5⟩, q0, q1⟩ := HA4.out.eight
    go_wp2_with fail
    refine (H2.out _ (Z1.out.below HB4.out)).mono ?_
    rintro e w5 ⟨rfl, hb5⟩
    clear p0 p1 p2 p3 p4 p5 q0 q1
    have HB5 := Lib.hid (bstep HB4.out hb5)
    have HA5 := Lib.hid (HA4.out.below hb5)
    clear hb5
    go_wp2_with fail
    refine (alive_any _).mono ?_
    rintro e w9 ⟨rfl, hb9⟩
    go_wp2
    go_ret
    exact ⟨rfl, bstep HB5.out hb9⟩
set_option maxHeartbeats 4000000 in
theorem moves_short (N T L W S R : Int) (A1 A2 A3 A4 : Option Addr) (delta tape : List UInt8) (z0 z1 : List Int) (c1 c2 c3 c4 : Nat) (w : World) (hp : (⟨N, T, L, W, S, R⟩ : P).In) (h3 : IntsAt w A3 z0) (h4 : IntsAt w A4 z1) (hl : N ≤ 12 ∧ L ≤ 12 ∧ T ≤ 12) (hr : (⟨N, T, L, W, S, R⟩ : P).right = true) (e0 : mcheck ⟨N, T, L, W, S, R⟩ delta z0 = 0) (e1 : mcheck ⟨N, T, L, W, S, R⟩ delta z1 = 0) (hM : (⟨N, T, L, W, S, R⟩ : P).May) (hs : (tape.length : Int) < T + L - 1) :
    Calls Try.prog 6 #[.agg #[.int .i64 N, .int .i64 T, .int .i64 L, .int .i64 W, .int .i64 S, .int .i64 R], .agg #[.slice A1 delta.length c1, .slice A2 tape.length c2], .agg #[.slice A3 z0.length c3, .slice A4 z1.length c4]] w fun e w' => e = .returned (.bool true) ∧ Below w.heap.size w w' := by
  have K0 := fun w => Law10.light_any N T L W S R w
  rw [decide_eq_true hl] at K0
  have H0 := Lib.hid K0
  have KR := fun V => R08.right_any ⟨N, T, L, W, S, R⟩ V hp
  simp only [P.val] at KR
  rw [hr] at KR
  have K1 := fun V h => check_all N T L W S R A1 A3 delta z0 c1 c3 V hp h hl.2.2
  have K2 := fun V h => check_all N T L W S R A1 A4 delta z1 c1 c4 V hp h hl.2.2
  rw [e0] at K1
  rw [e1] at K2
  have hM' := hM
  unfold P.May at hM'
  simp only at hM'
  have K3 := fun V => R13.width_any N T L W S R V (by omega) (by omega)
  have H3 := Lib.hid K3
  obtain ⟨dn, hdn⟩ : ∃ dn, dn = delta.length := ⟨_, rfl⟩
  obtain ⟨tn, htn⟩ : ∃ tn, tn = tape.length := ⟨_, rfl⟩
  obtain ⟨z0n, hz0⟩ : ∃ n, n = z0.length := ⟨_, rfl⟩
  obtain ⟨z1n, hz1⟩ : ∃ n, n = z1.length := ⟨_, rfl⟩
  rw [← hdn, ← hz0] at K1
  rw [← hdn, ← hz1] at K2
  rw [← htn] at hs
  rw [← hdn, ← htn, ← hz0, ← hz1]
  have HR := Lib.hid KR; have Z0 := Lib.hid h3; have Z1 := Lib.hid h4
  have H1 := Lib.hid K1
  have H2 := Lib.hid K2
  clear K0 KR hl hp h3 h4 hdn htn hz0 hz1 hr K1 K2 e1 e0 K3 hM hM'
  have HA := Lib.hid (LiesV.new w N T L W S R (.slice A1 dn c1) (.slice A2 tn c2) (.slice A3 z0n c3) (.slice A4 z1n c4) 58 59)
  have HB0 := Lib.hid (show Below w.heap.size w (((w.alloc (.cells #[.int .i64 N, .int .i64 T, .int .i64 L, .int .i64 W, .int .i64 S, .int .i64 R] 23)).alloc (.cells #[.slice A1 dn c1, .slice A2 tn c2] 58)).alloc (.cells #[.slice A3 z0n c3, .slice A4 z1n c4] 59)) from bstep (bstep (balloc _ _) (balloc _ _)) (balloc _ _))
  go_enter Try.func6, Try.ntmps6
  go_wp2_with fail
  generalize ((w.alloc (.cells #[.int .i64 N, .int .i64 T, .int .i64 L, .int .i64 W, .int .i64 S, .int .i64 R] 23)).alloc (.cells #[.slice A1 dn c1, .slice A2 tn c2] 58)).alloc (.cells #[.slice A3 z0n c3, .slice A4 z1n c4] 59) = w0 at *
  refine Drawn.wp_region_flowL 6 [Drawn.SP.is (.pointer (some ⟨w.heap.size + 1, 0, none⟩)), Drawn.SP.is (.slice A1 dn c1), Drawn.SP.is (.pointer (some ⟨w.heap.size + 1, 1, none⟩)), Drawn.SP.is (.slice A2 tn c2), Drawn.SP.is (.slice A1 dn c1), Drawn.SP.is (.slice A2 tn c2)] (by kernel_rfl) (by kernel_rfl) ?_ ?_
  · intro i hi a w1 hb hev hdep
    rcases (show i = 0 ∨ i = 1 ∨ i = 2 ∨ i = 3 ∨ i = 4 ∨ i = 5 by omega) with rfl | rfl | rfl | rfl | rfl | rfl
    · have e4 : a.tmps[4]?.getD undef = .pointer (some ⟨w.heap.size + 1, 0, none⟩) := hev 4 rfl
      refine Drawn.wpOp_flow 27 rfl rfl rfl ?_
      clear hev hdep hb
      go_simp
      exact ⟨_, rfl, rfl, Below.refl _ _⟩
    · have d0 : a.tmps[27]?.getD undef = .pointer (some ⟨w.heap.size + 1, 0, none⟩) := hdep 0 rfl
      refine Drawn.wpOp_flow 28 rfl rfl rfl ?_
      have a0 := (HA.out.below hb).a0; have a1 := (HA.out.below hb).a1
      clear hev hdep hb
      go_simp
      exact ⟨_, rfl, rfl, Below.refl _ _⟩
    · have e4 : a.tmps[4]?.getD undef = .pointer (some ⟨w.heap.size + 1, 0, none⟩) := hev 4 rfl
      refine Drawn.wpOp_flow 29 rfl rfl rfl ?_
      clear hev hdep hb
      go_simp
      exact ⟨_, rfl, rfl, Below.refl _ _⟩
    · have d2 : a.tmps[29]?.getD undef = .pointer (some ⟨w.heap.size + 1, 1, none⟩) := hdep 2 rfl
      refine Drawn.wpOp_flow 30 rfl rfl rfl ?_
      have a0 := (HA.out.below hb).a0; have a1 := (HA.out.below hb).a1
      clear hev hdep hb
      go_simp
      exact ⟨_, rfl, rfl, Below.refl _ _⟩
    · have d1 : a.tmps[28]?.getD undef = .slice A1 dn c1 := hdep 1 rfl
      refine Drawn.wpOp_flow 7 rfl rfl rfl ?_
      clear hev hdep hb
      go_simp
      exact ⟨_, rfl, rfl, Below.refl _ _⟩
    · have d3 : a.tmps[30]?.getD undef = .slice A2 tn c2 := hdep 3 rfl
      refine Drawn.wpOp_flow 8 rfl rfl rfl ?_
      clear hev hdep hb
      go_simp
      exact ⟨_, rfl, rfl, Below.refl _ _⟩
  · intro xq w1 hb hxq
    have vq0 : xq 0 = .pointer (some ⟨w.heap.size + 1, 0, none⟩) := hxq 0 (by omega)
    have vq1 : xq 1 = .slice A1 dn c1 := hxq 1 (by omega)
    have vq2 : xq 2 = .pointer (some ⟨w.heap.size + 1, 1, none⟩) := hxq 2 (by omega)
    have vq3 : xq 3 = .slice A2 tn c2 := hxq 3 (by omega)
    have vq4 : xq 4 = .slice A1 dn c1 := hxq 4 (by omega)
    have vq5 : xq 5 = .slice A2 tn c2 := hxq 5 (by omega)
    show Exit.then _ _ Exit.normal (Drawn.acts _ [(8, some (xq 5)), (7, some (xq 4)), (30, some (xq 3)), (29, some (xq 2)), (28, some (xq 1)), (27, some (xq 0))]) _
    rw [vq0, vq1, vq2, vq3, vq4, vq5]
    clear hxq vq0 vq1 vq2 vq3 vq4 vq5
    clear xq
    simp only [Drawn.acts]
    go_simp
    have HB1 := Lib.hid (bstep HB0.out hb)
    have HA1 := Lib.hid (HA.out.below hb)
    clear hb HA
    go_at_K
    obtain ⟨⟨p0, p1, p2, p3, p4, p5⟩, q0, q1⟩ := HA1.out.eight
    go_wp2_with fail
    refine (H0.out _).mono ?_
    rintro e w2 ⟨rfl, hb2⟩
    clear p0 p1 p2 p3 p4 p5 q0 q1
    have HB2 := Lib.hid (bstep HB1.out hb2)
    have HA2 := Lib.hid (HA1.out.below hb2)
    clear hb2
    obtain ⟨⟨p0, p1, p2, p3, p4, p5⟩, q0, q1⟩ := HA2.out.eight
    go_wp2_with fail
    refine (HR.out _).mono ?_
    rintro e w3 ⟨rfl, hb3⟩
    clear p0 p1 p2 p3 p4 p5 q0 q1
    have HB3 := Lib.hid (bstep HB2.out hb3)
    have HA3 := Lib.hid (HA2.out.below hb3)
    clear hb3
    obtain ⟨⟨p0, p1, p2, p3, p4, p5⟩, q0, q1⟩ := HA3.out.eight
    go_wp2_with fail
    refine (H1.out _ (Z0.out.below HB3.out)).mono ?_
    rintro e w4 ⟨rfl, hb4⟩
    clear p0 p1 p2 p3 p4 p5 q0 q1
    have HB4 := Lib.hid (bstep HB3.out hb4)
    have HA4 := Lib.hid (HA3.out.below hb4)
    clear hb4
    obtain ⟨⟨p0, p1, p2, p3, p4, p5⟩, q0, q1⟩ := HA4.out.eight
    go_wp2_with fail
    refine (H2.out _ (Z1.out.below HB4.out)).mono ?_
    rintro e w5 ⟨rfl, hb5⟩
    clear p0 p1 p2 p3 p4 p5 q0 q1
    have HB5 := Lib.hid (bstep HB4.out hb5)
    have HA5 := Lib.hid (HA4.out.below hb5)
    clear hb5
    obtain ⟨⟨p0, p1, p2, p3, p4, p5⟩, q0, q1⟩ := HA5.out.eight
    go_wp2_with fail
    refine (H3.out _).mono ?_
    rintro e w6 ⟨rfl, hb6⟩
    clear p0 p1 p2 p3 p4 p5 q0 q1
    have HB6 := Lib.hid (bstep HB5.out hb6)
    have HA6 := Lib.hid (HA5.out.below hb6)
    clear hb6
    go_wp2_with fail
    refine (alive_any _).mono ?_
    rintro e w9 ⟨rfl, hb9⟩
    go_wp2
    go_ret
    exact ⟨rfl, bstep HB6.out hb9⟩
end Go.Proofs.Ytompeiemioeohaa.Law14
