/- the walks of layer 10's laws -/
import Derived.Test.YtmeenipcfmeopaaR10
import Derived.Test.YtmeenipcfmeopaaR01
import Derived.Test.YtmeenipcfmeopaaDeal
import Derived.Test.YtmeenipcfmeopaaDrawn
set_option maxRecDepth 100000
namespace Go.Proofs.Ytmeenipcfmeopaa.Law10
open Go.RowKit PlanM StripeM DealM Law08

theorem six {w : World} {g : Nat} {N T L W S R : Int} (h : PlanLies w g N T L W S R) : w.cell? ⟨g, 0, none⟩ = some (.int .i64 N) ∧ w.cell? ⟨g, 1, none⟩ = some (.int .i64 T) ∧ w.cell? ⟨g, 2, none⟩ = some (.int .i64 L) ∧ w.cell? ⟨g, 3, none⟩ = some (.int .i64 W) ∧ w.cell? ⟨g, 4, none⟩ = some (.int .i64 S) ∧ w.cell? ⟨g, 5, none⟩ = some (.int .i64 R) :=
  ⟨h.c0, h.c1, h.c2, h.c3, h.c4, h.c5⟩
def two : PlanM.P := ⟨2, 1, 1, 2, 9, 1⟩
theorem two_in : two.In := by unfold two; constructor <;> (unfold In64; simp)
theorem two_val : two.val = .agg #[.int .i64 2, .int .i64 1, .int .i64 1, .int .i64 2, .int .i64 9, .int .i64 1] := rfl
theorem two_says : dealA two [7] [5] = [[13], [8]] ∧ dealE two [7] [5] = 0 ∧ costA two 3 = 3 := by decide +kernel
/-- what each operation of the example gives -/
def R (B : Nat) (i : Nat) (v : Value) (w : World) : Prop :=
  match i with
  | 0 => ∃ b, v = .pointer (some ⟨b, 0, none⟩) ∧ Gf.Tab w b
  | 1 => v = .agg #[.int .i64 2, .int .i64 1, .int .i64 1, .int .i64 2, .int .i64 9, .int .i64 1]
  | 2 => ∃ A, v = .slice A 1 1 ∧ BytesAt w A [7]
  | 3 => ∃ A, v = .slice A 1 1 ∧ BytesAt w A [5]
  | 4 => ∃ A c, v = .tuple #[.slice A 2 c, .int .i64 0] ∧ RowsAt w A [[13], [8]] ∧ ∀ a, A = some a → B ≤ a.block
  | 5 => ∃ A c, v = .tuple #[.slice A 2 c, .int .i64 0] ∧ RowsAt w A [[13], [8]] ∧ ∀ a, A = some a → B ≤ a.block
  | 6 => ∃ A c, v = .slice A 2 c ∧ RowsAt w A [[13], [8]] ∧ ∀ a, A = some a → B ≤ a.block
  | 7 => v = .int .i64 0
  | 8 => ∃ A c, v = .slice A 2 c ∧ RowsAt w A [[13], [8]] ∧ ∀ a, A = some a → B ≤ a.block
  | 9 => v = .int .i64 0
  | _ => True
theorem R_below (B i : Nat) (v : Value) (w w' : World) (h : R B i v w) (hb : Below w.heap.size w w') : R B i v w' := by
  unfold R at *
  split at h
  · obtain ⟨b, h1, h2⟩ := h; exact ⟨b, h1, h2.below hb⟩
  · exact h
  · obtain ⟨A, h1, h2⟩ := h; exact ⟨A, h1, h2.below hb⟩
  · obtain ⟨A, h1, h2⟩ := h; exact ⟨A, h1, h2.below hb⟩
  · obtain ⟨A, c, h1, h2, h3⟩ := h; exact ⟨A, c, h1, h2.below hb, h3⟩
  · obtain ⟨A, c, h1, h2, h3⟩ := h; exact ⟨A, c, h1, h2.below hb, h3⟩
  · obtain ⟨A, c, h1, h2, h3⟩ := h; exact ⟨A, c, h1, h2.below hb, h3⟩
  · exact h
  · obtain ⟨A, c, h1, h2, h3⟩ := h; exact ⟨A, c, h1, h2.below hb, h3⟩
  · exact h
  · trivial
set_option maxHeartbeats 1000000 in
theorem alive_any (w : World) : Calls Try.prog 6 #[] w fun e w' => e = .returned (.bool true) ∧ Below w.heap.size w w' := by
  obtain ⟨e1, e2, e3⟩ := two_says
  have K1 := fun b0 A1 A2 W ht h1 h2 => Deal.deal_any b0 two A1 A2 [7] [5] 1 1 W two_in ht h1 (by simp) (by unfold maxLen; omega) h2 (by simp) (by unfold maxLen; omega) (by simp)
  have K2 := fun W => Deal.cost_any two 3 W two_in (by unfold In64; omega)
  rw [e1, e2] at K1
  rw [e3] at K2
  rw [two_val] at K1 K2
  have H1 := Lib.hid K1; have H2 := Lib.hid K2
  clear K1 K2 e1 e2 e3
  go_enter Try.func6, Try.ntmps6
  go_wp2_with fail
  have HA := Lib.hid (PlanLies.new w 2 1 1 2 9 1)
  have hb0 := balloc w (.cells #[.int .i64 2, .int .i64 1, .int .i64 1, .int .i64 2, .int .i64 9, .int .i64 1] 23)
  generalize w.alloc (.cells #[.int .i64 2, .int .i64 1, .int .i64 1, .int .i64 2, .int .i64 9, .int .i64 1] 23) = w0 at *
  have HB0 := Lib.hid hb0
  clear hb0
  refine Drawn.wp_region_flow' 10 (R w.heap.size) (by kernel_rfl) (by kernel_rfl) (R_below _) ?_ ?_
  · intro i hi a w1 hb hev hdep
    rcases (show i = 0 ∨ i = 1 ∨ i = 2 ∨ i = 3 ∨ i = 4 ∨ i = 5 ∨ i = 6 ∨ i = 7 ∨ i = 8 ∨ i = 9 by omega) with rfl | rfl | rfl | rfl | rfl | rfl | rfl | rfl | rfl | rfl
    · clear hev hdep
      refine Drawn.wpOp_flow 6 rfl rfl rfl ?_
      go_simp
      refine (Gf.new_any w1).mono ?_
      rintro e w' ⟨rfl, ht, hb', _⟩
      exact ⟨_, rfl, ⟨_, rfl, ht⟩, hb'⟩
    · have e1 : a.tmps[1]?.getD undef = .pointer (some ⟨w.heap.size, 0, none⟩) := hev 1 rfl
      obtain ⟨c0, c1, c2, c3, c4, c5⟩ := six (HA.out.below hb)
      refine Drawn.wpOp_flow 7 rfl rfl rfl ?_
      clear hev hdep H1 H2 HB0 hb
      go_simp
      exact ⟨_, rfl, rfl, Below.refl _ _⟩
    · clear hev hdep
      refine Drawn.wpOp_flow 8 rfl rfl rfl ?_
      go_simp
      exact ⟨_, rfl, ⟨_, rfl, (Row.new w1 [7]).bytes⟩, balloc _ _⟩
    · clear hev hdep
      refine Drawn.wpOp_flow 9 rfl rfl rfl ?_
      go_simp
      exact ⟨_, rfl, ⟨_, rfl, (Row.new w1 [5]).bytes⟩, balloc _ _⟩
    · obtain ⟨b, d0, ht⟩ : R w.heap.size 0 (a.tmps[6]?.getD undef) w1 := hdep 0 rfl
      have d1 : a.tmps[7]?.getD undef = .agg #[.int .i64 2, .int .i64 1, .int .i64 1, .int .i64 2, .int .i64 9, .int .i64 1] := hdep 1 rfl
      obtain ⟨A1, d2, h2⟩ : R w.heap.size 2 (a.tmps[8]?.getD undef) w1 := hdep 2 rfl
      obtain ⟨A2, d3, h3⟩ : R w.heap.size 3 (a.tmps[9]?.getD undef) w1 := hdep 3 rfl
      refine Drawn.wpOp_flow 10 rfl rfl rfl ?_
      clear hev hdep
      have C := H1.out b A1 A2 w1 ht h2 h3
      clear ht h2 h3
      go_simp
      refine C.mono ?_
      rintro e w' ⟨X, c, rfl, _, _, hX, hb', hn⟩
      exact ⟨_, rfl, ⟨X, c, rfl, hX, fun a e => by have := hn a e; have := hb.size; have := HB0.out.size; omega⟩, hb'⟩
    · have d4 : R w.heap.size 4 (a.tmps[10]?.getD undef) w1 := hdep 4 rfl
      clear hev hdep
      refine Drawn.wpOp_flow 5 rfl rfl rfl ?_
      go_simp
      exact ⟨_, rfl, d4, Below.refl _ _⟩
    · obtain ⟨X, c, d5, hX, hn⟩ : R w.heap.size 5 (a.tmps[5]?.getD undef) w1 := hdep 5 rfl
      clear hev hdep
      refine Drawn.wpOp_flow 11 rfl rfl rfl ?_
      go_simp
      exact ⟨_, rfl, ⟨X, c, rfl, hX, hn⟩, Below.refl _ _⟩
    · obtain ⟨X, c, d5, hX, hn⟩ : R w.heap.size 5 (a.tmps[5]?.getD undef) w1 := hdep 5 rfl
      clear hev hdep
      refine Drawn.wpOp_flow 12 rfl rfl rfl ?_
      clear hX hn
      go_simp
      exact ⟨_, rfl, rfl, Below.refl _ _⟩
    · have d6 : R w.heap.size 6 (a.tmps[11]?.getD undef) w1 := hdep 6 rfl
      clear hev hdep
      refine Drawn.wpOp_flow 2 rfl rfl rfl ?_
      go_simp
      exact ⟨_, rfl, d6, Below.refl _ _⟩
    · have d7 : R w.heap.size 7 (a.tmps[12]?.getD undef) w1 := hdep 7 rfl
      clear hev hdep
      refine Drawn.wpOp_flow 3 rfl rfl rfl ?_
      go_simp
      exact ⟨_, rfl, d7, Below.refl _ _⟩
  · intro x w1 hb hx
    obtain ⟨X, c, x8, hX, hn⟩ := hx 8 (by omega)
    have x9 : x 9 = .int .i64 0 := hx 9 (by omega)
    show Exit.then _ _ Exit.normal (Drawn.acts _ [(3, some (x 9)), (2, some (x 8)), (12, some (x 7)), (11, some (x 6)), (5, some (x 5)), (10, some (x 4)), (9, some (x 3)), (8, some (x 2)), (7, some (x 1)), (6, some (x 0))]) _
    rw [x8, x9]
    clear hx x8 x9
    generalize x 0 = y0
    generalize x 1 = y1
    generalize x 2 = y2
    generalize x 3 = y3
    generalize x 4 = y4
    generalize x 5 = y5
    generalize x 6 = y6
    generalize x 7 = y7
    simp only [Drawn.acts]
    go_simp
    have HB := Lib.hid (HB0.out.trans (hb.mono HB0.out.size))
    have hb' := hb
    obtain ⟨b1, o1, B1, d1, rfl, f1, g1, g1', hB1⟩ := hX.row (i := 0) (by decide)
    obtain ⟨b2, o2, B2, d2, e2, f2, g2, g2', hB2⟩ := hX.row (i := 1) (by decide)
    obtain ⟨rfl, rfl⟩ : b1 = b2 ∧ o1 = o2 := by injection e2 with e; injection e with h1 h2; exact ⟨h1, h2⟩
    have HB1 := Lib.hid hB1; have HB2 := Lib.hid hB2
    have l1 : b1 < w1.heap.size := cell_lt f1
    have f1' : w1.cell? ⟨b1, o1, none⟩ = some (.slice B1 1 d1) := f1
    have f2' : w1.cell? ⟨b1, o1 + 1, none⟩ = some (.slice B2 1 d2) := f2
    have HF2 := Lib.hid f2'
    clear hX hn e2 hB1 hB2 HB0 f1 f2 g1 g1' g2 g2' hb
    replace HA := Lib.hid (HA.out.below hb')
    have HM : Hid (1 ≤ maxLen) := Lib.hid (by unfold maxLen; omega)
    go_at_K
    go_wp2_with fail
    have C := R01.same_any B1 (some ⟨w1.heap.size, 0, none⟩) [13] [13] d1 1 (w1.alloc (.cells (cells [13]) 5)) (HB1.out.alloc _) (Row.new _ _).bytes HM.out HM.out
    rw [same_self] at C
    refine C.mono ?_
    clear C
    rintro e w2 ⟨rfl, hq⟩
    have hb2 : Below w1.heap.size w1 w2 := bstep (balloc _ _) (bquiet hq)
    clear hq
    have f2 := (hb2.cell (p := ⟨b1, o1 + 1, none⟩) l1).trans HF2.out
    clear f1' f2'
    go_wp2_with fail
    have C := R01.same_any B2 (some ⟨w2.heap.size, 0, none⟩) [8] [8] d2 1 (w2.alloc (.cells (cells [8]) 5)) ((HB2.out.below hb2).alloc _) (Row.new _ _).bytes HM.out HM.out
    rw [same_self] at C
    refine C.mono ?_
    clear C
    rintro e w3 ⟨rfl, hq⟩
    have hb3 : Below w1.heap.size w1 w3 := bstep hb2 (bstep (balloc _ _) (bquiet hq))
    clear hq f2
    obtain ⟨c0, c1, c2, c3, c4, c5⟩ := six (HA.out.below hb3)
    go_wp2_with fail
    refine (H2.out w3).mono ?_
    rintro e w4 ⟨rfl, hb4⟩
    clear c0 c1 c2 c3 c4 c5
    go_wp2
    go_ret
    exact ⟨rfl, bstep HB.out (bstep hb3 hb4)⟩
theorem light_any (N T L W S R : Int) (w : World) : Calls Try.prog 5 #[.agg #[.int .i64 N, .int .i64 T, .int .i64 L, .int .i64 W, .int .i64 S, .int .i64 R]] w fun e w' => e = .returned (.bool (decide (N ≤ 12 ∧ L ≤ 12 ∧ T ≤ 12))) ∧ Below w.heap.size w w' := by
  obtain ⟨b, hb⟩ : ∃ b, b = decide (N ≤ 12 ∧ L ≤ 12 ∧ T ≤ 12) := ⟨_, rfl⟩
  rw [← hb]
  by_cases h1 : N ≤ 12
  · by_cases h2 : L ≤ 12
    · by_cases h3 : T ≤ 12
      · obtain rfl : b = true := by rw [hb]; exact decide_eq_true ⟨h1, h2, h3⟩
        clear hb
        go_enter Try.func5, Try.ntmps5
        go_wp2
        go_ret
        exact ⟨rfl, balloc _ _⟩
      · obtain rfl : b = false := by rw [hb]; exact decide_eq_false (fun h => h3 h.2.2)
        clear hb
        go_enter Try.func5, Try.ntmps5
        go_wp2
        go_ret
        exact ⟨rfl, balloc _ _⟩
    · obtain rfl : b = false := by rw [hb]; exact decide_eq_false (fun h => h2 h.2.1)
      clear hb
      go_enter Try.func5, Try.ntmps5
      go_wp2
      go_ret
      exact ⟨rfl, balloc _ _⟩
  · obtain rfl : b = false := by rw [hb]; exact decide_eq_false (fun h => h1 h.1)
    clear hb
    go_enter Try.func5, Try.ntmps5
    go_wp2
    go_ret
    exact ⟨rfl, balloc _ _⟩
set_option maxHeartbeats 2000000 in
theorem shares_heavy (N T L W S R : Int) (A1 A2 : Option Addr) (blob tape : List UInt8) (u1 u2 : Nat) (w : World) (hp : (⟨N, T, L, W, S, R⟩ : P).In) (h1 : BytesAt w A1 blob) (k1 : blob.length ≤ u1) (z1 : u1 ≤ maxLen) (h2 : BytesAt w A2 tape) (k2 : tape.length ≤ u2) (z2 : u2 ≤ maxLen) (hl : ¬ (N ≤ 12 ∧ L ≤ 12 ∧ T ≤ 12)) :
    Calls Try.prog 3 #[.agg #[.int .i64 N, .int .i64 T, .int .i64 L, .int .i64 W, .int .i64 S, .int .i64 R], .slice A1 blob.length u1, .slice A2 tape.length u2] w fun e w' => e = .returned (.bool true) ∧ Below w.heap.size w w' := by
  have HA := Lib.hid (PlanLies.new w N T L W S R)
  have hb0 := balloc w (.cells #[.int .i64 N, .int .i64 T, .int .i64 L, .int .i64 W, .int .i64 S, .int .i64 R] 23)
  obtain ⟨q, hq⟩ : ∃ q : P, q = ⟨N, T, L, W, S, R⟩ := ⟨_, rfl⟩
  rw [← hq] at hp
  have hv : q.val = .agg #[.int .i64 N, .int .i64 T, .int .i64 L, .int .i64 W, .int .i64 S, .int .i64 R] := by rw [hq]; rfl
  have K0 := fun w => light_any N T L W S R w
  rw [decide_eq_false hl] at K0
  have H0 := Lib.hid K0
  clear K0
  clear h1 h2 hv hq
  go_enter Try.func3, Try.ntmps3
  go_wp2_with fail
  generalize w.alloc (.cells #[.int .i64 N, .int .i64 T, .int .i64 L, .int .i64 W, .int .i64 S, .int .i64 R] 23) = w0 at *
  have c0 := HA.out.c0; have c1 := HA.out.c1; have c2 := HA.out.c2; have c3 := HA.out.c3; have c4 := HA.out.c4; have c5 := HA.out.c5
  skip
  refine (H0.out _).mono ?_
  rintro e w1 ⟨rfl, hb1⟩
  clear c0 c1 c2 c3 c4 c5
  replace HA := Lib.hid (HA.out.below hb1)
  have c0 := HA.out.c0; have c1 := HA.out.c1; have c2 := HA.out.c2; have c3 := HA.out.c3; have c4 := HA.out.c4; have c5 := HA.out.c5
  go_wp2_with fail
  refine (alive_any _).mono ?_
  rintro e w2 ⟨rfl, hb2⟩
  clear c0 c1 c2 c3 c4 c5
  replace HA := Lib.hid (HA.out.below hb2)
  go_wp2
  go_ret
  exact ⟨rfl, bstep hb0 (bstep hb1 (hb2))⟩
set_option maxHeartbeats 2000000 in
theorem shares_far (N T L W S R : Int) (A1 A2 : Option Addr) (blob tape : List UInt8) (u1 u2 : Nat) (w : World) (hp : (⟨N, T, L, W, S, R⟩ : P).In) (h1 : BytesAt w A1 blob) (k1 : blob.length ≤ u1) (z1 : u1 ≤ maxLen) (h2 : BytesAt w A2 tape) (k2 : tape.length ≤ u2) (z2 : u2 ≤ maxLen) (hl : N ≤ 12 ∧ L ≤ 12 ∧ T ≤ 12) (hf : 250 < blob.length) :
    Calls Try.prog 3 #[.agg #[.int .i64 N, .int .i64 T, .int .i64 L, .int .i64 W, .int .i64 S, .int .i64 R], .slice A1 blob.length u1, .slice A2 tape.length u2] w fun e w' => e = .returned (.bool true) ∧ Below w.heap.size w w' := by
  have HA := Lib.hid (PlanLies.new w N T L W S R)
  have hb0 := balloc w (.cells #[.int .i64 N, .int .i64 T, .int .i64 L, .int .i64 W, .int .i64 S, .int .i64 R] 23)
  obtain ⟨q, hq⟩ : ∃ q : P, q = ⟨N, T, L, W, S, R⟩ := ⟨_, rfl⟩
  rw [← hq] at hp
  have hv : q.val = .agg #[.int .i64 N, .int .i64 T, .int .i64 L, .int .i64 W, .int .i64 S, .int .i64 R] := by rw [hq]; rfl
  have K0 := fun w => light_any N T L W S R w
  rw [decide_eq_true hl] at K0
  have H0 := Lib.hid K0
  clear K0
  clear h1 h2 hv hq
  go_enter Try.func3, Try.ntmps3
  go_wp2_with fail
  generalize w.alloc (.cells #[.int .i64 N, .int .i64 T, .int .i64 L, .int .i64 W, .int .i64 S, .int .i64 R] 23) = w0 at *
  have c0 := HA.out.c0; have c1 := HA.out.c1; have c2 := HA.out.c2; have c3 := HA.out.c3; have c4 := HA.out.c4; have c5 := HA.out.c5
  skip
  refine (H0.out _).mono ?_
  rintro e w1 ⟨rfl, hb1⟩
  clear c0 c1 c2 c3 c4 c5
  replace HA := Lib.hid (HA.out.below hb1)
  have c0 := HA.out.c0; have c1 := HA.out.c1; have c2 := HA.out.c2; have c3 := HA.out.c3; have c4 := HA.out.c4; have c5 := HA.out.c5
  go_wp2_with fail
  refine (alive_any _).mono ?_
  rintro e w2 ⟨rfl, hb2⟩
  clear c0 c1 c2 c3 c4 c5
  replace HA := Lib.hid (HA.out.below hb2)
  go_wp2
  go_ret
  exact ⟨rfl, bstep hb0 (bstep hb1 (hb2))⟩
set_option maxHeartbeats 2000000 in
theorem shares_far2 (N T L W S R : Int) (A1 A2 : Option Addr) (blob tape : List UInt8) (u1 u2 : Nat) (w : World) (hp : (⟨N, T, L, W, S, R⟩ : P).In) (h1 : BytesAt w A1 blob) (k1 : blob.length ≤ u1) (z1 : u1 ≤ maxLen) (h2 : BytesAt w A2 tape) (k2 : tape.length ≤ u2) (z2 : u2 ≤ maxLen) (hl : N ≤ 12 ∧ L ≤ 12 ∧ T ≤ 12) (hf : blob.length ≤ 250) (hg : 600 < tape.length) :
    Calls Try.prog 3 #[.agg #[.int .i64 N, .int .i64 T, .int .i64 L, .int .i64 W, .int .i64 S, .int .i64 R], .slice A1 blob.length u1, .slice A2 tape.length u2] w fun e w' => e = .returned (.bool true) ∧ Below w.heap.size w w' := by
  have HA := Lib.hid (PlanLies.new w N T L W S R)
  have hb0 := balloc w (.cells #[.int .i64 N, .int .i64 T, .int .i64 L, .int .i64 W, .int .i64 S, .int .i64 R] 23)
  obtain ⟨q, hq⟩ : ∃ q : P, q = ⟨N, T, L, W, S, R⟩ := ⟨_, rfl⟩
  rw [← hq] at hp
  have hv : q.val = .agg #[.int .i64 N, .int .i64 T, .int .i64 L, .int .i64 W, .int .i64 S, .int .i64 R] := by rw [hq]; rfl
  have K0 := fun w => light_any N T L W S R w
  rw [decide_eq_true hl] at K0
  have H0 := Lib.hid K0
  clear K0
  clear h1 h2 hv hq
  go_enter Try.func3, Try.ntmps3
  go_wp2_with fail
  generalize w.alloc (.cells #[.int .i64 N, .int .i64 T, .int .i64 L, .int .i64 W, .int .i64 S, .int .i64 R] 23) = w0 at *
  have c0 := HA.out.c0; have c1 := HA.out.c1; have c2 := HA.out.c2; have c3 := HA.out.c3; have c4 := HA.out.c4; have c5 := HA.out.c5
  skip
  refine (H0.out _).mono ?_
  rintro e w1 ⟨rfl, hb1⟩
  clear c0 c1 c2 c3 c4 c5
  replace HA := Lib.hid (HA.out.below hb1)
  have c0 := HA.out.c0; have c1 := HA.out.c1; have c2 := HA.out.c2; have c3 := HA.out.c3; have c4 := HA.out.c4; have c5 := HA.out.c5
  go_wp2_with fail
  refine (alive_any _).mono ?_
  rintro e w2 ⟨rfl, hb2⟩
  clear c0 c1 c2 c3 c4 c5
  replace HA := Lib.hid (HA.out.below hb2)
  go_wp2
  go_ret
  exact ⟨rfl, bstep hb0 (bstep hb1 (hb2))⟩
set_option maxHeartbeats 2000000 in
theorem shares_arg (N T L W S R : Int) (A1 A2 : Option Addr) (blob tape : List UInt8) (u1 u2 : Nat) (w : World) (hp : (⟨N, T, L, W, S, R⟩ : P).In) (h1 : BytesAt w A1 blob) (k1 : blob.length ≤ u1) (z1 : u1 ≤ maxLen) (h2 : BytesAt w A2 tape) (k2 : tape.length ≤ u2) (z2 : u2 ≤ maxLen) (hl : N ≤ 12 ∧ L ≤ 12 ∧ T ≤ 12) (hf : blob.length ≤ 250) (hg : tape.length ≤ 600) (hr : (⟨N, T, L, W, S, R⟩ : P).right = false) :
    Calls Try.prog 3 #[.agg #[.int .i64 N, .int .i64 T, .int .i64 L, .int .i64 W, .int .i64 S, .int .i64 R], .slice A1 blob.length u1, .slice A2 tape.length u2] w fun e w' => e = .returned (.bool true) ∧ Below w.heap.size w w' := by
  have HA := Lib.hid (PlanLies.new w N T L W S R)
  have hb0 := balloc w (.cells #[.int .i64 N, .int .i64 T, .int .i64 L, .int .i64 W, .int .i64 S, .int .i64 R] 23)
  obtain ⟨q, hq⟩ : ∃ q : P, q = ⟨N, T, L, W, S, R⟩ := ⟨_, rfl⟩
  rw [← hq] at hp hr
  have hv : q.val = .agg #[.int .i64 N, .int .i64 T, .int .i64 L, .int .i64 W, .int .i64 S, .int .i64 R] := by rw [hq]; rfl
  have K0 := fun w => light_any N T L W S R w
  rw [decide_eq_true hl] at K0
  have K1 := fun b0 w (ht : Gf.Tab w b0) (h1 : BytesAt w A1 blob) (h2 : BytesAt w A2 tape) => Deal.deal_any b0 q A1 A2 blob tape u1 u2 w hp ht h1 k1 z1 h2 k2 z2 (by omega)
  have K2 := fun b0 i w (ht : Gf.Tab w b0) (h1 : BytesAt w A1 blob) (h2 : BytesAt w A2 tape) (hi : In64 i) => Deal.share_any b0 q A1 A2 blob tape u1 u2 i w hp ht h1 k1 z1 h2 k2 z2 (by omega) hi
  have K3 := fun w => R08.right_any q w hp
  have K4 := fun i w (hi : In64 i) => Deal.cost_any q i w hp hi
  have hE : dealE q blob tape = 1 := by unfold dealE; rw [hr]; rfl
  have hA : dealA q blob tape = [] := by unfold dealA; rw [hE]; rfl
  have hSE : shareE q blob tape 1 = 1 := by unfold shareE; rw [hr]; rfl
  have hSA : shareA q blob tape 1 = [] := by unfold shareA; rw [hSE]; rfl
  have hCA : costA q 3 = 0 := by unfold costA; rw [hr]; rfl
  have K5 := fun b0 w ht h1 h2 => K2 b0 1 w ht h1 h2 (by unfold In64; omega)
  have K6 := fun w => K4 3 w (by unfold In64; omega)
  rw [hE, hA] at K1
  rw [hSE, hSA] at K5
  rw [hCA] at K6
  rw [hr] at K3
  rw [hv] at K1 K3 K5 K6
  have B1 := Lib.hid h1; have B2 := Lib.hid h2
  have H0 := Lib.hid K0; have H1 := Lib.hid K1; have H3 := Lib.hid K3; have H5 := Lib.hid K5; have H6 := Lib.hid K6
  clear K0 K1 K3 K5 K6
  clear K2 K4 hE hA hSE hSA hCA h1 h2 hv hq
  go_enter Try.func3, Try.ntmps3
  go_wp2_with fail
  generalize w.alloc (.cells #[.int .i64 N, .int .i64 T, .int .i64 L, .int .i64 W, .int .i64 S, .int .i64 R] 23) = w0 at *
  replace B1 := Lib.hid (B1.out.below hb0)
  replace B2 := Lib.hid (B2.out.below hb0)
  have z3 := z1
  have z4 := z2
  unfold maxLen at z3 z4
  have c0 := HA.out.c0; have c1 := HA.out.c1; have c2 := HA.out.c2; have c3 := HA.out.c3; have c4 := HA.out.c4; have c5 := HA.out.c5
  skip
  refine (H0.out _).mono ?_
  rintro e w1 ⟨rfl, hb1⟩
  clear c0 c1 c2 c3 c4 c5
  replace B1 := Lib.hid (B1.out.below hb1)
  replace B2 := Lib.hid (B2.out.below hb1)
  replace HA := Lib.hid (HA.out.below hb1)
  have c0 := HA.out.c0; have c1 := HA.out.c1; have c2 := HA.out.c2; have c3 := HA.out.c3; have c4 := HA.out.c4; have c5 := HA.out.c5
  go_wp2_with fail
  refine (Gf.new_any w1).mono ?_
  rintro e w2 ⟨rfl, ht, hb2, _⟩
  clear c0 c1 c2 c3 c4 c5
  replace B1 := Lib.hid (B1.out.below hb2)
  replace B2 := Lib.hid (B2.out.below hb2)
  replace HA := Lib.hid (HA.out.below hb2)
  have HT := Lib.hid ht
  clear ht
  have c0 := HA.out.c0; have c1 := HA.out.c1; have c2 := HA.out.c2; have c3 := HA.out.c3; have c4 := HA.out.c4; have c5 := HA.out.c5
  go_wp2_with fail
  refine (H1.out _ _ HT.out B1.out B2.out).mono ?_
  rintro e w3 ⟨X, dX, rfl, _, _, _, hb3, _⟩
  clear c0 c1 c2 c3 c4 c5
  replace B1 := Lib.hid (B1.out.below hb3)
  replace B2 := Lib.hid (B2.out.below hb3)
  replace HT := Lib.hid (HT.out.below hb3)
  replace HA := Lib.hid (HA.out.below hb3)
  have c0 := HA.out.c0; have c1 := HA.out.c1; have c2 := HA.out.c2; have c3 := HA.out.c3; have c4 := HA.out.c4; have c5 := HA.out.c5
  go_wp2_with fail
  refine (H3.out _).mono ?_
  rintro e w4 ⟨rfl, hb4⟩
  clear c0 c1 c2 c3 c4 c5
  replace B1 := Lib.hid (B1.out.below hb4)
  replace B2 := Lib.hid (B2.out.below hb4)
  replace HT := Lib.hid (HT.out.below hb4)
  replace HA := Lib.hid (HA.out.below hb4)
  have c0 := HA.out.c0; have c1 := HA.out.c1; have c2 := HA.out.c2; have c3 := HA.out.c3; have c4 := HA.out.c4; have c5 := HA.out.c5
  go_wp2_with fail
  refine (H5.out _ _ HT.out B1.out B2.out).mono ?_
  rintro e w5 ⟨Y, dY, rfl, _, _, _, hb5, _⟩
  clear c0 c1 c2 c3 c4 c5
  replace B1 := Lib.hid (B1.out.below hb5)
  replace B2 := Lib.hid (B2.out.below hb5)
  replace HT := Lib.hid (HT.out.below hb5)
  replace HA := Lib.hid (HA.out.below hb5)
  have c0 := HA.out.c0; have c1 := HA.out.c1; have c2 := HA.out.c2; have c3 := HA.out.c3; have c4 := HA.out.c4; have c5 := HA.out.c5
  go_wp2_with fail
  refine (H6.out _).mono ?_
  rintro e w6 ⟨rfl, hb6⟩
  clear c0 c1 c2 c3 c4 c5
  replace B1 := Lib.hid (B1.out.below hb6)
  replace B2 := Lib.hid (B2.out.below hb6)
  replace HT := Lib.hid (HT.out.below hb6)
  replace HA := Lib.hid (HA.out.below hb6)
  have c0 := HA.out.c0; have c1 := HA.out.c1; have c2 := HA.out.c2; have c3 := HA.out.c3; have c4 := HA.out.c4; have c5 := HA.out.c5
  go_wp2_with fail
  refine (alive_any _).mono ?_
  rintro e w7 ⟨rfl, hb7⟩
  clear c0 c1 c2 c3 c4 c5
  replace B1 := Lib.hid (B1.out.below hb7)
  replace B2 := Lib.hid (B2.out.below hb7)
  replace HT := Lib.hid (HT.out.below hb7)
  replace HA := Lib.hid (HA.out.below hb7)
  go_wp2
  go_ret
  exact ⟨rfl, bstep hb0 (bstep hb1 (bstep hb2 (bstep hb3 (bstep hb4 (bstep hb5 (bstep hb6 (hb7)))))))⟩
set_option maxHeartbeats 2000000 in
theorem shares_big (N T L W S R : Int) (A1 A2 : Option Addr) (blob tape : List UInt8) (u1 u2 : Nat) (w : World) (hp : (⟨N, T, L, W, S, R⟩ : P).In) (h1 : BytesAt w A1 blob) (k1 : blob.length ≤ u1) (z1 : u1 ≤ maxLen) (h2 : BytesAt w A2 tape) (k2 : tape.length ≤ u2) (z2 : u2 ≤ maxLen) (hl : N ≤ 12 ∧ L ≤ 12 ∧ T ≤ 12) (hf : blob.length ≤ 250) (hg : tape.length ≤ 600) (hr : (⟨N, T, L, W, S, R⟩ : P).right = true) (hb : 240 < blob.length) :
    Calls Try.prog 3 #[.agg #[.int .i64 N, .int .i64 T, .int .i64 L, .int .i64 W, .int .i64 S, .int .i64 R], .slice A1 blob.length u1, .slice A2 tape.length u2] w fun e w' => e = .returned (.bool true) ∧ Below w.heap.size w w' := by
  have HA := Lib.hid (PlanLies.new w N T L W S R)
  have hb0 := balloc w (.cells #[.int .i64 N, .int .i64 T, .int .i64 L, .int .i64 W, .int .i64 S, .int .i64 R] 23)
  obtain ⟨q, hq⟩ : ∃ q : P, q = ⟨N, T, L, W, S, R⟩ := ⟨_, rfl⟩
  rw [← hq] at hp hr
  have hv : q.val = .agg #[.int .i64 N, .int .i64 T, .int .i64 L, .int .i64 W, .int .i64 S, .int .i64 R] := by rw [hq]; rfl
  have K0 := fun w => light_any N T L W S R w
  rw [decide_eq_true hl] at K0
  have K1 := fun b0 w (ht : Gf.Tab w b0) (h1 : BytesAt w A1 blob) (h2 : BytesAt w A2 tape) => Deal.deal_any b0 q A1 A2 blob tape u1 u2 w hp ht h1 k1 z1 h2 k2 z2 (by omega)
  have K2 := fun b0 i w (ht : Gf.Tab w b0) (h1 : BytesAt w A1 blob) (h2 : BytesAt w A2 tape) (hi : In64 i) => Deal.share_any b0 q A1 A2 blob tape u1 u2 i w hp ht h1 k1 z1 h2 k2 z2 (by omega) hi
  have K3 := fun w => R08.right_any q w hp
  have K4 := fun i w (hi : In64 i) => Deal.cost_any q i w hp hi
  have hM : q.May := of_decide_eq_true hr
  have hMM := hM
  unfold P.May at hMM
  have eN : q.N = N := by rw [hq]
  have eT : q.T = T := by rw [hq]
  have eL : q.L = L := by rw [hq]
  have eW : q.W = W := by rw [hq]
  have hi1 : q.is 1 = true := decide_eq_true ⟨by omega, by omega⟩
  have hE : dealE q blob tape = 7 := by unfold dealE; rw [hr, if_pos rfl, if_pos hb]
  have hA : dealA q blob tape = [] := by unfold dealA; rw [hE]; rfl
  have hSE : shareE q blob tape 1 = 7 := by unfold shareE; rw [hr, if_pos rfl, hi1, if_pos rfl, hE]
  have hSA : shareA q blob tape 1 = [] := by unfold shareA; rw [hSE]; rfl
  have K5 := fun b0 w ht h1 h2 => K2 b0 1 w ht h1 h2 (by unfold In64; omega)
  rw [hE, hA] at K1
  rw [hSE, hSA] at K5
  rw [hr] at K3
  rw [hv] at K1 K3 K5
  have B1 := Lib.hid h1; have B2 := Lib.hid h2
  have H0 := Lib.hid K0; have H1 := Lib.hid K1; have H3 := Lib.hid K3; have H5 := Lib.hid K5
  clear K0 K1 K3 K5
  clear K2 K4 hE hA hSE hSA h1 h2 hv hq hM hMM eN eT eL eW hi1
  go_enter Try.func3, Try.ntmps3
  go_wp2_with fail
  generalize w.alloc (.cells #[.int .i64 N, .int .i64 T, .int .i64 L, .int .i64 W, .int .i64 S, .int .i64 R] 23) = w0 at *
  replace B1 := Lib.hid (B1.out.below hb0)
  replace B2 := Lib.hid (B2.out.below hb0)
  have z3 := z1
  have z4 := z2
  unfold maxLen at z3 z4
  have c0 := HA.out.c0; have c1 := HA.out.c1; have c2 := HA.out.c2; have c3 := HA.out.c3; have c4 := HA.out.c4; have c5 := HA.out.c5
  skip
  refine (H0.out _).mono ?_
  rintro e w1 ⟨rfl, hb1⟩
  clear c0 c1 c2 c3 c4 c5
  replace B1 := Lib.hid (B1.out.below hb1)
  replace B2 := Lib.hid (B2.out.below hb1)
  replace HA := Lib.hid (HA.out.below hb1)
  have c0 := HA.out.c0; have c1 := HA.out.c1; have c2 := HA.out.c2; have c3 := HA.out.c3; have c4 := HA.out.c4; have c5 := HA.out.c5
  go_wp2_with fail
  refine (Gf.new_any w1).mono ?_
  rintro e w2 ⟨rfl, ht, hb2, _⟩
  clear c0 c1 c2 c3 c4 c5
  replace B1 := Lib.hid (B1.out.below hb2)
  replace B2 := Lib.hid (B2.out.below hb2)
  replace HA := Lib.hid (HA.out.below hb2)
  have HT := Lib.hid ht
  clear ht
  have c0 := HA.out.c0; have c1 := HA.out.c1; have c2 := HA.out.c2; have c3 := HA.out.c3; have c4 := HA.out.c4; have c5 := HA.out.c5
  go_wp2_with fail
  refine (H1.out _ _ HT.out B1.out B2.out).mono ?_
  rintro e w3 ⟨X, dX, rfl, _, _, _, hb3, _⟩
  clear c0 c1 c2 c3 c4 c5
  replace B1 := Lib.hid (B1.out.below hb3)
  replace B2 := Lib.hid (B2.out.below hb3)
  replace HT := Lib.hid (HT.out.below hb3)
  replace HA := Lib.hid (HA.out.below hb3)
  have c0 := HA.out.c0; have c1 := HA.out.c1; have c2 := HA.out.c2; have c3 := HA.out.c3; have c4 := HA.out.c4; have c5 := HA.out.c5
  go_wp2_with fail
  refine (H3.out _).mono ?_
  rintro e w4 ⟨rfl, hb4⟩
  clear c0 c1 c2 c3 c4 c5
  replace B1 := Lib.hid (B1.out.below hb4)
  replace B2 := Lib.hid (B2.out.below hb4)
  replace HT := Lib.hid (HT.out.below hb4)
  replace HA := Lib.hid (HA.out.below hb4)
  have c0 := HA.out.c0; have c1 := HA.out.c1; have c2 := HA.out.c2; have c3 := HA.out.c3; have c4 := HA.out.c4; have c5 := HA.out.c5
  go_wp2_with fail
  refine (H5.out _ _ HT.out B1.out B2.out).mono ?_
  rintro e w5 ⟨Y, dY, rfl, _, _, _, hb5, _⟩
  clear c0 c1 c2 c3 c4 c5
  replace B1 := Lib.hid (B1.out.below hb5)
  replace B2 := Lib.hid (B2.out.below hb5)
  replace HT := Lib.hid (HT.out.below hb5)
  replace HA := Lib.hid (HA.out.below hb5)
  have c0 := HA.out.c0; have c1 := HA.out.c1; have c2 := HA.out.c2; have c3 := HA.out.c3; have c4 := HA.out.c4; have c5 := HA.out.c5
  go_wp2_with fail
  refine (alive_any _).mono ?_
  rintro e w6 ⟨rfl, hb6⟩
  clear c0 c1 c2 c3 c4 c5
  replace B1 := Lib.hid (B1.out.below hb6)
  replace B2 := Lib.hid (B2.out.below hb6)
  replace HT := Lib.hid (HT.out.below hb6)
  replace HA := Lib.hid (HA.out.below hb6)
  go_wp2
  go_ret
  exact ⟨rfl, bstep hb0 (bstep hb1 (bstep hb2 (bstep hb3 (bstep hb4 (bstep hb5 (hb6))))))⟩
set_option maxHeartbeats 2000000 in
theorem shares_empty (N T L W S R : Int) (A1 A2 : Option Addr) (blob tape : List UInt8) (u1 u2 : Nat) (w : World) (hp : (⟨N, T, L, W, S, R⟩ : P).In) (h1 : BytesAt w A1 blob) (k1 : blob.length ≤ u1) (z1 : u1 ≤ maxLen) (h2 : BytesAt w A2 tape) (k2 : tape.length ≤ u2) (z2 : u2 ≤ maxLen) (hl : N ≤ 12 ∧ L ≤ 12 ∧ T ≤ 12) (hf : blob.length ≤ 250) (hg : tape.length ≤ 600) (hr : (⟨N, T, L, W, S, R⟩ : P).right = true) (hb : blob.length ≤ 240) (hc : (tape.length : Int) < cost ⟨N, T, L, W, S, R⟩ blob.length) :
    Calls Try.prog 3 #[.agg #[.int .i64 N, .int .i64 T, .int .i64 L, .int .i64 W, .int .i64 S, .int .i64 R], .slice A1 blob.length u1, .slice A2 tape.length u2] w fun e w' => e = .returned (.bool true) ∧ Below w.heap.size w w' := by
  have HA := Lib.hid (PlanLies.new w N T L W S R)
  have hb0 := balloc w (.cells #[.int .i64 N, .int .i64 T, .int .i64 L, .int .i64 W, .int .i64 S, .int .i64 R] 23)
  obtain ⟨q, hq⟩ : ∃ q : P, q = ⟨N, T, L, W, S, R⟩ := ⟨_, rfl⟩
  rw [← hq] at hp hr hc
  have hv : q.val = .agg #[.int .i64 N, .int .i64 T, .int .i64 L, .int .i64 W, .int .i64 S, .int .i64 R] := by rw [hq]; rfl
  have K0 := fun w => light_any N T L W S R w
  rw [decide_eq_true hl] at K0
  have K1 := fun b0 w (ht : Gf.Tab w b0) (h1 : BytesAt w A1 blob) (h2 : BytesAt w A2 tape) => Deal.deal_any b0 q A1 A2 blob tape u1 u2 w hp ht h1 k1 z1 h2 k2 z2 (by omega)
  have K2 := fun b0 i w (ht : Gf.Tab w b0) (h1 : BytesAt w A1 blob) (h2 : BytesAt w A2 tape) (hi : In64 i) => Deal.share_any b0 q A1 A2 blob tape u1 u2 i w hp ht h1 k1 z1 h2 k2 z2 (by omega) hi
  have K3 := fun w => R08.right_any q w hp
  have K4 := fun i w (hi : In64 i) => Deal.cost_any q i w hp hi
  have hM : q.May := of_decide_eq_true hr
  have hMM := hM
  unfold P.May at hMM
  have eN : q.N = N := by rw [hq]
  have eT : q.T = T := by rw [hq]
  have eL : q.L = L := by rw [hq]
  have eW : q.W = W := by rw [hq]
  have hi1 : q.is 1 = true := decide_eq_true ⟨by omega, by omega⟩
  have hE : dealE q blob tape = 12 := by unfold dealE; rw [hr, if_pos rfl, if_neg (by omega), if_pos hc]
  have hA : dealA q blob tape = [] := by unfold dealA; rw [hE]; rfl
  have hSE : shareE q blob tape 1 = 12 := by unfold shareE; rw [hr, if_pos rfl, hi1, if_pos rfl, hE]
  have hSA : shareA q blob tape 1 = [] := by unfold shareA; rw [hSE]; rfl
  have K5 := fun b0 w ht h1 h2 => K2 b0 1 w ht h1 h2 (by unfold In64; omega)
  rw [hE, hA] at K1
  rw [hSE, hSA] at K5
  rw [hr] at K3
  rw [hv] at K1 K3 K5
  have B1 := Lib.hid h1; have B2 := Lib.hid h2
  have K7 := fun w => R10.cost_any N T L W S R blob.length w (by omega) (by omega)
  rw [← hq] at K7
  generalize cost q blob.length = cs at *
  have q1 : decide ((tape.length : Int) < cs) = true := by simpa using hc
  have H0 := Lib.hid K0; have H1 := Lib.hid K1; have H3 := Lib.hid K3; have H5 := Lib.hid K5; have H7 := Lib.hid K7
  clear K0 K1 K3 K5 K7
  clear K2 K4 hE hA hSE hSA h1 h2 hv hq hM hMM eN eT eL eW hi1
  go_enter Try.func3, Try.ntmps3
  go_wp2_with fail
  generalize w.alloc (.cells #[.int .i64 N, .int .i64 T, .int .i64 L, .int .i64 W, .int .i64 S, .int .i64 R] 23) = w0 at *
  replace B1 := Lib.hid (B1.out.below hb0)
  replace B2 := Lib.hid (B2.out.below hb0)
  have z3 := z1
  have z4 := z2
  unfold maxLen at z3 z4
  have c0 := HA.out.c0; have c1 := HA.out.c1; have c2 := HA.out.c2; have c3 := HA.out.c3; have c4 := HA.out.c4; have c5 := HA.out.c5
  skip
  refine (H0.out _).mono ?_
  rintro e w1 ⟨rfl, hb1⟩
  clear c0 c1 c2 c3 c4 c5
  replace B1 := Lib.hid (B1.out.below hb1)
  replace B2 := Lib.hid (B2.out.below hb1)
  replace HA := Lib.hid (HA.out.below hb1)
  have c0 := HA.out.c0; have c1 := HA.out.c1; have c2 := HA.out.c2; have c3 := HA.out.c3; have c4 := HA.out.c4; have c5 := HA.out.c5
  go_wp2_with fail
  refine (Gf.new_any w1).mono ?_
  rintro e w2 ⟨rfl, ht, hb2, _⟩
  clear c0 c1 c2 c3 c4 c5
  replace B1 := Lib.hid (B1.out.below hb2)
  replace B2 := Lib.hid (B2.out.below hb2)
  replace HA := Lib.hid (HA.out.below hb2)
  have HT := Lib.hid ht
  clear ht
  have c0 := HA.out.c0; have c1 := HA.out.c1; have c2 := HA.out.c2; have c3 := HA.out.c3; have c4 := HA.out.c4; have c5 := HA.out.c5
  go_wp2_with fail
  refine (H1.out _ _ HT.out B1.out B2.out).mono ?_
  rintro e w3 ⟨X, dX, rfl, _, _, _, hb3, _⟩
  clear c0 c1 c2 c3 c4 c5
  replace B1 := Lib.hid (B1.out.below hb3)
  replace B2 := Lib.hid (B2.out.below hb3)
  replace HT := Lib.hid (HT.out.below hb3)
  replace HA := Lib.hid (HA.out.below hb3)
  have c0 := HA.out.c0; have c1 := HA.out.c1; have c2 := HA.out.c2; have c3 := HA.out.c3; have c4 := HA.out.c4; have c5 := HA.out.c5
  go_wp2_with fail
  refine (H3.out _).mono ?_
  rintro e w4 ⟨rfl, hb4⟩
  clear c0 c1 c2 c3 c4 c5
  replace B1 := Lib.hid (B1.out.below hb4)
  replace B2 := Lib.hid (B2.out.below hb4)
  replace HT := Lib.hid (HT.out.below hb4)
  replace HA := Lib.hid (HA.out.below hb4)
  have c0 := HA.out.c0; have c1 := HA.out.c1; have c2 := HA.out.c2; have c3 := HA.out.c3; have c4 := HA.out.c4; have c5 := HA.out.c5
  go_wp2_with fail
  refine (H7.out _).mono ?_
  rintro e w5 ⟨rfl, hb5⟩
  clear c0 c1 c2 c3 c4 c5
  replace B1 := Lib.hid (B1.out.below hb5)
  replace B2 := Lib.hid (B2.out.below hb5)
  replace HT := Lib.hid (HT.out.below hb5)
  replace HA := Lib.hid (HA.out.below hb5)
  have c0 := HA.out.c0; have c1 := HA.out.c1; have c2 := HA.out.c2; have c3 := HA.out.c3; have c4 := HA.out.c4; have c5 := HA.out.c5
  go_wp2_with fail
  refine (H5.out _ _ HT.out B1.out B2.out).mono ?_
  rintro e w6 ⟨Y, dY, rfl, _, _, _, hb6, _⟩
  clear c0 c1 c2 c3 c4 c5
  replace B1 := Lib.hid (B1.out.below hb6)
  replace B2 := Lib.hid (B2.out.below hb6)
  replace HT := Lib.hid (HT.out.below hb6)
  replace HA := Lib.hid (HA.out.below hb6)
  have c0 := HA.out.c0; have c1 := HA.out.c1; have c2 := HA.out.c2; have c3 := HA.out.c3; have c4 := HA.out.c4; have c5 := HA.out.c5
  go_wp2_with fail
  refine (alive_any _).mono ?_
  rintro e w7 ⟨rfl, hb7⟩
  clear c0 c1 c2 c3 c4 c5
  replace B1 := Lib.hid (B1.out.below hb7)
  replace B2 := Lib.hid (B2.out.below hb7)
  replace HT := Lib.hid (HT.out.below hb7)
  replace HA := Lib.hid (HA.out.below hb7)
  go_wp2
  go_ret
  exact ⟨rfl, bstep hb0 (bstep hb1 (bstep hb2 (bstep hb3 (bstep hb4 (bstep hb5 (bstep hb6 (hb7)))))))⟩
end Go.Proofs.Ytmeenipcfmeopaa.Law10
