/- the walks of layer 13's laws: the example, BlindShares -/
import Derived.Test.YtchcgiapjhmflaaR13
import Derived.Test.YtchcgiapjhmflaaR01
import Derived.Test.YtchcgiapjhmflaaBlind
import Derived.Test.YtchcgiapjhmflaaMO
set_option maxRecDepth 100000
namespace Go.Proofs.Ytchcgiapjhmflaa.Law13
open Go.RowKit PlanM StripeM LagrM DealM RebM ZeroM Law08 Law10

def three : PlanM.P := ⟨3, 1, 1, 2, 9, 1⟩
theorem three_in : three.In := by unfold three; constructor <;> (unfold In64; simp)
theorem three_val : three.val = .agg #[.int .i64 3, .int .i64 1, .int .i64 1, .int .i64 2, .int .i64 9, .int .i64 1] := rfl
theorem three_blind : blindA three 1 3 [5] = [[10], [15], [0]] ∧ blindE three 1 3 [5] = 0 ∧ bcost three 4 = 4 := by decide +kernel
structure Lies2 (w : World) (g : Nat) (N T L W S R : Int) (p0 p1 : Value) : Prop where
  plan : PlanLies w g N T L W S R
  a0 : w.cell? ⟨g + 1, 0, none⟩ = some p0
  a1 : w.cell? ⟨g + 1, 1, none⟩ = some p1
theorem Lies2.below {w w' : World} {g : Nat} {N T L W S R : Int} {p0 p1 : Value} (h : Lies2 w g N T L W S R p0 p1) (hb : Below w.heap.size w w') : Lies2 w' g N T L W S R p0 p1 :=
  ⟨h.plan.below hb, (hb.cell (p := ⟨g + 1, 0, none⟩) (cell_lt h.a0)).trans h.a0, (hb.cell (p := ⟨g + 1, 1, none⟩) (cell_lt h.a1)).trans h.a1⟩
theorem lies2_aux (w : World) (g : Nat) (hg : w.heap.size = g + 1) (N T L W S R : Int) (p0 p1 : Value) (t : TypeId) (h : PlanLies w g N T L W S R) : Lies2 (w.alloc (.cells #[p0, p1] t)) g N T L W S R p0 p1 := by
  have a0 : (w.alloc (.cells #[p0, p1] t)).cell? ⟨w.heap.size, 0, none⟩ = some p0 := by simp
  have a1 : (w.alloc (.cells #[p0, p1] t)).cell? ⟨w.heap.size, 1, none⟩ = some p1 := by simp
  rw [hg] at a0 a1
  exact ⟨h.below (balloc _ _), a0, a1⟩
theorem Lies2.new (w : World) (N T L W S R : Int) (p0 p1 : Value) (t : TypeId) : Lies2 ((w.alloc (.cells #[.int .i64 N, .int .i64 T, .int .i64 L, .int .i64 W, .int .i64 S, .int .i64 R] 23)).alloc (.cells #[p0, p1] t)) w.heap.size N T L W S R p0 p1 :=
  lies2_aux (w.alloc (.cells #[.int .i64 N, .int .i64 T, .int .i64 L, .int .i64 W, .int .i64 S, .int .i64 R] 23)) w.heap.size (by simp) N T L W S R p0 p1 t (PlanLies.new w N T L W S R)
def SP.rE (m : List (List UInt8)) (n : Nat) (r : Int) : Drawn.SP := ⟨fun v w => ∃ X d, v = .tuple #[.slice X n d, .int .i64 r] ∧ n ≤ d ∧ d ≤ maxLen ∧ RowsAt w X m, fun _ _ _ h hb => by
  obtain ⟨X, d, h1, h2, h3, h4⟩ := h; exact ⟨X, d, h1, h2, h3, h4.below hb⟩⟩
def SP.rn (m : List (List UInt8)) (n : Nat) : Drawn.SP := ⟨fun v w => ∃ X d, v = .slice X n d ∧ n ≤ d ∧ d ≤ maxLen ∧ RowsAt w X m, fun _ _ _ h hb => by
  obtain ⟨X, d, h1, h2, h3, h4⟩ := h; exact ⟨X, d, h1, h2, h3, h4.below hb⟩⟩
def SP.bn (l : List UInt8) (n : Nat) : Drawn.SP := ⟨fun v w => ∃ X d, v = .slice X n d ∧ BytesAt w X l, fun _ _ _ h hb => by
  obtain ⟨X, d, h1, h2⟩ := h; exact ⟨X, d, h1, h2.below hb⟩⟩

set_option maxHeartbeats 2000000 in
theorem alive_any (w : World) : Calls Try.prog 6 #[] w fun e w' => e = .returned (.bool true) ∧ Below w.heap.size w w' := by
  obtain ⟨e1, e2, e3⟩ := three_blind
  have K1 := fun b0 A c W ht h1 k1 z1 => Blind.blind_any b0 three 1 3 A [5] c W three_in (by unfold In64; omega) (by unfold In64; omega) ht h1 k1 z1
  have K2 := fun W => Blind.cost_any three 4 W three_in (by unfold In64; omega)
  rw [e1, e2, three_val] at K1
  rw [e3, three_val] at K2
  have H1 := Lib.hid K1; have H2 := Lib.hid K2
  have HM : Hid (1 ≤ maxLen) := Lib.hid (by unfold maxLen; omega)
  clear K1 K2 e1 e2 e3
  go_enter Try.func6, Try.ntmps6
  go_wp2_with fail
  have HA := Lib.hid (PlanLies.new w 3 1 1 2 9 1)
  have HB0 := Lib.hid (balloc w (.cells #[.int .i64 3, .int .i64 1, .int .i64 1, .int .i64 2, .int .i64 9, .int .i64 1] 23))
  generalize w.alloc (.cells #[.int .i64 3, .int .i64 1, .int .i64 1, .int .i64 2, .int .i64 9, .int .i64 1] 23) = w0 at *
  refine Drawn.wp_region_flowL 9 [Drawn.SP.tab, Drawn.SP.is (.agg #[.int .i64 3, .int .i64 1, .int .i64 1, .int .i64 2, .int .i64 9, .int .i64 1]), Drawn.SP.bytes [5], SP.rE [[10], [15], [0]] 3 0, SP.rE [[10], [15], [0]] 3 0, SP.rn [[10], [15], [0]] 3, Drawn.SP.is (.int .i64 0), SP.rn [[10], [15], [0]] 3, Drawn.SP.is (.int .i64 0)] (by kernel_rfl) (by kernel_rfl) ?_ ?_
  · intro i hi a wq hb hev hdep
    rcases (show i = 0 ∨ i = 1 ∨ i = 2 ∨ i = 3 ∨ i = 4 ∨ i = 5 ∨ i = 6 ∨ i = 7 ∨ i = 8 by omega) with rfl | rfl | rfl | rfl | rfl | rfl | rfl | rfl | rfl
    · refine Drawn.wpOp_flow 6 rfl rfl rfl ?_
      clear hev hdep
      clear hb
      go_simp
      refine (Gf.new_any wq).mono ?_
      rintro e w' ⟨rfl, ht, hb', _⟩
      exact ⟨_, rfl, ⟨_, rfl, ht⟩, hb'⟩
    · have e1 : a.tmps[1]?.getD undef = .pointer (some ⟨w.heap.size, 0, none⟩) := hev 1 rfl
      refine Drawn.wpOp_flow 7 rfl rfl rfl ?_
      obtain ⟨c0, c1, c2, c3, c4, c5⟩ := six (HA.out.below hb)
      clear hev hdep hb
      go_simp
      exact ⟨_, rfl, rfl, Below.refl _ _⟩
    · refine Drawn.wpOp_flow 8 rfl rfl rfl ?_
      clear hev hdep
      clear hb
      go_simp
      exact ⟨_, rfl, ⟨_, _, rfl, by decide, by unfold maxLen; decide, (Row.new wq [5]).bytes⟩, balloc _ _⟩
    · obtain ⟨bf, d0, ht⟩ : (Drawn.SP.tab).p (a.tmps[6]?.getD undef) wq := hdep 0 rfl
      have d1 : a.tmps[7]?.getD undef = .agg #[.int .i64 3, .int .i64 1, .int .i64 1, .int .i64 2, .int .i64 9, .int .i64 1] := hdep 1 rfl
      obtain ⟨B5, c5x, d2, h5a, h5b, h5⟩ : (Drawn.SP.bytes [5]).p (a.tmps[8]?.getD undef) wq := hdep 2 rfl
      refine Drawn.wpOp_flow 9 rfl rfl rfl ?_
      clear hev hdep
      have C := H1.out bf B5 c5x wq ht h5 h5a h5b
      clear hb h5 h5a h5b ht
      go_simp
      refine C.mono ?_
      rintro e w' ⟨X, f, rfl, g1, g2, g3, hb', _⟩
      exact ⟨_, rfl, ⟨X, f, rfl, g1, g2, g3⟩, hb'⟩
    · have d3 := hdep 3 rfl
      refine Drawn.wpOp_flow 5 rfl rfl rfl ?_
      clear hev hdep hb
      go_simp
      exact ⟨_, rfl, d3, Below.refl _ _⟩
    · obtain ⟨Z, cz, d4, hza, hzb, hz⟩ : (SP.rE [[10], [15], [0]] 3 0).p (a.tmps[5]?.getD undef) wq := hdep 4 rfl
      refine Drawn.wpOp_flow 10 rfl rfl rfl ?_
      clear hev hdep
      clear hb
      go_simp
      exact ⟨_, rfl, ⟨Z, cz, rfl, hza, hzb, hz⟩, Below.refl _ _⟩
    · obtain ⟨Z, cz, d4, hza, hzb, hz⟩ : (SP.rE [[10], [15], [0]] 3 0).p (a.tmps[5]?.getD undef) wq := hdep 4 rfl
      refine Drawn.wpOp_flow 11 rfl rfl rfl ?_
      clear hev hdep hb
      go_simp
      exact ⟨_, rfl, rfl, Below.refl _ _⟩
    · have d5 := hdep 5 rfl
      refine Drawn.wpOp_flow 2 rfl rfl rfl ?_
      clear hev hdep hb
      go_simp
      exact ⟨_, rfl, d5, Below.refl _ _⟩
    · have d6 : a.tmps[11]?.getD undef = .int .i64 0 := hdep 6 rfl
      refine Drawn.wpOp_flow 3 rfl rfl rfl ?_
      clear hev hdep hb
      go_simp
      exact ⟨_, rfl, rfl, Below.refl _ _⟩
  · intro xq wq hb hxq
    have vq1 : xq 1 = .agg #[.int .i64 3, .int .i64 1, .int .i64 1, .int .i64 2, .int .i64 9, .int .i64 1] := hxq 1 (by omega)
    have vq6 : xq 6 = .int .i64 0 := hxq 6 (by omega)
    obtain ⟨Z, cz, vq7, hza, hzb, hz⟩ : (SP.rn [[10], [15], [0]] 3).p (xq 7) wq := hxq 7 (by omega)
    have vq8 : xq 8 = .int .i64 0 := hxq 8 (by omega)
    show Exit.then _ _ Exit.normal (Drawn.acts _ [(3, some (xq 8)), (2, some (xq 7)), (11, some (xq 6)), (10, some (xq 5)), (5, some (xq 4)), (9, some (xq 3)), (8, some (xq 2)), (7, some (xq 1)), (6, some (xq 0))]) _
    rw [vq1, vq6, vq7, vq8]
    clear hxq vq1 vq6 vq7 vq8
    generalize xq 0 = yq0
    generalize xq 2 = yq2
    generalize xq 3 = yq3
    generalize xq 4 = yq4
    generalize xq 5 = yq5
    clear xq
    simp only [Drawn.acts]
    go_simp
    have HB1 := Lib.hid (bstep HB0.out hb)
    have HA1 := Lib.hid (HA.out.below hb)
    obtain ⟨b1, o1, B1, d1, rfl, f1, g1, g1', hB1⟩ := hz.row (i := 0) (by decide)
    obtain ⟨b2, o2, B2, d2, e2, f2, g2, g2', hB2⟩ := hz.row (i := 1) (by decide)
    obtain ⟨b3, o3, B3, d3, e3, f3, g3, g3', hB3⟩ := hz.row (i := 2) (by decide)
    obtain ⟨rfl, rfl⟩ : b1 = b2 ∧ o1 = o2 := by injection e2 with e; injection e with h1 h2; exact ⟨h1, h2⟩
    obtain ⟨rfl, rfl⟩ : b1 = b3 ∧ o1 = o3 := by injection e3 with e; injection e with h1 h2; exact ⟨h1, h2⟩
    have HQ1 := Lib.hid hB1; have HQ2 := Lib.hid hB2; have HQ3 := Lib.hid hB3
    have l1 : b1 < wq.heap.size := cell_lt f1
    have k1 : wq.cell? ⟨b1, o1, none⟩ = some (.slice B1 1 d1) := f1
    have k2 : wq.cell? ⟨b1, o1 + 1, none⟩ = some (.slice B2 1 d2) := f2
    have k3 : wq.cell? ⟨b1, o1 + 2, none⟩ = some (.slice B3 1 d3) := f3
    have HF1 := Lib.hid k1; have HF2 := Lib.hid k2; have HF3 := Lib.hid k3
    have hbb := Below.refl wq.heap.size wq
    clear hz hb e2 e3 hB1 hB2 hB3 HB0 HA f1 f2 f3 g1 g1' g2 g2' g3 g3' hza hzb
    go_at_K
    go_wp2_with fail
    have C := R01.same_any B1 (some ⟨wq.heap.size, 0, none⟩) [10] [10] d1 1 (wq.alloc (.cells (cells [10]) 5)) ((HQ1.out.below hbb).alloc _) (Row.new _ _).bytes HM.out HM.out
    rw [same_self] at C
    refine C.mono ?_
    clear C
    rintro e w2 ⟨rfl, hq⟩
    replace hbb : Below wq.heap.size wq w2 := bstep hbb (bstep (balloc _ _) (bquiet hq))
    clear hq k1 k2 k3
    have k1 := (hbb.cell (p := ⟨b1, o1, none⟩) l1).trans HF1.out
    have k2 := (hbb.cell (p := ⟨b1, o1 + 1, none⟩) l1).trans HF2.out
    have k3 := (hbb.cell (p := ⟨b1, o1 + 2, none⟩) l1).trans HF3.out
    go_wp2_with fail
    have C := R01.same_any B2 (some ⟨w2.heap.size, 0, none⟩) [15] [15] d2 1 (w2.alloc (.cells (cells [15]) 5)) ((HQ2.out.below hbb).alloc _) (Row.new _ _).bytes HM.out HM.out
    rw [same_self] at C
    refine C.mono ?_
    clear C
    rintro e w3 ⟨rfl, hq⟩
    replace hbb : Below wq.heap.size wq w3 := bstep hbb (bstep (balloc _ _) (bquiet hq))
    clear hq k1 k2 k3
    have k1 := (hbb.cell (p := ⟨b1, o1, none⟩) l1).trans HF1.out
    have k2 := (hbb.cell (p := ⟨b1, o1 + 1, none⟩) l1).trans HF2.out
    have k3 := (hbb.cell (p := ⟨b1, o1 + 2, none⟩) l1).trans HF3.out
    go_wp2_with fail
    have C := R01.same_any B3 (some ⟨w3.heap.size, 0, none⟩) [0] [0] d3 1 (w3.alloc (.cells (cells [0]) 5)) ((HQ3.out.below hbb).alloc _) (Row.new _ _).bytes HM.out HM.out
    rw [same_self] at C
    refine C.mono ?_
    clear C
    rintro e w4 ⟨rfl, hq⟩
    replace hbb : Below wq.heap.size wq w4 := bstep hbb (bstep (balloc _ _) (bquiet hq))
    clear hq k1 k2 k3
    have k1 := (hbb.cell (p := ⟨b1, o1, none⟩) l1).trans HF1.out
    have k2 := (hbb.cell (p := ⟨b1, o1 + 1, none⟩) l1).trans HF2.out
    have k3 := (hbb.cell (p := ⟨b1, o1 + 2, none⟩) l1).trans HF3.out
    obtain ⟨c0, c1, c2, c3, c4, c5⟩ := six (HA1.out.below hbb)
    go_wp2_with fail
    refine (H2.out w4).mono ?_
    rintro e w5 ⟨rfl, hb5⟩
    clear c0 c1 c2 c3 c4 c5 k1 k2 k3
    go_wp2
    go_ret
    exact ⟨rfl, bstep HB1.out (bstep hbb hb5)⟩

set_option maxHeartbeats 1000000 in
theorem bs_heavy (N T L W S R n t : Int) (A : Option Addr) (tape : List UInt8) (u : Nat) (w : World) (_hp : (⟨N, T, L, W, S, R⟩ : P).In) (_hn : In64 n) (_ht0 : In64 t) (hl : ¬ (N ≤ 12 ∧ L ≤ 12 ∧ T ≤ 12)) :
    Calls Try.prog 3 #[.agg #[.int .i64 N, .int .i64 T, .int .i64 L, .int .i64 W, .int .i64 S, .int .i64 R], .agg #[.int .i64 n, .int .i64 t], .slice A tape.length u] w fun e w' => e = .returned (.bool true) ∧ Below w.heap.size w w' := by
  have K0 := fun w => Law10.light_any N T L W S R w
  rw [decide_eq_false hl] at K0
  have H0 := Lib.hid K0
  clear K0 hl _hp _hn _ht0
  have HA := Lib.hid (Lies2.new w N T L W S R (.int .i64 n) (.int .i64 t) 24)
  have HB0 := Lib.hid (show Below w.heap.size w ((w.alloc (.cells #[.int .i64 N, .int .i64 T, .int .i64 L, .int .i64 W, .int .i64 S, .int .i64 R] 23)).alloc (.cells #[.int .i64 n, .int .i64 t] 24)) from bstep (balloc _ _) (balloc _ _))
  go_enter Try.func3, Try.ntmps3
  go_wp2_with fail
  generalize (w.alloc (.cells #[.int .i64 N, .int .i64 T, .int .i64 L, .int .i64 W, .int .i64 S, .int .i64 R] 23)).alloc (.cells #[.int .i64 n, .int .i64 t] 24) = w0 at *
  refine Drawn.wp_region_flowL 6 [Drawn.SP.is (.pointer (some ⟨w.heap.size + 1, 0, none⟩)), Drawn.SP.is (.int .i64 n), Drawn.SP.is (.pointer (some ⟨w.heap.size + 1, 1, none⟩)), Drawn.SP.is (.int .i64 t), Drawn.SP.is (.int .i64 n), Drawn.SP.is (.int .i64 t)] (by kernel_rfl) (by kernel_rfl) ?_ ?_
  · intro i hi a wa hb hev hdep
    rcases (show i = 0 ∨ i = 1 ∨ i = 2 ∨ i = 3 ∨ i = 4 ∨ i = 5 by omega) with rfl | rfl | rfl | rfl | rfl | rfl
    · have e4 : a.tmps[4]?.getD undef = .pointer (some ⟨w.heap.size + 1, 0, none⟩) := hev 4 rfl
      refine Drawn.wpOp_flow 16 rfl rfl rfl ?_
      clear hev hdep hb
      go_simp
      exact ⟨_, rfl, rfl, Below.refl _ _⟩
    · have d0 : a.tmps[16]?.getD undef = .pointer (some ⟨w.heap.size + 1, 0, none⟩) := hdep 0 rfl
      refine Drawn.wpOp_flow 17 rfl rfl rfl ?_
      have a0 := (HA.out.below hb).a0
      have a1 := (HA.out.below hb).a1
      clear hev hdep hb
      go_simp
      exact ⟨_, rfl, rfl, Below.refl _ _⟩
    · have e4 : a.tmps[4]?.getD undef = .pointer (some ⟨w.heap.size + 1, 0, none⟩) := hev 4 rfl
      refine Drawn.wpOp_flow 18 rfl rfl rfl ?_
      clear hev hdep hb
      go_simp
      exact ⟨_, rfl, rfl, Below.refl _ _⟩
    · have d2 : a.tmps[18]?.getD undef = .pointer (some ⟨w.heap.size + 1, 1, none⟩) := hdep 2 rfl
      refine Drawn.wpOp_flow 19 rfl rfl rfl ?_
      have a0 := (HA.out.below hb).a0
      have a1 := (HA.out.below hb).a1
      clear hev hdep hb
      go_simp
      exact ⟨_, rfl, rfl, Below.refl _ _⟩
    · have d1 : a.tmps[17]?.getD undef = .int .i64 n := hdep 1 rfl
      refine Drawn.wpOp_flow 7 rfl rfl rfl ?_
      clear hev hdep hb
      go_simp
      exact ⟨_, rfl, rfl, Below.refl _ _⟩
    · have d3 : a.tmps[19]?.getD undef = .int .i64 t := hdep 3 rfl
      refine Drawn.wpOp_flow 8 rfl rfl rfl ?_
      clear hev hdep hb
      go_simp
      exact ⟨_, rfl, rfl, Below.refl _ _⟩
  · intro xq wa hb hxq
    have vq0 : xq 0 = .pointer (some ⟨w.heap.size + 1, 0, none⟩) := hxq 0 (by omega)
    have vq1 : xq 1 = .int .i64 n := hxq 1 (by omega)
    have vq2 : xq 2 = .pointer (some ⟨w.heap.size + 1, 1, none⟩) := hxq 2 (by omega)
    have vq3 : xq 3 = .int .i64 t := hxq 3 (by omega)
    have vq4 : xq 4 = .int .i64 n := hxq 4 (by omega)
    have vq5 : xq 5 = .int .i64 t := hxq 5 (by omega)
    show Exit.then _ _ Exit.normal (Drawn.acts _ [(8, some (xq 5)), (7, some (xq 4)), (19, some (xq 3)), (18, some (xq 2)), (17, some (xq 1)), (16, some (xq 0))]) _
    rw [vq0, vq1, vq2, vq3, vq4, vq5]
    clear hxq vq0 vq1 vq2 vq3 vq4 vq5
    clear xq
    simp only [Drawn.acts]
    go_simp
    have hba := hb
    clear hb
    obtain ⟨c0, c1, c2, c3, c4, c5⟩ := six (HA.out.below hba).plan
    go_at_K
    go_wp2_with fail
    refine (H0.out _).mono ?_
    rintro e w1 ⟨rfl, hb1⟩
    have HB1 := Lib.hid (bstep HB0.out (bstep hba hb1))
    have HA1 := Lib.hid (HA.out.below (bstep hba hb1)).plan
    clear hb1 hba HB0 HA c0 c1 c2 c3 c4 c5
    go_wp2_with fail
    refine (alive_any _).mono ?_
    rintro e wz ⟨rfl, hbz⟩
    go_wp2
    go_ret
    exact ⟨rfl, bstep HB1.out hbz⟩

set_option maxHeartbeats 1000000 in
theorem bs_long (N T L W S R n t : Int) (A : Option Addr) (tape : List UInt8) (u : Nat) (w : World) (_hp : (⟨N, T, L, W, S, R⟩ : P).In) (_hn : In64 n) (_ht0 : In64 t) (hl : N ≤ 12 ∧ L ≤ 12 ∧ T ≤ 12) (h9 : 900 < tape.length) :
    Calls Try.prog 3 #[.agg #[.int .i64 N, .int .i64 T, .int .i64 L, .int .i64 W, .int .i64 S, .int .i64 R], .agg #[.int .i64 n, .int .i64 t], .slice A tape.length u] w fun e w' => e = .returned (.bool true) ∧ Below w.heap.size w w' := by
  have K0 := fun w => Law10.light_any N T L W S R w
  rw [decide_eq_true hl] at K0
  have H0 := Lib.hid K0
  clear K0 hl _hp _hn _ht0
  have HA := Lib.hid (Lies2.new w N T L W S R (.int .i64 n) (.int .i64 t) 24)
  have HB0 := Lib.hid (show Below w.heap.size w ((w.alloc (.cells #[.int .i64 N, .int .i64 T, .int .i64 L, .int .i64 W, .int .i64 S, .int .i64 R] 23)).alloc (.cells #[.int .i64 n, .int .i64 t] 24)) from bstep (balloc _ _) (balloc _ _))
  go_enter Try.func3, Try.ntmps3
  go_wp2_with fail
  generalize (w.alloc (.cells #[.int .i64 N, .int .i64 T, .int .i64 L, .int .i64 W, .int .i64 S, .int .i64 R] 23)).alloc (.cells #[.int .i64 n, .int .i64 t] 24) = w0 at *
  refine Drawn.wp_region_flowL 6 [Drawn.SP.is (.pointer (some ⟨w.heap.size + 1, 0, none⟩)), Drawn.SP.is (.int .i64 n), Drawn.SP.is (.pointer (some ⟨w.heap.size + 1, 1, none⟩)), Drawn.SP.is (.int .i64 t), Drawn.SP.is (.int .i64 n), Drawn.SP.is (.int .i64 t)] (by kernel_rfl) (by kernel_rfl) ?_ ?_
  · intro i hi a wa hb hev hdep
    rcases (show i = 0 ∨ i = 1 ∨ i = 2 ∨ i = 3 ∨ i = 4 ∨ i = 5 by omega) with rfl | rfl | rfl | rfl | rfl | rfl
    · have e4 : a.tmps[4]?.getD undef = .pointer (some ⟨w.heap.size + 1, 0, none⟩) := hev 4 rfl
      refine Drawn.wpOp_flow 16 rfl rfl rfl ?_
      clear hev hdep hb
      go_simp
      exact ⟨_, rfl, rfl, Below.refl _ _⟩
    · have d0 : a.tmps[16]?.getD undef = .pointer (some ⟨w.heap.size + 1, 0, none⟩) := hdep 0 rfl
      refine Drawn.wpOp_flow 17 rfl rfl rfl ?_
      have a0 := (HA.out.below hb).a0
      have a1 := (HA.out.below hb).a1
      clear hev hdep hb
      go_simp
      exact ⟨_, rfl, rfl, Below.refl _ _⟩
    · have e4 : a.tmps[4]?.getD undef = .pointer (some ⟨w.heap.size + 1, 0, none⟩) := hev 4 rfl
      refine Drawn.wpOp_flow 18 rfl rfl rfl ?_
      clear hev hdep hb
      go_simp
      exact ⟨_, rfl, rfl, Below.refl _ _⟩
    · have d2 : a.tmps[18]?.getD undef = .pointer (some ⟨w.heap.size + 1, 1, none⟩) := hdep 2 rfl
      refine Drawn.wpOp_flow 19 rfl rfl rfl ?_
      have a0 := (HA.out.below hb).a0
      have a1 := (HA.out.below hb).a1
      clear hev hdep hb
      go_simp
      exact ⟨_, rfl, rfl, Below.refl _ _⟩
    · have d1 : a.tmps[17]?.getD undef = .int .i64 n := hdep 1 rfl
      refine Drawn.wpOp_flow 7 rfl rfl rfl ?_
      clear hev hdep hb
      go_simp
      exact ⟨_, rfl, rfl, Below.refl _ _⟩
    · have d3 : a.tmps[19]?.getD undef = .int .i64 t := hdep 3 rfl
      refine Drawn.wpOp_flow 8 rfl rfl rfl ?_
      clear hev hdep hb
      go_simp
      exact ⟨_, rfl, rfl, Below.refl _ _⟩
  · intro xq wa hb hxq
    have vq0 : xq 0 = .pointer (some ⟨w.heap.size + 1, 0, none⟩) := hxq 0 (by omega)
    have vq1 : xq 1 = .int .i64 n := hxq 1 (by omega)
    have vq2 : xq 2 = .pointer (some ⟨w.heap.size + 1, 1, none⟩) := hxq 2 (by omega)
    have vq3 : xq 3 = .int .i64 t := hxq 3 (by omega)
    have vq4 : xq 4 = .int .i64 n := hxq 4 (by omega)
    have vq5 : xq 5 = .int .i64 t := hxq 5 (by omega)
    show Exit.then _ _ Exit.normal (Drawn.acts _ [(8, some (xq 5)), (7, some (xq 4)), (19, some (xq 3)), (18, some (xq 2)), (17, some (xq 1)), (16, some (xq 0))]) _
    rw [vq0, vq1, vq2, vq3, vq4, vq5]
    clear hxq vq0 vq1 vq2 vq3 vq4 vq5
    clear xq
    simp only [Drawn.acts]
    go_simp
    have hba := hb
    clear hb
    obtain ⟨c0, c1, c2, c3, c4, c5⟩ := six (HA.out.below hba).plan
    go_at_K
    go_wp2_with fail
    refine (H0.out _).mono ?_
    rintro e w1 ⟨rfl, hb1⟩
    have HB1 := Lib.hid (bstep HB0.out (bstep hba hb1))
    have HA1 := Lib.hid (HA.out.below (bstep hba hb1)).plan
    clear hb1 hba HB0 HA c0 c1 c2 c3 c4 c5
    go_wp2_with fail
    refine (alive_any _).mono ?_
    rintro e wz ⟨rfl, hbz⟩
    go_wp2
    go_ret
    exact ⟨rfl, bstep HB1.out hbz⟩

set_option maxHeartbeats 2000000 in
theorem bs_bad (N T L W S R n t : Int) (A : Option Addr) (tape : List UInt8) (u : Nat) (w : World) (hp : (⟨N, T, L, W, S, R⟩ : P).In) (hn : In64 n) (ht0 : In64 t) (h : BytesAt w A tape) (k : tape.length ≤ u) (z : u ≤ maxLen) (hl : N ≤ 12 ∧ L ≤ 12 ∧ T ≤ 12) (h9 : tape.length ≤ 900) (hr : bcheck ⟨N, T, L, W, S, R⟩ n t ≠ 0) :
    Calls Try.prog 3 #[.agg #[.int .i64 N, .int .i64 T, .int .i64 L, .int .i64 W, .int .i64 S, .int .i64 R], .agg #[.int .i64 n, .int .i64 t], .slice A tape.length u] w fun e w' => e = .returned (.bool true) ∧ Below w.heap.size w w' := by
  have K0 := fun w => Law10.light_any N T L W S R w
  rw [decide_eq_true hl] at K0
  obtain ⟨q, hq⟩ : ∃ q : P, q = ⟨N, T, L, W, S, R⟩ := ⟨_, rfl⟩
  rw [← hq] at hp hr
  have hv : q.val = .agg #[.int .i64 N, .int .i64 T, .int .i64 L, .int .i64 W, .int .i64 S, .int .i64 R] := by rw [hq]; rfl
  have K1 := fun b0 V (ht : Gf.Tab V b0) (h : BytesAt V A tape) => Blind.blind_any b0 q n t A tape u V hp hn ht0 ht h k z
  have K2 := fun V => R13.check_any N T L W S R n t V (by rw [← hq]; exact hp)
  rw [← hq] at K2
  rw [hv] at K1
  have hz : blindE q n t tape = bcheck q n t := by unfold blindE; rw [if_neg hr]
  have ha : blindA q n t tape = [] := by unfold blindA; rw [hz, if_neg hr]
  rw [hz, ha] at K1
  obtain ⟨rs, hrs⟩ : ∃ rs : List (List UInt8), rs = [] := ⟨_, rfl⟩
  unfold Stripe.RetRowsE at K1
  simp only [List.length_nil] at K1
  rw [← hrs] at K1
  generalize bcheck q n t = r at *
  have hne : (r != 0) = true := by rw [bne_iff_ne]; exact hr
  have hee : (r == r) = true := by simp
  have he0 : (r == 0) = false := by rw [beq_eq_false_iff_ne]; exact hr
  have H0 := Lib.hid K0; have H1 := Lib.hid K1; have H2 := Lib.hid K2; have BT := Lib.hid h
  obtain ⟨tl, htl⟩ : ∃ tl, tl = tape.length := ⟨_, rfl⟩
  rw [← htl] at H1 k h9 ⊢
  clear K0 K1 K2 hl hp hn ht0 hr hq hv hrs htl h hz ha
  have HA := Lib.hid (Lies2.new w N T L W S R (.int .i64 n) (.int .i64 t) 24)
  have HB0 := Lib.hid (show Below w.heap.size w ((w.alloc (.cells #[.int .i64 N, .int .i64 T, .int .i64 L, .int .i64 W, .int .i64 S, .int .i64 R] 23)).alloc (.cells #[.int .i64 n, .int .i64 t] 24)) from bstep (balloc _ _) (balloc _ _))
  go_enter Try.func3, Try.ntmps3
  go_wp2_with fail
  generalize (w.alloc (.cells #[.int .i64 N, .int .i64 T, .int .i64 L, .int .i64 W, .int .i64 S, .int .i64 R] 23)).alloc (.cells #[.int .i64 n, .int .i64 t] 24) = w0 at *
  refine Drawn.wp_region_flowL 6 [Drawn.SP.is (.pointer (some ⟨w.heap.size + 1, 0, none⟩)), Drawn.SP.is (.int .i64 n), Drawn.SP.is (.pointer (some ⟨w.heap.size + 1, 1, none⟩)), Drawn.SP.is (.int .i64 t), Drawn.SP.is (.int .i64 n), Drawn.SP.is (.int .i64 t)] (by kernel_rfl) (by kernel_rfl) ?_ ?_
  · intro i hi a wa hb hev hdep
    rcases (show i = 0 ∨ i = 1 ∨ i = 2 ∨ i = 3 ∨ i = 4 ∨ i = 5 by omega) with rfl | rfl | rfl | rfl | rfl | rfl
    · have e4 : a.tmps[4]?.getD undef = .pointer (some ⟨w.heap.size + 1, 0, none⟩) := hev 4 rfl
      refine Drawn.wpOp_flow 16 rfl rfl rfl ?_
      clear hev hdep hb
      go_simp
      exact ⟨_, rfl, rfl, Below.refl _ _⟩
    · have d0 : a.tmps[16]?.getD undef = .pointer (some ⟨w.heap.size + 1, 0, none⟩) := hdep 0 rfl
      refine Drawn.wpOp_flow 17 rfl rfl rfl ?_
      have a0 := (HA.out.below hb).a0
      have a1 := (HA.out.below hb).a1
      clear hev hdep hb
      go_simp
      exact ⟨_, rfl, rfl, Below.refl _ _⟩
    · have e4 : a.tmps[4]?.getD undef = .pointer (some ⟨w.heap.size + 1, 0, none⟩) := hev 4 rfl
      refine Drawn.wpOp_flow 18 rfl rfl rfl ?_
      clear hev hdep hb
      go_simp
      exact ⟨_, rfl, rfl, Below.refl _ _⟩
    · have d2 : a.tmps[18]?.getD undef = .pointer (some ⟨w.heap.size + 1, 1, none⟩) := hdep 2 rfl
      refine Drawn.wpOp_flow 19 rfl rfl rfl ?_
      have a0 := (HA.out.below hb).a0
      have a1 := (HA.out.below hb).a1
      clear hev hdep hb
      go_simp
      exact ⟨_, rfl, rfl, Below.refl _ _⟩
    · have d1 : a.tmps[17]?.getD undef = .int .i64 n := hdep 1 rfl
      refine Drawn.wpOp_flow 7 rfl rfl rfl ?_
      clear hev hdep hb
      go_simp
      exact ⟨_, rfl, rfl, Below.refl _ _⟩
    · have d3 : a.tmps[19]?.getD undef = .int .i64 t := hdep 3 rfl
      refine Drawn.wpOp_flow 8 rfl rfl rfl ?_
      clear hev hdep hb
      go_simp
      exact ⟨_, rfl, rfl, Below.refl _ _⟩
  · intro xq wa hb hxq
    have vq0 : xq 0 = .pointer (some ⟨w.heap.size + 1, 0, none⟩) := hxq 0 (by omega)
    have vq1 : xq 1 = .int .i64 n := hxq 1 (by omega)
    have vq2 : xq 2 = .pointer (some ⟨w.heap.size + 1, 1, none⟩) := hxq 2 (by omega)
    have vq3 : xq 3 = .int .i64 t := hxq 3 (by omega)
    have vq4 : xq 4 = .int .i64 n := hxq 4 (by omega)
    have vq5 : xq 5 = .int .i64 t := hxq 5 (by omega)
    show Exit.then _ _ Exit.normal (Drawn.acts _ [(8, some (xq 5)), (7, some (xq 4)), (19, some (xq 3)), (18, some (xq 2)), (17, some (xq 1)), (16, some (xq 0))]) _
    rw [vq0, vq1, vq2, vq3, vq4, vq5]
    clear hxq vq0 vq1 vq2 vq3 vq4 vq5
    clear xq
    simp only [Drawn.acts]
    go_simp
    have hba := hb
    clear hb
    obtain ⟨c0, c1, c2, c3, c4, c5⟩ := six (HA.out.below hba).plan
    go_at_K
    go_wp2_with fail
    refine (H0.out _).mono ?_
    rintro e w1 ⟨rfl, hb1⟩
    have HB1 := Lib.hid (bstep HB0.out (bstep hba hb1))
    have HA1 := Lib.hid (HA.out.below (bstep hba hb1)).plan
    clear hb1 hba HB0 HA c0 c1 c2 c3 c4 c5
    obtain ⟨c0, c1, c2, c3, c4, c5⟩ := six HA1.out
    go_wp2_with fail
    clear c0 c1 c2 c3 c4 c5
    refine Drawn.wp_region_flowL 11 [Drawn.SP.tab, Drawn.SP.is (.agg #[.int .i64 N, .int .i64 T, .int .i64 L, .int .i64 W, .int .i64 S, .int .i64 R]), Drawn.SP.is (.int .i64 n), Drawn.SP.is (.int .i64 t), Drawn.SP.is (.slice A tl u), SP.rE rs 0 r, SP.rE rs 0 r, SP.rn rs 0, Drawn.SP.is (.int .i64 r), SP.rn rs 0, Drawn.SP.is (.int .i64 r)] (by kernel_rfl) (by kernel_rfl) ?_ ?_
    · intro i hi a wq hb hev hdep
      rcases (show i = 0 ∨ i = 1 ∨ i = 2 ∨ i = 3 ∨ i = 4 ∨ i = 5 ∨ i = 6 ∨ i = 7 ∨ i = 8 ∨ i = 9 ∨ i = 10 by omega) with rfl | rfl | rfl | rfl | rfl | rfl | rfl | rfl | rfl | rfl | rfl
      · refine Drawn.wpOp_flow 30 rfl rfl rfl ?_
        clear hev hdep
        clear hb
        go_simp
        refine (Gf.new_any wq).mono ?_
        rintro e w' ⟨rfl, ht, hb', _⟩
        exact ⟨_, rfl, ⟨_, rfl, ht⟩, hb'⟩
      · have e3 : a.tmps[3]?.getD undef = .pointer (some ⟨w.heap.size, 0, none⟩) := hev 3 rfl
        refine Drawn.wpOp_flow 31 rfl rfl rfl ?_
        obtain ⟨c0, c1, c2, c3, c4, c5⟩ := six (HA1.out.below hb)
        clear hev hdep hb
        go_simp
        exact ⟨_, rfl, rfl, Below.refl _ _⟩
      · have e7 : a.tmps[7]?.getD undef = .int .i64 n := hev 7 rfl
        refine Drawn.wpOp_flow 32 rfl rfl rfl ?_
        clear hev hdep hb
        go_simp
        exact ⟨_, rfl, rfl, Below.refl _ _⟩
      · have e8 : a.tmps[8]?.getD undef = .int .i64 t := hev 8 rfl
        refine Drawn.wpOp_flow 33 rfl rfl rfl ?_
        clear hev hdep hb
        go_simp
        exact ⟨_, rfl, rfl, Below.refl _ _⟩
      · have e2 : a.tmps[2]?.getD undef = .slice A tl u := hev 2 rfl
        refine Drawn.wpOp_flow 34 rfl rfl rfl ?_
        clear hev hdep hb
        go_simp
        exact ⟨_, rfl, rfl, Below.refl _ _⟩
      · obtain ⟨bf, d0, ht⟩ : (Drawn.SP.tab).p (a.tmps[30]?.getD undef) wq := hdep 0 rfl
        have d1 : a.tmps[31]?.getD undef = .agg #[.int .i64 N, .int .i64 T, .int .i64 L, .int .i64 W, .int .i64 S, .int .i64 R] := hdep 1 rfl
        have d2 : a.tmps[32]?.getD undef = .int .i64 n := hdep 2 rfl
        have d3 : a.tmps[33]?.getD undef = .int .i64 t := hdep 3 rfl
        have d4 : a.tmps[34]?.getD undef = .slice A tl u := hdep 4 rfl
        refine Drawn.wpOp_flow 35 rfl rfl rfl ?_
        clear hev hdep
        have C := H1.out bf wq ht (BT.out.below (bstep HB1.out hb))
        clear hb ht
        go_simp
        refine C.mono ?_
        rintro e w' ⟨X, f, rfl, g1, g2, g3, hb', _⟩
        exact ⟨_, rfl, ⟨X, f, rfl, g1, g2, g3⟩, hb'⟩
      · have d5 := hdep 5 rfl
        refine Drawn.wpOp_flow 29 rfl rfl rfl ?_
        clear hev hdep hb
        go_simp
        exact ⟨_, rfl, d5, Below.refl _ _⟩
      · obtain ⟨Z, dz, d6, z1, z2, z3⟩ : (SP.rE rs 0 r).p (a.tmps[29]?.getD undef) wq := hdep 6 rfl
        refine Drawn.wpOp_flow 36 rfl rfl rfl ?_
        clear hev hdep
        clear hb
        go_simp
        exact ⟨_, rfl, ⟨Z, dz, rfl, z1, z2, z3⟩, Below.refl _ _⟩
      · obtain ⟨Z, dz, d6, z1, z2, z3⟩ : (SP.rE rs 0 r).p (a.tmps[29]?.getD undef) wq := hdep 6 rfl
        refine Drawn.wpOp_flow 37 rfl rfl rfl ?_
        clear hev hdep hb
        go_simp
        exact ⟨_, rfl, rfl, Below.refl _ _⟩
      · have d7 := hdep 7 rfl
        refine Drawn.wpOp_flow 9 rfl rfl rfl ?_
        clear hev hdep hb
        go_simp
        exact ⟨_, rfl, d7, Below.refl _ _⟩
      · have d8 : a.tmps[37]?.getD undef = .int .i64 r := hdep 8 rfl
        refine Drawn.wpOp_flow 10 rfl rfl rfl ?_
        clear hev hdep hb
        go_simp
        exact ⟨_, rfl, rfl, Below.refl _ _⟩
    · intro xq wq hb hxq
      have vq1 : xq 1 = .agg #[.int .i64 N, .int .i64 T, .int .i64 L, .int .i64 W, .int .i64 S, .int .i64 R] := hxq 1 (by omega)
      have vq2 : xq 2 = .int .i64 n := hxq 2 (by omega)
      have vq3 : xq 3 = .int .i64 t := hxq 3 (by omega)
      have vq4 : xq 4 = .slice A tl u := hxq 4 (by omega)
      have vq8 : xq 8 = .int .i64 r := hxq 8 (by omega)
      obtain ⟨Z, dz, vq9, z1, z2, z3⟩ : (SP.rn rs 0).p (xq 9) wq := hxq 9 (by omega)
      have vq10 : xq 10 = .int .i64 r := hxq 10 (by omega)
      show Exit.then _ _ Exit.normal (Drawn.acts _ [(10, some (xq 10)), (9, some (xq 9)), (37, some (xq 8)), (36, some (xq 7)), (29, some (xq 6)), (35, some (xq 5)), (34, some (xq 4)), (33, some (xq 3)), (32, some (xq 2)), (31, some (xq 1)), (30, some (xq 0))]) _
      rw [vq1, vq2, vq3, vq4, vq8, vq9, vq10]
      clear hxq vq1 vq2 vq3 vq4 vq8 vq9 vq10
      generalize xq 0 = yq0
      generalize xq 5 = yq5
      generalize xq 6 = yq6
      generalize xq 7 = yq7
      clear xq
      simp only [Drawn.acts]
      go_simp
      obtain ⟨c0, c1, c2, c3, c4, c5⟩ := six (HA1.out.below hb)
      have HB2 := Lib.hid (bstep HB1.out hb)
      have HA2 := Lib.hid (HA1.out.below hb)
      clear hb z1 z2 z3
      go_wp2_with fail
      refine (H2.out _).mono ?_
      rintro e w2 ⟨rfl, hb2⟩
      have HB3 := Lib.hid (bstep HB2.out hb2)
      have HA3 := Lib.hid (HA2.out.below hb2)
      clear c0 c1 c2 c3 c4 c5 hb2
      go_wp2_with fail
      refine (alive_any _).mono ?_
      rintro e wz ⟨rfl, hbz⟩
      go_wp2
      go_ret
      exact ⟨rfl, bstep HB3.out hbz⟩

set_option maxHeartbeats 2000000 in
theorem bs_empty (N T L W S R t : Int) (m wd : Nat) (A : Option Addr) (tape : List UInt8) (u : Nat) (w : World) (hp : (⟨N, T, L, W, S, R⟩ : P).In) (ht0 : In64 t) (h : BytesAt w A tape) (k : tape.length ≤ u) (z : u ≤ maxLen) (hl : N ≤ 12 ∧ L ≤ 12 ∧ T ≤ 12) (h9 : tape.length ≤ 900) (hM : (⟨N, T, L, W, S, R⟩ : P).May) (hwd : T + L - 1 = (wd : Int)) (hm : m ≤ 240) (hr : bcheck ⟨N, T, L, W, S, R⟩ m t = 0) (hx0 : tape.length < wd * m) :
    Calls Try.prog 3 #[.agg #[.int .i64 N, .int .i64 T, .int .i64 L, .int .i64 W, .int .i64 S, .int .i64 R], .agg #[.int .i64 (m : Nat), .int .i64 t], .slice A tape.length u] w fun e w' => e = .returned (.bool true) ∧ Below w.heap.size w w' := by
  have hn : In64 (m : Int) := by unfold In64; omega
  have K0 := fun w => Law10.light_any N T L W S R w
  rw [decide_eq_true hl] at K0
  obtain ⟨q, hq⟩ : ∃ q : P, q = ⟨N, T, L, W, S, R⟩ := ⟨_, rfl⟩
  rw [← hq] at hp hr hM
  have hv : q.val = .agg #[.int .i64 N, .int .i64 T, .int .i64 L, .int .i64 W, .int .i64 S, .int .i64 R] := by rw [hq]; rfl
  have K1 := fun b0 V (ht : Gf.Tab V b0) (h : BytesAt V A tape) => Blind.blind_any b0 q m t A tape u V hp hn ht0 ht h k z
  have K2 := fun V => R13.check_any N T L W S R m t V (by rw [← hq]; exact hp)
  rw [← hq] at K2
  rw [hv] at K1
  have hM' := hM
  unfold P.May at hM'
  have eT : q.T = T := by rw [hq]
  have eL : q.L = L := by rw [hq]
  have eN : q.N = N := by rw [hq]
  have hwq : width q = (wd : Int) := by unfold width; rw [eT, eL]; exact hwd
  have K4 := fun V => R13.width_any N T L W S R V (by omega) (by omega)
  rw [hwd] at K4
  obtain ⟨x, hx⟩ : ∃ x : Nat, x = wd * m := ⟨_, rfl⟩
  have hwd1 : 1 ≤ wd ∧ wd ≤ 256 := by omega
  have hx2 : x ≤ 256 * 240 := by rw [hx]; exact Nat.mul_le_mul hwd1.2 hm
  have hxi : ((wd : Int) * (m : Int)) = (x : Int) := by rw [hx, Int.natCast_mul]
  have hxw : IntKind.i64.wrap (x : Int) = (x : Int) := IntWalk.i64_in _ (by omega)
  rw [hr] at K2
  have hz : blindE q m t tape = 12 := by unfold blindE; rw [if_pos hr, if_pos]; rw [hwq, ← Int.natCast_mul]; omega
  have ha : blindA q m t tape = [] := by unfold blindA; rw [hz]; rfl
  rw [hz, ha] at K1
  rw [← hx] at hx0
  obtain ⟨rs, hrs⟩ : ∃ rs : List (List UInt8), rs = [] := ⟨_, rfl⟩
  unfold Stripe.RetRowsE at K1
  simp only [List.length_nil] at K1
  rw [← hrs] at K1
  have H0 := Lib.hid K0; have H1 := Lib.hid K1; have H2 := Lib.hid K2; have BT := Lib.hid h; have H4 := Lib.hid K4
  obtain ⟨tl, htl⟩ : ∃ tl, tl = tape.length := ⟨_, rfl⟩
  rw [← htl] at H1 k h9 hx0 ⊢
  clear K0 K1 K2 K4 hl hp hn ht0 hr hq hv hrs htl h hz ha hM hM' eT eL eN hwq hx hwd
  have HA := Lib.hid (Lies2.new w N T L W S R (.int .i64 (m : Nat)) (.int .i64 t) 24)
  have HB0 := Lib.hid (show Below w.heap.size w ((w.alloc (.cells #[.int .i64 N, .int .i64 T, .int .i64 L, .int .i64 W, .int .i64 S, .int .i64 R] 23)).alloc (.cells #[.int .i64 (m : Nat), .int .i64 t] 24)) from bstep (balloc _ _) (balloc _ _))
  go_enter Try.func3, Try.ntmps3
  go_wp2_with fail
  generalize (w.alloc (.cells #[.int .i64 N, .int .i64 T, .int .i64 L, .int .i64 W, .int .i64 S, .int .i64 R] 23)).alloc (.cells #[.int .i64 (m : Nat), .int .i64 t] 24) = w0 at *
  refine Drawn.wp_region_flowL 6 [Drawn.SP.is (.pointer (some ⟨w.heap.size + 1, 0, none⟩)), Drawn.SP.is (.int .i64 (m : Nat)), Drawn.SP.is (.pointer (some ⟨w.heap.size + 1, 1, none⟩)), Drawn.SP.is (.int .i64 t), Drawn.SP.is (.int .i64 (m : Nat)), Drawn.SP.is (.int .i64 t)] (by kernel_rfl) (by kernel_rfl) ?_ ?_
  · intro i hi a wa hb hev hdep
    rcases (show i = 0 ∨ i = 1 ∨ i = 2 ∨ i = 3 ∨ i = 4 ∨ i = 5 by omega) with rfl | rfl | rfl | rfl | rfl | rfl
    · have e4 : a.tmps[4]?.getD undef = .pointer (some ⟨w.heap.size + 1, 0, none⟩) := hev 4 rfl
      refine Drawn.wpOp_flow 16 rfl rfl rfl ?_
      clear hev hdep hb
      go_simp
      exact ⟨_, rfl, rfl, Below.refl _ _⟩
    · have d0 : a.tmps[16]?.getD undef = .pointer (some ⟨w.heap.size + 1, 0, none⟩) := hdep 0 rfl
      refine Drawn.wpOp_flow 17 rfl rfl rfl ?_
      have a0 := (HA.out.below hb).a0
      have a1 := (HA.out.below hb).a1
      clear hev hdep hb
      go_simp
      exact ⟨_, rfl, rfl, Below.refl _ _⟩
    · have e4 : a.tmps[4]?.getD undef = .pointer (some ⟨w.heap.size + 1, 0, none⟩) := hev 4 rfl
      refine Drawn.wpOp_flow 18 rfl rfl rfl ?_
      clear hev hdep hb
      go_simp
      exact ⟨_, rfl, rfl, Below.refl _ _⟩
    · have d2 : a.tmps[18]?.getD undef = .pointer (some ⟨w.heap.size + 1, 1, none⟩) := hdep 2 rfl
      refine Drawn.wpOp_flow 19 rfl rfl rfl ?_
      have a0 := (HA.out.below hb).a0
      have a1 := (HA.out.below hb).a1
      clear hev hdep hb
      go_simp
      exact ⟨_, rfl, rfl, Below.refl _ _⟩
    · have d1 : a.tmps[17]?.getD undef = .int .i64 (m : Nat) := hdep 1 rfl
      refine Drawn.wpOp_flow 7 rfl rfl rfl ?_
      clear hev hdep hb
      go_simp
      exact ⟨_, rfl, rfl, Below.refl _ _⟩
    · have d3 : a.tmps[19]?.getD undef = .int .i64 t := hdep 3 rfl
      refine Drawn.wpOp_flow 8 rfl rfl rfl ?_
      clear hev hdep hb
      go_simp
      exact ⟨_, rfl, rfl, Below.refl _ _⟩
  · intro xq wa hb hxq
    have vq0 : xq 0 = .pointer (some ⟨w.heap.size + 1, 0, none⟩) := hxq 0 (by omega)
    have vq1 : xq 1 = .int .i64 (m : Nat) := hxq 1 (by omega)
    have vq2 : xq 2 = .pointer (some ⟨w.heap.size + 1, 1, none⟩) := hxq 2 (by omega)
    have vq3 : xq 3 = .int .i64 t := hxq 3 (by omega)
    have vq4 : xq 4 = .int .i64 (m : Nat) := hxq 4 (by omega)
    have vq5 : xq 5 = .int .i64 t := hxq 5 (by omega)
    show Exit.then _ _ Exit.normal (Drawn.acts _ [(8, some (xq 5)), (7, some (xq 4)), (19, some (xq 3)), (18, some (xq 2)), (17, some (xq 1)), (16, some (xq 0))]) _
    rw [vq0, vq1, vq2, vq3, vq4, vq5]
    clear hxq vq0 vq1 vq2 vq3 vq4 vq5
    clear xq
    simp only [Drawn.acts]
    go_simp
    have hba := hb
    clear hb
    obtain ⟨c0, c1, c2, c3, c4, c5⟩ := six (HA.out.below hba).plan
    go_at_K
    go_wp2_with fail
    refine (H0.out _).mono ?_
    rintro e w1 ⟨rfl, hb1⟩
    have HB1 := Lib.hid (bstep HB0.out (bstep hba hb1))
    have HA1 := Lib.hid (HA.out.below (bstep hba hb1)).plan
    clear hb1 hba HB0 HA c0 c1 c2 c3 c4 c5
    obtain ⟨c0, c1, c2, c3, c4, c5⟩ := six HA1.out
    go_wp2_with fail
    clear c0 c1 c2 c3 c4 c5
    refine Drawn.wp_region_flowL 11 [Drawn.SP.tab, Drawn.SP.is (.agg #[.int .i64 N, .int .i64 T, .int .i64 L, .int .i64 W, .int .i64 S, .int .i64 R]), Drawn.SP.is (.int .i64 (m : Nat)), Drawn.SP.is (.int .i64 t), Drawn.SP.is (.slice A tl u), SP.rE rs 0 12, SP.rE rs 0 12, SP.rn rs 0, Drawn.SP.is (.int .i64 12), SP.rn rs 0, Drawn.SP.is (.int .i64 12)] (by kernel_rfl) (by kernel_rfl) ?_ ?_
    · intro i hi a wq hb hev hdep
      rcases (show i = 0 ∨ i = 1 ∨ i = 2 ∨ i = 3 ∨ i = 4 ∨ i = 5 ∨ i = 6 ∨ i = 7 ∨ i = 8 ∨ i = 9 ∨ i = 10 by omega) with rfl | rfl | rfl | rfl | rfl | rfl | rfl | rfl | rfl | rfl | rfl
      · refine Drawn.wpOp_flow 30 rfl rfl rfl ?_
        clear hev hdep
        clear hb
        go_simp
        refine (Gf.new_any wq).mono ?_
        rintro e w' ⟨rfl, ht, hb', _⟩
        exact ⟨_, rfl, ⟨_, rfl, ht⟩, hb'⟩
      · have e3 : a.tmps[3]?.getD undef = .pointer (some ⟨w.heap.size, 0, none⟩) := hev 3 rfl
        refine Drawn.wpOp_flow 31 rfl rfl rfl ?_
        obtain ⟨c0, c1, c2, c3, c4, c5⟩ := six (HA1.out.below hb)
        clear hev hdep hb
        go_simp
        exact ⟨_, rfl, rfl, Below.refl _ _⟩
      · have e7 : a.tmps[7]?.getD undef = .int .i64 (m : Nat) := hev 7 rfl
        refine Drawn.wpOp_flow 32 rfl rfl rfl ?_
        clear hev hdep hb
        go_simp
        exact ⟨_, rfl, rfl, Below.refl _ _⟩
      · have e8 : a.tmps[8]?.getD undef = .int .i64 t := hev 8 rfl
        refine Drawn.wpOp_flow 33 rfl rfl rfl ?_
        clear hev hdep hb
        go_simp
        exact ⟨_, rfl, rfl, Below.refl _ _⟩
      · have e2 : a.tmps[2]?.getD undef = .slice A tl u := hev 2 rfl
        refine Drawn.wpOp_flow 34 rfl rfl rfl ?_
        clear hev hdep hb
        go_simp
        exact ⟨_, rfl, rfl, Below.refl _ _⟩
      · obtain ⟨bf, d0, ht⟩ : (Drawn.SP.tab).p (a.tmps[30]?.getD undef) wq := hdep 0 rfl
        have d1 : a.tmps[31]?.getD undef = .agg #[.int .i64 N, .int .i64 T, .int .i64 L, .int .i64 W, .int .i64 S, .int .i64 R] := hdep 1 rfl
        have d2 : a.tmps[32]?.getD undef = .int .i64 (m : Nat) := hdep 2 rfl
        have d3 : a.tmps[33]?.getD undef = .int .i64 t := hdep 3 rfl
        have d4 : a.tmps[34]?.getD undef = .slice A tl u := hdep 4 rfl
        refine Drawn.wpOp_flow 35 rfl rfl rfl ?_
        clear hev hdep
        have C := H1.out bf wq ht (BT.out.below (bstep HB1.out hb))
        clear hb ht
        go_simp
        refine C.mono ?_
        rintro e w' ⟨X, f, rfl, g1, g2, g3, hb', _⟩
        exact ⟨_, rfl, ⟨X, f, rfl, g1, g2, g3⟩, hb'⟩
      · have d5 := hdep 5 rfl
        refine Drawn.wpOp_flow 29 rfl rfl rfl ?_
        clear hev hdep hb
        go_simp
        exact ⟨_, rfl, d5, Below.refl _ _⟩
      · obtain ⟨Z, dz, d6, z1, z2, z3⟩ : (SP.rE rs 0 12).p (a.tmps[29]?.getD undef) wq := hdep 6 rfl
        refine Drawn.wpOp_flow 36 rfl rfl rfl ?_
        clear hev hdep
        clear hb
        go_simp
        exact ⟨_, rfl, ⟨Z, dz, rfl, z1, z2, z3⟩, Below.refl _ _⟩
      · obtain ⟨Z, dz, d6, z1, z2, z3⟩ : (SP.rE rs 0 12).p (a.tmps[29]?.getD undef) wq := hdep 6 rfl
        refine Drawn.wpOp_flow 37 rfl rfl rfl ?_
        clear hev hdep hb
        go_simp
        exact ⟨_, rfl, rfl, Below.refl _ _⟩
      · have d7 := hdep 7 rfl
        refine Drawn.wpOp_flow 9 rfl rfl rfl ?_
        clear hev hdep hb
        go_simp
        exact ⟨_, rfl, d7, Below.refl _ _⟩
      · have d8 : a.tmps[37]?.getD undef = .int .i64 12 := hdep 8 rfl
        refine Drawn.wpOp_flow 10 rfl rfl rfl ?_
        clear hev hdep hb
        go_simp
        exact ⟨_, rfl, rfl, Below.refl _ _⟩
    · intro xq wq hb hxq
      have vq1 : xq 1 = .agg #[.int .i64 N, .int .i64 T, .int .i64 L, .int .i64 W, .int .i64 S, .int .i64 R] := hxq 1 (by omega)
      have vq2 : xq 2 = .int .i64 (m : Nat) := hxq 2 (by omega)
      have vq3 : xq 3 = .int .i64 t := hxq 3 (by omega)
      have vq4 : xq 4 = .slice A tl u := hxq 4 (by omega)
      have vq8 : xq 8 = .int .i64 12 := hxq 8 (by omega)
      obtain ⟨Z, dz, vq9, z1, z2, z3⟩ : (SP.rn rs 0).p (xq 9) wq := hxq 9 (by omega)
      have vq10 : xq 10 = .int .i64 12 := hxq 10 (by omega)
      show Exit.then _ _ Exit.normal (Drawn.acts _ [(10, some (xq 10)), (9, some (xq 9)), (37, some (xq 8)), (36, some (xq 7)), (29, some (xq 6)), (35, some (xq 5)), (34, some (xq 4)), (33, some (xq 3)), (32, some (xq 2)), (31, some (xq 1)), (30, some (xq 0))]) _
      rw [vq1, vq2, vq3, vq4, vq8, vq9, vq10]
      clear hxq vq1 vq2 vq3 vq4 vq8 vq9 vq10
      generalize xq 0 = yq0
      generalize xq 5 = yq5
      generalize xq 6 = yq6
      generalize xq 7 = yq7
      clear xq
      simp only [Drawn.acts]
      go_simp
      obtain ⟨c0, c1, c2, c3, c4, c5⟩ := six (HA1.out.below hb)
      have HB2 := Lib.hid (bstep HB1.out hb)
      have HA2 := Lib.hid (HA1.out.below hb)
      clear hb z1 z2 z3
      go_wp2_with fail
      refine (H2.out _).mono ?_
      rintro e w2 ⟨rfl, hb2⟩
      have HB3 := Lib.hid (bstep HB2.out hb2)
      have HA3 := Lib.hid (HA2.out.below hb2)
      clear c0 c1 c2 c3 c4 c5 hb2
      obtain ⟨c0, c1, c2, c3, c4, c5⟩ := six HA3.out
      go_wp2_with fail
      refine (H4.out _).mono ?_
      rintro e w3 ⟨rfl, hb3⟩
      have HB4 := Lib.hid (bstep HB3.out hb3)
      clear hb3 c0 c1 c2 c3 c4 c5
      go_wp2_with fail
      refine (alive_any _).mono ?_
      rintro e wz ⟨rfl, hbz⟩
      go_wp2
      go_ret
      exact ⟨rfl, bstep HB4.out hbz⟩

set_option maxHeartbeats 4000000 in
theorem bs_ok (T L W S R t : Int) (N0 m wd : Nat) (A : Option Addr) (tape : List UInt8) (u : Nat) (w : World) (hp : (⟨N0, T, L, W, S, R⟩ : P).In) (ht0 : In64 t) (h : BytesAt w A tape) (k : tape.length ≤ u) (z : u ≤ maxLen) (hl : (N0 : Int) ≤ 12 ∧ L ≤ 12 ∧ T ≤ 12) (h9 : tape.length ≤ 900) (hM : (⟨N0, T, L, W, S, R⟩ : P).May) (hwd : T + L - 1 = (wd : Int)) (hm : m ≤ 240) (hr : bcheck ⟨N0, T, L, W, S, R⟩ m t = 0) (hx0 : wd * m ≤ tape.length) (hit : 1 ≤ t ∧ t ≤ (N0 : Int)) :
    Calls Try.prog 3 #[.agg #[.int .i64 (N0 : Nat), .int .i64 T, .int .i64 L, .int .i64 W, .int .i64 S, .int .i64 R], .agg #[.int .i64 (m : Nat), .int .i64 t], .slice A tape.length u] w fun e w' => e = .returned (.bool true) ∧ Below w.heap.size w w' := by
  have hn : In64 (m : Int) := by unfold In64; omega
  have K0 := fun w => Law10.light_any N0 T L W S R w
  rw [decide_eq_true hl] at K0
  obtain ⟨q, hq⟩ : ∃ q : P, q = ⟨N0, T, L, W, S, R⟩ := ⟨_, rfl⟩
  rw [← hq] at hp hr hM
  have hv : q.val = .agg #[.int .i64 (N0 : Nat), .int .i64 T, .int .i64 L, .int .i64 W, .int .i64 S, .int .i64 R] := by rw [hq]; rfl
  have K1 := fun b0 V (ht : Gf.Tab V b0) (h : BytesAt V A tape) => Blind.blind_any b0 q m t A tape u V hp hn ht0 ht h k z
  have K2 := fun V => R13.check_any N0 T L W S R m t V (by rw [← hq]; exact hp)
  rw [← hq] at K2
  rw [hv] at K1
  have hM' := hM
  unfold P.May at hM'
  have eT : q.T = T := by rw [hq]
  have eL : q.L = L := by rw [hq]
  have eN : q.N = N0 := by rw [hq]
  have hwq : width q = (wd : Int) := by unfold width; rw [eT, eL]; exact hwd
  have K4 := fun V => R13.width_any N0 T L W S R V (by omega) (by omega)
  rw [hwd] at K4
  obtain ⟨x, hx⟩ : ∃ x : Nat, x = wd * m := ⟨_, rfl⟩
  have hwd1 : 1 ≤ wd ∧ wd ≤ 256 := by omega
  have hx2 : x ≤ 256 * 240 := by rw [hx]; exact Nat.mul_le_mul hwd1.2 hm
  have hxi : ((wd : Int) * (m : Int)) = (x : Int) := by rw [hx, Int.natCast_mul]
  have hxw : IntKind.i64.wrap (x : Int) = (x : Int) := IntWalk.i64_in _ (by omega)
  rw [hr] at K2
  have hz : blindE q m t tape = 0 := by unfold blindE; rw [if_pos hr, if_neg]; rw [hwq, ← Int.natCast_mul]; omega
  have ha : blindA q m t tape = shares q (bpolysTo q t tape m) := by unfold blindA; rw [if_pos hz, Int.toNat_natCast]
  have hc : bcost q m = (x : Int) := by unfold bcost; rw [if_pos (P.right_yes hM), if_neg (by omega), hwq, hxi]
  have K3 := fun V => Blind.cost_any q m V hp hn
  rw [hv, hc] at K3
  have hqN : q.N.toNat = N0 := by rw [eN]; simp
  have hwn : (width q).toNat = wd := by rw [hwq]; simp
  have K5 := fun V (h : BytesAt V A tape) => R13.polys_any N0 T L W S R t wd m A tape u V (by rw [← hq]; exact hM) hwd h k z hm hx0
  rw [← hq] at K5
  have hsl : (shares q (bpolysTo q t tape m)).length = N0 := by rw [shares_len, hqN]
  have hsg : ∀ i, (hi : i < (shares q (bpolysTo q t tape m)).length) → (shares q (bpolysTo q t tape m))[i] = share (bpolysTo q t tape m) ((i : Int) + 1) := fun i hi => shares_get q _ i hi
  have hzl : (bpolysTo q t tape m).length = m := bpolysTo_len _ _ _ _
  have hzr : ∀ j, (hj : j < (bpolysTo q t tape m).length) → (bpolysTo q t tape m)[j].length ≤ 1099511627 := fun j hj => by
    rw [bpolysTo_get]
    have := bpoly_len hM t (take_ (width q).toNat tape j) (take_len _ _ _ (by
      have : (j + 1) * (width q).toNat ≤ wd * m := by rw [hwn, Nat.mul_comm]; exact Nat.mul_le_mul (by simp) (by rw [hzl] at hj; omega)
      omega))
    unfold need at this
    omega
  have hz0 : ∀ i, (hi : i < (share (bpolysTo q t tape m) t).length) → (share (bpolysTo q t tape m) t)[i] = 0 := fun i hi => by
    have h9 : (share (bpolysTo q t tape m) t)[i]? = some 0 := by
      have hi2 : i < (bpolysTo q t tape m).length := by rw [share_len] at hi; exact hi
      unfold share
      rw [List.getElem?_map, List.getElem?_eq_getElem hi2, bpolysTo_get, Option.map_some, bpoly_zero]
    rw [List.getElem?_eq_getElem hi] at h9
    exact Option.some.inj h9
  have K6 := fun X d i V (h : RowsAt V X (bpolysTo q t tape m)) => R10.share_any X (bpolysTo q t tape m) d i V h (by rw [hzl]; omega) hzr
  rw [hz, ha] at K1
  unfold Stripe.RetRowsE at K1
  rw [hsl] at K1
  unfold RetRows at K5
  rw [hzl] at K5 K6
  generalize shares q (bpolysTo q t tape m) = rs at *
  generalize bpolysTo q t tape m = zp at *
  have hshl : ∀ i, (share zp i).length = m := fun i => by rw [share_len]; exact hzl
  have H0 := Lib.hid K0; have H1 := Lib.hid K1; have H2 := Lib.hid K2; have BT := Lib.hid h; have H3 := Lib.hid K3; have H4 := Lib.hid K4; have H5 := Lib.hid K5; have H6 := Lib.hid K6; have HSG := Lib.hid hsg; have HSL := Lib.hid hsl; have HSHL := Lib.hid hshl; have HZ0 := Lib.hid hz0
  obtain ⟨tl, htl⟩ : ∃ tl, tl = tape.length := ⟨_, rfl⟩
  rw [← hx] at hx0
  rw [← htl] at H1 H5 k h9 hx0 ⊢
  clear K0 K1 K2 K3 K4 K5 K6 hp hn ht0 hr hq hv htl h hc hz ha hqN hsl hsg hzl hzr hx hM hM' hshl hz0 hwn hwq eT eL eN hwd
  obtain ⟨l1, _, l2⟩ := hl
  have HA := Lib.hid (Lies2.new w (N0 : Nat) T L W S R (.int .i64 (m : Nat)) (.int .i64 t) 24)
  have HB0 := Lib.hid (show Below w.heap.size w ((w.alloc (.cells #[.int .i64 (N0 : Nat), .int .i64 T, .int .i64 L, .int .i64 W, .int .i64 S, .int .i64 R] 23)).alloc (.cells #[.int .i64 (m : Nat), .int .i64 t] 24)) from bstep (balloc _ _) (balloc _ _))
  go_enter Try.func3, Try.ntmps3
  go_wp2_with fail
  generalize (w.alloc (.cells #[.int .i64 (N0 : Nat), .int .i64 T, .int .i64 L, .int .i64 W, .int .i64 S, .int .i64 R] 23)).alloc (.cells #[.int .i64 (m : Nat), .int .i64 t] 24) = w0 at *
  refine Drawn.wp_region_flowL 6 [Drawn.SP.is (.pointer (some ⟨w.heap.size + 1, 0, none⟩)), Drawn.SP.is (.int .i64 (m : Nat)), Drawn.SP.is (.pointer (some ⟨w.heap.size + 1, 1, none⟩)), Drawn.SP.is (.int .i64 t), Drawn.SP.is (.int .i64 (m : Nat)), Drawn.SP.is (.int .i64 t)] (by kernel_rfl) (by kernel_rfl) ?_ ?_
  · intro i hi a wa hb hev hdep
    rcases (show i = 0 ∨ i = 1 ∨ i = 2 ∨ i = 3 ∨ i = 4 ∨ i = 5 by omega) with rfl | rfl | rfl | rfl | rfl | rfl
    · have e4 : a.tmps[4]?.getD undef = .pointer (some ⟨w.heap.size + 1, 0, none⟩) := hev 4 rfl
      refine Drawn.wpOp_flow 16 rfl rfl rfl ?_
      clear hev hdep hb
      go_simp
      exact ⟨_, rfl, rfl, Below.refl _ _⟩
    · have d0 : a.tmps[16]?.getD undef = .pointer (some ⟨w.heap.size + 1, 0, none⟩) := hdep 0 rfl
      refine Drawn.wpOp_flow 17 rfl rfl rfl ?_
      have a0 := (HA.out.below hb).a0
      have a1 := (HA.out.below hb).a1
      clear hev hdep hb
      go_simp
      exact ⟨_, rfl, rfl, Below.refl _ _⟩
    · have e4 : a.tmps[4]?.getD undef = .pointer (some ⟨w.heap.size + 1, 0, none⟩) := hev 4 rfl
      refine Drawn.wpOp_flow 18 rfl rfl rfl ?_
      clear hev hdep hb
      go_simp
      exact ⟨_, rfl, rfl, Below.refl _ _⟩
    · have d2 : a.tmps[18]?.getD undef = .pointer (some ⟨w.heap.size + 1, 1, none⟩) := hdep 2 rfl
      refine Drawn.wpOp_flow 19 rfl rfl rfl ?_
      have a0 := (HA.out.below hb).a0
      have a1 := (HA.out.below hb).a1
      clear hev hdep hb
      go_simp
      exact ⟨_, rfl, rfl, Below.refl _ _⟩
    · have d1 : a.tmps[17]?.getD undef = .int .i64 (m : Nat) := hdep 1 rfl
      refine Drawn.wpOp_flow 7 rfl rfl rfl ?_
      clear hev hdep hb
      go_simp
      exact ⟨_, rfl, rfl, Below.refl _ _⟩
    · have d3 : a.tmps[19]?.getD undef = .int .i64 t := hdep 3 rfl
      refine Drawn.wpOp_flow 8 rfl rfl rfl ?_
      clear hev hdep hb
      go_simp
      exact ⟨_, rfl, rfl, Below.refl _ _⟩
  · intro xq wa hb hxq
    have vq0 : xq 0 = .pointer (some ⟨w.heap.size + 1, 0, none⟩) := hxq 0 (by omega)
    have vq1 : xq 1 = .int .i64 (m : Nat) := hxq 1 (by omega)
    have vq2 : xq 2 = .pointer (some ⟨w.heap.size + 1, 1, none⟩) := hxq 2 (by omega)
    have vq3 : xq 3 = .int .i64 t := hxq 3 (by omega)
    have vq4 : xq 4 = .int .i64 (m : Nat) := hxq 4 (by omega)
    have vq5 : xq 5 = .int .i64 t := hxq 5 (by omega)
    show Exit.then _ _ Exit.normal (Drawn.acts _ [(8, some (xq 5)), (7, some (xq 4)), (19, some (xq 3)), (18, some (xq 2)), (17, some (xq 1)), (16, some (xq 0))]) _
    rw [vq0, vq1, vq2, vq3, vq4, vq5]
    clear hxq vq0 vq1 vq2 vq3 vq4 vq5
    clear xq
    simp only [Drawn.acts]
    go_simp
    have hba := hb
    clear hb
    obtain ⟨c0, c1, c2, c3, c4, c5⟩ := six (HA.out.below hba).plan
    go_at_K
    go_wp2_with fail
    refine (H0.out _).mono ?_
    rintro e w1 ⟨rfl, hb1⟩
    have HB1 := Lib.hid (bstep HB0.out (bstep hba hb1))
    have HA1 := Lib.hid (HA.out.below (bstep hba hb1)).plan
    clear hb1 hba HB0 HA c0 c1 c2 c3 c4 c5
    obtain ⟨c0, c1, c2, c3, c4, c5⟩ := six HA1.out
    go_wp2_with fail
    clear c0 c1 c2 c3 c4 c5
    refine Drawn.wp_region_flowL 11 [Drawn.SP.tab, Drawn.SP.is (.agg #[.int .i64 (N0 : Nat), .int .i64 T, .int .i64 L, .int .i64 W, .int .i64 S, .int .i64 R]), Drawn.SP.is (.int .i64 (m : Nat)), Drawn.SP.is (.int .i64 t), Drawn.SP.is (.slice A tl u), SP.rE rs N0 0, SP.rE rs N0 0, SP.rn rs N0, Drawn.SP.is (.int .i64 0), SP.rn rs N0, Drawn.SP.is (.int .i64 0)] (by kernel_rfl) (by kernel_rfl) ?_ ?_
    · intro i hi a wq hb hev hdep
      rcases (show i = 0 ∨ i = 1 ∨ i = 2 ∨ i = 3 ∨ i = 4 ∨ i = 5 ∨ i = 6 ∨ i = 7 ∨ i = 8 ∨ i = 9 ∨ i = 10 by omega) with rfl | rfl | rfl | rfl | rfl | rfl | rfl | rfl | rfl | rfl | rfl
      · refine Drawn.wpOp_flow 30 rfl rfl rfl ?_
        clear hev hdep
        clear hb
        go_simp
        refine (Gf.new_any wq).mono ?_
        rintro e w' ⟨rfl, ht, hb', _⟩
        exact ⟨_, rfl, ⟨_, rfl, ht⟩, hb'⟩
      · have e3 : a.tmps[3]?.getD undef = .pointer (some ⟨w.heap.size, 0, none⟩) := hev 3 rfl
        refine Drawn.wpOp_flow 31 rfl rfl rfl ?_
        obtain ⟨c0, c1, c2, c3, c4, c5⟩ := six (HA1.out.below hb)
        clear hev hdep hb
        go_simp
        exact ⟨_, rfl, rfl, Below.refl _ _⟩
      · have e7 : a.tmps[7]?.getD undef = .int .i64 (m : Nat) := hev 7 rfl
        refine Drawn.wpOp_flow 32 rfl rfl rfl ?_
        clear hev hdep hb
        go_simp
        exact ⟨_, rfl, rfl, Below.refl _ _⟩
      · have e8 : a.tmps[8]?.getD undef = .int .i64 t := hev 8 rfl
        refine Drawn.wpOp_flow 33 rfl rfl rfl ?_
        clear hev hdep hb
        go_simp
        exact ⟨_, rfl, rfl, Below.refl _ _⟩
      · have e2 : a.tmps[2]?.getD undef = .slice A tl u := hev 2 rfl
        refine Drawn.wpOp_flow 34 rfl rfl rfl ?_
        clear hev hdep hb
        go_simp
        exact ⟨_, rfl, rfl, Below.refl _ _⟩
      · obtain ⟨bf, d0, ht⟩ : (Drawn.SP.tab).p (a.tmps[30]?.getD undef) wq := hdep 0 rfl
        have d1 : a.tmps[31]?.getD undef = .agg #[.int .i64 (N0 : Nat), .int .i64 T, .int .i64 L, .int .i64 W, .int .i64 S, .int .i64 R] := hdep 1 rfl
        have d2 : a.tmps[32]?.getD undef = .int .i64 (m : Nat) := hdep 2 rfl
        have d3 : a.tmps[33]?.getD undef = .int .i64 t := hdep 3 rfl
        have d4 : a.tmps[34]?.getD undef = .slice A tl u := hdep 4 rfl
        refine Drawn.wpOp_flow 35 rfl rfl rfl ?_
        clear hev hdep
        have C := H1.out bf wq ht (BT.out.below (bstep HB1.out hb))
        clear hb ht
        go_simp
        refine C.mono ?_
        rintro e w' ⟨X, f, rfl, g1, g2, g3, hb', _⟩
        exact ⟨_, rfl, ⟨X, f, rfl, g1, g2, g3⟩, hb'⟩
      · have d5 := hdep 5 rfl
        refine Drawn.wpOp_flow 29 rfl rfl rfl ?_
        clear hev hdep hb
        go_simp
        exact ⟨_, rfl, d5, Below.refl _ _⟩
      · obtain ⟨Z, dz, d6, z1, z2, z3⟩ : (SP.rE rs N0 0).p (a.tmps[29]?.getD undef) wq := hdep 6 rfl
        refine Drawn.wpOp_flow 36 rfl rfl rfl ?_
        clear hev hdep
        clear hb
        go_simp
        exact ⟨_, rfl, ⟨Z, dz, rfl, z1, z2, z3⟩, Below.refl _ _⟩
      · obtain ⟨Z, dz, d6, z1, z2, z3⟩ : (SP.rE rs N0 0).p (a.tmps[29]?.getD undef) wq := hdep 6 rfl
        refine Drawn.wpOp_flow 37 rfl rfl rfl ?_
        clear hev hdep hb
        go_simp
        exact ⟨_, rfl, rfl, Below.refl _ _⟩
      · have d7 := hdep 7 rfl
        refine Drawn.wpOp_flow 9 rfl rfl rfl ?_
        clear hev hdep hb
        go_simp
        exact ⟨_, rfl, d7, Below.refl _ _⟩
      · have d8 : a.tmps[37]?.getD undef = .int .i64 0 := hdep 8 rfl
        refine Drawn.wpOp_flow 10 rfl rfl rfl ?_
        clear hev hdep hb
        go_simp
        exact ⟨_, rfl, rfl, Below.refl _ _⟩
    · intro xq wq hb hxq
      have vq1 : xq 1 = .agg #[.int .i64 (N0 : Nat), .int .i64 T, .int .i64 L, .int .i64 W, .int .i64 S, .int .i64 R] := hxq 1 (by omega)
      have vq2 : xq 2 = .int .i64 (m : Nat) := hxq 2 (by omega)
      have vq3 : xq 3 = .int .i64 t := hxq 3 (by omega)
      have vq4 : xq 4 = .slice A tl u := hxq 4 (by omega)
      have vq8 : xq 8 = .int .i64 0 := hxq 8 (by omega)
      obtain ⟨Z, dz, vq9, z1, z2, z3⟩ : (SP.rn rs N0).p (xq 9) wq := hxq 9 (by omega)
      have vq10 : xq 10 = .int .i64 0 := hxq 10 (by omega)
      show Exit.then _ _ Exit.normal (Drawn.acts _ [(10, some (xq 10)), (9, some (xq 9)), (37, some (xq 8)), (36, some (xq 7)), (29, some (xq 6)), (35, some (xq 5)), (34, some (xq 4)), (33, some (xq 3)), (32, some (xq 2)), (31, some (xq 1)), (30, some (xq 0))]) _
      rw [vq1, vq2, vq3, vq4, vq8, vq9, vq10]
      clear hxq vq1 vq2 vq3 vq4 vq8 vq9 vq10
      generalize xq 0 = yq0
      generalize xq 5 = yq5
      generalize xq 6 = yq6
      generalize xq 7 = yq7
      clear xq
      simp only [Drawn.acts]
      go_simp
      have HZ := Lib.hid z3
      have HB2 := Lib.hid (bstep HB1.out hb)
      have HA2 := Lib.hid (HA1.out.below hb)
      obtain ⟨c0, c1, c2, c3, c4, c5⟩ := six HA2.out
      clear hb z3
      go_wp2_with fail
      refine (H2.out _).mono ?_
      rintro e w2 ⟨rfl, hb2⟩
      have HB3 := Lib.hid (bstep HB2.out hb2)
      have HA3 := Lib.hid (HA2.out.below hb2)
      have HZ3 := Lib.hid (HZ.out.below hb2)
      clear c0 c1 c2 c3 c4 c5 hb2
      obtain ⟨c0, c1, c2, c3, c4, c5⟩ := six HA3.out
      have hnl : ¬ (tl : Int) < (x : Int) := by omega
      go_wp2_with fail
      refine (H4.out _).mono ?_
      rintro e w3 ⟨rfl, hb3⟩
      have HB3' := Lib.hid (bstep HB3.out hb3)
      have HA4 := Lib.hid (HA3.out.below hb3)
      have HZ4 := Lib.hid (HZ3.out.below hb3)
      clear c0 c1 c2 c3 c4 c5 hb3
      go_wp2_with fail
      refine Drawn.wp_region_flowL 19 [Drawn.SP.is (.int .i64 0), Drawn.SP.is (.bool false), Drawn.SP.is (.bool false), Drawn.SP.is (.slice Z N0 dz), Drawn.SP.is (.int .i64 (N0 : Nat)), Drawn.SP.is (.pointer (some ⟨w.heap.size, 0, none⟩)), Drawn.SP.is (.int .i64 (N0 : Nat)), Drawn.SP.is (.bool false), Drawn.SP.is (.bool false), Drawn.SP.is (.bool false), Drawn.SP.is (.agg #[.int .i64 (N0 : Nat), .int .i64 T, .int .i64 L, .int .i64 W, .int .i64 S, .int .i64 R]), Drawn.SP.is (.int .i64 (m : Nat)), Drawn.SP.is (.int .i64 (x : Nat)), Drawn.SP.is (.agg #[.int .i64 (N0 : Nat), .int .i64 T, .int .i64 L, .int .i64 W, .int .i64 S, .int .i64 R]), Drawn.SP.is (.int .i64 (wd : Nat)), Drawn.SP.is (.int .i64 (m : Nat)), Drawn.SP.is (.int .i64 (x : Nat)), Drawn.SP.is (.bool false), Drawn.SP.is (.bool false)] (by kernel_rfl) (by kernel_rfl) ?_ ?_
      · intro i hi a wy hb hev hdep
        rcases (show i = 0 ∨ i = 1 ∨ i = 2 ∨ i = 3 ∨ i = 4 ∨ i = 5 ∨ i = 6 ∨ i = 7 ∨ i = 8 ∨ i = 9 ∨ i = 10 ∨ i = 11 ∨ i = 12 ∨ i = 13 ∨ i = 14 ∨ i = 15 ∨ i = 16 ∨ i = 17 ∨ i = 18 by omega) with rfl | rfl | rfl | rfl | rfl | rfl | rfl | rfl | rfl | rfl | rfl | rfl | rfl | rfl | rfl | rfl | rfl | rfl | rfl
        · have e10 : a.tmps[10]?.getD undef = .int .i64 0 := hev 10 rfl
          refine Drawn.wpOp_flow 66 rfl rfl rfl ?_
          clear hev hdep hb
          go_simp
          exact ⟨_, rfl, rfl, Below.refl _ _⟩
        · have d0 : a.tmps[66]?.getD undef = .int .i64 0 := hdep 0 rfl
          refine Drawn.wpOp_flow 67 rfl rfl rfl ?_
          clear hev hdep hb
          go_simp
          exact ⟨_, rfl, rfl, Below.refl _ _⟩
        · have d1 : a.tmps[67]?.getD undef = .bool false := hdep 1 rfl
          refine Drawn.wpOp_flow 68 rfl rfl rfl ?_
          clear hev hdep hb
          go_simp
          exact ⟨_, rfl, rfl, Below.refl _ _⟩
        · have e9 : a.tmps[9]?.getD undef = .slice Z N0 dz := hev 9 rfl
          have dg : a.tmps[68]?.getD undef = .bool false := hdep 2 rfl
          refine Drawn.wpOp_flow 69 rfl (Drawn.wanted_of rfl rfl rfl dg) rfl ?_
          clear dg
          clear hev hdep hb
          go_simp
          exact ⟨_, rfl, rfl, Below.refl _ _⟩
        · have d3 : a.tmps[69]?.getD undef = .slice Z N0 dz := hdep 3 rfl
          have dg : a.tmps[68]?.getD undef = .bool false := hdep 2 rfl
          refine Drawn.wpOp_flow 70 rfl (Drawn.wanted_of rfl rfl rfl dg) rfl ?_
          clear dg
          clear hev hdep hb
          go_simp
          exact ⟨_, rfl, rfl, Below.refl _ _⟩
        · have e3 : a.tmps[3]?.getD undef = .pointer (some ⟨w.heap.size, 0, none⟩) := hev 3 rfl
          have dg : a.tmps[68]?.getD undef = .bool false := hdep 2 rfl
          refine Drawn.wpOp_flow 71 rfl (Drawn.wanted_of rfl rfl rfl dg) rfl ?_
          clear dg
          clear hev hdep hb
          go_simp
          exact ⟨_, rfl, rfl, Below.refl _ _⟩
        · have d5 : a.tmps[71]?.getD undef = .pointer (some ⟨w.heap.size, 0, none⟩) := hdep 5 rfl
          have dg : a.tmps[68]?.getD undef = .bool false := hdep 2 rfl
          refine Drawn.wpOp_flow 72 rfl (Drawn.wanted_of rfl rfl rfl dg) rfl ?_
          obtain ⟨c0, c1, c2, c3, c4, c5⟩ := six (HA4.out.below hb)
          clear dg
          clear hev hdep hb
          go_simp
          exact ⟨_, rfl, rfl, Below.refl _ _⟩
        · have d4 : a.tmps[70]?.getD undef = .int .i64 (N0 : Nat) := hdep 4 rfl
          have d6 : a.tmps[72]?.getD undef = .int .i64 (N0 : Nat) := hdep 6 rfl
          have dg : a.tmps[68]?.getD undef = .bool false := hdep 2 rfl
          refine Drawn.wpOp_flow 73 rfl (Drawn.wanted_of rfl rfl rfl dg) rfl ?_
          clear dg
          clear hev hdep hb
          go_simp
          exact ⟨_, rfl, rfl, Below.refl _ _⟩
        · have d2 : a.tmps[68]?.getD undef = .bool false := hdep 2 rfl
          have d7 : a.tmps[73]?.getD undef = .bool false := hdep 7 rfl
          refine Drawn.wpOp_flow 74 rfl rfl rfl ?_
          clear hev hdep hb
          go_simp
          exact ⟨_, rfl, rfl, Below.refl _ _⟩
        · have d8 : a.tmps[74]?.getD undef = .bool false := hdep 8 rfl
          refine Drawn.wpOp_flow 75 rfl rfl rfl ?_
          clear hev hdep hb
          go_simp
          exact ⟨_, rfl, rfl, Below.refl _ _⟩
        · have e3 : a.tmps[3]?.getD undef = .pointer (some ⟨w.heap.size, 0, none⟩) := hev 3 rfl
          have dg : a.tmps[75]?.getD undef = .bool false := hdep 9 rfl
          refine Drawn.wpOp_flow 76 rfl (Drawn.wanted_of rfl rfl rfl dg) rfl ?_
          obtain ⟨c0, c1, c2, c3, c4, c5⟩ := six (HA4.out.below hb)
          clear dg
          clear hev hdep hb
          go_simp
          exact ⟨_, rfl, rfl, Below.refl _ _⟩
        · have e7 : a.tmps[7]?.getD undef = .int .i64 (m : Nat) := hev 7 rfl
          have dg : a.tmps[75]?.getD undef = .bool false := hdep 9 rfl
          refine Drawn.wpOp_flow 77 rfl (Drawn.wanted_of rfl rfl rfl dg) rfl ?_
          clear dg
          clear hev hdep hb
          go_simp
          exact ⟨_, rfl, rfl, Below.refl _ _⟩
        · have d10 : a.tmps[76]?.getD undef = .agg #[.int .i64 (N0 : Nat), .int .i64 T, .int .i64 L, .int .i64 W, .int .i64 S, .int .i64 R] := hdep 10 rfl
          have d11 : a.tmps[77]?.getD undef = .int .i64 (m : Nat) := hdep 11 rfl
          have dg : a.tmps[75]?.getD undef = .bool false := hdep 9 rfl
          refine Drawn.wpOp_flow 78 rfl (Drawn.wanted_of rfl rfl rfl dg) rfl ?_
          clear hev hdep
          clear hb dg
          go_simp
          refine (H3.out wy).mono ?_
          rintro e w' ⟨rfl, hb'⟩
          exact ⟨_, rfl, rfl, hb'⟩
        · have e3 : a.tmps[3]?.getD undef = .pointer (some ⟨w.heap.size, 0, none⟩) := hev 3 rfl
          have dg : a.tmps[75]?.getD undef = .bool false := hdep 9 rfl
          refine Drawn.wpOp_flow 79 rfl (Drawn.wanted_of rfl rfl rfl dg) rfl ?_
          obtain ⟨c0, c1, c2, c3, c4, c5⟩ := six (HA4.out.below hb)
          clear dg
          clear hev hdep hb
          go_simp
          exact ⟨_, rfl, rfl, Below.refl _ _⟩
        · have d13 : a.tmps[79]?.getD undef = .agg #[.int .i64 (N0 : Nat), .int .i64 T, .int .i64 L, .int .i64 W, .int .i64 S, .int .i64 R] := hdep 13 rfl
          have dg : a.tmps[75]?.getD undef = .bool false := hdep 9 rfl
          refine Drawn.wpOp_flow 80 rfl (Drawn.wanted_of rfl rfl rfl dg) rfl ?_
          clear hev hdep
          clear hb dg
          go_simp
          refine (H4.out wy).mono ?_
          rintro e w' ⟨rfl, hb'⟩
          exact ⟨_, rfl, rfl, hb'⟩
        · have e7 : a.tmps[7]?.getD undef = .int .i64 (m : Nat) := hev 7 rfl
          have dg : a.tmps[75]?.getD undef = .bool false := hdep 9 rfl
          refine Drawn.wpOp_flow 81 rfl (Drawn.wanted_of rfl rfl rfl dg) rfl ?_
          clear dg
          clear hev hdep hb
          go_simp
          exact ⟨_, rfl, rfl, Below.refl _ _⟩
        · have d14 : a.tmps[80]?.getD undef = .int .i64 (wd : Nat) := hdep 14 rfl
          have d15 : a.tmps[81]?.getD undef = .int .i64 (m : Nat) := hdep 15 rfl
          have dg : a.tmps[75]?.getD undef = .bool false := hdep 9 rfl
          refine Drawn.wpOp_flow 82 rfl (Drawn.wanted_of rfl rfl rfl dg) rfl ?_
          clear dg
          clear hev hdep hb
          go_simp
          exact ⟨_, rfl, rfl, Below.refl _ _⟩
        · have d12 : a.tmps[78]?.getD undef = .int .i64 (x : Nat) := hdep 12 rfl
          have d16 : a.tmps[82]?.getD undef = .int .i64 (x : Nat) := hdep 16 rfl
          have dg : a.tmps[75]?.getD undef = .bool false := hdep 9 rfl
          refine Drawn.wpOp_flow 83 rfl (Drawn.wanted_of rfl rfl rfl dg) rfl ?_
          clear dg
          clear hev hdep hb
          go_simp
          exact ⟨_, rfl, rfl, Below.refl _ _⟩
        · have d9 : a.tmps[75]?.getD undef = .bool false := hdep 9 rfl
          have d17 : a.tmps[83]?.getD undef = .bool false := hdep 17 rfl
          refine Drawn.wpOp_flow 84 rfl rfl rfl ?_
          clear hev hdep hb
          go_simp
          exact ⟨_, rfl, rfl, Below.refl _ _⟩
      · intro xq wy hb hxq
        have vq0 : xq 0 = .int .i64 0 := hxq 0 (by omega)
        have vq1 : xq 1 = .bool false := hxq 1 (by omega)
        have vq2 : xq 2 = .bool false := hxq 2 (by omega)
        have vq3 : xq 3 = .slice Z N0 dz := hxq 3 (by omega)
        have vq4 : xq 4 = .int .i64 (N0 : Nat) := hxq 4 (by omega)
        have vq5 : xq 5 = .pointer (some ⟨w.heap.size, 0, none⟩) := hxq 5 (by omega)
        have vq6 : xq 6 = .int .i64 (N0 : Nat) := hxq 6 (by omega)
        have vq7 : xq 7 = .bool false := hxq 7 (by omega)
        have vq8 : xq 8 = .bool false := hxq 8 (by omega)
        have vq9 : xq 9 = .bool false := hxq 9 (by omega)
        have vq10 : xq 10 = .agg #[.int .i64 (N0 : Nat), .int .i64 T, .int .i64 L, .int .i64 W, .int .i64 S, .int .i64 R] := hxq 10 (by omega)
        have vq11 : xq 11 = .int .i64 (m : Nat) := hxq 11 (by omega)
        have vq12 : xq 12 = .int .i64 (x : Nat) := hxq 12 (by omega)
        have vq13 : xq 13 = .agg #[.int .i64 (N0 : Nat), .int .i64 T, .int .i64 L, .int .i64 W, .int .i64 S, .int .i64 R] := hxq 13 (by omega)
        have vq14 : xq 14 = .int .i64 (wd : Nat) := hxq 14 (by omega)
        have vq15 : xq 15 = .int .i64 (m : Nat) := hxq 15 (by omega)
        have vq16 : xq 16 = .int .i64 (x : Nat) := hxq 16 (by omega)
        have vq17 : xq 17 = .bool false := hxq 17 (by omega)
        have vq18 : xq 18 = .bool false := hxq 18 (by omega)
        show Exit.then _ _ Exit.normal (Drawn.acts _ [(84, some (xq 18)), (83, some (xq 17)), (82, some (xq 16)), (81, some (xq 15)), (80, some (xq 14)), (79, some (xq 13)), (78, some (xq 12)), (77, some (xq 11)), (76, some (xq 10)), (75, some (xq 9)), (74, some (xq 8)), (73, some (xq 7)), (72, some (xq 6)), (71, some (xq 5)), (70, some (xq 4)), (69, some (xq 3)), (68, some (xq 2)), (67, some (xq 1)), (66, some (xq 0))]) _
        rw [vq0, vq1, vq2, vq3, vq4, vq5, vq6, vq7, vq8, vq9, vq10, vq11, vq12, vq13, vq14, vq15, vq16, vq17, vq18]
        clear hxq vq0 vq1 vq2 vq3 vq4 vq5 vq6 vq7 vq8 vq9 vq10 vq11 vq12 vq13 vq14 vq15 vq16 vq17 vq18
        clear xq
        simp only [Drawn.acts]
        go_simp
        have HB5 := Lib.hid (bstep HB3'.out hb)
        have HA5 := Lib.hid (HA4.out.below hb)
        have HZ5 := Lib.hid (HZ4.out.below hb)
        obtain ⟨c0, c1, c2, c3, c4, c5⟩ := six HA5.out
        clear hb
        go_wp2_with fail
        refine (H5.out _ (BT.out.below HB5.out)).mono ?_
        rintro e w5 ⟨X, dX, rfl, x1, x2, hX, hb5, _⟩
        have HX := Lib.hid hX
        have HB6 := Lib.hid (bstep HB5.out hb5)
        have HZ6 := Lib.hid (HZ5.out.below hb5)
        clear c0 c1 c2 c3 c4 c5 hb5 hX
        go_wp2_with fail
        go_loopw [92] (fun i wr => ∃ k : Nat, k ≤ N0 ∧ i = .int .i64 k ∧ Below w5.heap.size w5 wr) (fun i _ => N0 - (intOf i).toNat)
        case atStart => exact ⟨0, Nat.zero_le _, rfl, Below.refl _ _⟩
        case round =>
        obtain ⟨k, hk, rfl, hbr⟩ := hrel
        rename World => wr
        have HBR := Lib.hid hbr
        clear hbr
        by_cases hlt : k < N0
        · have hkl : k < rs.length := by rw [HSL.out]; exact hlt
          obtain ⟨zb, zo, B, cr, rfl, e1, g1, g2, hB⟩ := (HZ6.out.below HBR.out).row hkl
          rw [HSG.out k hkl] at e1 g1 hB
          have hsh := HSHL.out ((k : Int) + 1)
          have HSH := Lib.hid (fun V (h : RowsAt V X zp) => H6.out X dX ((k : Int) + 1) V h)
          generalize share zp ((k : Int) + 1) = sh at *
          have hshl : sh.length ≤ maxLen := by unfold maxLen; omega
          have E1 := Lib.hid e1; have HBY := Lib.hid hB
          have i1 : IntKind.i64.wrap ((k : Int) + 1) = (k : Int) + 1 := IntWalk.i64_in _ (by omega)
          clear e1 hB hsh hkl
          go_wp2_with fail
          refine Drawn.wp_region_flowL 10 [Drawn.SP.is (.slice (some ⟨zb, zo, none⟩) N0 dz), Drawn.SP.is (.int .i64 (k : Nat)), Drawn.SP.is (.pointer (some ⟨zb, zo + k, none⟩)), Drawn.SP.is (.slice B sh.length cr), Drawn.SP.is (.slice X m dX), Drawn.SP.is (.int .i64 (k : Nat)), Drawn.SP.is (.int .i64 ((k : Int) + 1)), SP.bn sh sh.length, Drawn.SP.is (.bool true), Drawn.SP.is (.bool false)] (by kernel_rfl) (by kernel_rfl) ?_ ?_
          · intro i hi a w9 hb hev hdep
            rcases (show i = 0 ∨ i = 1 ∨ i = 2 ∨ i = 3 ∨ i = 4 ∨ i = 5 ∨ i = 6 ∨ i = 7 ∨ i = 8 ∨ i = 9 by omega) with rfl | rfl | rfl | rfl | rfl | rfl | rfl | rfl | rfl | rfl
            · have e9 : a.tmps[9]?.getD undef = .slice (some ⟨zb, zo, none⟩) N0 dz := hev 9 rfl
              refine Drawn.wpOp_flow 95 rfl rfl rfl ?_
              clear hev hdep hb
              go_simp
              exact ⟨_, rfl, rfl, Below.refl _ _⟩
            · have e13 : a.tmps[13]?.getD undef = .int .i64 (k : Nat) := hev 13 rfl
              refine Drawn.wpOp_flow 96 rfl rfl rfl ?_
              clear hev hdep hb
              go_simp
              exact ⟨_, rfl, rfl, Below.refl _ _⟩
            · have d0 : a.tmps[95]?.getD undef = .slice (some ⟨zb, zo, none⟩) N0 dz := hdep 0 rfl
              have d1 : a.tmps[96]?.getD undef = .int .i64 (k : Nat) := hdep 1 rfl
              refine Drawn.wpOp_flow 97 rfl rfl rfl ?_
              clear hev hdep hb
              go_simp
              exact ⟨_, rfl, rfl, Below.refl _ _⟩
            · have d2 : a.tmps[97]?.getD undef = .pointer (some ⟨zb, zo + k, none⟩) := hdep 2 rfl
              refine Drawn.wpOp_flow 98 rfl rfl rfl ?_
              have k1 := (hb.cell (p := ⟨zb, zo + k, none⟩) (cell_lt E1.out)).trans E1.out
              clear hev hdep hb
              go_simp
              exact ⟨_, rfl, rfl, Below.refl _ _⟩
            · have e12 : a.tmps[12]?.getD undef = .slice X m dX := hev 12 rfl
              refine Drawn.wpOp_flow 99 rfl rfl rfl ?_
              clear hev hdep hb
              go_simp
              exact ⟨_, rfl, rfl, Below.refl _ _⟩
            · have e13 : a.tmps[13]?.getD undef = .int .i64 (k : Nat) := hev 13 rfl
              refine Drawn.wpOp_flow 100 rfl rfl rfl ?_
              clear hev hdep hb
              go_simp
              exact ⟨_, rfl, rfl, Below.refl _ _⟩
            · have d5 : a.tmps[100]?.getD undef = .int .i64 (k : Nat) := hdep 5 rfl
              refine Drawn.wpOp_flow 101 rfl rfl rfl ?_
              clear hev hdep hb
              go_simp
              exact ⟨_, rfl, rfl, Below.refl _ _⟩
            · have d4 : a.tmps[99]?.getD undef = .slice X m dX := hdep 4 rfl
              have d6 : a.tmps[101]?.getD undef = .int .i64 ((k : Int) + 1) := hdep 6 rfl
              refine Drawn.wpOp_flow 102 rfl rfl rfl ?_
              clear hev hdep
              have C := HSH.out w9 (HX.out.below (bstep HBR.out hb))
              clear hb
              go_simp
              refine C.mono ?_
              rintro e w' ⟨Y, dY, rfl, _, _, hY, hb', _⟩
              exact ⟨_, rfl, ⟨Y, dY, rfl, hY⟩, hb'⟩
            · have d3 : a.tmps[98]?.getD undef = .slice B sh.length cr := hdep 3 rfl
              obtain ⟨Y, dY, d7, hY⟩ : (SP.bn sh sh.length).p (a.tmps[102]?.getD undef) w9 := hdep 7 rfl
              refine Drawn.wpOp_flow 103 rfl rfl rfl ?_
              clear hev hdep
              have C := R01.same_any B Y sh sh cr dY w9 (HBY.out.below hb) hY (by omega) (by omega)
              rw [same_self] at C
              clear hb hY
              go_simp
              refine C.mono ?_
              rintro e w' ⟨rfl, hq⟩
              exact ⟨_, rfl, rfl, bquiet hq⟩
            · have d8 : a.tmps[103]?.getD undef = .bool true := hdep 8 rfl
              refine Drawn.wpOp_flow 104 rfl rfl rfl ?_
              clear hev hdep hb
              go_simp
              exact ⟨_, rfl, rfl, Below.refl _ _⟩
          · intro xq w9 hb hxq
            have vq0 : xq 0 = .slice (some ⟨zb, zo, none⟩) N0 dz := hxq 0 (by omega)
            have vq1 : xq 1 = .int .i64 (k : Nat) := hxq 1 (by omega)
            have vq2 : xq 2 = .pointer (some ⟨zb, zo + k, none⟩) := hxq 2 (by omega)
            have vq3 : xq 3 = .slice B sh.length cr := hxq 3 (by omega)
            have vq4 : xq 4 = .slice X m dX := hxq 4 (by omega)
            have vq5 : xq 5 = .int .i64 (k : Nat) := hxq 5 (by omega)
            have vq6 : xq 6 = .int .i64 ((k : Int) + 1) := hxq 6 (by omega)
            have vq8 : xq 8 = .bool true := hxq 8 (by omega)
            have vq9 : xq 9 = .bool false := hxq 9 (by omega)
            show Exit.then _ _ Exit.normal (Drawn.acts _ [(104, some (xq 9)), (103, some (xq 8)), (102, some (xq 7)), (101, some (xq 6)), (100, some (xq 5)), (99, some (xq 4)), (98, some (xq 3)), (97, some (xq 2)), (96, some (xq 1)), (95, some (xq 0))]) _
            rw [vq0, vq1, vq2, vq3, vq4, vq5, vq6, vq8, vq9]
            clear hxq vq0 vq1 vq2 vq3 vq4 vq5 vq6 vq8 vq9
            generalize xq 7 = yq7
            clear xq
            simp only [Drawn.acts]
            go_simp
            go_wp2
            go_roundw
            case rel => exact ⟨k + 1, by omega, by go_num, bstep HBR.out hb⟩
            case measure => simp [intOf] <;> omega
        · obtain rfl : k = N0 := by omega
          obtain ⟨j, hj⟩ : ∃ j : Nat, t - 1 = j := ⟨(t - 1).toNat, by omega⟩
          have hjl : j < rs.length := by rw [HSL.out]; omega
          obtain ⟨zb, zo, B, cr, rfl, e1, g1, g2, hB⟩ := (HZ6.out.below HBR.out).row hjl
          have hgj := HSG.out j hjl
          rw [show (j : Int) + 1 = t by omega] at hgj
          rw [hgj] at e1 g1 hB
          have HB7 := Lib.hid hB
          have hz0 := HZ0.out
          have hsl2 := HSHL.out t
          generalize share zp t = sh at *
          have HZZ := Lib.hid hz0; have HSL2 := Lib.hid hsl2
          rw [hsl2] at e1 g1
          have hjk : j < k := by omega
          have i1 : IntKind.i64.wrap (t - 1) = (j : Int) := by rw [hj]; exact IntWalk.i64_in _ (by omega)
          clear hB hz0 hsl2 hgj hjl hj
          go_wp2_with fail
          clear e1 i1
          go_loopw [112] (fun i w6 => ∃ c : Nat, c ≤ m ∧ i = .int .i64 c ∧ wr = w6) (fun i _ => m - (intOf i).toNat)
          case atStart => exact ⟨0, Nat.zero_le _, rfl, rfl⟩
          case round =>
            obtain ⟨c, hc, rfl, rfl⟩ := hrel
            by_cases hlt2 : c < m
            · have hcs : c < sh.length := by rw [HSL2.out]; exact hlt2
              obtain ⟨b3, o3, rfl, e3⟩ := HB7.out c hcs
              rw [HZZ.out c hcs] at e3
              clear hcs
              go_wp2
              go_roundw
              case rel => exact ⟨c + 1, by omega, by go_num, by first | trivial | rfl⟩
              case measure => simp [intOf] <;> omega
            · obtain rfl : c = m := by omega
              go_wp2_with fail
              refine (alive_any _).mono ?_
              rintro e w6 ⟨rfl, hb6⟩
              go_wp2
              go_ret
              exact ⟨rfl, bstep HB6.out (bstep HBR.out hb6)⟩

theorem shares_law (q : P) (n t : Int) (A : Option Addr) (tape : List UInt8) (u : Nat) (w : World) (hp : q.In) (hn : In64 n) (ht0 : In64 t) (h : BytesAt w A tape) (k : tape.length ≤ u) (z : u ≤ maxLen) :
    Calls Try.prog 3 #[q.val, .agg #[.int .i64 n, .int .i64 t], .slice A tape.length u] w fun e w' => e = .returned (.bool true) ∧ Below w.heap.size w w' := by
  obtain ⟨N, T, L, W, S, R⟩ := q
  by_cases hl : N ≤ 12 ∧ L ≤ 12 ∧ T ≤ 12
  · by_cases h9 : 900 < tape.length
    · exact bs_long N T L W S R n t A tape u w hp hn ht0 hl h9
    · by_cases hr : bcheck ⟨N, T, L, W, S, R⟩ n t = 0
      · obtain ⟨hM, n0, n1, hi⟩ := bcheck_ok hr
        have hM' := hM
        unfold P.May at hM'
        simp only at hM'
        have hi2 := of_decide_eq_true hi
        simp only at hi2
        obtain ⟨N0, rfl⟩ : ∃ a : Nat, N = a := ⟨N.toNat, by omega⟩
        obtain ⟨m, rfl⟩ : ∃ a : Nat, n = a := ⟨n.toNat, by omega⟩
        obtain ⟨wd, hwd⟩ : ∃ a : Nat, T + L - 1 = a := ⟨(T + L - 1).toNat, by omega⟩
        by_cases hx : tape.length < wd * m
        · exact bs_empty N0 T L W S R t m wd A tape u w hp ht0 h k z hl (by omega) hM hwd (by omega) hr hx
        · exact bs_ok T L W S R t N0 m wd A tape u w hp ht0 h k z hl (by omega) hM hwd (by omega) hr (by omega) hi2
      · exact bs_bad N T L W S R n t A tape u w hp hn ht0 h k z hl (by omega) hr
  · exact bs_heavy N T L W S R n t A tape u w hp hn ht0 hl
end Go.Proofs.Ytchcgiapjhmflaa.Law13
