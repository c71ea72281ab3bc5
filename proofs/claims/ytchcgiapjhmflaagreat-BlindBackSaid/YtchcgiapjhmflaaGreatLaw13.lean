/- the walks of layer 13's laws: the example, BlindShares -/
import Derived.Test.YtchcgiapjhmflaaGreatR13
import Derived.Test.YtchcgiapjhmflaaGreatR01
import Derived.Test.YtchcgiapjhmflaaGreatBlind
import Derived.Test.YtchcgiapjhmflaaGreatMO
set_option maxRecDepth 100000
namespace Go.Proofs.YtchcgiapjhmflaaGreat.Law13
open Go.RowKit PlanM StripeM LagrM DealM RebM ZeroM Law08 Law10

def three : PlanM.P := ⟨3, 1, 1, 2, 9, 1⟩
theorem three_in : three.In := by unfold three; constructor <;> (unfold In64; simp)
theorem three_val : three.val = .agg #[.int .i64 3, .int .i64 1, .int .i64 1, .int .i64 2, .int .i64 9, .int .i64 1] := rfl
theorem three_blind : blindA three 1 3 [5] = [[10], [15], [0]] ∧ blindE three 1 3 [5] = 0 ∧ bcost three 4 = 4 := by decide +kernel
structure Lies2 (w : World) (g : Nat) (N T L W S R : Int) (p0 p1 : Value) : Prop where
  plan : PlanLies w g N T L W S R
  a0 : w.cell? ⟨g + 1, 0, none⟩ = some p0
  a1 : w.cell? ⟨g + 1, 1, none⟩ = some p1
theorem Lies2.below {w w' : World} {g : Nat} {N T L W S R : Int} {p0 p1 : Value} (h : Lies2 w g N T L W S R p0 p1) (hb : Below w.heap.size w w') : Lies2 w' g N T L W S R p0 p1 :=
  ⟨h.plan.below hb, (hb.cell (p := ⟨g + 1, 0, none⟩) (cell_lt h.a0)).trans h.a0, (hb.cell (p := ⟨g + 1, 1, none⟩) (cell_lt h.a1)).trans h.a1⟩
theorem lies2_aux (w : World) (g : Nat) (hg : w.heap.size = g + 1) (N T L W S R : Int) (p0 p1 : Value) (t : TypeId) (h : PlanLies w g N T L W S R) : Lies2 (w.alloc (.cells #[p0, p1] t)) g N T L W S R p0 p1 := by
  have a0 : (w.alloc (.cells #[p0, p1] t)).cell? ⟨w.heap.size, 0, none⟩ = some p0 := by simp
  have a1 : (w.alloc (.cells #[p0, p1] t)).cell? ⟨w.heap.size, 1, none⟩ = some p1 := by simp
  rw [hg] at a0 a1
  exact ⟨h.below (balloc _ _), a0, a1⟩
theorem Lies2.new (w : World) (N T L W S R : Int) (p0 p1 : Value) (t : TypeId) : Lies2 ((w.alloc (.cells #[.int .i64 N, .int .i64 T, .int .i64 L, .int .i64 W, .int .i64 S, .int .i64 R] 23)).alloc (.cells #[p0, p1] t)) w.heap.size N T L W S R p0 p1 :=
  lies2_aux (w.alloc (.cells #[.int .i64 N, .int .i64 T, .int .i64 L, .int .i64 W, .int .i64 S, .int .i64 R] 23)) w.heap.size (by simp) N T L W S R p0 p1 t (PlanLies.new w N T L W S R)
def SP.rE (m : List (List UInt8)) (n : Nat) (r : Int) : Drawn.SP := ⟨fun v w => ∃ X d, v = .tuple #[.slice X n d, .int .i64 r] ∧ n ≤ d ∧ d ≤ maxLen ∧ RowsAt w X m, fun _ _ _ h hb => by
  obtain ⟨X, d, h1, h2, h3, h4⟩ := h; exact ⟨X, d, h1, h2, h3, h4.below hb⟩⟩
def SP.rn (m : List (List UInt8)) (n : Nat) : Drawn.SP := ⟨fun v w => ∃ X d, v = .slice X n d ∧ n ≤ d ∧ d ≤ maxLen ∧ RowsAt w X m, fun _ _ _ h hb => by
  obtain ⟨X, d, h1, h2, h3, h4⟩ := h; exact ⟨X, d, h1, h2, h3, h4.below hb⟩⟩
def SP.bn (l : List UInt8) (n : Nat) : Drawn.SP := ⟨fun v w => ∃ X d, v = .slice X n d ∧ BytesAt w X l, fun _ _ _ h hb => by
  obtain ⟨X, d, h1, h2⟩ := h; exact ⟨X, d, h1, h2.below hb⟩⟩

set_option maxHeartbeats 2000000 in
theorem alive_any (w : World) : Calls Tryz.prog 9 #[] w fun e w' => e = .returned (.bool true) ∧ Below w.heap.size w w' := by
  obtain ⟨e1, e2, e3⟩ := three_blind
  have K1 := fun b0 A c W ht h1 k1 z1 => Blind.blind_any b0 three 1 3 A [5] c W three_in (by unfold In64; omega) (by unfold In64; omega) ht h1 k1 z1
  have K2 := fun W => Blind.cost_any three 4 W three_in (by unfold In64; omega)
  rw [e1, e2, three_val] at K1
  rw [e3, three_val] at K2
  have H1 := Lib.hid K1; have H2 := Lib.hid K2
  have HM : Hid (1 ≤ maxLen) := Lib.hid (by unfold maxLen; omega)
  clear K1 K2 e1 e2 e3
  go_enter Tryz.func9, Tryz.ntmps9
  go_wp2_with fail
  have HA := Lib.hid (PlanLies.new w 3 1 1 2 9 1)
  have HB0 := Lib.hid (balloc w (.cells #[.int .i64 3, .int .i64 1, .int .i64 1, .int .i64 2, .int .i64 9, .int .i64 1] 23))
  generalize w.alloc (.cells #[.int .i64 3, .int .i64 1, .int .i64 1, .int .i64 2, .int .i64 9, .int .i64 1] 23) = w0 at *
  refine Drawn.wp_region_flowL 9 [Drawn.SP.tab, Drawn.SP.is (.agg #[.int .i64 3, .int .i64 1, .int .i64 1, .int .i64 2, .int .i64 9, .int .i64 1]), Drawn.SP.bytes [5], SP.rE [[10], [15], [0]] 3 0, SP.rE [[10], [15], [0]] 3 0, SP.rn [[10], [15], [0]] 3, Drawn.SP.is (.int .i64 0), SP.rn [[10], [15], [0]] 3, Drawn.SP.is (.int .i64 0)] (by kernel_rfl) (by kernel_rfl) ?_ ?_
  · intro i hi a wq hb hev hdep
    rcases (show i = 0 ∨ i = 1 ∨ i = 2 ∨ i = 3 ∨ i = 4 ∨ i = 5 ∨ i = 6 ∨ i = 7 ∨ i = 8 by omega) with rfl | rfl | rfl | rfl | rfl | rfl | rfl | rfl | rfl
    · refine Drawn.wpOp_flow 6 rfl rfl rfl ?_
      clear hev hdep
      clear hb
      go_simp
      refine (Gf.new_any wq).mono ?_
      rintro e w' ⟨rfl, ht, hb', _⟩
      exact ⟨_, rfl, ⟨_, rfl, ht⟩, hb'⟩
    · have e1 : a.tmps[1]?.getD undef = .pointer (some ⟨w.heap.size, 0, none⟩) := hev 1 rfl
      refine Drawn.wpOp_flow 7 rfl rfl rfl ?_
      obtain ⟨c0, c1, c2, c3, c4, c5⟩ := six (HA.out.below hb)
      clear hev hdep hb
      go_simp
      exact ⟨_, rfl, rfl, Below.refl _ _⟩
    · refine Drawn.wpOp_flow 8 rfl rfl rfl ?_
      clear hev hdep
      clear hb
      go_simp
      exact ⟨_, rfl, ⟨_, _, rfl, by decide, by unfold maxLen; decide, (Row.new wq [5]).bytes⟩, balloc _ _⟩
    · obtain ⟨bf, d0, ht⟩ : (Drawn.SP.tab).p (a.tmps[6]?.getD undef) wq := hdep 0 rfl
      have d1 : a.tmps[7]?.getD undef = .agg #[.int .i64 3, .int .i64 1, .int .i64 1, .int .i64 2, .int .i64 9, .int .i64 1] := hdep 1 rfl
      obtain ⟨B5, c5x, d2, h5a, h5b, h5⟩ : (Drawn.SP.bytes [5]).p (a.tmps[8]?.getD undef) wq := hdep 2 rfl
      refine Drawn.wpOp_flow 9 rfl rfl rfl ?_
      clear hev hdep
      have C := H1.out bf B5 c5x wq ht h5 h5a h5b
      clear hb h5 h5a h5b ht
      go_simp
      refine C.mono ?_
      rintro e w' ⟨X, f, rfl, g1, g2, g3, hb', _⟩
      exact ⟨_, rfl, ⟨X, f, rfl, g1, g2, g3⟩, hb'⟩
    · have d3 := hdep 3 rfl
      refine Drawn.wpOp_flow 5 rfl rfl rfl ?_
      clear hev hdep hb
      go_simp
      exact ⟨_, rfl, d3, Below.refl _ _⟩
    · obtain ⟨Z, cz, d4, hza, hzb, hz⟩ : (SP.rE [[10], [15], [0]] 3 0).p (a.tmps[5]?.getD undef) wq := hdep 4 rfl
      refine Drawn.wpOp_flow 10 rfl rfl rfl ?_
      clear hev hdep
      clear hb
      go_simp
      exact ⟨_, rfl, ⟨Z, cz, rfl, hza, hzb, hz⟩, Below.refl _ _⟩
    · obtain ⟨Z, cz, d4, hza, hzb, hz⟩ : (SP.rE [[10], [15], [0]] 3 0).p (a.tmps[5]?.getD undef) wq := hdep 4 rfl
      refine Drawn.wpOp_flow 11 rfl rfl rfl ?_
      clear hev hdep hb
      go_simp
      exact ⟨_, rfl, rfl, Below.refl _ _⟩
    · have d5 := hdep 5 rfl
      refine Drawn.wpOp_flow 2 rfl rfl rfl ?_
      clear hev hdep hb
      go_simp
      exact ⟨_, rfl, d5, Below.refl _ _⟩
    · have d6 : a.tmps[11]?.getD undef = .int .i64 0 := hdep 6 rfl
      refine Drawn.wpOp_flow 3 rfl rfl rfl ?_
      clear hev hdep hb
      go_simp
      exact ⟨_, rfl, rfl, Below.refl _ _⟩
  · intro xq wq hb hxq
    have vq1 : xq 1 = .agg #[.int .i64 3, .int .i64 1, .int .i64 1, .int .i64 2, .int .i64 9, .int .i64 1] := hxq 1 (by omega)
    have vq6 : xq 6 = .int .i64 0 := hxq 6 (by omega)
    obtain ⟨Z, cz, vq7, hza, hzb, hz⟩ : (SP.rn [[10], [15], [0]] 3).p (xq 7) wq := hxq 7 (by omega)
    have vq8 : xq 8 = .int .i64 0 := hxq 8 (by omega)
    show Exit.then _ _ Exit.normal (Drawn.acts _ [(3, some (xq 8)), (2, some (xq 7)), (11, some (xq 6)), (10, some (xq 5)), (5, some (xq 4)), (9, some (xq 3)), (8, some (xq 2)), (7, some (xq 1)), (6, some (xq 0))]) _
    rw [vq1, vq6, vq7, vq8]
    clear hxq vq1 vq6 vq7 vq8
    generalize xq 0 = yq0
    generalize xq 2 = yq2
    generalize xq 3 = yq3
    generalize xq 4 = yq4
    generalize xq 5 = yq5
    clear xq
    simp only [Drawn.acts]
    go_simp
    have HB1 := Lib.hid (bstep HB0.out hb)
    have HA1 := Lib.hid (HA.out.below hb)
    obtain ⟨b1, o1, B1, d1, rfl, f1, g1, g1', hB1⟩ := hz.row (i := 0) (by decide)
    obtain ⟨b2, o2, B2, d2, e2, f2, g2, g2', hB2⟩ := hz.row (i := 1) (by decide)
    obtain ⟨b3, o3, B3, d3, e3, f3, g3, g3', hB3⟩ := hz.row (i := 2) (by decide)
    obtain ⟨rfl, rfl⟩ : b1 = b2 ∧ o1 = o2 := by injection e2 with e; injection e with h1 h2; exact ⟨h1, h2⟩
    obtain ⟨rfl, rfl⟩ : b1 = b3 ∧ o1 = o3 := by injection e3 with e; injection e with h1 h2; exact ⟨h1, h2⟩
    have HQ1 := Lib.hid hB1; have HQ2 := Lib.hid hB2; have HQ3 := Lib.hid hB3
    have l1 : b1 < wq.heap.size := cell_lt f1
    have k1 : wq.cell? ⟨b1, o1, none⟩ = some (.slice B1 1 d1) := f1
    have k2 : wq.cell? ⟨b1, o1 + 1, none⟩ = some (.slice B2 1 d2) := f2
    have k3 : wq.cell? ⟨b1, o1 + 2, none⟩ = some (.slice B3 1 d3) := f3
    have HF1 := Lib.hid k1; have HF2 := Lib.hid k2; have HF3 := Lib.hid k3
    have hbb := Below.refl wq.heap.size wq
    clear hz hb e2 e3 hB1 hB2 hB3 HB0 HA f1 f2 f3 g1 g1' g2 g2' g3 g3' hza hzb
    go_at_K
    go_wp2_with fail
    have C := R01.same_any B1 (some ⟨wq.heap.size, 0, none⟩) [10] [10] d1 1 (wq.alloc (.cells (cells [10]) 5)) ((HQ1.out.below hbb).alloc _) (Row.new _ _).bytes HM.out HM.out
    rw [same_self] at C
    refine C.mono ?_
    clear C
    rintro e w2 ⟨rfl, hq⟩
    replace hbb : Below wq.heap.size wq w2 := bstep hbb (bstep (balloc _ _) (bquiet hq))
    clear hq k1 k2 k3
    have k1 := (hbb.cell (p := ⟨b1, o1, none⟩) l1).trans HF1.out
    have k2 := (hbb.cell (p := ⟨b1, o1 + 1, none⟩) l1).trans HF2.out
    have k3 := (hbb.cell (p := ⟨b1, o1 + 2, none⟩) l1).trans HF3.out
    go_wp2_with fail
    have C := R01.same_any B2 (some ⟨w2.heap.size, 0, none⟩) [15] [15] d2 1 (w2.alloc (.cells (cells [15]) 5)) ((HQ2.out.below hbb).alloc _) (Row.new _ _).bytes HM.out HM.out
    rw [same_self] at C
    refine C.mono ?_
    clear C
    rintro e w3 ⟨rfl, hq⟩
    replace hbb : Below wq.heap.size wq w3 := bstep hbb (bstep (balloc _ _) (bquiet hq))
    clear hq k1 k2 k3
    have k1 := (hbb.cell (p := ⟨b1, o1, none⟩) l1).trans HF1.out
    have k2 := (hbb.cell (p := ⟨b1, o1 + 1, none⟩) l1).trans HF2.out
    have k3 := (hbb.cell (p := ⟨b1, o1 + 2, none⟩) l1).trans HF3.out
    go_wp2_with fail
    have C := R01.same_any B3 (some ⟨w3.heap.size, 0, none⟩) [0] [0] d3 1 (w3.alloc (.cells (cells [0]) 5)) ((HQ3.out.below hbb).alloc _) (Row.new _ _).bytes HM.out HM.out
    rw [same_self] at C
    refine C.mono ?_
    clear C
    rintro e w4 ⟨rfl, hq⟩
    replace hbb : Below wq.heap.size wq w4 := bstep hbb (bstep (balloc _ _) (bquiet hq))
    clear hq k1 k2 k3
    have k1 := (hbb.cell (p := ⟨b1, o1, none⟩) l1).trans HF1.out
    have k2 := (hbb.cell (p := ⟨b1, o1 + 1, none⟩) l1).trans HF2.out
    have k3 := (hbb.cell (p := ⟨b1, o1 + 2, none⟩) l1).trans HF3.out
    obtain ⟨c0, c1, c2, c3, c4, c5⟩ := six (HA1.out.below hbb)
    go_wp2_with fail
    refine (H2.out w4).mono ?_
    rintro e w5 ⟨rfl, hb5⟩
    clear c0 c1 c2 c3 c4 c5 k1 k2 k3
    go_wp2
    go_ret
    exact ⟨rfl, bstep HB1.out (bstep hbb hb5)⟩

end Go.Proofs.YtchcgiapjhmflaaGreat.Law13
