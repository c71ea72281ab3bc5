/- the walks of layer 11's laws -/
import Derived.Test.YtcnhfbahnbnnlaaLaw10
import Derived.Test.YtcnhfbahnbnnlaaR11C
import Derived.Test.YtcnhfbahnbnnlaaME
import Derived.Test.YtcnhfbahnbnnlaaMO
set_option maxRecDepth 100000
namespace Go.Proofs.Ytcnhfbahnbnnlaa.Law11
open Go.RowKit PlanM StripeM LagrM DealM RebM Law08 R11

theorem two_reb : rcheck Law10.two 1 [2, 1] [[8], [13]] = 0 ∧ rblobA Law10.two 1 [2, 1] [[8], [13]] = [7] ∧ ragreeA Law10.two 1 [1, 2] [[13], [8]] = true := by decide +kernel
set_option maxHeartbeats 4000000 in
theorem alive_any (w : World) : Calls Try.prog 7 #[] w fun e w' => e = .returned (.bool true) ∧ Below w.heap.size w w' := by
  obtain ⟨e1, e2, e3⟩ := two_reb
  have K1 := fun b0 A1 A2 u1 u2 W ht h1 k1 z1 h2 k2 z2 => Rebuild.blob_any b0 Law10.two 1 A1 A2 [2, 1] [[8], [13]] u1 u2 W Law10.two_in (by unfold In64; omega) ht h1 k1 z1 (by unfold In64; simp) h2 k2 z2 (by simp) (by simp)
  have K2 := fun b0 A1 A2 u1 u2 W ht h1 k1 z1 h2 k2 z2 => Rebuild.agree_any b0 Law10.two 1 A1 A2 [1, 2] [[13], [8]] u1 u2 W Law10.two_in (by unfold In64; omega) ht h1 k1 z1 (by unfold In64; simp) h2 k2 z2 (by simp) (by simp)
  rw [e1, e2, Law10.two_val] at K1
  rw [e3, Law10.two_val] at K2
  have H1 := Lib.hid K1; have H2 := Lib.hid K2
  have HM : Hid (([7] : List UInt8).length ≤ maxLen) := Lib.hid (by unfold maxLen; decide)
  clear K1 K2 e1 e2 e3
  go_enter Try.func7, Try.ntmps7
  go_wp2_with fail
  have HA := Lib.hid (PlanLies.new w 2 1 1 2 9 1)
  have HB0 := Lib.hid (balloc w (.cells #[.int .i64 2, .int .i64 1, .int .i64 1, .int .i64 2, .int .i64 9, .int .i64 1] 23))
  generalize w.alloc (.cells #[.int .i64 2, .int .i64 1, .int .i64 1, .int .i64 2, .int .i64 9, .int .i64 1] 23) = w0 at *
  refine Drawn.wp_region_flowL 12 [Drawn.SP.tab, Drawn.SP.is (.agg #[.int .i64 2, .int .i64 1, .int .i64 1, .int .i64 2, .int .i64 9, .int .i64 1]), Drawn.SP.ints [2, 1], Drawn.SP.bytes [8], Drawn.SP.bytes [13], Drawn.SP.rows [[8], [13]], Drawn.SP.bytesE [7] 0, Drawn.SP.bytesE [7] 0, Drawn.SP.bytes [7], Drawn.SP.is (.int .i64 0), Drawn.SP.bytes [7], Drawn.SP.is (.int .i64 0)] (by kernel_rfl) (by kernel_rfl) ?_ ?_
  · intro i hi a wq hb hev hdep
    rcases (show i = 0 ∨ i = 1 ∨ i = 2 ∨ i = 3 ∨ i = 4 ∨ i = 5 ∨ i = 6 ∨ i = 7 ∨ i = 8 ∨ i = 9 ∨ i = 10 ∨ i = 11 by omega) with rfl | rfl | rfl | rfl | rfl | rfl | rfl | rfl | rfl | rfl | rfl | rfl
    · refine Drawn.wpOp_flow 6 rfl rfl rfl ?_
      clear hev hdep
      clear hb
      go_simp
      refine (Gf.new_any wq).mono ?_
      rintro e w' ⟨rfl, ht, hb', _⟩
      exact ⟨_, rfl, ⟨_, rfl, ht⟩, hb'⟩
    · have e1 : a.tmps[1]?.getD undef = .pointer (some ⟨w.heap.size, 0, none⟩) := hev 1 rfl
      refine Drawn.wpOp_flow 7 rfl rfl rfl ?_
      obtain ⟨c0, c1, c2, c3, c4, c5⟩ := six (HA.out.below hb)
      clear hev hdep hb
      go_simp
      exact ⟨_, rfl, rfl, Below.refl _ _⟩
    · refine Drawn.wpOp_flow 8 rfl rfl rfl ?_
      clear hev hdep
      clear hb
      go_simp
      exact ⟨_, rfl, ⟨_, _, rfl, by decide, by unfold maxLen; decide, Drawn.ints_new wq [2, 1] _⟩, balloc _ _⟩
    · refine Drawn.wpOp_flow 9 rfl rfl rfl ?_
      clear hev hdep
      clear hb
      go_simp
      exact ⟨_, rfl, ⟨_, _, rfl, by decide, by unfold maxLen; decide, (Row.new wq [8]).bytes⟩, balloc _ _⟩
    · refine Drawn.wpOp_flow 10 rfl rfl rfl ?_
      clear hev hdep
      clear hb
      go_simp
      exact ⟨_, rfl, ⟨_, _, rfl, by decide, by unfold maxLen; decide, (Row.new wq [13]).bytes⟩, balloc _ _⟩
    · obtain ⟨Bd3x, cd3, d3, hd3a, hd3b, hd3⟩ : (Drawn.SP.bytes [8]).p (a.tmps[9]?.getD undef) wq := hdep 3 rfl
      obtain ⟨Bd4x, cd4, d4, hd4a, hd4b, hd4⟩ : (Drawn.SP.bytes [13]).p (a.tmps[10]?.getD undef) wq := hdep 4 rfl
      refine Drawn.wpOp_flow 11 rfl rfl rfl ?_
      clear hev hdep
      clear hb
      go_simp
      exact ⟨_, rfl, ⟨_, _, rfl, by decide, by unfold maxLen; decide, RowsAt.lit2 (l := [8]) (m := [13]) hd3 hd3a hd3b hd4 hd4a hd4b⟩, balloc _ _⟩
    · obtain ⟨bf, d0, ht⟩ : (Drawn.SP.tab).p (a.tmps[6]?.getD undef) wq := hdep 0 rfl
      have d1 : a.tmps[7]?.getD undef = .agg #[.int .i64 2, .int .i64 1, .int .i64 1, .int .i64 2, .int .i64 9, .int .i64 1] := hdep 1 rfl
      obtain ⟨Id2x, cd2, d2, hd2a, hd2b, hd2⟩ : (Drawn.SP.ints [2, 1]).p (a.tmps[8]?.getD undef) wq := hdep 2 rfl
      obtain ⟨Rd5x, cd5, d5, hd5a, hd5b, hd5⟩ : (Drawn.SP.rows [[8], [13]]).p (a.tmps[11]?.getD undef) wq := hdep 5 rfl
      refine Drawn.wpOp_flow 12 rfl rfl rfl ?_
      clear hev hdep
      have C := H1.out bf Id2x Rd5x cd2 cd5 wq ht hd2 hd2a hd2b hd5 hd5a hd5b
      clear hb hd2 hd2a hd2b hd5 hd5a hd5b ht
      go_simp
      refine C.mono ?_
      rintro e w' ⟨X, f, rfl, g1, g2, g3, hb', _⟩
      exact ⟨_, rfl, ⟨X, f, rfl, g1, g2, g3⟩, hb'⟩
    · have d6 := hdep 6 rfl
      refine Drawn.wpOp_flow 5 rfl rfl rfl ?_
      clear hev hdep hb
      go_simp
      exact ⟨_, rfl, d6, Below.refl _ _⟩
    · obtain ⟨Ed7x, cd7, d7, hd7a, hd7b, hd7⟩ : (Drawn.SP.bytesE [7] 0).p (a.tmps[5]?.getD undef) wq := hdep 7 rfl
      refine Drawn.wpOp_flow 13 rfl rfl rfl ?_
      clear hev hdep
      clear hb
      go_simp
      exact ⟨_, rfl, ⟨Ed7x, cd7, rfl, hd7a, hd7b, hd7⟩, Below.refl _ _⟩
    · obtain ⟨Ed7x, cd7, d7, hd7a, hd7b, hd7⟩ : (Drawn.SP.bytesE [7] 0).p (a.tmps[5]?.getD undef) wq := hdep 7 rfl
      refine Drawn.wpOp_flow 14 rfl rfl rfl ?_
      clear hev hdep
      clear hb hd7 hd7a hd7b
      go_simp
      exact ⟨_, rfl, rfl, Below.refl _ _⟩
    · have d8 := hdep 8 rfl
      refine Drawn.wpOp_flow 2 rfl rfl rfl ?_
      clear hev hdep hb
      go_simp
      exact ⟨_, rfl, d8, Below.refl _ _⟩
    · have d9 : a.tmps[14]?.getD undef = .int .i64 0 := hdep 9 rfl
      refine Drawn.wpOp_flow 3 rfl rfl rfl ?_
      clear hev hdep hb
      go_simp
      exact ⟨_, rfl, rfl, Below.refl _ _⟩
  · intro xq wq hb hxq
    have vq1 : xq 1 = .agg #[.int .i64 2, .int .i64 1, .int .i64 1, .int .i64 2, .int .i64 9, .int .i64 1] := hxq 1 (by omega)
    have vq9 : xq 9 = .int .i64 0 := hxq 9 (by omega)
    obtain ⟨Bvq10x, cvq10, vq10, hvq10a, hvq10b, hvq10⟩ : (Drawn.SP.bytes [7]).p (xq 10) wq := hxq 10 (by omega)
    have vq11 : xq 11 = .int .i64 0 := hxq 11 (by omega)
    show Exit.then _ _ Exit.normal (Drawn.acts _ [(3, some (xq 11)), (2, some (xq 10)), (14, some (xq 9)), (13, some (xq 8)), (5, some (xq 7)), (12, some (xq 6)), (11, some (xq 5)), (10, some (xq 4)), (9, some (xq 3)), (8, some (xq 2)), (7, some (xq 1)), (6, some (xq 0))]) _
    rw [vq1, vq9, vq10, vq11]
    clear hxq vq1 vq9 vq10 vq11
    generalize xq 0 = yq0
    generalize xq 2 = yq2
    generalize xq 3 = yq3
    generalize xq 4 = yq4
    generalize xq 5 = yq5
    generalize xq 6 = yq6
    generalize xq 7 = yq7
    generalize xq 8 = yq8
    clear xq
    simp only [Drawn.acts]
    go_simp
    have HX := Lib.hid (show BytesAt wq Bvq10x [7] from hvq10)
    replace HA := Lib.hid (HA.out.below hb)
    replace HB0 := Lib.hid (bstep HB0.out hb)
    generalize Bvq10x = X at *
    generalize cvq10 = d at *
    clear hb hvq10 hvq10a hvq10b
    go_at_K
    go_wp2_with fail
    refine Drawn.wp_region_flowL 17 [Drawn.SP.is (.int .i64 0), Drawn.SP.is (.bool true), Drawn.SP.is (.bool true), Drawn.SP.is (.slice X 1 d), Drawn.SP.bytes [7], Drawn.SP.is (.bool true), Drawn.SP.is (.bool true), Drawn.SP.is (.bool true), Drawn.SP.tab, Drawn.SP.is (.agg #[.int .i64 2, .int .i64 1, .int .i64 1, .int .i64 2, .int .i64 9, .int .i64 1]), Drawn.SP.ints [1, 2], Drawn.SP.bytes [13], Drawn.SP.bytes [8], Drawn.SP.rows [[13], [8]], Drawn.SP.is (.bool true), Drawn.SP.is (.bool true), Drawn.SP.is (.bool true)] (by kernel_rfl) (by kernel_rfl) ?_ ?_
    · intro i hi a wy hb hev hdep
      rcases (show i = 0 ∨ i = 1 ∨ i = 2 ∨ i = 3 ∨ i = 4 ∨ i = 5 ∨ i = 6 ∨ i = 7 ∨ i = 8 ∨ i = 9 ∨ i = 10 ∨ i = 11 ∨ i = 12 ∨ i = 13 ∨ i = 14 ∨ i = 15 ∨ i = 16 by omega) with rfl | rfl | rfl | rfl | rfl | rfl | rfl | rfl | rfl | rfl | rfl | rfl | rfl | rfl | rfl | rfl | rfl
      · have e3 : a.tmps[3]?.getD undef = .int .i64 0 := hev 3 rfl
        refine Drawn.wpOp_flow 15 rfl rfl rfl ?_
        clear hev hdep hb
        go_simp
        exact ⟨_, rfl, rfl, Below.refl _ _⟩
      · have d0 : a.tmps[15]?.getD undef = .int .i64 0 := hdep 0 rfl
        refine Drawn.wpOp_flow 16 rfl rfl rfl ?_
        clear hev hdep hb
        go_simp
        exact ⟨_, rfl, rfl, Below.refl _ _⟩
      · have d1 : a.tmps[16]?.getD undef = .bool true := hdep 1 rfl
        refine Drawn.wpOp_flow 17 rfl rfl rfl ?_
        clear hev hdep hb
        go_simp
        exact ⟨_, rfl, rfl, Below.refl _ _⟩
      · have e2 : a.tmps[2]?.getD undef = .slice X 1 d := hev 2 rfl
        have dg : a.tmps[17]?.getD undef = .bool true := hdep 2 rfl
        refine Drawn.wpOp_flow 18 rfl (Drawn.wanted_of rfl rfl rfl dg) rfl ?_
        clear dg
        clear hev hdep hb
        go_simp
        exact ⟨_, rfl, rfl, Below.refl _ _⟩
      · have dg : a.tmps[17]?.getD undef = .bool true := hdep 2 rfl
        refine Drawn.wpOp_flow 19 rfl (Drawn.wanted_of rfl rfl rfl dg) rfl ?_
        clear hev hdep
        clear hb
        go_simp
        exact ⟨_, rfl, ⟨_, _, rfl, by decide, by unfold maxLen; decide, (Row.new wy [7]).bytes⟩, balloc _ _⟩
      · have d3 : a.tmps[18]?.getD undef = .slice X 1 d := hdep 3 rfl
        obtain ⟨Bd4x, cd4, d4, hd4a, hd4b, hd4⟩ : (Drawn.SP.bytes [7]).p (a.tmps[19]?.getD undef) wy := hdep 4 rfl
        have dg : a.tmps[17]?.getD undef = .bool true := hdep 2 rfl
        refine Drawn.wpOp_flow 20 rfl (Drawn.wanted_of rfl rfl rfl dg) rfl ?_
        clear hev hdep
        have C := R01.same_any X Bd4x [7] [7] d cd4 wy (HX.out.below hb) hd4 HM.out HM.out
        rw [same_self] at C
        clear hb hd4 hd4a hd4b
        go_simp
        refine C.mono ?_
        rintro e w' ⟨rfl, hq⟩
        exact ⟨_, rfl, rfl, bquiet hq⟩
      · have d2 : a.tmps[17]?.getD undef = .bool true := hdep 2 rfl
        have d5 : a.tmps[20]?.getD undef = .bool true := hdep 5 rfl
        refine Drawn.wpOp_flow 21 rfl rfl rfl ?_
        clear hev hdep hb
        go_simp
        exact ⟨_, rfl, rfl, Below.refl _ _⟩
      · have d6 : a.tmps[21]?.getD undef = .bool true := hdep 6 rfl
        refine Drawn.wpOp_flow 22 rfl rfl rfl ?_
        clear hev hdep hb
        go_simp
        exact ⟨_, rfl, rfl, Below.refl _ _⟩
      · have dg : a.tmps[22]?.getD undef = .bool true := hdep 7 rfl
        refine Drawn.wpOp_flow 23 rfl (Drawn.wanted_of rfl rfl rfl dg) rfl ?_
        clear hev hdep
        clear hb
        go_simp
        refine (Gf.new_any wy).mono ?_
        rintro e w' ⟨rfl, ht, hb', _⟩
        exact ⟨_, rfl, ⟨_, rfl, ht⟩, hb'⟩
      · have e1 : a.tmps[1]?.getD undef = .pointer (some ⟨w.heap.size, 0, none⟩) := hev 1 rfl
        have dg : a.tmps[22]?.getD undef = .bool true := hdep 7 rfl
        refine Drawn.wpOp_flow 24 rfl (Drawn.wanted_of rfl rfl rfl dg) rfl ?_
        obtain ⟨c0, c1, c2, c3, c4, c5⟩ := six (HA.out.below hb)
        clear dg
        clear hev hdep hb
        go_simp
        exact ⟨_, rfl, rfl, Below.refl _ _⟩
      · have dg : a.tmps[22]?.getD undef = .bool true := hdep 7 rfl
        refine Drawn.wpOp_flow 25 rfl (Drawn.wanted_of rfl rfl rfl dg) rfl ?_
        clear hev hdep
        clear hb
        go_simp
        exact ⟨_, rfl, ⟨_, _, rfl, by decide, by unfold maxLen; decide, Drawn.ints_new wy [1, 2] _⟩, balloc _ _⟩
      · have dg : a.tmps[22]?.getD undef = .bool true := hdep 7 rfl
        refine Drawn.wpOp_flow 26 rfl (Drawn.wanted_of rfl rfl rfl dg) rfl ?_
        clear hev hdep
        clear hb
        go_simp
        exact ⟨_, rfl, ⟨_, _, rfl, by decide, by unfold maxLen; decide, (Row.new wy [13]).bytes⟩, balloc _ _⟩
      · have dg : a.tmps[22]?.getD undef = .bool true := hdep 7 rfl
        refine Drawn.wpOp_flow 27 rfl (Drawn.wanted_of rfl rfl rfl dg) rfl ?_
        clear hev hdep
        clear hb
        go_simp
        exact ⟨_, rfl, ⟨_, _, rfl, by decide, by unfold maxLen; decide, (Row.new wy [8]).bytes⟩, balloc _ _⟩
      · obtain ⟨Bd11x, cd11, d11, hd11a, hd11b, hd11⟩ : (Drawn.SP.bytes [13]).p (a.tmps[26]?.getD undef) wy := hdep 11 rfl
        obtain ⟨Bd12x, cd12, d12, hd12a, hd12b, hd12⟩ : (Drawn.SP.bytes [8]).p (a.tmps[27]?.getD undef) wy := hdep 12 rfl
        have dg : a.tmps[22]?.getD undef = .bool true := hdep 7 rfl
        refine Drawn.wpOp_flow 28 rfl (Drawn.wanted_of rfl rfl rfl dg) rfl ?_
        clear hev hdep
        clear hb
        go_simp
        exact ⟨_, rfl, ⟨_, _, rfl, by decide, by unfold maxLen; decide, RowsAt.lit2 (l := [13]) (m := [8]) hd11 hd11a hd11b hd12 hd12a hd12b⟩, balloc _ _⟩
      · obtain ⟨bf, d8, ht⟩ : (Drawn.SP.tab).p (a.tmps[23]?.getD undef) wy := hdep 8 rfl
        have d9 : a.tmps[24]?.getD undef = .agg #[.int .i64 2, .int .i64 1, .int .i64 1, .int .i64 2, .int .i64 9, .int .i64 1] := hdep 9 rfl
        obtain ⟨Id10x, cd10, d10, hd10a, hd10b, hd10⟩ : (Drawn.SP.ints [1, 2]).p (a.tmps[25]?.getD undef) wy := hdep 10 rfl
        obtain ⟨Rd13x, cd13, d13, hd13a, hd13b, hd13⟩ : (Drawn.SP.rows [[13], [8]]).p (a.tmps[28]?.getD undef) wy := hdep 13 rfl
        have dg : a.tmps[22]?.getD undef = .bool true := hdep 7 rfl
        refine Drawn.wpOp_flow 29 rfl (Drawn.wanted_of rfl rfl rfl dg) rfl ?_
        clear hev hdep
        have C := H2.out bf Id10x Rd13x cd10 cd13 wy ht hd10 hd10a hd10b hd13 hd13a hd13b
        clear hb hd10 hd10a hd10b hd13 hd13a hd13b ht
        go_simp
        refine C.mono ?_
        rintro e w' ⟨rfl, hb'⟩
        exact ⟨_, rfl, rfl, hb'⟩
      · have d7 : a.tmps[22]?.getD undef = .bool true := hdep 7 rfl
        have d14 : a.tmps[29]?.getD undef = .bool true := hdep 14 rfl
        refine Drawn.wpOp_flow 30 rfl rfl rfl ?_
        clear hev hdep hb
        go_simp
        exact ⟨_, rfl, rfl, Below.refl _ _⟩
      · have d15 : a.tmps[30]?.getD undef = .bool true := hdep 15 rfl
        refine Drawn.wpOp_flow 0 rfl rfl rfl ?_
        clear hev hdep hb
        go_simp
        exact ⟨_, rfl, rfl, Below.refl _ _⟩
    · intro xq wy hb hxq
      have vq0 : xq 0 = .int .i64 0 := hxq 0 (by omega)
      have vq1 : xq 1 = .bool true := hxq 1 (by omega)
      have vq2 : xq 2 = .bool true := hxq 2 (by omega)
      have vq3 : xq 3 = .slice X 1 d := hxq 3 (by omega)
      have vq5 : xq 5 = .bool true := hxq 5 (by omega)
      have vq6 : xq 6 = .bool true := hxq 6 (by omega)
      have vq7 : xq 7 = .bool true := hxq 7 (by omega)
      have vq9 : xq 9 = .agg #[.int .i64 2, .int .i64 1, .int .i64 1, .int .i64 2, .int .i64 9, .int .i64 1] := hxq 9 (by omega)
      have vq14 : xq 14 = .bool true := hxq 14 (by omega)
      have vq15 : xq 15 = .bool true := hxq 15 (by omega)
      have vq16 : xq 16 = .bool true := hxq 16 (by omega)
      show Exit.then _ _ Exit.normal (Drawn.acts _ [(0, some (xq 16)), (30, some (xq 15)), (29, some (xq 14)), (28, some (xq 13)), (27, some (xq 12)), (26, some (xq 11)), (25, some (xq 10)), (24, some (xq 9)), (23, some (xq 8)), (22, some (xq 7)), (21, some (xq 6)), (20, some (xq 5)), (19, some (xq 4)), (18, some (xq 3)), (17, some (xq 2)), (16, some (xq 1)), (15, some (xq 0))]) _
      rw [vq0, vq1, vq2, vq3, vq5, vq6, vq7, vq9, vq14, vq15, vq16]
      clear hxq vq0 vq1 vq2 vq3 vq5 vq6 vq7 vq9 vq14 vq15 vq16
      generalize xq 4 = yq4
      generalize xq 8 = yq8
      generalize xq 10 = yq10
      generalize xq 11 = yq11
      generalize xq 12 = yq12
      generalize xq 13 = yq13
      clear xq
      simp only [Drawn.acts]
      go_simp
      have HB1 := Lib.hid (bstep HB0.out hb)
      clear hb
      go_at_K
      go_wp2
      go_ret
      exact ⟨rfl, HB1.out⟩
end Go.Proofs.Ytcnhfbahnbnnlaa.Law11
