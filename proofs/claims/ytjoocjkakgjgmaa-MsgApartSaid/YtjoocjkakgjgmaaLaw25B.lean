/- the law MsgApart -/
import Derived.Test.YtjoocjkakgjgmaaLaw25
import Derived.Test.YtjoocjkakgjgmaaR25B
import Derived.Test.YtjoocjkakgjgmaaR25C
import Derived.Test.YtjoocjkakgjgmaaR01
import Derived.Test.YtjoocjkakgjgmaaFlow
set_option maxRecDepth 100000
set_option maxHeartbeats 20000000
namespace Go.Proofs.Ytjoocjkakgjgmaa.Law25
open Go.RowKit MsgM Msg

theorem two_boxes (w : World) (x y : Mv) : MsB ((w.alloc (.cells #[.int .i64 x.m.K, .int .i64 x.m.F, .int .i64 x.m.T, .int .i64 x.m.B, .string x.m.s, .int .i64 x.m.A, .int .i64 x.m.E, .int .i64 x.m.M, .int .i64 x.m.S, .int .i64 x.m.W, .slice x.P x.m.who.length x.p, .slice x.Q x.m.names.length x.q, .slice x.D x.m.data.length x.d] 26)).alloc (.cells #[.int .i64 y.m.K, .int .i64 y.m.F, .int .i64 y.m.T, .int .i64 y.m.B, .string y.m.s, .int .i64 y.m.A, .int .i64 y.m.E, .int .i64 y.m.M, .int .i64 y.m.S, .int .i64 y.m.W, .slice y.P y.m.who.length y.p, .slice y.Q y.m.names.length y.q, .slice y.D y.m.data.length y.d] 26)) w.heap.size x ∧ MsB ((w.alloc (.cells #[.int .i64 x.m.K, .int .i64 x.m.F, .int .i64 x.m.T, .int .i64 x.m.B, .string x.m.s, .int .i64 x.m.A, .int .i64 x.m.E, .int .i64 x.m.M, .int .i64 x.m.S, .int .i64 x.m.W, .slice x.P x.m.who.length x.p, .slice x.Q x.m.names.length x.q, .slice x.D x.m.data.length x.d] 26)).alloc (.cells #[.int .i64 y.m.K, .int .i64 y.m.F, .int .i64 y.m.T, .int .i64 y.m.B, .string y.m.s, .int .i64 y.m.A, .int .i64 y.m.E, .int .i64 y.m.M, .int .i64 y.m.S, .int .i64 y.m.W, .slice y.P y.m.who.length y.p, .slice y.Q y.m.names.length y.q, .slice y.D y.m.data.length y.d] 26)) (w.heap.size + 1) y ∧ Below w.heap.size w ((w.alloc (.cells #[.int .i64 x.m.K, .int .i64 x.m.F, .int .i64 x.m.T, .int .i64 x.m.B, .string x.m.s, .int .i64 x.m.A, .int .i64 x.m.E, .int .i64 x.m.M, .int .i64 x.m.S, .int .i64 x.m.W, .slice x.P x.m.who.length x.p, .slice x.Q x.m.names.length x.q, .slice x.D x.m.data.length x.d] 26)).alloc (.cells #[.int .i64 y.m.K, .int .i64 y.m.F, .int .i64 y.m.T, .int .i64 y.m.B, .string y.m.s, .int .i64 y.m.A, .int .i64 y.m.E, .int .i64 y.m.M, .int .i64 y.m.S, .int .i64 y.m.W, .slice y.P y.m.who.length y.p, .slice y.Q y.m.names.length y.q, .slice y.D y.m.data.length y.d] 26)) := by
  have e1 : (w.alloc (.cells #[.int .i64 x.m.K, .int .i64 x.m.F, .int .i64 x.m.T, .int .i64 x.m.B, .string x.m.s, .int .i64 x.m.A, .int .i64 x.m.E, .int .i64 x.m.M, .int .i64 x.m.S, .int .i64 x.m.W, .slice x.P x.m.who.length x.p, .slice x.Q x.m.names.length x.q, .slice x.D x.m.data.length x.d] 26)).heap.size = w.heap.size + 1 := by simp
  exact ⟨(MsB.new w x).below (balloc _ _), by rw [← e1]; exact MsB.new _ y, bstep (balloc w _) (balloc _ _)⟩
theorem put_same {m x : Ms} (hm : m.May) (hx : x.May) : same m.put x.put = decide (m = x) := by
  unfold same
  rw [decide_eq_decide]
  constructor
  · intro h
    have h1 := said_put hm
    rw [h, said_put hx] at h1
    exact h1.symm
  · intro h; rw [h]
theorem apart_any (x y : Mv) (w : World) (hf : Fits x.m) (hx : Lies w x) (hg : Fits y.m) (hy : Lies w y) :
    Calls Try.prog 6 #[.agg #[.int .i64 x.m.K, .int .i64 x.m.F, .int .i64 x.m.T, .int .i64 x.m.B, .string x.m.s, .int .i64 x.m.A, .int .i64 x.m.E, .int .i64 x.m.M, .int .i64 x.m.S, .int .i64 x.m.W, .slice x.P x.m.who.length x.p, .slice x.Q x.m.names.length x.q, .slice x.D x.m.data.length x.d], .agg #[.int .i64 y.m.K, .int .i64 y.m.F, .int .i64 y.m.T, .int .i64 y.m.B, .string y.m.s, .int .i64 y.m.A, .int .i64 y.m.E, .int .i64 y.m.M, .int .i64 y.m.S, .int .i64 y.m.W, .slice y.P y.m.who.length y.p, .slice y.Q y.m.names.length y.q, .slice y.D y.m.data.length y.d]] w fun e w' => e = .returned (.bool true) ∧ Below w.heap.size w w' := by
  have CF := Lib.hid (fun W h => R25.far_any x hf W h)
  have CG := Lib.hid (fun W h => R25.far_any y hg W h)
  have CAL := Lib.hid (fun W => alive_any W)
  have HX := Lib.hid hx; have HY := Lib.hid hy
  obtain ⟨h1, h2, h3⟩ := two_boxes w x y
  have CRF := Lib.hid (fun W h hl => R25.right_any x hf W h hl)
  have CRG := Lib.hid (fun W h hl => R25.right_any y hg W h hl)
  have CPX := Lib.hid (fun t W ht h => put_any t x hf W ht h)
  have CPY := Lib.hid (fun t W ht h => put_any t y hg W ht h)
  have HFS : Hid (∀ m : Ms, R25.farM m = false → m.who.length ≤ 1048576) := Lib.hid fun m h => by have := R25.far_small h; omega
  obtain ⟨p, hp⟩ : ∃ p, p = w.heap.size := ⟨_, rfl⟩
  obtain ⟨q, hq⟩ : ∃ q, q = w.heap.size + 1 := ⟨_, rfl⟩
  have HRX := Lib.hid h1; have HRY := Lib.hid h2; have HB0 := Lib.hid h3
  rw [← hq] at HRY
  rw [← hp] at HRX
  clear hf hx hg hy h1 h2 h3
  go_enter Try.func6, Try.ntmps6
  go_wp2_with ((with_reducible show wpList _ _ _ (_ :: _) _ _); refine wpList_load_ms rfl _ rfl w.heap.size rfl x (by rw [← hp]; exact HRX.out) ?_)
  rw [← hq, ← hp]
  clear hp hq
  obtain ⟨w0, hw0⟩ : ∃ w0, w0 = ((w.alloc (.cells #[.int .i64 x.m.K, .int .i64 x.m.F, .int .i64 x.m.T, .int .i64 x.m.B, .string x.m.s, .int .i64 x.m.A, .int .i64 x.m.E, .int .i64 x.m.M, .int .i64 x.m.S, .int .i64 x.m.W, .slice x.P x.m.who.length x.p, .slice x.Q x.m.names.length x.q, .slice x.D x.m.data.length x.d] 26)).alloc (.cells #[.int .i64 y.m.K, .int .i64 y.m.F, .int .i64 y.m.T, .int .i64 y.m.B, .string y.m.s, .int .i64 y.m.A, .int .i64 y.m.E, .int .i64 y.m.M, .int .i64 y.m.S, .int .i64 y.m.W, .slice y.P y.m.who.length y.p, .slice y.Q y.m.names.length y.q, .slice y.D y.m.data.length y.d] 26)) := ⟨_, rfl⟩
  rw [← hw0] at HRX HRY HB0 ⊢
  clear hw0
  refine (CF.out w0 (HX.out.below HB0.out)).mono ?_
  rintro e w1 ⟨rfl, hb⟩
  have HRX1 := Lib.hid (HRX.out.below hb); have HRY1 := Lib.hid (HRY.out.below hb)
  have HB1 := Lib.hid (bstep HB0.out hb)
  clear hb HRX HRY HB0 CF
  rcases hfx : R25.farM x.m with _ | _
  rotate_left
  · clear hfx HFS CRF CRG CPX CPY HX HY HRX1 HRY1 CG
    go_wp2_with fail
    refine (CAL.out _).mono ?_
    rintro e wz ⟨rfl, hb⟩
    have HBZ := Lib.hid (bstep HB1.out hb)
    clear hb CAL
    go_wp2
    go_ret
    exact ⟨rfl, HBZ.out⟩
  have hwx := HFS.out x.m hfx
  clear hfx
  go_wp2_with ((with_reducible show wpList _ _ _ (_ :: _) _ _); refine wpList_load_msw rfl _ rfl q rfl y HRY1.out ?_)
  refine (CG.out w1 (HY.out.below HB1.out)).mono ?_
  rintro e w2 ⟨rfl, hb⟩
  have HRX2 := Lib.hid (HRX1.out.below hb); have HRY2 := Lib.hid (HRY1.out.below hb)
  have HB2 := Lib.hid (bstep HB1.out hb)
  clear hb HRX1 HRY1 HB1 CG
  rcases hfy : R25.farM y.m with _ | _
  rotate_left
  · clear hfy HFS CRF CRG CPX CPY HX HY HRX2 HRY2
    go_wp2_with fail
    refine (CAL.out _).mono ?_
    rintro e wz ⟨rfl, hb⟩
    have HBZ := Lib.hid (bstep HB2.out hb)
    clear hb CAL
    go_wp2
    go_ret
    exact ⟨rfl, HBZ.out⟩
  have hwy := HFS.out y.m hfy
  have C1 := Lib.hid (CRF.out w2 (HX.out.below HB2.out) hwx)
  have CY := Lib.hid (fun W hb => CRG.out W (HY.out.below hb) hwy)
  clear hfy HFS hwx hwy CRF CRG
  go_wp2_with ((with_reducible show wpList _ _ _ (_ :: _) _ _); refine wpList_load_msw rfl _ rfl p rfl x HRX2.out ?_)
  refine C1.out.mono ?_
  rintro e w3 ⟨rfl, hb⟩
  have HRX3 := Lib.hid (HRX2.out.below hb); have HRY3 := Lib.hid (HRY2.out.below hb)
  have HB3 := Lib.hid (bstep HB2.out hb)
  clear hb HRX2 HRY2 HB2 C1
  rcases hrx : x.m.right with _ | _
  · clear hrx CY CPX CPY HX HY HRX3 HRY3
    go_wp2_with fail
    refine (CAL.out _).mono ?_
    rintro e wz ⟨rfl, hb⟩
    have HBZ := Lib.hid (bstep HB3.out hb)
    clear hb CAL
    go_wp2
    go_ret
    exact ⟨rfl, HBZ.out⟩
  have C2 := Lib.hid (CY.out w3 HB3.out)
  clear CY
  go_wp2_with ((with_reducible show wpList _ _ _ (_ :: _) _ _); refine wpList_load_msw rfl _ rfl q rfl y HRY3.out ?_)
  refine C2.out.mono ?_
  rintro e w4 ⟨rfl, hb⟩
  have HRX4 := Lib.hid (HRX3.out.below hb); have HRY4 := Lib.hid (HRY3.out.below hb)
  have HB4 := Lib.hid (bstep HB3.out hb)
  clear hb HRX3 HRY3 HB3 C2
  rcases hry : y.m.right with _ | _
  · clear hrx hry CPX CPY HX HY HRX4 HRY4
    go_wp2_with fail
    refine (CAL.out _).mono ?_
    rintro e wz ⟨rfl, hb⟩
    have HBZ := Lib.hid (bstep HB4.out hb)
    clear hb CAL
    go_wp2
    go_ret
    exact ⟨rfl, HBZ.out⟩
  have hm := (right_iff _).1 hrx
  have hn := (right_iff _).1 hry
  rw [putV_may hm, putE_may hm] at CPX
  rw [putV_may hn, putE_may hn] at CPY
  have hsame := put_same hm hn
  clear hrx hry hm hn
  obtain ⟨PA, hPA⟩ : ∃ PA, PA = x.m.put := ⟨_, rfl⟩
  obtain ⟨PB, hPB⟩ : ∃ PB, PB = y.m.put := ⟨_, rfl⟩
  rw [← hPA] at CPX hsame
  rw [← hPB] at CPY hsame
  clear hPA hPB
  have HSA := Lib.hid hsame
  clear hsame
  go_wp2_with fail
  refine (Crc.new_any w4).mono ?_
  rintro e w5 ⟨t, rfl, ht, hb⟩
  have HT := Lib.hid ht
  have HRX5 := Lib.hid (HRX4.out.below hb); have HRY5 := Lib.hid (HRY4.out.below hb)
  have HB5 := Lib.hid (bstep HB4.out hb)
  clear ht hb HRX4 HRY4 HB4
  go_wp2_with ((with_reducible show wpList _ _ _ (_ :: _) _ _); refine wpList_load_ms rfl _ rfl p rfl x HRX5.out ?_)
  refine (CPX.out t w5 HT.out (HX.out.below HB5.out)).mono ?_
  rintro e w6 ⟨X, d, rfl, x1, x2, x3, hb, -⟩
  have HXX := Lib.hid x3
  have HT6 := Lib.hid (HT.out.below hb)
  have HRX6 := Lib.hid (HRX5.out.below hb); have HRY6 := Lib.hid (HRY5.out.below hb)
  have HB6 := Lib.hid (bstep HB5.out hb)
  have HX1 := Lib.hid (Nat.le_trans x1 x2)
  clear x1 x2 x3 hb HT HRX5 HRY5 HB5 CPX
  go_wp2_with ((with_reducible show wpList _ _ _ (_ :: _) _ _); refine wpList_load_ms rfl _ rfl q rfl y HRY6.out ?_)
  refine (CPY.out t w6 HT6.out (HY.out.below HB6.out)).mono ?_
  rintro e w7 ⟨Y, c, rfl, y1, y2, y3, hb, -⟩
  have HYY := Lib.hid y3
  have HXX7 := Lib.hid (HXX.out.below hb)
  have HRX7 := Lib.hid (HRX6.out.below hb); have HRY7 := Lib.hid (HRY6.out.below hb)
  have HB7 := Lib.hid (bstep HB6.out hb)
  have HY1 := Lib.hid (Nat.le_trans y1 y2)
  clear y1 y2 y3 hb HT6 HRX6 HRY6 HB6 CPY HXX
  obtain ⟨D, hD⟩ : ∃ D, D = decide (x.m = y.m) := ⟨_, rfl⟩
  have CSM : Hid (∀ W, Below w7.heap.size w7 W → Calls Try.prog 14 #[.agg #[.int .i64 x.m.K, .int .i64 x.m.F, .int .i64 x.m.T, .int .i64 x.m.B, .string x.m.s, .int .i64 x.m.A, .int .i64 x.m.E, .int .i64 x.m.M, .int .i64 x.m.S, .int .i64 x.m.W, .slice x.P x.m.who.length x.p, .slice x.Q x.m.names.length x.q, .slice x.D x.m.data.length x.d], .agg #[.int .i64 y.m.K, .int .i64 y.m.F, .int .i64 y.m.T, .int .i64 y.m.B, .string y.m.s, .int .i64 y.m.A, .int .i64 y.m.E, .int .i64 y.m.M, .int .i64 y.m.S, .int .i64 y.m.W, .slice y.P y.m.who.length y.p, .slice y.Q y.m.names.length y.q, .slice y.D y.m.data.length y.d]] W fun e w' => e = .returned (.bool D) ∧ Below W.heap.size W w') := Lib.hid fun W hb => by rw [hD]; exact R25.same_any x y W (HX.out.below (bstep HB7.out hb)) (HY.out.below (bstep HB7.out hb))
  have CSB : Hid (∀ W, Below w7.heap.size w7 W → Calls Try.prog 17 #[.slice X PA.length d, .slice Y PB.length c] W fun e w' => e = .returned (.bool D) ∧ ∃ n, w' = W.drewN n) := Lib.hid fun W hb => by rw [hD, ← HSA.out]; exact R01.same_any X Y PA PB d c W (HXX7.out.below hb) (HYY.out.below hb) HX1.out HY1.out
  have HRx : Hid (∀ W, Below w7.heap.size w7 W → MsB W p x) := Lib.hid fun W hb => HRX7.out.below hb
  have HRy : Hid (∀ W, Below w7.heap.size w7 W → MsB W q y) := Lib.hid fun W hb => HRY7.out.below hb
  clear hD HSA HXX7 HYY HX1 HY1 HX HY HRX7 HRY7
  obtain ⟨an, han⟩ : ∃ an, an = PA.length := ⟨_, rfl⟩
  obtain ⟨bn, hbn⟩ : ∃ bn, bn = PB.length := ⟨_, rfl⟩
  rw [← han] at CSB
  rw [← hbn] at CSB ⊢
  first | rw [← han] | skip
  clear han hbn
  go_wp2_with fail
  refine Drawn.wp_region_flowL 19 [Drawn.SP.is (.int .i64 0), Drawn.SP.is (.bool true), Drawn.SP.is (.bool true), Drawn.SP.is (.int .i64 0), Drawn.SP.is (.bool true), Drawn.SP.is (.bool true), Drawn.SP.is (.bool true), Drawn.SP.is (.slice X an d), Drawn.SP.is (.slice Y bn c), Drawn.SP.is (.bool D), Drawn.SP.is (.agg #[.int .i64 x.m.K, .int .i64 x.m.F, .int .i64 x.m.T, .int .i64 x.m.B, .string x.m.s, .int .i64 x.m.A, .int .i64 x.m.E, .int .i64 x.m.M, .int .i64 x.m.S, .int .i64 x.m.W, .slice x.P x.m.who.length x.p, .slice x.Q x.m.names.length x.q, .slice x.D x.m.data.length x.d]), Drawn.SP.is (.agg #[.int .i64 y.m.K, .int .i64 y.m.F, .int .i64 y.m.T, .int .i64 y.m.B, .string y.m.s, .int .i64 y.m.A, .int .i64 y.m.E, .int .i64 y.m.M, .int .i64 y.m.S, .int .i64 y.m.W, .slice y.P y.m.who.length y.p, .slice y.Q y.m.names.length y.q, .slice y.D y.m.data.length y.d]), Drawn.SP.is (.bool D), Drawn.SP.is (.bool true), Drawn.SP.is (.bool true), Drawn.SP.is (.bool true), Drawn.SP.is (.bool true), Drawn.SP.is (.bool true), Drawn.SP.is (.bool true)] (by kernel_rfl) (by kernel_rfl) ?_ ?_
  · intro i hi a w1 hb hev hdep
    rcases (show i = 0 ∨ i = 1 ∨ i = 2 ∨ i = 3 ∨ i = 4 ∨ i = 5 ∨ i = 6 ∨ i = 7 ∨ i = 8 ∨ i = 9 ∨ i = 10 ∨ i = 11 ∨ i = 12 ∨ i = 13 ∨ i = 14 ∨ i = 15 ∨ i = 16 ∨ i = 17 ∨ i = 18 by omega) with rfl | rfl | rfl | rfl | rfl | rfl | rfl | rfl | rfl | rfl | rfl | rfl | rfl | rfl | rfl | rfl | rfl | rfl | rfl
    · have e7 : a.tmps[7]?.getD undef = .int .i64 0 := hev 7 rfl
      refine Drawn.wpOp_flow 40 rfl rfl rfl ?_
      clear hev hdep hb
      go_simp
      exact ⟨_, rfl, rfl, Below.refl _ _⟩
    · have d0 : a.tmps[40]?.getD undef = .int .i64 0 := hdep 0 rfl
      refine Drawn.wpOp_flow 41 rfl rfl rfl ?_
      clear hev hdep hb
      go_simp
      exact ⟨_, rfl, rfl, Below.refl _ _⟩
    · have d1 : a.tmps[41]?.getD undef = .bool true := hdep 1 rfl
      refine Drawn.wpOp_flow 42 rfl rfl rfl ?_
      clear hev hdep hb
      go_simp
      exact ⟨_, rfl, rfl, Below.refl _ _⟩
    · have e9 : a.tmps[9]?.getD undef = .int .i64 0 := hev 9 rfl
      have dg : a.tmps[42]?.getD undef = .bool true := hdep 2 rfl
      refine Drawn.wpOp_flow 43 rfl (Drawn.wanted_of rfl rfl rfl dg) rfl ?_
      clear dg
      clear hev hdep hb
      go_simp
      exact ⟨_, rfl, rfl, Below.refl _ _⟩
    · have d3 : a.tmps[43]?.getD undef = .int .i64 0 := hdep 3 rfl
      have dg : a.tmps[42]?.getD undef = .bool true := hdep 2 rfl
      refine Drawn.wpOp_flow 44 rfl (Drawn.wanted_of rfl rfl rfl dg) rfl ?_
      clear dg
      clear hev hdep hb
      go_simp
      exact ⟨_, rfl, rfl, Below.refl _ _⟩
    · have d2 : a.tmps[42]?.getD undef = .bool true := hdep 2 rfl
      have d4 : a.tmps[44]?.getD undef = .bool true := hdep 4 rfl
      refine Drawn.wpOp_flow 45 rfl rfl rfl ?_
      clear hev hdep hb
      go_simp
      exact ⟨_, rfl, rfl, Below.refl _ _⟩
    · have d5 : a.tmps[45]?.getD undef = .bool true := hdep 5 rfl
      refine Drawn.wpOp_flow 46 rfl rfl rfl ?_
      clear hev hdep hb
      go_simp
      exact ⟨_, rfl, rfl, Below.refl _ _⟩
    · have e6 : a.tmps[6]?.getD undef = .slice X an d := hev 6 rfl
      have dg : a.tmps[46]?.getD undef = .bool true := hdep 6 rfl
      refine Drawn.wpOp_flow 47 rfl (Drawn.wanted_of rfl rfl rfl dg) rfl ?_
      clear dg
      clear hev hdep hb
      go_simp
      exact ⟨_, rfl, rfl, Below.refl _ _⟩
    · have e8 : a.tmps[8]?.getD undef = .slice Y bn c := hev 8 rfl
      have dg : a.tmps[46]?.getD undef = .bool true := hdep 6 rfl
      refine Drawn.wpOp_flow 48 rfl (Drawn.wanted_of rfl rfl rfl dg) rfl ?_
      clear dg
      clear hev hdep hb
      go_simp
      exact ⟨_, rfl, rfl, Below.refl _ _⟩
    · have d7 : a.tmps[47]?.getD undef = .slice X an d := hdep 7 rfl
      have d8 : a.tmps[48]?.getD undef = .slice Y bn c := hdep 8 rfl
      have dg : a.tmps[46]?.getD undef = .bool true := hdep 6 rfl
      refine Drawn.wpOp_flow 49 rfl (Drawn.wanted_of rfl rfl rfl dg) rfl ?_
      clear hev hdep
      go_simp
      refine (CSB.out w1 hb).mono ?_
      rintro e w2 ⟨rfl, hq⟩
      exact ⟨_, rfl, rfl, bquiet hq⟩
    · have e2 : a.tmps[2]?.getD undef = .pointer (some ⟨p, 0, none⟩) := hev 2 rfl
      have dg : a.tmps[46]?.getD undef = .bool true := hdep 6 rfl
      refine Drawn.wpOp_flow 50 rfl (Drawn.wanted_of rfl rfl rfl dg) rfl ?_
      clear hev hdep
      refine wp_load_ms (.tmp 2) rfl p (by rw [Drawn.eval_tmp]; exact e2) x (HRx.out w1 hb) ?_
      exact ⟨_, rfl, rfl, Below.refl _ _⟩
    · have e3 : a.tmps[3]?.getD undef = .pointer (some ⟨q, 0, none⟩) := hev 3 rfl
      have dg : a.tmps[46]?.getD undef = .bool true := hdep 6 rfl
      refine Drawn.wpOp_flow 51 rfl (Drawn.wanted_of rfl rfl rfl dg) rfl ?_
      clear hev hdep
      refine wp_load_ms (.tmp 3) rfl q (by rw [Drawn.eval_tmp]; exact e3) y (HRy.out w1 hb) ?_
      exact ⟨_, rfl, rfl, Below.refl _ _⟩
    · have d10 : a.tmps[50]?.getD undef = .agg #[.int .i64 x.m.K, .int .i64 x.m.F, .int .i64 x.m.T, .int .i64 x.m.B, .string x.m.s, .int .i64 x.m.A, .int .i64 x.m.E, .int .i64 x.m.M, .int .i64 x.m.S, .int .i64 x.m.W, .slice x.P x.m.who.length x.p, .slice x.Q x.m.names.length x.q, .slice x.D x.m.data.length x.d] := hdep 10 rfl
      have d11 : a.tmps[51]?.getD undef = .agg #[.int .i64 y.m.K, .int .i64 y.m.F, .int .i64 y.m.T, .int .i64 y.m.B, .string y.m.s, .int .i64 y.m.A, .int .i64 y.m.E, .int .i64 y.m.M, .int .i64 y.m.S, .int .i64 y.m.W, .slice y.P y.m.who.length y.p, .slice y.Q y.m.names.length y.q, .slice y.D y.m.data.length y.d] := hdep 11 rfl
      have dg : a.tmps[46]?.getD undef = .bool true := hdep 6 rfl
      refine Drawn.wpOp_flow 52 rfl (Drawn.wanted_of rfl rfl rfl dg) rfl ?_
      clear hev hdep
      go_simp
      refine (CSM.out w1 hb).mono ?_
      rintro e w2 ⟨rfl, hb2⟩
      exact ⟨_, rfl, rfl, hb2⟩
    · have d9 : a.tmps[49]?.getD undef = .bool D := hdep 9 rfl
      have d12 : a.tmps[52]?.getD undef = .bool D := hdep 12 rfl
      have dg : a.tmps[46]?.getD undef = .bool true := hdep 6 rfl
      refine Drawn.wpOp_flow 53 rfl (Drawn.wanted_of rfl rfl rfl dg) rfl ?_
      clear hev hdep
      clear hb
      go_simp
      exact ⟨_, by simp, rfl, Below.refl _ _⟩
    · have d6 : a.tmps[46]?.getD undef = .bool true := hdep 6 rfl
      have d13 : a.tmps[53]?.getD undef = .bool true := hdep 13 rfl
      refine Drawn.wpOp_flow 54 rfl rfl rfl ?_
      clear hev hdep hb
      go_simp
      exact ⟨_, rfl, rfl, Below.refl _ _⟩
    · have d14 : a.tmps[54]?.getD undef = .bool true := hdep 14 rfl
      refine Drawn.wpOp_flow 55 rfl rfl rfl ?_
      clear hev hdep hb
      go_simp
      exact ⟨_, rfl, rfl, Below.refl _ _⟩
    · have dg : a.tmps[55]?.getD undef = .bool true := hdep 15 rfl
      refine Drawn.wpOp_flow 56 rfl (Drawn.wanted_of rfl rfl rfl dg) rfl ?_
      clear hev hdep
      go_simp
      refine (CAL.out w1).mono ?_
      rintro e w2 ⟨rfl, hb2⟩
      exact ⟨_, rfl, rfl, hb2⟩
    · have d15 : a.tmps[55]?.getD undef = .bool true := hdep 15 rfl
      have d16 : a.tmps[56]?.getD undef = .bool true := hdep 16 rfl
      refine Drawn.wpOp_flow 57 rfl rfl rfl ?_
      clear hev hdep hb
      go_simp
      exact ⟨_, rfl, rfl, Below.refl _ _⟩
    · have d17 : a.tmps[57]?.getD undef = .bool true := hdep 17 rfl
      refine Drawn.wpOp_flow 4 rfl rfl rfl ?_
      clear hev hdep hb
      go_simp
      exact ⟨_, rfl, rfl, Below.refl _ _⟩
  · intro xq w1 hb hxq
    have vq0 : xq 0 = .int .i64 0 := hxq 0 (by omega)
    have vq1 : xq 1 = .bool true := hxq 1 (by omega)
    have vq2 : xq 2 = .bool true := hxq 2 (by omega)
    have vq3 : xq 3 = .int .i64 0 := hxq 3 (by omega)
    have vq4 : xq 4 = .bool true := hxq 4 (by omega)
    have vq5 : xq 5 = .bool true := hxq 5 (by omega)
    have vq6 : xq 6 = .bool true := hxq 6 (by omega)
    have vq7 : xq 7 = .slice X an d := hxq 7 (by omega)
    have vq8 : xq 8 = .slice Y bn c := hxq 8 (by omega)
    have vq9 : xq 9 = .bool D := hxq 9 (by omega)
    have vq10 : xq 10 = .agg #[.int .i64 x.m.K, .int .i64 x.m.F, .int .i64 x.m.T, .int .i64 x.m.B, .string x.m.s, .int .i64 x.m.A, .int .i64 x.m.E, .int .i64 x.m.M, .int .i64 x.m.S, .int .i64 x.m.W, .slice x.P x.m.who.length x.p, .slice x.Q x.m.names.length x.q, .slice x.D x.m.data.length x.d] := hxq 10 (by omega)
    have vq11 : xq 11 = .agg #[.int .i64 y.m.K, .int .i64 y.m.F, .int .i64 y.m.T, .int .i64 y.m.B, .string y.m.s, .int .i64 y.m.A, .int .i64 y.m.E, .int .i64 y.m.M, .int .i64 y.m.S, .int .i64 y.m.W, .slice y.P y.m.who.length y.p, .slice y.Q y.m.names.length y.q, .slice y.D y.m.data.length y.d] := hxq 11 (by omega)
    have vq12 : xq 12 = .bool D := hxq 12 (by omega)
    have vq13 : xq 13 = .bool true := hxq 13 (by omega)
    have vq14 : xq 14 = .bool true := hxq 14 (by omega)
    have vq15 : xq 15 = .bool true := hxq 15 (by omega)
    have vq16 : xq 16 = .bool true := hxq 16 (by omega)
    have vq17 : xq 17 = .bool true := hxq 17 (by omega)
    have vq18 : xq 18 = .bool true := hxq 18 (by omega)
    show Exit.then _ _ Exit.normal (Drawn.acts _ [(4, some (xq 18)), (57, some (xq 17)), (56, some (xq 16)), (55, some (xq 15)), (54, some (xq 14)), (53, some (xq 13)), (52, some (xq 12)), (51, some (xq 11)), (50, some (xq 10)), (49, some (xq 9)), (48, some (xq 8)), (47, some (xq 7)), (46, some (xq 6)), (45, some (xq 5)), (44, some (xq 4)), (43, some (xq 3)), (42, some (xq 2)), (41, some (xq 1)), (40, some (xq 0))]) _
    rw [vq0, vq1, vq2, vq3, vq4, vq5, vq6, vq7, vq8, vq9, vq10, vq11, vq12, vq13, vq14, vq15, vq16, vq17, vq18]
    clear hxq vq0 vq1 vq2 vq3 vq4 vq5 vq6 vq7 vq8 vq9 vq10 vq11 vq12 vq13 vq14 vq15 vq16 vq17 vq18
    clear xq
    simp only [Drawn.acts]
    go_simp
    have HBF := Lib.hid (bstep HB7.out hb)
    clear hb HB7 CSM CSB HRx HRy CAL
    go_wp2
    go_ret
    exact ⟨rfl, HBF.out⟩
end Go.Proofs.Ytjoocjkakgjgmaa.Law25
