/- the law MsgPuts -/
import Derived.Test.YtjoocjkakgjgmaaLaw25B
import Derived.Test.YtjoocjkakgjgmaaR25D
set_option maxRecDepth 100000
set_option maxHeartbeats 20000000
namespace Go.Proofs.Ytjoocjkakgjgmaa.Law25
open Go.RowKit MsgM Msg

theorem puts_any (x y : Mv) (w : World) (hf : Fits x.m) (hx : Lies w x) (hg : Fits y.m) (hy : Lies w y) :
    Calls Try.prog 3 #[.agg #[.int .i64 x.m.K, .int .i64 x.m.F, .int .i64 x.m.T, .int .i64 x.m.B, .string x.m.s, .int .i64 x.m.A, .int .i64 x.m.E, .int .i64 x.m.M, .int .i64 x.m.S, .int .i64 x.m.W, .slice x.P x.m.who.length x.p, .slice x.Q x.m.names.length x.q, .slice x.D x.m.data.length x.d], .agg #[.int .i64 y.m.K, .int .i64 y.m.F, .int .i64 y.m.T, .int .i64 y.m.B, .string y.m.s, .int .i64 y.m.A, .int .i64 y.m.E, .int .i64 y.m.M, .int .i64 y.m.S, .int .i64 y.m.W, .slice y.P y.m.who.length y.p, .slice y.Q y.m.names.length y.q, .slice y.D y.m.data.length y.d]] w fun e w' => e = .returned (.bool true) ∧ Below w.heap.size w w' := by
  have CF := Lib.hid (fun W h => R25.far_any x hf W h)
  have CG := Lib.hid (fun W h => R25.far_any y hg W h)
  have CAL := Lib.hid (fun W => alive_any W)
  have HX := Lib.hid hx; have HY := Lib.hid hy
  obtain ⟨h1, h2, h3⟩ := two_boxes w x y
  have CRF := Lib.hid (fun W h hl => R25.right_any x hf W h hl)
  have CRM0 := Lib.hid (fun W h => Msg.right_any x hf W h)
  have CPX := Lib.hid (fun t W ht h => put_any t x hf W ht h)
  have CZ0 := Lib.hid (fun W h => size_any x hf W h)
  have HFS : Hid (∀ m : Ms, R25.farM m = false → m.who.length ≤ 1048576) := Lib.hid fun m h => by have := R25.far_small h; omega
  have HF0 : Hid (x.m.right = false → putV x.m = [] ∧ putE x.m = 3 ∧ sizeV x.m = 0) := Lib.hid fun h => ⟨putV_not h, putE_not h, sizeV_not h⟩
  have HF1 : Hid (x.m.right = true → putE x.m = 0 ∧ sizeV x.m = (putV x.m).length ∧ getV (putV x.m) = x.m ∧ getE (putV x.m) = 0 ∧ (putV x.m).length ≤ 1048576 ∧ ∀ W, Lies W x → Calls Try.prog 18 #[.agg #[.int .i64 x.m.K, .int .i64 x.m.F, .int .i64 x.m.T, .int .i64 x.m.B, .string x.m.s, .int .i64 x.m.A, .int .i64 x.m.E, .int .i64 x.m.M, .int .i64 x.m.S, .int .i64 x.m.W, .slice x.P x.m.who.length x.p, .slice x.Q x.m.names.length x.q, .slice x.D x.m.data.length x.d]] W (RetNew W (putV x.m))) := Lib.hid fun h => by
    have hm := (right_iff _).1 h
    have hl := CrcM.seal_len x.m.text
    have htl := text_len hm
    rw [putV_may hm, putE_may hm, sizeV_may hm]
    exact ⟨rfl, hl.symm, (get_put hm).1, (get_put hm).2, by show (CrcM.seal_ x.m.text).length ≤ _; omega, fun W hw => R25.put_any x hf hm W hw⟩
  obtain ⟨p, hp⟩ : ∃ p, p = w.heap.size := ⟨_, rfl⟩
  obtain ⟨q, hq⟩ : ∃ q, q = w.heap.size + 1 := ⟨_, rfl⟩
  have HRX := Lib.hid h1; have HRY := Lib.hid h2; have HB0 := Lib.hid h3
  rw [← hq] at HRY
  rw [← hp] at HRX
  clear hf hx hg hy h1 h2 h3
  have CGX := Lib.hid (fun t A c W ht h h1 h2 hl => get_any t A (putV x.m) c W ht h h1 h2 hl)
  unfold RetGot at CGX
  have HSM : Hid (∀ z : Mv, z.m = x.m → decide (z.m = x.m) = true) := Lib.hid fun z h => decide_eq_true h
  generalize getV (putV x.m) = GV at *
  generalize getE (putV x.m) = GE at *
  generalize putV x.m = PV at *
  generalize putE x.m = PE at *
  generalize sizeV x.m = SZ at *
  generalize x.m.right = bR at *
  go_enter Try.func3, Try.ntmps3
  go_wp2_with ((with_reducible show wpList _ _ _ (_ :: _) _ _); refine wpList_load_ms rfl _ rfl w.heap.size rfl x (by rw [← hp]; exact HRX.out) ?_)
  rw [← hq, ← hp]
  clear hp hq
  obtain ⟨w0, hw0⟩ : ∃ w0, w0 = ((w.alloc (.cells #[.int .i64 x.m.K, .int .i64 x.m.F, .int .i64 x.m.T, .int .i64 x.m.B, .string x.m.s, .int .i64 x.m.A, .int .i64 x.m.E, .int .i64 x.m.M, .int .i64 x.m.S, .int .i64 x.m.W, .slice x.P x.m.who.length x.p, .slice x.Q x.m.names.length x.q, .slice x.D x.m.data.length x.d] 26)).alloc (.cells #[.int .i64 y.m.K, .int .i64 y.m.F, .int .i64 y.m.T, .int .i64 y.m.B, .string y.m.s, .int .i64 y.m.A, .int .i64 y.m.E, .int .i64 y.m.M, .int .i64 y.m.S, .int .i64 y.m.W, .slice y.P y.m.who.length y.p, .slice y.Q y.m.names.length y.q, .slice y.D y.m.data.length y.d] 26)) := ⟨_, rfl⟩
  rw [← hw0] at HRX HRY HB0 ⊢
  clear hw0
  refine (CF.out w0 (HX.out.below HB0.out)).mono ?_
  rintro e w1 ⟨rfl, hb⟩
  have HRX1 := Lib.hid (HRX.out.below hb); have HRY1 := Lib.hid (HRY.out.below hb)
  have HB1 := Lib.hid (bstep HB0.out hb)
  clear hb HRX HRY HB0 CF
  rcases hfx : R25.farM x.m with _ | _
  rotate_left
  · clear hfx HFS CRF CRM0 CPX CZ0 HF0 HF1 HX HY HRX1 HRY1 CG CGX HSM
    go_wp2_with fail
    refine (CAL.out _).mono ?_
    rintro e wz ⟨rfl, hb⟩
    have HBZ := Lib.hid (bstep HB1.out hb)
    clear hb CAL
    go_wp2
    go_ret
    exact ⟨rfl, HBZ.out⟩
  have hwx := HFS.out x.m hfx
  clear hfx
  go_wp2_with ((with_reducible show wpList _ _ _ (_ :: _) _ _); refine wpList_load_msw rfl _ rfl q rfl y HRY1.out ?_)
  refine (CG.out w1 (HY.out.below HB1.out)).mono ?_
  rintro e w2 ⟨rfl, hb⟩
  have HRX2 := Lib.hid (HRX1.out.below hb); have HRY2 := Lib.hid (HRY1.out.below hb)
  have HB2 := Lib.hid (bstep HB1.out hb)
  clear hb HRX1 HRY1 HB1 CG
  rcases hfy : R25.farM y.m with _ | _
  rotate_left
  · clear hfy HFS CRF CRM0 CPX CZ0 HF0 HF1 HX HY HRX2 HRY2 CGX HSM
    go_wp2_with fail
    refine (CAL.out _).mono ?_
    rintro e wz ⟨rfl, hb⟩
    have HBZ := Lib.hid (bstep HB2.out hb)
    clear hb CAL
    go_wp2
    go_ret
    exact ⟨rfl, HBZ.out⟩
  have CRR := Lib.hid (fun W h => CRF.out W h hwx)
  clear hfy HFS hwx CRF
  go_wp2_with fail
  refine (Crc.new_any w2).mono ?_
  rintro e w5 ⟨t, rfl, ht, hb⟩
  have HT := Lib.hid ht
  have HRX5 := Lib.hid (HRX2.out.below hb); have HRY5 := Lib.hid (HRY2.out.below hb)
  have HB5 := Lib.hid (bstep HB2.out hb)
  clear ht hb HRX2 HRY2 HB2
  go_wp2_with ((with_reducible show wpList _ _ _ (_ :: _) _ _); refine wpList_load_ms rfl _ rfl p rfl x HRX5.out ?_)
  refine (CPX.out t w5 HT.out (HX.out.below HB5.out)).mono ?_
  rintro e w6 ⟨X, d, rfl, x1, x2, x3, hb, -⟩
  have HXX := Lib.hid x3
  have HT6 := Lib.hid (HT.out.below hb)
  have HRX6 := Lib.hid (HRX5.out.below hb); have HRY6 := Lib.hid (HRY5.out.below hb)
  have HB6 := Lib.hid (bstep HB5.out hb)
  have HX1 := Lib.hid (And.intro x1 x2)
  clear x1 x2 x3 hb HT HRX5 HRY5 HB5 CPX
  obtain ⟨pn, hpn⟩ : ∃ pn, pn = PV.length := ⟨_, rfl⟩
  have HPN := Lib.hid hpn
  rw [← hpn]
  clear hpn
  go_wp2_with ((with_reducible show wpList _ _ _ (_ :: _) _ _); refine wpList_load_ms rfl _ rfl p rfl x HRX6.out ?_)
  refine (CRR.out w6 (HX.out.below HB6.out)).mono ?_
  rintro e w7 ⟨rfl, hb⟩
  have HXX7 := Lib.hid (HXX.out.below hb)
  have HT7 := Lib.hid (HT6.out.below hb)
  have HRX7 := Lib.hid (HRX6.out.below hb); have HRY7 := Lib.hid (HRY6.out.below hb)
  have HB7 := Lib.hid (bstep HB6.out hb)
  clear hb HT6 HRX6 HRY6 HB6 CRR HXX
  obtain ⟨D, hD⟩ : ∃ D, D = decide (x.m = y.m) := ⟨_, rfl⟩
  have CSM : Hid (∀ W, Below w7.heap.size w7 W → Calls Try.prog 13 #[.agg #[.int .i64 x.m.K, .int .i64 x.m.F, .int .i64 x.m.T, .int .i64 x.m.B, .string x.m.s, .int .i64 x.m.A, .int .i64 x.m.E, .int .i64 x.m.M, .int .i64 x.m.S, .int .i64 x.m.W, .slice x.P x.m.who.length x.p, .slice x.Q x.m.names.length x.q, .slice x.D x.m.data.length x.d], .agg #[.int .i64 y.m.K, .int .i64 y.m.F, .int .i64 y.m.T, .int .i64 y.m.B, .string y.m.s, .int .i64 y.m.A, .int .i64 y.m.E, .int .i64 y.m.M, .int .i64 y.m.S, .int .i64 y.m.W, .slice y.P y.m.who.length y.p, .slice y.Q y.m.names.length y.q, .slice y.D y.m.data.length y.d]] W fun e w' => e = .returned (.bool D) ∧ Below W.heap.size W w') := Lib.hid fun W hb => by rw [hD]; exact Msg.same_any x y W (HX.out.below (bstep HB7.out hb)) (HY.out.below (bstep HB7.out hb))
  have CRS : Hid (∀ W, Below w7.heap.size w7 W → Calls Try.prog 14 #[.agg #[.int .i64 x.m.K, .int .i64 x.m.F, .int .i64 x.m.T, .int .i64 x.m.B, .string x.m.s, .int .i64 x.m.A, .int .i64 x.m.E, .int .i64 x.m.M, .int .i64 x.m.S, .int .i64 x.m.W, .slice x.P x.m.who.length x.p, .slice x.Q x.m.names.length x.q, .slice x.D x.m.data.length x.d], .agg #[.int .i64 y.m.K, .int .i64 y.m.F, .int .i64 y.m.T, .int .i64 y.m.B, .string y.m.s, .int .i64 y.m.A, .int .i64 y.m.E, .int .i64 y.m.M, .int .i64 y.m.S, .int .i64 y.m.W, .slice y.P y.m.who.length y.p, .slice y.Q y.m.names.length y.q, .slice y.D y.m.data.length y.d]] W fun e w' => e = .returned (.bool D) ∧ Below W.heap.size W w') := Lib.hid fun W hb => by rw [hD]; exact R25.same_any x y W (HX.out.below (bstep HB7.out hb)) (HY.out.below (bstep HB7.out hb))
  have CSS : Hid (∀ W, Below w7.heap.size w7 W → Calls Try.prog 13 #[.agg #[.int .i64 x.m.K, .int .i64 x.m.F, .int .i64 x.m.T, .int .i64 x.m.B, .string x.m.s, .int .i64 x.m.A, .int .i64 x.m.E, .int .i64 x.m.M, .int .i64 x.m.S, .int .i64 x.m.W, .slice x.P x.m.who.length x.p, .slice x.Q x.m.names.length x.q, .slice x.D x.m.data.length x.d], .agg #[.int .i64 x.m.K, .int .i64 x.m.F, .int .i64 x.m.T, .int .i64 x.m.B, .string x.m.s, .int .i64 x.m.A, .int .i64 x.m.E, .int .i64 x.m.M, .int .i64 x.m.S, .int .i64 x.m.W, .slice x.P x.m.who.length x.p, .slice x.Q x.m.names.length x.q, .slice x.D x.m.data.length x.d]] W fun e w' => e = .returned (.bool true) ∧ Below W.heap.size W w') := Lib.hid fun W hb => by
    have := Msg.same_any x x W (HX.out.below (bstep HB7.out hb)) (HX.out.below (bstep HB7.out hb))
    rw [decide_eq_true (rfl : x.m = x.m)] at this
    exact this
  have CRM : Hid (∀ W, Below w7.heap.size w7 W → Calls Try.prog 12 #[.agg #[.int .i64 x.m.K, .int .i64 x.m.F, .int .i64 x.m.T, .int .i64 x.m.B, .string x.m.s, .int .i64 x.m.A, .int .i64 x.m.E, .int .i64 x.m.M, .int .i64 x.m.S, .int .i64 x.m.W, .slice x.P x.m.who.length x.p, .slice x.Q x.m.names.length x.q, .slice x.D x.m.data.length x.d]] W fun e w' => e = .returned (.bool bR) ∧ Below W.heap.size W w') := Lib.hid fun W hb => CRM0.out W (HX.out.below (bstep HB7.out hb))
  have HRx : Hid (∀ W, Below w7.heap.size w7 W → MsB W p x) := Lib.hid fun W hb => HRX7.out.below hb
  have HRy : Hid (∀ W, Below w7.heap.size w7 W → MsB W q y) := Lib.hid fun W hb => HRY7.out.below hb
  have HXB : Hid (∀ W, Below w7.heap.size w7 W → BytesAt W X PV ∧ Crc.Tab W t) := Lib.hid fun W hb => ⟨HXX7.out.below hb, HT7.out.below hb⟩
  have HLX : Hid (∀ W, Below w7.heap.size w7 W → Lies W x) := Lib.hid fun W hb => HX.out.below (bstep HB7.out hb)
  clear hD HXX7 HX HY HRX7 HRY7 CRM0 HT7
  go_wp2_with fail
  refine Drawn.wp_region_flowL 19 [Drawn.SP.is (.agg #[.int .i64 x.m.K, .int .i64 x.m.F, .int .i64 x.m.T, .int .i64 x.m.B, .string x.m.s, .int .i64 x.m.A, .int .i64 x.m.E, .int .i64 x.m.M, .int .i64 x.m.S, .int .i64 x.m.W, .slice x.P x.m.who.length x.p, .slice x.Q x.m.names.length x.q, .slice x.D x.m.data.length x.d]), Drawn.SP.is (.bool bR), Drawn.SP.is (.bool bR), Drawn.SP.is (.bool false), Drawn.SP.is (.bool false), Drawn.SP.is (.agg #[.int .i64 x.m.K, .int .i64 x.m.F, .int .i64 x.m.T, .int .i64 x.m.B, .string x.m.s, .int .i64 x.m.A, .int .i64 x.m.E, .int .i64 x.m.M, .int .i64 x.m.S, .int .i64 x.m.W, .slice x.P x.m.who.length x.p, .slice x.Q x.m.names.length x.q, .slice x.D x.m.data.length x.d]), Drawn.SP.is (.agg #[.int .i64 y.m.K, .int .i64 y.m.F, .int .i64 y.m.T, .int .i64 y.m.B, .string y.m.s, .int .i64 y.m.A, .int .i64 y.m.E, .int .i64 y.m.M, .int .i64 y.m.S, .int .i64 y.m.W, .slice y.P y.m.who.length y.p, .slice y.Q y.m.names.length y.q, .slice y.D y.m.data.length y.d]), Drawn.SP.is (.bool D), Drawn.SP.is (.agg #[.int .i64 x.m.K, .int .i64 x.m.F, .int .i64 x.m.T, .int .i64 x.m.B, .string x.m.s, .int .i64 x.m.A, .int .i64 x.m.E, .int .i64 x.m.M, .int .i64 x.m.S, .int .i64 x.m.W, .slice x.P x.m.who.length x.p, .slice x.Q x.m.names.length x.q, .slice x.D x.m.data.length x.d]), Drawn.SP.is (.agg #[.int .i64 y.m.K, .int .i64 y.m.F, .int .i64 y.m.T, .int .i64 y.m.B, .string y.m.s, .int .i64 y.m.A, .int .i64 y.m.E, .int .i64 y.m.M, .int .i64 y.m.S, .int .i64 y.m.W, .slice y.P y.m.who.length y.p, .slice y.Q y.m.names.length y.q, .slice y.D y.m.data.length y.d]), Drawn.SP.is (.bool D), Drawn.SP.is (.bool false), Drawn.SP.is (.bool false), Drawn.SP.is (.bool false), Drawn.SP.is (.agg #[.int .i64 x.m.K, .int .i64 x.m.F, .int .i64 x.m.T, .int .i64 x.m.B, .string x.m.s, .int .i64 x.m.A, .int .i64 x.m.E, .int .i64 x.m.M, .int .i64 x.m.S, .int .i64 x.m.W, .slice x.P x.m.who.length x.p, .slice x.Q x.m.names.length x.q, .slice x.D x.m.data.length x.d]), Drawn.SP.is (.agg #[.int .i64 x.m.K, .int .i64 x.m.F, .int .i64 x.m.T, .int .i64 x.m.B, .string x.m.s, .int .i64 x.m.A, .int .i64 x.m.E, .int .i64 x.m.M, .int .i64 x.m.S, .int .i64 x.m.W, .slice x.P x.m.who.length x.p, .slice x.Q x.m.names.length x.q, .slice x.D x.m.data.length x.d]), Drawn.SP.is (.bool true), Drawn.SP.is (.bool false), Drawn.SP.is (.bool false)] (by kernel_rfl) (by kernel_rfl) ?_ ?_
  · intro i hi a w1 hb hev hdep
    rcases (show i = 0 ∨ i = 1 ∨ i = 2 ∨ i = 3 ∨ i = 4 ∨ i = 5 ∨ i = 6 ∨ i = 7 ∨ i = 8 ∨ i = 9 ∨ i = 10 ∨ i = 11 ∨ i = 12 ∨ i = 13 ∨ i = 14 ∨ i = 15 ∨ i = 16 ∨ i = 17 ∨ i = 18 by omega) with rfl | rfl | rfl | rfl | rfl | rfl | rfl | rfl | rfl | rfl | rfl | rfl | rfl | rfl | rfl | rfl | rfl | rfl | rfl
    · have e2 : a.tmps[2]?.getD undef = .pointer (some ⟨p, 0, none⟩) := hev 2 rfl
      refine Drawn.wpOp_flow 27 rfl rfl rfl ?_
      clear hev hdep
      refine wp_load_ms (.tmp 2) rfl p (by rw [Drawn.eval_tmp]; exact e2) x (HRx.out w1 hb) ?_
      exact ⟨_, rfl, rfl, Below.refl _ _⟩
    · have d0 : a.tmps[27]?.getD undef = .agg #[.int .i64 x.m.K, .int .i64 x.m.F, .int .i64 x.m.T, .int .i64 x.m.B, .string x.m.s, .int .i64 x.m.A, .int .i64 x.m.E, .int .i64 x.m.M, .int .i64 x.m.S, .int .i64 x.m.W, .slice x.P x.m.who.length x.p, .slice x.Q x.m.names.length x.q, .slice x.D x.m.data.length x.d] := hdep 0 rfl
      refine Drawn.wpOp_flow 28 rfl rfl rfl ?_
      clear hev hdep
      go_simp
      refine (CRM.out w1 hb).mono ?_
      rintro e w2 ⟨rfl, hb2⟩
      exact ⟨_, rfl, rfl, hb2⟩
    · have e8 : a.tmps[8]?.getD undef = .bool bR := hev 8 rfl
      refine Drawn.wpOp_flow 29 rfl rfl rfl ?_
      clear hev hdep hb
      go_simp
      exact ⟨_, rfl, rfl, Below.refl _ _⟩
    · have d1 : a.tmps[28]?.getD undef = .bool bR := hdep 1 rfl
      have d2 : a.tmps[29]?.getD undef = .bool bR := hdep 2 rfl
      refine Drawn.wpOp_flow 30 rfl rfl rfl ?_
      clear hev hdep
      clear hb
      go_simp
      exact ⟨_, by simp, rfl, Below.refl _ _⟩
    · have d3 : a.tmps[30]?.getD undef = .bool false := hdep 3 rfl
      refine Drawn.wpOp_flow 31 rfl rfl rfl ?_
      clear hev hdep hb
      go_simp
      exact ⟨_, rfl, rfl, Below.refl _ _⟩
    · have e2 : a.tmps[2]?.getD undef = .pointer (some ⟨p, 0, none⟩) := hev 2 rfl
      have dg : a.tmps[31]?.getD undef = .bool false := hdep 4 rfl
      refine Drawn.wpOp_flow 32 rfl (Drawn.wanted_of rfl rfl rfl dg) rfl ?_
      clear hev hdep
      refine wp_load_ms (.tmp 2) rfl p (by rw [Drawn.eval_tmp]; exact e2) x (HRx.out w1 hb) ?_
      exact ⟨_, rfl, rfl, Below.refl _ _⟩
    · have e3 : a.tmps[3]?.getD undef = .pointer (some ⟨q, 0, none⟩) := hev 3 rfl
      have dg : a.tmps[31]?.getD undef = .bool false := hdep 4 rfl
      refine Drawn.wpOp_flow 33 rfl (Drawn.wanted_of rfl rfl rfl dg) rfl ?_
      clear hev hdep
      refine wp_load_ms (.tmp 3) rfl q (by rw [Drawn.eval_tmp]; exact e3) y (HRy.out w1 hb) ?_
      exact ⟨_, rfl, rfl, Below.refl _ _⟩
    · have d5 : a.tmps[32]?.getD undef = .agg #[.int .i64 x.m.K, .int .i64 x.m.F, .int .i64 x.m.T, .int .i64 x.m.B, .string x.m.s, .int .i64 x.m.A, .int .i64 x.m.E, .int .i64 x.m.M, .int .i64 x.m.S, .int .i64 x.m.W, .slice x.P x.m.who.length x.p, .slice x.Q x.m.names.length x.q, .slice x.D x.m.data.length x.d] := hdep 5 rfl
      have d6 : a.tmps[33]?.getD undef = .agg #[.int .i64 y.m.K, .int .i64 y.m.F, .int .i64 y.m.T, .int .i64 y.m.B, .string y.m.s, .int .i64 y.m.A, .int .i64 y.m.E, .int .i64 y.m.M, .int .i64 y.m.S, .int .i64 y.m.W, .slice y.P y.m.who.length y.p, .slice y.Q y.m.names.length y.q, .slice y.D y.m.data.length y.d] := hdep 6 rfl
      have dg : a.tmps[31]?.getD undef = .bool false := hdep 4 rfl
      refine Drawn.wpOp_flow 34 rfl (Drawn.wanted_of rfl rfl rfl dg) rfl ?_
      clear hev hdep
      go_simp
      refine (CSM.out w1 hb).mono ?_
      rintro e w2 ⟨rfl, hb2⟩
      exact ⟨_, rfl, rfl, hb2⟩
    · have e2 : a.tmps[2]?.getD undef = .pointer (some ⟨p, 0, none⟩) := hev 2 rfl
      have dg : a.tmps[31]?.getD undef = .bool false := hdep 4 rfl
      refine Drawn.wpOp_flow 35 rfl (Drawn.wanted_of rfl rfl rfl dg) rfl ?_
      clear hev hdep
      refine wp_load_ms (.tmp 2) rfl p (by rw [Drawn.eval_tmp]; exact e2) x (HRx.out w1 hb) ?_
      exact ⟨_, rfl, rfl, Below.refl _ _⟩
    · have e3 : a.tmps[3]?.getD undef = .pointer (some ⟨q, 0, none⟩) := hev 3 rfl
      have dg : a.tmps[31]?.getD undef = .bool false := hdep 4 rfl
      refine Drawn.wpOp_flow 36 rfl (Drawn.wanted_of rfl rfl rfl dg) rfl ?_
      clear hev hdep
      refine wp_load_ms (.tmp 3) rfl q (by rw [Drawn.eval_tmp]; exact e3) y (HRy.out w1 hb) ?_
      exact ⟨_, rfl, rfl, Below.refl _ _⟩
    · have d8 : a.tmps[35]?.getD undef = .agg #[.int .i64 x.m.K, .int .i64 x.m.F, .int .i64 x.m.T, .int .i64 x.m.B, .string x.m.s, .int .i64 x.m.A, .int .i64 x.m.E, .int .i64 x.m.M, .int .i64 x.m.S, .int .i64 x.m.W, .slice x.P x.m.who.length x.p, .slice x.Q x.m.names.length x.q, .slice x.D x.m.data.length x.d] := hdep 8 rfl
      have d9 : a.tmps[36]?.getD undef = .agg #[.int .i64 y.m.K, .int .i64 y.m.F, .int .i64 y.m.T, .int .i64 y.m.B, .string y.m.s, .int .i64 y.m.A, .int .i64 y.m.E, .int .i64 y.m.M, .int .i64 y.m.S, .int .i64 y.m.W, .slice y.P y.m.who.length y.p, .slice y.Q y.m.names.length y.q, .slice y.D y.m.data.length y.d] := hdep 9 rfl
      have dg : a.tmps[31]?.getD undef = .bool false := hdep 4 rfl
      refine Drawn.wpOp_flow 37 rfl (Drawn.wanted_of rfl rfl rfl dg) rfl ?_
      clear hev hdep
      go_simp
      refine (CRS.out w1 hb).mono ?_
      rintro e w2 ⟨rfl, hb2⟩
      exact ⟨_, rfl, rfl, hb2⟩
    · have d7 : a.tmps[34]?.getD undef = .bool D := hdep 7 rfl
      have d10 : a.tmps[37]?.getD undef = .bool D := hdep 10 rfl
      have dg : a.tmps[31]?.getD undef = .bool false := hdep 4 rfl
      refine Drawn.wpOp_flow 38 rfl (Drawn.wanted_of rfl rfl rfl dg) rfl ?_
      clear hev hdep
      clear hb
      go_simp
      exact ⟨_, by simp, rfl, Below.refl _ _⟩
    · have d4 : a.tmps[31]?.getD undef = .bool false := hdep 4 rfl
      have d11 : a.tmps[38]?.getD undef = .bool false := hdep 11 rfl
      refine Drawn.wpOp_flow 39 rfl rfl rfl ?_
      clear hev hdep hb
      go_simp
      exact ⟨_, rfl, rfl, Below.refl _ _⟩
    · have d12 : a.tmps[39]?.getD undef = .bool false := hdep 12 rfl
      refine Drawn.wpOp_flow 40 rfl rfl rfl ?_
      clear hev hdep hb
      go_simp
      exact ⟨_, rfl, rfl, Below.refl _ _⟩
    · have e2 : a.tmps[2]?.getD undef = .pointer (some ⟨p, 0, none⟩) := hev 2 rfl
      have dg : a.tmps[40]?.getD undef = .bool false := hdep 13 rfl
      refine Drawn.wpOp_flow 41 rfl (Drawn.wanted_of rfl rfl rfl dg) rfl ?_
      clear hev hdep
      refine wp_load_ms (.tmp 2) rfl p (by rw [Drawn.eval_tmp]; exact e2) x (HRx.out w1 hb) ?_
      exact ⟨_, rfl, rfl, Below.refl _ _⟩
    · have e2 : a.tmps[2]?.getD undef = .pointer (some ⟨p, 0, none⟩) := hev 2 rfl
      have dg : a.tmps[40]?.getD undef = .bool false := hdep 13 rfl
      refine Drawn.wpOp_flow 42 rfl (Drawn.wanted_of rfl rfl rfl dg) rfl ?_
      clear hev hdep
      refine wp_load_ms (.tmp 2) rfl p (by rw [Drawn.eval_tmp]; exact e2) x (HRx.out w1 hb) ?_
      exact ⟨_, rfl, rfl, Below.refl _ _⟩
    · have d14 : a.tmps[41]?.getD undef = .agg #[.int .i64 x.m.K, .int .i64 x.m.F, .int .i64 x.m.T, .int .i64 x.m.B, .string x.m.s, .int .i64 x.m.A, .int .i64 x.m.E, .int .i64 x.m.M, .int .i64 x.m.S, .int .i64 x.m.W, .slice x.P x.m.who.length x.p, .slice x.Q x.m.names.length x.q, .slice x.D x.m.data.length x.d] := hdep 14 rfl
      have d15 : a.tmps[42]?.getD undef = .agg #[.int .i64 x.m.K, .int .i64 x.m.F, .int .i64 x.m.T, .int .i64 x.m.B, .string x.m.s, .int .i64 x.m.A, .int .i64 x.m.E, .int .i64 x.m.M, .int .i64 x.m.S, .int .i64 x.m.W, .slice x.P x.m.who.length x.p, .slice x.Q x.m.names.length x.q, .slice x.D x.m.data.length x.d] := hdep 15 rfl
      have dg : a.tmps[40]?.getD undef = .bool false := hdep 13 rfl
      refine Drawn.wpOp_flow 43 rfl (Drawn.wanted_of rfl rfl rfl dg) rfl ?_
      clear hev hdep
      go_simp
      refine (CSS.out w1 hb).mono ?_
      rintro e w2 ⟨rfl, hb2⟩
      exact ⟨_, rfl, rfl, hb2⟩
    · have d16 : a.tmps[43]?.getD undef = .bool true := hdep 16 rfl
      have dg : a.tmps[40]?.getD undef = .bool false := hdep 13 rfl
      refine Drawn.wpOp_flow 44 rfl (Drawn.wanted_of rfl rfl rfl dg) rfl ?_
      clear dg
      clear hev hdep hb
      go_simp
      exact ⟨_, rfl, rfl, Below.refl _ _⟩
    · have d13 : a.tmps[40]?.getD undef = .bool false := hdep 13 rfl
      have d17 : a.tmps[44]?.getD undef = .bool false := hdep 17 rfl
      refine Drawn.wpOp_flow 45 rfl rfl rfl ?_
      clear hev hdep hb
      go_simp
      exact ⟨_, rfl, rfl, Below.refl _ _⟩
  · intro xq w1 hb hxq
    have vq0 : xq 0 = .agg #[.int .i64 x.m.K, .int .i64 x.m.F, .int .i64 x.m.T, .int .i64 x.m.B, .string x.m.s, .int .i64 x.m.A, .int .i64 x.m.E, .int .i64 x.m.M, .int .i64 x.m.S, .int .i64 x.m.W, .slice x.P x.m.who.length x.p, .slice x.Q x.m.names.length x.q, .slice x.D x.m.data.length x.d] := hxq 0 (by omega)
    have vq1 : xq 1 = .bool bR := hxq 1 (by omega)
    have vq2 : xq 2 = .bool bR := hxq 2 (by omega)
    have vq3 : xq 3 = .bool false := hxq 3 (by omega)
    have vq4 : xq 4 = .bool false := hxq 4 (by omega)
    have vq5 : xq 5 = .agg #[.int .i64 x.m.K, .int .i64 x.m.F, .int .i64 x.m.T, .int .i64 x.m.B, .string x.m.s, .int .i64 x.m.A, .int .i64 x.m.E, .int .i64 x.m.M, .int .i64 x.m.S, .int .i64 x.m.W, .slice x.P x.m.who.length x.p, .slice x.Q x.m.names.length x.q, .slice x.D x.m.data.length x.d] := hxq 5 (by omega)
    have vq6 : xq 6 = .agg #[.int .i64 y.m.K, .int .i64 y.m.F, .int .i64 y.m.T, .int .i64 y.m.B, .string y.m.s, .int .i64 y.m.A, .int .i64 y.m.E, .int .i64 y.m.M, .int .i64 y.m.S, .int .i64 y.m.W, .slice y.P y.m.who.length y.p, .slice y.Q y.m.names.length y.q, .slice y.D y.m.data.length y.d] := hxq 6 (by omega)
    have vq7 : xq 7 = .bool D := hxq 7 (by omega)
    have vq8 : xq 8 = .agg #[.int .i64 x.m.K, .int .i64 x.m.F, .int .i64 x.m.T, .int .i64 x.m.B, .string x.m.s, .int .i64 x.m.A, .int .i64 x.m.E, .int .i64 x.m.M, .int .i64 x.m.S, .int .i64 x.m.W, .slice x.P x.m.who.length x.p, .slice x.Q x.m.names.length x.q, .slice x.D x.m.data.length x.d] := hxq 8 (by omega)
    have vq9 : xq 9 = .agg #[.int .i64 y.m.K, .int .i64 y.m.F, .int .i64 y.m.T, .int .i64 y.m.B, .string y.m.s, .int .i64 y.m.A, .int .i64 y.m.E, .int .i64 y.m.M, .int .i64 y.m.S, .int .i64 y.m.W, .slice y.P y.m.who.length y.p, .slice y.Q y.m.names.length y.q, .slice y.D y.m.data.length y.d] := hxq 9 (by omega)
    have vq10 : xq 10 = .bool D := hxq 10 (by omega)
    have vq11 : xq 11 = .bool false := hxq 11 (by omega)
    have vq12 : xq 12 = .bool false := hxq 12 (by omega)
    have vq13 : xq 13 = .bool false := hxq 13 (by omega)
    have vq14 : xq 14 = .agg #[.int .i64 x.m.K, .int .i64 x.m.F, .int .i64 x.m.T, .int .i64 x.m.B, .string x.m.s, .int .i64 x.m.A, .int .i64 x.m.E, .int .i64 x.m.M, .int .i64 x.m.S, .int .i64 x.m.W, .slice x.P x.m.who.length x.p, .slice x.Q x.m.names.length x.q, .slice x.D x.m.data.length x.d] := hxq 14 (by omega)
    have vq15 : xq 15 = .agg #[.int .i64 x.m.K, .int .i64 x.m.F, .int .i64 x.m.T, .int .i64 x.m.B, .string x.m.s, .int .i64 x.m.A, .int .i64 x.m.E, .int .i64 x.m.M, .int .i64 x.m.S, .int .i64 x.m.W, .slice x.P x.m.who.length x.p, .slice x.Q x.m.names.length x.q, .slice x.D x.m.data.length x.d] := hxq 15 (by omega)
    have vq16 : xq 16 = .bool true := hxq 16 (by omega)
    have vq17 : xq 17 = .bool false := hxq 17 (by omega)
    have vq18 : xq 18 = .bool false := hxq 18 (by omega)
    show Exit.then _ _ Exit.normal (Drawn.acts _ [(45, some (xq 18)), (44, some (xq 17)), (43, some (xq 16)), (42, some (xq 15)), (41, some (xq 14)), (40, some (xq 13)), (39, some (xq 12)), (38, some (xq 11)), (37, some (xq 10)), (36, some (xq 9)), (35, some (xq 8)), (34, some (xq 7)), (33, some (xq 6)), (32, some (xq 5)), (31, some (xq 4)), (30, some (xq 3)), (29, some (xq 2)), (28, some (xq 1)), (27, some (xq 0))]) _
    rw [vq0, vq1, vq2, vq3, vq4, vq5, vq6, vq7, vq8, vq9, vq10, vq11, vq12, vq13, vq14, vq15, vq16, vq17, vq18]
    clear hxq vq0 vq1 vq2 vq3 vq4 vq5 vq6 vq7 vq8 vq9 vq10 vq11 vq12 vq13 vq14 vq15 vq16 vq17 vq18
    clear xq
    simp only [Drawn.acts]
    go_simp
    obtain ⟨hxb, htb⟩ := HXB.out w1 hb
    have HXX := Lib.hid hxb; have HT := Lib.hid htb
    have HRA := Lib.hid (HRx.out w1 hb)
    have HLA := Lib.hid (HLX.out w1 hb)
    have HBF := Lib.hid (bstep HB7.out hb)
    clear hb hxb htb HB7 CSM CRS CSS CRM HRx HRy HXB HLX
    cases bR
    · obtain ⟨rfl, rfl, rfl⟩ := HF0.out rfl
      obtain rfl : pn = 0 := HPN.out
      have C1 := Lib.hid (CZ0.out w1 HLA.out)
      clear HF0 HF1 HPN HX1 HXX HT CGX HSM CZ0
      go_wp2_with ((with_reducible show wpList _ _ _ (_ :: _) _ _); refine wpList_load_msw rfl _ rfl p rfl x HRA.out ?_)
      refine C1.out.mono ?_
      rintro e w8 ⟨rfl, hb⟩
      have HB8 := Lib.hid (bstep HBF.out hb)
      clear hb HBF C1 HRA HLA
      go_wp2_with fail
      refine (CAL.out _).mono ?_
      rintro e w9 ⟨rfl, hb⟩
      have HB9 := Lib.hid (bstep HB8.out hb)
      clear hb HB8 CAL
      go_wp2
      go_ret
      exact ⟨rfl, HB9.out⟩
    · obtain ⟨rfl, hsz, hgv, hge, hle, hput⟩ := HF1.out rfl
      have CPU := Lib.hid hput
      have C1 := Lib.hid (CGX.out t X d w1 HT.out HXX.out HX1.out.1 HX1.out.2 hle)
      rw [← HPN.out] at C1
      have HSZ := Lib.hid hsz
      subst hgv hge
      clear HF0 HF1 CGX hput hsz HT
      go_wp2_with fail
      refine C1.out.mono ?_
      rintro e w8 ⟨z, hz, rfl, hl, hb⟩
      have HZ := Lib.hid hz; have HZL := Lib.hid hl
      have HXX8 := Lib.hid (HXX.out.below hb)
      have HRA8 := Lib.hid (HRA.out.below hb)
      have HLA8 := Lib.hid (HLA.out.below hb)
      have HB8 := Lib.hid (bstep HBF.out hb)
      have HN0 : Hid (MsB (w8.alloc (.cells #[.int .i64 0, .int .i64 0, .int .i64 0, .int .i64 0, .string ⟨#[]⟩, .int .i64 0, .int .i64 0, .int .i64 0, .int .i64 0, .int .i64 0, .slice none 0 0, .slice none 0 0, .slice none 0 0] 26)) w8.heap.size mv0) := Lib.hid (MsB.new w8 mv0)
      have HBN := Lib.hid (balloc w8 (.cells #[.int .i64 0, .int .i64 0, .int .i64 0, .int .i64 0, .string ⟨#[]⟩, .int .i64 0, .int .i64 0, .int .i64 0, .int .i64 0, .int .i64 0, .slice none 0 0, .slice none 0 0, .slice none 0 0] 26))
      have hpw : p ≠ w8.heap.size := by have := HRA8.out.lt; omega
      clear hz hl hb C1 HXX HRA HLA HBF
      go_wp2_with (first
        | ((with_reducible show wpList _ _ _ (_ :: _) _ _); refine wpList_store_ms rfl _ _ rfl w8.heap.size z rfl rfl mv0 HN0.out ?_; intro w9 hr9 hk9; have HN9 := Lib.hid hr9; have HK9 := Lib.hid hk9; have HRA9 := Lib.hid ((HRA8.out.below HBN.out).keep hk9 hpw); clear hr9 hk9)
        | ((with_reducible show wpList _ _ _ (_ :: _) _ _); refine wpList_load_msw rfl _ rfl p rfl x HRA9.out ?_))
      have HB9 : Hid (Below w.heap.size w w9) := Lib.hid (below_keeps (bstep HB8.out HBN.out) HK9.out (fun i e => by have := HB8.out.size; omega) (bstep HB8.out HBN.out).size)
      have HXX9 : Hid (BytesAt w9 X PV) := Lib.hid (HK9.out.bytes' (HXX8.out.below HBN.out) (fun h0 a e h => by have := HXX8.out.lt h0 a e; omega))
      have HZ9 : Hid (Lies w9 z) := Lib.hid (Lies.keep (HZL.out.below HBN.out) HK9.out (fun h0 a e => by have := CellsAt.lt HZL.out.who (by rw [intV_len]; exact h0) a e; omega) (fun h0 a e => by have := CellsAt.lt HZL.out.names (by rw [LabM.strV_len]; exact h0) a e; omega) (fun h0 a e => by have := HZL.out.data.lt h0 a e; omega))
      have HLA9 : Hid (Lies w9 x) := Lib.hid (Lies.keep (HLA8.out.below HBN.out) HK9.out (fun h0 a e => by have := CellsAt.lt HLA8.out.who (by rw [intV_len]; exact h0) a e; omega) (fun h0 a e => by have := CellsAt.lt HLA8.out.names (by rw [LabM.strV_len]; exact h0) a e; omega) (fun h0 a e => by have := HLA8.out.data.lt h0 a e; omega))
      obtain ⟨g, hg⟩ : ∃ g, g = w8.heap.size := ⟨_, rfl⟩
      rw [← hg] at HN9
      first | rw [← hg] | skip
      clear hg HN0 HBN HK9 hpw HXX8 HRA8 HLA8 HB8 HZL
      refine (CPU.out w9 HLA9.out).mono ?_
      rintro e w10 ⟨Z, c, rfl, z1, z2, z3, hb, -⟩
      have HZZ := Lib.hid z3
      have HXX10 := Lib.hid (HXX9.out.below hb); have HN10 := Lib.hid (HN9.out.below hb); have HRA10 := Lib.hid (HRA9.out.below hb); have HZ10 := Lib.hid (HZ9.out.below hb); have HLA10 := Lib.hid (HLA9.out.below hb); have HB10 := Lib.hid (bstep HB9.out hb)
      have C2 := Lib.hid (R01.same_any X Z PV PV d c w10 HXX10.out HZZ.out (Nat.le_trans HX1.out.1 HX1.out.2) (Nat.le_trans z1 z2))
      rw [same_self, ← HPN.out] at C2
      rw [← HPN.out]
      clear z1 z2 z3 hb HXX9 HN9 HRA9 HZ9 HLA9 HB9 CPU HZZ
      go_wp2_with fail
      refine C2.out.mono ?_
      rintro e w11 ⟨rfl, hq⟩
      have HN11 := Lib.hid (HN10.out.below (bquiet hq)); have HRA11 := Lib.hid (HRA10.out.below (bquiet hq)); have HZ11 := Lib.hid (HZ10.out.below (bquiet hq)); have HLA11 := Lib.hid (HLA10.out.below (bquiet hq)); have HB11 := Lib.hid (bstep HB10.out (bquiet hq))
      have C3 := Lib.hid (CZ0.out w11 HLA11.out)
      rw [HSZ.out, ← HPN.out] at C3
      clear hq HN10 HRA10 HZ10 HLA10 HB10 C2 HXX10 CZ0 HSZ
      go_wp2_with ((with_reducible show wpList _ _ _ (_ :: _) _ _); refine wpList_load_msw rfl _ rfl p rfl x HRA11.out ?_)
      refine C3.out.mono ?_
      rintro e w12 ⟨rfl, hb⟩
      have HN12 := Lib.hid (HN11.out.below hb); have HRA12 := Lib.hid (HRA11.out.below hb); have HB12 := Lib.hid (bstep HB11.out hb)
      have C4 := Lib.hid (R25.same_any z x w12 (HZ11.out.below hb) (HLA11.out.below hb))
      rw [HSM.out z HZ.out] at C4
      clear hb HN11 HRA11 HZ11 HLA11 HB11 C3 HSM HZ
      go_wp2_with (first
        | ((with_reducible show wpList _ _ _ (_ :: _) _ _); refine wpList_load_msw rfl _ rfl g rfl z HN12.out ?_)
        | ((with_reducible show wpList _ _ _ (_ :: _) _ _); refine wpList_load_msw rfl _ rfl p rfl x HRA12.out ?_))
      refine C4.out.mono ?_
      rintro e w13 ⟨rfl, hb⟩
      have HB13 := Lib.hid (bstep HB12.out hb)
      clear hb HB12 C4 HN12 HRA12
      go_wp2_with fail
      refine (CAL.out _).mono ?_
      rintro e w14 ⟨rfl, hb⟩
      have HB14 := Lib.hid (bstep HB13.out hb)
      clear hb HB13 CAL
      go_wp2
      go_ret
      exact ⟨rfl, HB14.out⟩
end Go.Proofs.Ytjoocjkakgjgmaa.Law25
