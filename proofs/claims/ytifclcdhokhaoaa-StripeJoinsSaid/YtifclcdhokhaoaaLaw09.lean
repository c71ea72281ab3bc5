/- the walks of layer 9's laws -/
import Derived.Test.YtifclcdhokhaoaaLaw08
import Derived.Test.YtifclcdhokhaoaaOpenP
import Derived.Test.YtifclcdhokhaoaaR09
import Derived.Test.YtifclcdhokhaoaaR04
import Derived.Test.YtifclcdhokhaoaaStripe
import Derived.Lib.SmallJoins

set_option maxRecDepth 100000
namespace Go.Proofs.Ytifclcdhokhaoaa.Law09
open Go.RowKit PlanM StripeM Law08

theorem abc_cut : cutA some4 [97, 98, 99] = [[97, 98], [99, 0]] ∧ cutE some4 [97, 98, 99] = 0 ∧ joinA some4 [[97, 98], [99, 0]] 3 = [97, 98, 99] ∧ joinE some4 [[97, 98], [99, 0]] 3 = 0 := by decide +kernel
theorem alive_any (w : World) : Calls Try.prog 5 #[] w fun e w' => e = .returned (.bool true) ∧ Below w.heap.size w w' := by
  obtain ⟨e1, e2, e3, e4⟩ := abc_cut
  have K1 := fun A c W h h1 h2 => Stripe.cut_any some4 A [97, 98, 99] c W some4_in h h1 h2 (by decide)
  have K2 := fun A c W h h1 h2 => Stripe.join_any some4 A [[97, 98], [99, 0]] c 3 W some4_in h h1 h2 (by decide) (by unfold In64; omega)
  rw [e1, e2] at K1
  rw [e3, e4] at K2
  have kc := fun (w : World) (C : Array Value) (n c : Nat) => Lib.run_convert_bytes_const (P := Try.prog) w 24 5 C n c Try.underlying24 Try.underlying5
  have CZ := fun W => some_any W
  rw [some4_val] at K1 K2 CZ
  have H1 := Lib.hid K1; have H2 := Lib.hid K2; have HZ := Lib.hid CZ
  clear K1 K2 CZ e1 e2 e3 e4
  go_enter Try.func5, Try.ntmps5
  go_wp2_with fail
  refine (HZ.out _).mono ?_
  rintro e w1 ⟨rfl, hb1⟩
  go_wp2_with fail
  refine (H1.out _ 3 _ (bytes_mark w1 [97, 98, 99] (3, 4) _ rfl) (by decide) (by unfold maxLen; omega)).mono ?_
  rintro e w2 ⟨X, d, rfl, hd1, hd2, hX, hb2, _⟩
  replace hb2 : Below w1.heap.size w1 w2 := bstep (balloc _ _) (hb2)
  have HX := Lib.hid hX
  clear hX
  go_wp2_with fail
  refine (HZ.out _).mono ?_
  rintro e w3 ⟨rfl, hb3⟩
  replace HX := Lib.hid (HX.out.below hb3)
  go_wp2_with fail
  refine (H2.out X d _ HX.out hd1 hd2).mono ?_
  rintro e w4 ⟨Y, dY, rfl, hy1, hy2, hY, hb4, _⟩
  replace HX := Lib.hid (HX.out.below hb4)
  have HY := Lib.hid hY
  clear hY
  go_wp2_with fail
  have r1 : BytesAt ((w4.alloc (.cells (cells [97, 98]) 5)).alloc (.cells (cells [99, 0]) 5)) (some ⟨w4.heap.size, 0, none⟩) [97, 98] := (Row.new w4 [97, 98]).bytes.alloc _
  have r2 : BytesAt ((w4.alloc (.cells (cells [97, 98]) 5)).alloc (.cells (cells [99, 0]) 5)) (some ⟨(w4.alloc (.cells (cells [97, 98]) 5)).heap.size, 0, none⟩) [99, 0] := (Row.new _ [99, 0]).bytes
  have r3 := RowsAt.lit2 (c := 2) (d := 2) r1 (by decide) (by unfold maxLen; omega) r2 (by decide) (by unfold maxLen; omega)
  rw [show ((w4.alloc (.cells (cells [97, 98]) 5)).alloc (.cells (cells [99, 0]) 5)).heap.size = w4.heap.size + 1 + 1 from by simp, show (w4.alloc (.cells (cells [97, 98]) 5)).heap.size = w4.heap.size + 1 from by simp] at r3
  refine (R04.same_eq X (some ⟨w4.heap.size + 1 + 1, 0, none⟩) [[97, 98], [99, 0]] [[97, 98], [99, 0]] d 2 _ (((HX.out.below (balloc _ _)).below (balloc _ _)).below (balloc _ _)) r3 (by decide) rfl).mono ?_
  rintro e w5 ⟨rfl, hq⟩
  have hb5 : Below w4.heap.size w4 w5 := bstep (balloc _ _) (bstep (balloc _ _) (bstep (balloc _ _) (bquiet hq)))
  clear hq r1 r2 r3
  replace HX := Lib.hid (HX.out.below hb5)
  replace HY := Lib.hid (HY.out.below hb5)
  have hcv : (convert 24 9 (.slice Y 3 dY)).run Try.prog w5 = .ok (.string ⟨#[97, 98, 99]⟩) w5 := HY.out.convert dY
  go_wp2
  go_ret
  exact ⟨rfl, bstep hb1 (bstep hb2 (bstep hb3 (bstep hb4 (hb5))))⟩
set_option maxHeartbeats 1000000 in
theorem cuts_far (N T L W S R : Int) (A : Option Addr) (b : List UInt8) (c : Nat) (w : World) (hp : (⟨N, T, L, W, S, R⟩ : P).In) (h : BytesAt w A b) (hc : b.length ≤ c) (hc2 : c ≤ maxLen) (hl : 300 < b.length) :
    Calls Try.prog 3 #[.agg #[.int .i64 N, .int .i64 T, .int .i64 L, .int .i64 W, .int .i64 S, .int .i64 R], .slice A b.length c] w fun e w' => e = .returned (.bool true) ∧ Below w.heap.size w w' := by
  have HA := Lib.hid (PlanLies.new w N T L W S R)
  have hb0 := balloc w (.cells #[.int .i64 N, .int .i64 T, .int .i64 L, .int .i64 W, .int .i64 S, .int .i64 R] 23)
  obtain ⟨q, hq⟩ : ∃ q : P, q = ⟨N, T, L, W, S, R⟩ := ⟨_, rfl⟩
  rw [← hq] at hp
  have hv : q.val = .agg #[.int .i64 N, .int .i64 T, .int .i64 L, .int .i64 W, .int .i64 S, .int .i64 R] := by rw [hq]; rfl
  clear h hv hq
  unfold maxLen at hc2
  go_enter Try.func3, Try.ntmps3
  go_wp2_with fail
  generalize w.alloc (.cells #[.int .i64 N, .int .i64 T, .int .i64 L, .int .i64 W, .int .i64 S, .int .i64 R] 23) = w0 at *
  skip
  refine (alive_any _).mono ?_
  rintro e w1 ⟨rfl, hb1⟩
  replace HA := Lib.hid (HA.out.below hb1)
  go_wp2
  go_ret
  exact ⟨rfl, bstep hb0 (hb1)⟩
set_option maxHeartbeats 1000000 in
theorem cuts_arg (N T L W S R : Int) (A : Option Addr) (b : List UInt8) (c : Nat) (w : World) (hp : (⟨N, T, L, W, S, R⟩ : P).In) (h : BytesAt w A b) (hc : b.length ≤ c) (hc2 : c ≤ maxLen) (hl : b.length ≤ 300) (hr : (⟨N, T, L, W, S, R⟩ : P).right = false) :
    Calls Try.prog 3 #[.agg #[.int .i64 N, .int .i64 T, .int .i64 L, .int .i64 W, .int .i64 S, .int .i64 R], .slice A b.length c] w fun e w' => e = .returned (.bool true) ∧ Below w.heap.size w w' := by
  have HA := Lib.hid (PlanLies.new w N T L W S R)
  have hb0 := balloc w (.cells #[.int .i64 N, .int .i64 T, .int .i64 L, .int .i64 W, .int .i64 S, .int .i64 R] 23)
  obtain ⟨q, hq⟩ : ∃ q : P, q = ⟨N, T, L, W, S, R⟩ := ⟨_, rfl⟩
  rw [← hq] at hp hr
  have hv : q.val = .agg #[.int .i64 N, .int .i64 T, .int .i64 L, .int .i64 W, .int .i64 S, .int .i64 R] := by rw [hq]; rfl
  have K1 := fun A c W (h : BytesAt W A b) h1 h2 => Stripe.cut_any q A b c W hp h h1 h2 (by omega)
  have K2 := fun W => R08.right_any q W hp
  have hE : cutE q b = 1 := by unfold cutE; rw [hr]; rfl
  have hA : cutA q b = [] := by unfold cutA; rw [hE]; rfl
  rw [hE, hA] at K1
  rw [hr] at K2
  rw [hv] at K1 K2
  have HH := Lib.hid h
  have H1 := Lib.hid K1; have H2 := Lib.hid K2
  clear K1 K2
  clear hE hA h hv hq
  go_enter Try.func3, Try.ntmps3
  go_wp2_with fail
  generalize w.alloc (.cells #[.int .i64 N, .int .i64 T, .int .i64 L, .int .i64 W, .int .i64 S, .int .i64 R] 23) = w0 at *
  replace HH := Lib.hid (HH.out.below hb0)
  have hc3 := hc2
  unfold maxLen at hc3
  have c0 := HA.out.c0; have c1 := HA.out.c1; have c2 := HA.out.c2; have c3 := HA.out.c3; have c4 := HA.out.c4; have c5 := HA.out.c5
  go_wp2_with fail
  refine (H1.out _ _ _ HH.out hc hc2).mono ?_
  rintro e w1 ⟨X, d, rfl, hd1, hd2, hX, hb1, _⟩
  clear c0 c1 c2 c3 c4 c5
  replace HH := Lib.hid (HH.out.below hb1)
  replace HA := Lib.hid (HA.out.below hb1)
  have c0 := HA.out.c0; have c1 := HA.out.c1; have c2 := HA.out.c2; have c3 := HA.out.c3; have c4 := HA.out.c4; have c5 := HA.out.c5
  go_wp2_with fail
  refine (H2.out _).mono ?_
  rintro e w2 ⟨rfl, hb2⟩
  clear c0 c1 c2 c3 c4 c5
  replace HH := Lib.hid (HH.out.below hb2)
  replace HA := Lib.hid (HA.out.below hb2)
  have c0 := HA.out.c0; have c1 := HA.out.c1; have c2 := HA.out.c2; have c3 := HA.out.c3; have c4 := HA.out.c4; have c5 := HA.out.c5
  go_wp2_with fail
  refine (alive_any _).mono ?_
  rintro e w3 ⟨rfl, hb3⟩
  clear c0 c1 c2 c3 c4 c5
  replace HH := Lib.hid (HH.out.below hb3)
  replace HA := Lib.hid (HA.out.below hb3)
  go_wp2
  go_ret
  exact ⟨rfl, bstep hb0 (bstep hb1 (bstep hb2 (hb3)))⟩
set_option maxHeartbeats 1000000 in
theorem cuts_big (N T L W S R : Int) (A : Option Addr) (b : List UInt8) (c : Nat) (w : World) (hp : (⟨N, T, L, W, S, R⟩ : P).In) (h : BytesAt w A b) (hc : b.length ≤ c) (hc2 : c ≤ maxLen) (hl : b.length ≤ 300) (hr : (⟨N, T, L, W, S, R⟩ : P).right = true) (hb : 240 < b.length) :
    Calls Try.prog 3 #[.agg #[.int .i64 N, .int .i64 T, .int .i64 L, .int .i64 W, .int .i64 S, .int .i64 R], .slice A b.length c] w fun e w' => e = .returned (.bool true) ∧ Below w.heap.size w w' := by
  have HA := Lib.hid (PlanLies.new w N T L W S R)
  have hb0 := balloc w (.cells #[.int .i64 N, .int .i64 T, .int .i64 L, .int .i64 W, .int .i64 S, .int .i64 R] 23)
  obtain ⟨q, hq⟩ : ∃ q : P, q = ⟨N, T, L, W, S, R⟩ := ⟨_, rfl⟩
  rw [← hq] at hp hr
  have hv : q.val = .agg #[.int .i64 N, .int .i64 T, .int .i64 L, .int .i64 W, .int .i64 S, .int .i64 R] := by rw [hq]; rfl
  have K1 := fun A c W (h : BytesAt W A b) h1 h2 => Stripe.cut_any q A b c W hp h h1 h2 (by omega)
  have K2 := fun W => R08.right_any q W hp
  have hE : cutE q b = 7 := by unfold cutE; rw [hr]; rw [if_pos rfl, if_pos hb]
  have hA : cutA q b = [] := by unfold cutA; rw [hE]; rfl
  rw [hE, hA] at K1
  rw [hr] at K2
  rw [hv] at K1 K2
  have HH := Lib.hid h
  have H1 := Lib.hid K1; have H2 := Lib.hid K2
  clear K1 K2
  clear hE hA h hv hq
  go_enter Try.func3, Try.ntmps3
  go_wp2_with fail
  generalize w.alloc (.cells #[.int .i64 N, .int .i64 T, .int .i64 L, .int .i64 W, .int .i64 S, .int .i64 R] 23) = w0 at *
  replace HH := Lib.hid (HH.out.below hb0)
  have hc3 := hc2
  unfold maxLen at hc3
  have c0 := HA.out.c0; have c1 := HA.out.c1; have c2 := HA.out.c2; have c3 := HA.out.c3; have c4 := HA.out.c4; have c5 := HA.out.c5
  go_wp2_with fail
  refine (H1.out _ _ _ HH.out hc hc2).mono ?_
  rintro e w1 ⟨X, d, rfl, hd1, hd2, hX, hb1, _⟩
  clear c0 c1 c2 c3 c4 c5
  replace HH := Lib.hid (HH.out.below hb1)
  replace HA := Lib.hid (HA.out.below hb1)
  have c0 := HA.out.c0; have c1 := HA.out.c1; have c2 := HA.out.c2; have c3 := HA.out.c3; have c4 := HA.out.c4; have c5 := HA.out.c5
  go_wp2_with fail
  refine (H2.out _).mono ?_
  rintro e w2 ⟨rfl, hb2⟩
  clear c0 c1 c2 c3 c4 c5
  replace HH := Lib.hid (HH.out.below hb2)
  replace HA := Lib.hid (HA.out.below hb2)
  have c0 := HA.out.c0; have c1 := HA.out.c1; have c2 := HA.out.c2; have c3 := HA.out.c3; have c4 := HA.out.c4; have c5 := HA.out.c5
  go_wp2_with fail
  refine (alive_any _).mono ?_
  rintro e w3 ⟨rfl, hb3⟩
  clear c0 c1 c2 c3 c4 c5
  replace HH := Lib.hid (HH.out.below hb3)
  replace HA := Lib.hid (HA.out.below hb3)
  go_wp2
  go_ret
  exact ⟨rfl, bstep hb0 (bstep hb1 (bstep hb2 (hb3)))⟩
set_option maxHeartbeats 1000000 in
theorem cuts_ok (N T L W S R : Int) (A : Option Addr) (b : List UInt8) (c : Nat) (w : World) (hp : (⟨N, T, L, W, S, R⟩ : P).In) (h : BytesAt w A b) (hc : b.length ≤ c) (hc2 : c ≤ maxLen) (hl : b.length ≤ 240) (hr : (⟨N, T, L, W, S, R⟩ : P).right = true) :
    Calls Try.prog 3 #[.agg #[.int .i64 N, .int .i64 T, .int .i64 L, .int .i64 W, .int .i64 S, .int .i64 R], .slice A b.length c] w fun e w' => e = .returned (.bool true) ∧ Below w.heap.size w w' := by
  have HA := Lib.hid (PlanLies.new w N T L W S R)
  have hb0 := balloc w (.cells #[.int .i64 N, .int .i64 T, .int .i64 L, .int .i64 W, .int .i64 S, .int .i64 R] 23)
  obtain ⟨q, hq⟩ : ∃ q : P, q = ⟨N, T, L, W, S, R⟩ := ⟨_, rfl⟩
  rw [← hq] at hp hr
  have hv : q.val = .agg #[.int .i64 N, .int .i64 T, .int .i64 L, .int .i64 W, .int .i64 S, .int .i64 R] := by rw [hq]; rfl
  have K1 := fun A c W (h : BytesAt W A b) h1 h2 => Stripe.cut_any q A b c W hp h h1 h2 (by omega)
  have K2 := fun W => R08.right_any q W hp
  have hM : q.May := of_decide_eq_true hr
  have hL : 1 ≤ q.L ∧ q.L ≤ 256 := by unfold P.May at hM; omega
  have hE : cutE q b = 0 := by unfold cutE; rw [hr, if_pos rfl, if_neg (by omega)]
  have hA : cutA q b = cut q b := by unfold cutA; rw [hE]; rfl
  have hf := cut_fits q b
  have hJE : joinE q (cut q b) (b.length : Int) = 0 := by unfold joinE; rw [hr, if_pos rfl, if_neg (by omega), hf]; rfl
  have hJA : joinA q (cut q b) (b.length : Int) = b := by unfold joinA; rw [hJE]; exact join_back q b hL.1 (by omega)
  have hln : (cut q b).length ≤ 240 := by unfold cut; rw [cutTo_len]; exact stripes_le q _ hL.1
  have K3 := fun X d W h1 h2 h3 => Stripe.join_any q X (cut q b) d (b.length : Int) W hp h1 h2 h3 (by omega) (by unfold In64; omega)
  have K4 := fun A c w (h : BytesAt w A b) h1 h2 => R09.cut_any N T L W S R A b c w (by rw [hq] at hL; exact hL) h h1 h2 (by omega)
  rw [hE, hA] at K1
  rw [hr] at K2
  rw [hJA, hJE] at K3
  rw [← hq] at K4
  rw [hv] at K1 K2 K3
  generalize cut q b = m at *
  have HH := Lib.hid h; have LN := Lib.hid hln
  have hc3 := hc2
  unfold maxLen at hc3
  have H1 := Lib.hid K1; have H2 := Lib.hid K2; have H3 := Lib.hid K3; have H4 := Lib.hid K4
  clear K1 K2 K3 K4
  clear hE hA hf hJE hJA h hM hln hv hq
  go_enter Try.func3, Try.ntmps3
  go_wp2_with fail
  generalize w.alloc (.cells #[.int .i64 N, .int .i64 T, .int .i64 L, .int .i64 W, .int .i64 S, .int .i64 R] 23) = w0 at *
  replace HH := Lib.hid (HH.out.below hb0)
  have c0 := HA.out.c0; have c1 := HA.out.c1; have c2 := HA.out.c2; have c3 := HA.out.c3; have c4 := HA.out.c4; have c5 := HA.out.c5
  go_wp2_with fail
  refine (H1.out _ _ _ HH.out hc hc2).mono ?_
  rintro e w1 ⟨X, d, rfl, hd1, hd2, hX, hb1, _⟩
  clear c0 c1 c2 c3 c4 c5
  replace HH := Lib.hid (HH.out.below hb1)
  replace HA := Lib.hid (HA.out.below hb1)
  have HX := Lib.hid hX
  clear hX
  have c0 := HA.out.c0; have c1 := HA.out.c1; have c2 := HA.out.c2; have c3 := HA.out.c3; have c4 := HA.out.c4; have c5 := HA.out.c5
  go_wp2_with fail
  refine (H2.out _).mono ?_
  rintro e w2 ⟨rfl, hb2⟩
  clear c0 c1 c2 c3 c4 c5
  replace HH := Lib.hid (HH.out.below hb2)
  replace HX := Lib.hid (HX.out.below hb2)
  replace HA := Lib.hid (HA.out.below hb2)
  have c0 := HA.out.c0; have c1 := HA.out.c1; have c2 := HA.out.c2; have c3 := HA.out.c3; have c4 := HA.out.c4; have c5 := HA.out.c5
  go_wp2_with fail
  refine (H3.out X d _ HX.out hd1 hd2).mono ?_
  rintro e w3 ⟨Y, dY, rfl, _, _, hY, hb3, _⟩
  clear c0 c1 c2 c3 c4 c5
  replace HH := Lib.hid (HH.out.below hb3)
  replace HX := Lib.hid (HX.out.below hb3)
  replace HA := Lib.hid (HA.out.below hb3)
  have HY := Lib.hid hY
  clear hY
  have c0 := HA.out.c0; have c1 := HA.out.c1; have c2 := HA.out.c2; have c3 := HA.out.c3; have c4 := HA.out.c4; have c5 := HA.out.c5
  go_wp2_with fail
  refine (H4.out _ _ _ HH.out hc hc2).mono ?_
  rintro e w4 ⟨Z, dZ, rfl, _, _, hZ, hb4, _⟩
  clear c0 c1 c2 c3 c4 c5
  replace HH := Lib.hid (HH.out.below hb4)
  replace HX := Lib.hid (HX.out.below hb4)
  replace HY := Lib.hid (HY.out.below hb4)
  replace HA := Lib.hid (HA.out.below hb4)
  have HZ := Lib.hid hZ
  clear hZ
  have c0 := HA.out.c0; have c1 := HA.out.c1; have c2 := HA.out.c2; have c3 := HA.out.c3; have c4 := HA.out.c4; have c5 := HA.out.c5
  go_wp2_with fail
  refine (R04.same_eq X Z m m d dZ _ HX.out HZ.out (by have := LN.out; omega) rfl).mono ?_
  rintro e w5 ⟨rfl, hq⟩
  have hb5 := bquiet hq
  clear hq
  clear c0 c1 c2 c3 c4 c5
  replace HH := Lib.hid (HH.out.below hb5)
  replace HX := Lib.hid (HX.out.below hb5)
  replace HY := Lib.hid (HY.out.below hb5)
  replace HZ := Lib.hid (HZ.out.below hb5)
  replace HA := Lib.hid (HA.out.below hb5)
  have c0 := HA.out.c0; have c1 := HA.out.c1; have c2 := HA.out.c2; have c3 := HA.out.c3; have c4 := HA.out.c4; have c5 := HA.out.c5
  go_wp2_with fail
  refine (R01.same_eq Y A b b dY c _ HY.out HH.out (by unfold maxLen; omega) rfl).mono ?_
  rintro e w6 ⟨rfl, hq⟩
  have hb6 := bquiet hq
  clear hq
  clear c0 c1 c2 c3 c4 c5
  replace HH := Lib.hid (HH.out.below hb6)
  replace HX := Lib.hid (HX.out.below hb6)
  replace HY := Lib.hid (HY.out.below hb6)
  replace HZ := Lib.hid (HZ.out.below hb6)
  replace HA := Lib.hid (HA.out.below hb6)
  have c0 := HA.out.c0; have c1 := HA.out.c1; have c2 := HA.out.c2; have c3 := HA.out.c3; have c4 := HA.out.c4; have c5 := HA.out.c5
  go_wp2_with fail
  refine (alive_any _).mono ?_
  rintro e w7 ⟨rfl, hb7⟩
  clear c0 c1 c2 c3 c4 c5
  replace HH := Lib.hid (HH.out.below hb7)
  replace HX := Lib.hid (HX.out.below hb7)
  replace HY := Lib.hid (HY.out.below hb7)
  replace HZ := Lib.hid (HZ.out.below hb7)
  replace HA := Lib.hid (HA.out.below hb7)
  go_wp2
  go_ret
  exact ⟨rfl, bstep hb0 (bstep hb1 (bstep hb2 (bstep hb3 (bstep hb4 (bstep hb5 (bstep hb6 (hb7)))))))⟩
theorem cuts_law (q : P) (A : Option Addr) (b : List UInt8) (c : Nat) (w : World) (hp : q.In) (h : BytesAt w A b) (hc : b.length ≤ c) (hc2 : c ≤ maxLen) :
    Calls Try.prog 3 #[q.val, .slice A b.length c] w fun e w' => e = .returned (.bool true) ∧ Below w.heap.size w w' := by
  obtain ⟨N, T, L, W, S, R⟩ := q
  by_cases h1 : 300 < b.length
  · exact cuts_far N T L W S R A b c w hp h hc hc2 h1
  · cases hr : (⟨N, T, L, W, S, R⟩ : P).right
    · exact cuts_arg N T L W S R A b c w hp h hc hc2 (by omega) hr
    · by_cases h2 : 240 < b.length
      · exact cuts_big N T L W S R A b c w hp h hc hc2 (by omega) hr h2
      · exact cuts_ok N T L W S R A b c w hp h hc hc2 (by omega) hr
set_option maxHeartbeats 1000000 in
theorem joins_far (N T L W S R : Int) (A : Option Addr) (m : List (List UInt8)) (c : Nat) (size : Int) (w : World) (hp : (⟨N, T, L, W, S, R⟩ : P).In) (h : RowsAt w A m) (hc : m.length ≤ c) (hc2 : c ≤ maxLen) (hs : In64 size) (hl : 260 < m.length) :
    Calls Try.prog 4 #[.agg #[.int .i64 N, .int .i64 T, .int .i64 L, .int .i64 W, .int .i64 S, .int .i64 R], .slice A m.length c, .int .i64 size] w fun e w' => e = .returned (.bool true) ∧ Below w.heap.size w w' := by
  have HA := Lib.hid (PlanLies.new w N T L W S R)
  have hb0 := balloc w (.cells #[.int .i64 N, .int .i64 T, .int .i64 L, .int .i64 W, .int .i64 S, .int .i64 R] 23)
  obtain ⟨q, hq⟩ : ∃ q : P, q = ⟨N, T, L, W, S, R⟩ := ⟨_, rfl⟩
  rw [← hq] at hp
  have hv : q.val = .agg #[.int .i64 N, .int .i64 T, .int .i64 L, .int .i64 W, .int .i64 S, .int .i64 R] := by rw [hq]; rfl
  clear h hv hq
  unfold maxLen at hc2
  go_enter Try.func4, Try.ntmps4
  go_wp2_with fail
  generalize w.alloc (.cells #[.int .i64 N, .int .i64 T, .int .i64 L, .int .i64 W, .int .i64 S, .int .i64 R] 23) = w0 at *
  skip
  refine (alive_any _).mono ?_
  rintro e w1 ⟨rfl, hb1⟩
  replace HA := Lib.hid (HA.out.below hb1)
  go_wp2
  go_ret
  exact ⟨rfl, bstep hb0 (hb1)⟩
set_option maxHeartbeats 1000000 in
theorem joins_arg (N T L W S R : Int) (A : Option Addr) (m : List (List UInt8)) (c : Nat) (size : Int) (w : World) (hp : (⟨N, T, L, W, S, R⟩ : P).In) (h : RowsAt w A m) (hc : m.length ≤ c) (hc2 : c ≤ maxLen) (hs : In64 size) (hl : m.length ≤ 260) (hr : (⟨N, T, L, W, S, R⟩ : P).right = false) :
    Calls Try.prog 4 #[.agg #[.int .i64 N, .int .i64 T, .int .i64 L, .int .i64 W, .int .i64 S, .int .i64 R], .slice A m.length c, .int .i64 size] w fun e w' => e = .returned (.bool true) ∧ Below w.heap.size w w' := by
  have HA := Lib.hid (PlanLies.new w N T L W S R)
  have hb0 := balloc w (.cells #[.int .i64 N, .int .i64 T, .int .i64 L, .int .i64 W, .int .i64 S, .int .i64 R] 23)
  obtain ⟨q, hq⟩ : ∃ q : P, q = ⟨N, T, L, W, S, R⟩ := ⟨_, rfl⟩
  rw [← hq] at hp hr
  have hv : q.val = .agg #[.int .i64 N, .int .i64 T, .int .i64 L, .int .i64 W, .int .i64 S, .int .i64 R] := by rw [hq]; rfl
  have K1 := fun A c W (h : RowsAt W A m) h1 h2 => Stripe.join_any q A m c size W hp h h1 h2 (by omega) hs
  have K2 := fun W => R08.right_any q W hp
  have hE : joinE q m size = 1 := by unfold joinE; rw [hr]; rfl
  have hA : joinA q m size = [] := by unfold joinA; rw [hE]; rfl
  rw [hE, hA] at K1
  rw [hr] at K2
  rw [hv] at K1 K2
  have HH := Lib.hid h
  have H1 := Lib.hid K1; have H2 := Lib.hid K2
  clear K1 K2
  clear hE hA h hv hq
  go_enter Try.func4, Try.ntmps4
  go_wp2_with fail
  generalize w.alloc (.cells #[.int .i64 N, .int .i64 T, .int .i64 L, .int .i64 W, .int .i64 S, .int .i64 R] 23) = w0 at *
  replace HH := Lib.hid (HH.out.below hb0)
  have hc3 := hc2
  unfold maxLen at hc3
  have c0 := HA.out.c0; have c1 := HA.out.c1; have c2 := HA.out.c2; have c3 := HA.out.c3; have c4 := HA.out.c4; have c5 := HA.out.c5
  go_wp2_with fail
  refine (H1.out _ _ _ HH.out hc hc2).mono ?_
  rintro e w1 ⟨X, d, rfl, hd1, hd2, hX, hb1, _⟩
  clear c0 c1 c2 c3 c4 c5
  replace HH := Lib.hid (HH.out.below hb1)
  replace HA := Lib.hid (HA.out.below hb1)
  have c0 := HA.out.c0; have c1 := HA.out.c1; have c2 := HA.out.c2; have c3 := HA.out.c3; have c4 := HA.out.c4; have c5 := HA.out.c5
  go_wp2_with fail
  refine (H2.out _).mono ?_
  rintro e w2 ⟨rfl, hb2⟩
  clear c0 c1 c2 c3 c4 c5
  replace HH := Lib.hid (HH.out.below hb2)
  replace HA := Lib.hid (HA.out.below hb2)
  have c0 := HA.out.c0; have c1 := HA.out.c1; have c2 := HA.out.c2; have c3 := HA.out.c3; have c4 := HA.out.c4; have c5 := HA.out.c5
  go_wp2_with fail
  refine (alive_any _).mono ?_
  rintro e w3 ⟨rfl, hb3⟩
  clear c0 c1 c2 c3 c4 c5
  replace HH := Lib.hid (HH.out.below hb3)
  replace HA := Lib.hid (HA.out.below hb3)
  go_wp2
  go_ret
  exact ⟨rfl, bstep hb0 (bstep hb1 (bstep hb2 (hb3)))⟩
set_option maxHeartbeats 1000000 in
theorem joins_range (N T L W S R : Int) (A : Option Addr) (m : List (List UInt8)) (c : Nat) (size : Int) (w : World) (hp : (⟨N, T, L, W, S, R⟩ : P).In) (h : RowsAt w A m) (hc : m.length ≤ c) (hc2 : c ≤ maxLen) (hs : In64 size) (hl : m.length ≤ 260) (hr : (⟨N, T, L, W, S, R⟩ : P).right = true) (hb : size < 0 ∨ 240 < size) :
    Calls Try.prog 4 #[.agg #[.int .i64 N, .int .i64 T, .int .i64 L, .int .i64 W, .int .i64 S, .int .i64 R], .slice A m.length c, .int .i64 size] w fun e w' => e = .returned (.bool true) ∧ Below w.heap.size w w' := by
  have HA := Lib.hid (PlanLies.new w N T L W S R)
  have hb0 := balloc w (.cells #[.int .i64 N, .int .i64 T, .int .i64 L, .int .i64 W, .int .i64 S, .int .i64 R] 23)
  obtain ⟨q, hq⟩ : ∃ q : P, q = ⟨N, T, L, W, S, R⟩ := ⟨_, rfl⟩
  rw [← hq] at hp hr
  have hv : q.val = .agg #[.int .i64 N, .int .i64 T, .int .i64 L, .int .i64 W, .int .i64 S, .int .i64 R] := by rw [hq]; rfl
  have K1 := fun A c W (h : RowsAt W A m) h1 h2 => Stripe.join_any q A m c size W hp h h1 h2 (by omega) hs
  have K2 := fun W => R08.right_any q W hp
  have hE : joinE q m size = 2 := by unfold joinE; rw [hr, if_pos rfl, if_pos hb]
  have hA : joinA q m size = [] := by unfold joinA; rw [hE]; rfl
  rw [hE, hA] at K1
  rw [hr] at K2
  rw [hv] at K1 K2
  have HH := Lib.hid h
  have H1 := Lib.hid K1; have H2 := Lib.hid K2
  clear K1 K2
  clear hE hA h hv hq
  have q1 : (decide (size < 0) || decide (240 < size)) = true := by simpa using hb
  go_enter Try.func4, Try.ntmps4
  go_wp2_with fail
  generalize w.alloc (.cells #[.int .i64 N, .int .i64 T, .int .i64 L, .int .i64 W, .int .i64 S, .int .i64 R] 23) = w0 at *
  replace HH := Lib.hid (HH.out.below hb0)
  have hc3 := hc2
  unfold maxLen at hc3
  have c0 := HA.out.c0; have c1 := HA.out.c1; have c2 := HA.out.c2; have c3 := HA.out.c3; have c4 := HA.out.c4; have c5 := HA.out.c5
  go_wp2_with fail
  refine (H1.out _ _ _ HH.out hc hc2).mono ?_
  rintro e w1 ⟨X, d, rfl, hd1, hd2, hX, hb1, _⟩
  clear c0 c1 c2 c3 c4 c5
  replace HH := Lib.hid (HH.out.below hb1)
  replace HA := Lib.hid (HA.out.below hb1)
  have c0 := HA.out.c0; have c1 := HA.out.c1; have c2 := HA.out.c2; have c3 := HA.out.c3; have c4 := HA.out.c4; have c5 := HA.out.c5
  go_wp2_with fail
  refine (H2.out _).mono ?_
  rintro e w2 ⟨rfl, hb2⟩
  rcases hb with hb | hb
  · clear c0 c1 c2 c3 c4 c5
    replace HH := Lib.hid (HH.out.below hb2)
    replace HA := Lib.hid (HA.out.below hb2)
    have c0 := HA.out.c0; have c1 := HA.out.c1; have c2 := HA.out.c2; have c3 := HA.out.c3; have c4 := HA.out.c4; have c5 := HA.out.c5
    go_wp2_with fail
    refine (alive_any _).mono ?_
    rintro e w3 ⟨rfl, hb3⟩
    clear c0 c1 c2 c3 c4 c5
    replace HH := Lib.hid (HH.out.below hb3)
    replace HA := Lib.hid (HA.out.below hb3)
    go_wp2
    go_ret
    exact ⟨rfl, bstep hb0 (bstep hb1 (bstep hb2 (hb3)))⟩
  · clear c0 c1 c2 c3 c4 c5
    replace HH := Lib.hid (HH.out.below hb2)
    replace HA := Lib.hid (HA.out.below hb2)
    have c0 := HA.out.c0; have c1 := HA.out.c1; have c2 := HA.out.c2; have c3 := HA.out.c3; have c4 := HA.out.c4; have c5 := HA.out.c5
    go_wp2_with fail
    refine (alive_any _).mono ?_
    rintro e w3 ⟨rfl, hb3⟩
    clear c0 c1 c2 c3 c4 c5
    replace HH := Lib.hid (HH.out.below hb3)
    replace HA := Lib.hid (HA.out.below hb3)
    go_wp2
    go_ret
    exact ⟨rfl, bstep hb0 (bstep hb1 (bstep hb2 (hb3)))⟩
set_option maxHeartbeats 1000000 in
theorem joins_form (N T L W S R : Int) (A : Option Addr) (m : List (List UInt8)) (c : Nat) (size : Int) (w : World) (hp : (⟨N, T, L, W, S, R⟩ : P).In) (h : RowsAt w A m) (hc : m.length ≤ c) (hc2 : c ≤ maxLen) (hs : In64 size) (hl : m.length ≤ 260) (hr : (⟨N, T, L, W, S, R⟩ : P).right = true) (hb : 0 ≤ size ∧ size ≤ 240) (hf : fits ⟨N, T, L, W, S, R⟩ m size = false) :
    Calls Try.prog 4 #[.agg #[.int .i64 N, .int .i64 T, .int .i64 L, .int .i64 W, .int .i64 S, .int .i64 R], .slice A m.length c, .int .i64 size] w fun e w' => e = .returned (.bool true) ∧ Below w.heap.size w w' := by
  have HA := Lib.hid (PlanLies.new w N T L W S R)
  have hb0 := balloc w (.cells #[.int .i64 N, .int .i64 T, .int .i64 L, .int .i64 W, .int .i64 S, .int .i64 R] 23)
  obtain ⟨q, hq⟩ : ∃ q : P, q = ⟨N, T, L, W, S, R⟩ := ⟨_, rfl⟩
  rw [← hq] at hp hr hf
  have hv : q.val = .agg #[.int .i64 N, .int .i64 T, .int .i64 L, .int .i64 W, .int .i64 S, .int .i64 R] := by rw [hq]; rfl
  have K1 := fun A c W (h : RowsAt W A m) h1 h2 => Stripe.join_any q A m c size W hp h h1 h2 (by omega) hs
  have K2 := fun W => R08.right_any q W hp
  have hE : joinE q m size = 3 := by unfold joinE; rw [hr, if_pos rfl, if_neg (by omega), hf]; rfl
  have hA : joinA q m size = [] := by unfold joinA; rw [hE]; rfl
  rw [hE, hA] at K1
  rw [hr] at K2
  rw [hv] at K1 K2
  have HH := Lib.hid h
  have hM : q.May := of_decide_eq_true hr
  have hL : 1 ≤ q.L ∧ q.L ≤ 256 := by unfold P.May at hM; omega
  have K3 := fun A c w (h : RowsAt w A m) => R09.fits_any N T L W S R A m c size w (by rw [hq] at hL; exact hL) h (by omega)
  rw [← hq, hf] at K3
  have H1 := Lib.hid K1; have H2 := Lib.hid K2; have H3 := Lib.hid K3
  clear K1 K2 K3
  clear hE hA h hv hq hM hf
  go_enter Try.func4, Try.ntmps4
  go_wp2_with fail
  generalize w.alloc (.cells #[.int .i64 N, .int .i64 T, .int .i64 L, .int .i64 W, .int .i64 S, .int .i64 R] 23) = w0 at *
  replace HH := Lib.hid (HH.out.below hb0)
  have hc3 := hc2
  unfold maxLen at hc3
  have c0 := HA.out.c0; have c1 := HA.out.c1; have c2 := HA.out.c2; have c3 := HA.out.c3; have c4 := HA.out.c4; have c5 := HA.out.c5
  go_wp2_with fail
  refine (H1.out _ _ _ HH.out hc hc2).mono ?_
  rintro e w1 ⟨X, d, rfl, hd1, hd2, hX, hb1, _⟩
  clear c0 c1 c2 c3 c4 c5
  replace HH := Lib.hid (HH.out.below hb1)
  replace HA := Lib.hid (HA.out.below hb1)
  have c0 := HA.out.c0; have c1 := HA.out.c1; have c2 := HA.out.c2; have c3 := HA.out.c3; have c4 := HA.out.c4; have c5 := HA.out.c5
  go_wp2_with fail
  refine (H2.out _).mono ?_
  rintro e w2 ⟨rfl, hb2⟩
  clear c0 c1 c2 c3 c4 c5
  replace HH := Lib.hid (HH.out.below hb2)
  replace HA := Lib.hid (HA.out.below hb2)
  have c0 := HA.out.c0; have c1 := HA.out.c1; have c2 := HA.out.c2; have c3 := HA.out.c3; have c4 := HA.out.c4; have c5 := HA.out.c5
  go_wp2_with fail
  refine (H3.out _ _ _ HH.out).mono ?_
  rintro e w3 ⟨rfl, hb3⟩
  clear c0 c1 c2 c3 c4 c5
  replace HH := Lib.hid (HH.out.below hb3)
  replace HA := Lib.hid (HA.out.below hb3)
  have c0 := HA.out.c0; have c1 := HA.out.c1; have c2 := HA.out.c2; have c3 := HA.out.c3; have c4 := HA.out.c4; have c5 := HA.out.c5
  go_wp2_with fail
  refine (alive_any _).mono ?_
  rintro e w4 ⟨rfl, hb4⟩
  clear c0 c1 c2 c3 c4 c5
  replace HH := Lib.hid (HH.out.below hb4)
  replace HA := Lib.hid (HA.out.below hb4)
  go_wp2
  go_ret
  exact ⟨rfl, bstep hb0 (bstep hb1 (bstep hb2 (bstep hb3 (hb4))))⟩
set_option maxHeartbeats 1000000 in
theorem joins_ok (N T L W S R : Int) (A : Option Addr) (m : List (List UInt8)) (c : Nat) (size : Int) (w : World) (hp : (⟨N, T, L, W, S, R⟩ : P).In) (h : RowsAt w A m) (hc : m.length ≤ c) (hc2 : c ≤ maxLen) (hs : In64 size) (hl : m.length ≤ 260) (hr : (⟨N, T, L, W, S, R⟩ : P).right = true) (hb : 0 ≤ size ∧ size ≤ 240) (hf : fits ⟨N, T, L, W, S, R⟩ m size = true) :
    Calls Try.prog 4 #[.agg #[.int .i64 N, .int .i64 T, .int .i64 L, .int .i64 W, .int .i64 S, .int .i64 R], .slice A m.length c, .int .i64 size] w fun e w' => e = .returned (.bool true) ∧ Below w.heap.size w w' := by
  have HA := Lib.hid (PlanLies.new w N T L W S R)
  have hb0 := balloc w (.cells #[.int .i64 N, .int .i64 T, .int .i64 L, .int .i64 W, .int .i64 S, .int .i64 R] 23)
  obtain ⟨q, hq⟩ : ∃ q : P, q = ⟨N, T, L, W, S, R⟩ := ⟨_, rfl⟩
  rw [← hq] at hp hr hf
  have hv : q.val = .agg #[.int .i64 N, .int .i64 T, .int .i64 L, .int .i64 W, .int .i64 S, .int .i64 R] := by rw [hq]; rfl
  have K1 := fun A c W (h : RowsAt W A m) h1 h2 => Stripe.join_any q A m c size W hp h h1 h2 (by omega) hs
  have K2 := fun W => R08.right_any q W hp
  obtain ⟨n, rfl⟩ : ∃ n : Nat, size = n := ⟨size.toNat, by omega⟩
  have hM : q.May := of_decide_eq_true hr
  have hL : 1 ≤ q.L ∧ q.L ≤ 256 := by unfold P.May at hM; omega
  have hE : joinE q m n = 0 := by unfold joinE; rw [hr, if_pos rfl, if_neg (by omega), hf]; rfl
  have hA : joinA q m n = join q.L.toNat m n := by unfold joinA; rw [hE]; rfl
  rw [hE, hA] at K1
  rw [hr] at K2
  have K3 := fun A c w (h : RowsAt w A m) => R09.fits_any N T L W S R A m c n w (by rw [hq] at hL; exact hL) h (by omega)
  rw [← hq, hf] at K3
  have K4 := fun A c w (h : RowsAt w A m) => R09.join_any N T L W S R A m c n w (by rw [hq] at hL; exact hL) h (by omega) (by rw [← hq]; exact hf)
  rw [show L.toNat = q.L.toNat from by rw [hq]] at K4
  have hln : (join q.L.toNat m n).length = n := PolyM.tab_len _ _
  generalize join q.L.toNat m n = b at *
  rw [hv] at K1 K2
  have HH := Lib.hid h; have LN := Lib.hid hln
  have H1 := Lib.hid K1; have H2 := Lib.hid K2; have H3 := Lib.hid K3; have H4 := Lib.hid K4
  clear K1 K2 K3 K4
  clear hE hA h hv hq hM hf hln
  go_enter Try.func4, Try.ntmps4
  go_wp2_with fail
  generalize w.alloc (.cells #[.int .i64 N, .int .i64 T, .int .i64 L, .int .i64 W, .int .i64 S, .int .i64 R] 23) = w0 at *
  replace HH := Lib.hid (HH.out.below hb0)
  have hc3 := hc2
  unfold maxLen at hc3
  have c0 := HA.out.c0; have c1 := HA.out.c1; have c2 := HA.out.c2; have c3 := HA.out.c3; have c4 := HA.out.c4; have c5 := HA.out.c5
  go_wp2_with fail
  refine (H1.out _ _ _ HH.out hc hc2).mono ?_
  rintro e w1 ⟨X, d, rfl, hd1, hd2, hX, hb1, _⟩
  clear c0 c1 c2 c3 c4 c5
  replace HH := Lib.hid (HH.out.below hb1)
  replace HA := Lib.hid (HA.out.below hb1)
  have HX := Lib.hid hX
  clear hX
  have c0 := HA.out.c0; have c1 := HA.out.c1; have c2 := HA.out.c2; have c3 := HA.out.c3; have c4 := HA.out.c4; have c5 := HA.out.c5
  go_wp2_with fail
  refine (H2.out _).mono ?_
  rintro e w2 ⟨rfl, hb2⟩
  clear c0 c1 c2 c3 c4 c5
  replace HH := Lib.hid (HH.out.below hb2)
  replace HX := Lib.hid (HX.out.below hb2)
  replace HA := Lib.hid (HA.out.below hb2)
  have c0 := HA.out.c0; have c1 := HA.out.c1; have c2 := HA.out.c2; have c3 := HA.out.c3; have c4 := HA.out.c4; have c5 := HA.out.c5
  go_wp2_with fail
  refine (H3.out _ _ _ HH.out).mono ?_
  rintro e w3 ⟨rfl, hb3⟩
  clear c0 c1 c2 c3 c4 c5
  replace HH := Lib.hid (HH.out.below hb3)
  replace HX := Lib.hid (HX.out.below hb3)
  replace HA := Lib.hid (HA.out.below hb3)
  have c0 := HA.out.c0; have c1 := HA.out.c1; have c2 := HA.out.c2; have c3 := HA.out.c3; have c4 := HA.out.c4; have c5 := HA.out.c5
  go_wp2_with fail
  refine (H4.out _ _ _ HH.out).mono ?_
  rintro e w4 ⟨Z, dZ, rfl, _, _, hZ, hb4, _⟩
  clear c0 c1 c2 c3 c4 c5
  replace HH := Lib.hid (HH.out.below hb4)
  replace HX := Lib.hid (HX.out.below hb4)
  replace HA := Lib.hid (HA.out.below hb4)
  have HZ := Lib.hid hZ
  clear hZ
  have c0 := HA.out.c0; have c1 := HA.out.c1; have c2 := HA.out.c2; have c3 := HA.out.c3; have c4 := HA.out.c4; have c5 := HA.out.c5
  go_wp2_with fail
  refine (R01.same_eq X Z b b d dZ _ HX.out HZ.out (by rw [LN.out]; unfold maxLen; omega) rfl).mono ?_
  rintro e w5 ⟨rfl, hq⟩
  have hb5 := bquiet hq
  clear hq
  clear c0 c1 c2 c3 c4 c5
  replace HH := Lib.hid (HH.out.below hb5)
  replace HX := Lib.hid (HX.out.below hb5)
  replace HZ := Lib.hid (HZ.out.below hb5)
  replace HA := Lib.hid (HA.out.below hb5)
  have c0 := HA.out.c0; have c1 := HA.out.c1; have c2 := HA.out.c2; have c3 := HA.out.c3; have c4 := HA.out.c4; have c5 := HA.out.c5
  go_wp2_with fail
  refine (alive_any _).mono ?_
  rintro e w6 ⟨rfl, hb6⟩
  clear c0 c1 c2 c3 c4 c5
  replace HH := Lib.hid (HH.out.below hb6)
  replace HX := Lib.hid (HX.out.below hb6)
  replace HZ := Lib.hid (HZ.out.below hb6)
  replace HA := Lib.hid (HA.out.below hb6)
  go_wp2
  go_ret
  exact ⟨rfl, bstep hb0 (bstep hb1 (bstep hb2 (bstep hb3 (bstep hb4 (bstep hb5 (hb6))))))⟩
theorem joins_law (q : P) (A : Option Addr) (m : List (List UInt8)) (c : Nat) (size : Int) (w : World) (hp : q.In) (h : RowsAt w A m) (hc : m.length ≤ c) (hc2 : c ≤ maxLen) (hs : In64 size) :
    Calls Try.prog 4 #[q.val, .slice A m.length c, .int .i64 size] w fun e w' => e = .returned (.bool true) ∧ Below w.heap.size w w' := by
  obtain ⟨N, T, L, W, S, R⟩ := q
  by_cases h1 : 260 < m.length
  · exact joins_far N T L W S R A m c size w hp h hc hc2 hs h1
  · cases hr : (⟨N, T, L, W, S, R⟩ : P).right
    · exact joins_arg N T L W S R A m c size w hp h hc hc2 hs (by omega) hr
    · by_cases h2 : size < 0 ∨ 240 < size
      · exact joins_range N T L W S R A m c size w hp h hc hc2 hs (by omega) hr h2
      · cases hf : fits ⟨N, T, L, W, S, R⟩ m size
        · exact joins_form N T L W S R A m c size w hp h hc hc2 hs (by omega) hr (by omega) hf
        · exact joins_ok N T L W S R A m c size w hp h hc hc2 hs (by omega) hr (by omega) hf
end Go.Proofs.Ytifclcdhokhaoaa.Law09
