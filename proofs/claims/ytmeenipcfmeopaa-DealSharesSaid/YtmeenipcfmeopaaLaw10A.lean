/- the walk of DealShares where all is well -/
import Derived.Test.YtmeenipcfmeopaaLaw10
import Derived.Test.YtmeenipcfmeopaaOpenP
set_option maxRecDepth 100000
namespace Go.Proofs.Ytmeenipcfmeopaa.Law10
open Go.RowKit PlanM StripeM DealM Law08
set_option maxHeartbeats 8000000 in
theorem shares_ok (N T L W S R : Int) (A1 A2 : Option Addr) (blob tape : List UInt8) (u1 u2 : Nat) (w : World) (hp : (⟨N, T, L, W, S, R⟩ : P).In) (h1 : BytesAt w A1 blob) (k1 : blob.length ≤ u1) (z1 : u1 ≤ maxLen) (h2 : BytesAt w A2 tape) (k2 : tape.length ≤ u2) (z2 : u2 ≤ maxLen) (hl : N ≤ 12 ∧ L ≤ 12 ∧ T ≤ 12) (hf : blob.length ≤ 250) (hg : tape.length ≤ 600) (hr : (⟨N, T, L, W, S, R⟩ : P).right = true) (hb : blob.length ≤ 240) (hc : cost ⟨N, T, L, W, S, R⟩ blob.length ≤ tape.length) :
    Calls Try.prog 3 #[.agg #[.int .i64 N, .int .i64 T, .int .i64 L, .int .i64 W, .int .i64 S, .int .i64 R], .slice A1 blob.length u1, .slice A2 tape.length u2] w fun e w' => e = .returned (.bool true) ∧ Below w.heap.size w w' := by
  have HA := Lib.hid (PlanLies.new w N T L W S R)
  have hb0 := balloc w (.cells #[.int .i64 N, .int .i64 T, .int .i64 L, .int .i64 W, .int .i64 S, .int .i64 R] 23)
  obtain ⟨q, hq⟩ : ∃ q : P, q = ⟨N, T, L, W, S, R⟩ := ⟨_, rfl⟩
  rw [← hq] at hp hr hc
  have hv : q.val = .agg #[.int .i64 N, .int .i64 T, .int .i64 L, .int .i64 W, .int .i64 S, .int .i64 R] := by rw [hq]; rfl
  have K0 := fun w => light_any N T L W S R w
  rw [decide_eq_true hl] at K0
  have K1 := fun b0 w (ht : Gf.Tab w b0) (h1 : BytesAt w A1 blob) (h2 : BytesAt w A2 tape) => Deal.deal_any b0 q A1 A2 blob tape u1 u2 w hp ht h1 k1 z1 h2 k2 z2 (by omega)
  have K2 := fun b0 i w (ht : Gf.Tab w b0) (h1 : BytesAt w A1 blob) (h2 : BytesAt w A2 tape) (hi : In64 i) => Deal.share_any b0 q A1 A2 blob tape u1 u2 i w hp ht h1 k1 z1 h2 k2 z2 (by omega) hi
  have K3 := fun w => R08.right_any q w hp
  have K4 := fun i w (hi : In64 i) => Deal.cost_any q i w hp hi
  have hM : q.May := of_decide_eq_true hr
  have hMM := hM
  unfold P.May at hMM
  have eN : q.N = N := by rw [hq]
  have eT : q.T = T := by rw [hq]
  have eL : q.L = L := by rw [hq]
  have eW : q.W = W := by rw [hq]
  obtain ⟨n, hn⟩ : ∃ n : Nat, N = n := ⟨N.toNat, by omega⟩
  have hE : dealE q blob tape = 0 := by unfold dealE; rw [hr, if_pos rfl, if_neg (by omega), if_neg (by omega)]
  have hA : dealA q blob tape = shares q (polys q blob tape) := by unfold dealA; rw [hE]; rfl
  have hCA : costA q blob.length = cost q blob.length := by unfold costA; rw [hr]; rfl
  have hsl : (shares q (polys q blob tape)).length = n := by rw [shares_len, eN, hn]; rfl
  have hsg : ∀ k (h : k < (shares q (polys q blob tape)).length), (shares q (polys q blob tape))[k] = share (polys q blob tape) ((k : Int) + 1) := fun k h => shares_get q _ k h
  have hpl : (polys q blob tape).length ≤ 240 := polys_le q blob tape (by omega)
  have hpr : ∀ k, (h : k < (polys q blob tape).length) → (polys q blob tape)[k].length ≤ 1099511627 := fun k h => Nat.le_trans (polys_row q blob tape k h) (by omega)
  have hSE : ∀ k : Nat, k < n → shareE q blob tape ((k : Int) + 1) = 0 := fun k h => by unfold shareE; rw [hr, if_pos rfl, show q.is ((k : Int) + 1) = true from decide_eq_true ⟨by omega, by omega⟩, if_pos rfl, hE]
  have hSA : ∀ k : Nat, k < n → shareA q blob tape ((k : Int) + 1) = share (polys q blob tape) ((k : Int) + 1) := fun k h => by unfold shareA; rw [hSE k h]; rfl
  have hX1 : shareE q blob tape ((n : Int) + 1) = 2 := by unfold shareE; rw [hr, if_pos rfl, show q.is ((n : Int) + 1) = false from decide_eq_false (by omega)]; rfl
  have hX0 : shareE q blob tape 0 = 2 := by unfold shareE; rw [hr, if_pos rfl, show q.is 0 = false from decide_eq_false (by omega)]; rfl
  have hXA1 : shareA q blob tape ((n : Int) + 1) = [] := by unfold shareA; rw [hX1]; rfl
  have hXA0 : shareA q blob tape 0 = [] := by unfold shareA; rw [hX0]; rfl
  have K5 := fun (k : Nat) (hk : k < n) b0 w ht h1 h2 => (show Calls Try.prog 11 #[.pointer (some ⟨b0, 0, none⟩), q.val, .slice A1 blob.length u1, .slice A2 tape.length u2, .int .i64 ((k : Int) + 1)] w (Stripe.RetBytesE w (share (polys q blob tape) ((k : Int) + 1)) 0) from by
    have C := K2 b0 ((k : Int) + 1) w ht h1 h2 (by unfold In64; omega)
    rw [hSE k hk, hSA k hk] at C
    exact C)
  have K6 := fun b0 w ht h1 h2 => K2 b0 ((n : Int) + 1) w ht h1 h2 (by unfold In64; omega)
  have K7 := fun b0 w ht h1 h2 => K2 b0 0 w ht h1 h2 (by unfold In64; omega)
  have K8 := fun w => K4 blob.length w (by unfold In64; omega)
  have K9 := fun w => R10.cost_any N T L W S R blob.length w (by omega) (by omega)
  have Ka := fun w (h1 : BytesAt w A1 blob) (h2 : BytesAt w A2 tape) => R10.polys_any N T L W S R A1 A2 blob tape u1 u2 w (by rw [← hq]; exact hM) h1 h2 k1 z1 k2 z2 hb (by omega) (by rw [← hq]; exact hc)
  have Kb := fun A c i w (h : RowsAt w A (polys q blob tape)) => R10.share_any A (polys q blob tape) c i w h (by omega) hpr
  rw [← hq] at K9 Ka
  rw [hE, hA] at K1
  rw [hX1, hXA1] at K6
  rw [hX0, hXA0] at K7
  rw [hCA] at K8
  rw [hr] at K3
  rw [hv] at K1 K3 K5 K6 K7 K8
  generalize cost q blob.length = cs at *
  generalize shares q (polys q blob tape) = sh at *
  have hpl2 : ∀ i, (share (polys q blob tape) i).length = (polys q blob tape).length := fun i => share_len _ _
  generalize polys q blob tape = ps at *
  have i1 : IntKind.i64.wrap (N + 1) = (n : Int) + 1 := by rw [hn]; exact IntWalk.i64_in _ (by omega)
  have HSL := Lib.hid hsl; have HSG := Lib.hid hsg; have HPL := Lib.hid hpl; have HPL2 := Lib.hid hpl2; have HN := Lib.hid hn
  have q1 : decide ((tape.length : Int) < cs) = false := by simp; omega
  have hn12 : n ≤ 12 := by omega
  have B1 := Lib.hid h1; have B2 := Lib.hid h2
  have H0 := Lib.hid K0; have H1 := Lib.hid K1; have H3 := Lib.hid K3; have H5 := Lib.hid K5; have H6 := Lib.hid K6; have H7 := Lib.hid K7; have H8 := Lib.hid K8; have H9 := Lib.hid K9
  clear K0 K1 K3 K5 K6 K7 K8 K9
  have Ha := Lib.hid Ka; have Hb := Lib.hid Kb
  clear Ka Kb K2 K4 hE hA hCA hsl hsg hpl hpr hSE hSA hX1 hX0 hXA1 hXA0 h1 h2 hv hq hM hMM eN eT eL eW hpl2 hn
  go_enter Try.func3, Try.ntmps3
  go_wp2_with fail
  generalize w.alloc (.cells #[.int .i64 N, .int .i64 T, .int .i64 L, .int .i64 W, .int .i64 S, .int .i64 R] 23) = w0 at *
  replace B1 := Lib.hid (B1.out.below hb0)
  replace B2 := Lib.hid (B2.out.below hb0)
  have z3 := z1
  have z4 := z2
  unfold maxLen at z3 z4
  have c0 := HA.out.c0; have c1 := HA.out.c1; have c2 := HA.out.c2; have c3 := HA.out.c3; have c4 := HA.out.c4; have c5 := HA.out.c5
  skip
  refine (H0.out _).mono ?_
  rintro e w1 ⟨rfl, hb1⟩
  clear c0 c1 c2 c3 c4 c5
  replace B1 := Lib.hid (B1.out.below hb1)
  replace B2 := Lib.hid (B2.out.below hb1)
  replace HA := Lib.hid (HA.out.below hb1)
  have c0 := HA.out.c0; have c1 := HA.out.c1; have c2 := HA.out.c2; have c3 := HA.out.c3; have c4 := HA.out.c4; have c5 := HA.out.c5
  go_wp2_with fail
  refine (Gf.new_any w1).mono ?_
  rintro e w2 ⟨rfl, ht, hb2, _⟩
  clear c0 c1 c2 c3 c4 c5
  replace B1 := Lib.hid (B1.out.below hb2)
  replace B2 := Lib.hid (B2.out.below hb2)
  replace HA := Lib.hid (HA.out.below hb2)
  have HT := Lib.hid ht
  clear ht
  have c0 := HA.out.c0; have c1 := HA.out.c1; have c2 := HA.out.c2; have c3 := HA.out.c3; have c4 := HA.out.c4; have c5 := HA.out.c5
  go_wp2_with fail
  refine (H1.out _ _ HT.out B1.out B2.out).mono ?_
  rintro e w3 ⟨X, dX, rfl, hx1, hx2, hX, hb3, _⟩
  clear c0 c1 c2 c3 c4 c5
  replace B1 := Lib.hid (B1.out.below hb3)
  replace B2 := Lib.hid (B2.out.below hb3)
  replace HT := Lib.hid (HT.out.below hb3)
  replace HA := Lib.hid (HA.out.below hb3)
  have HX := Lib.hid hX
  clear hX
  have c0 := HA.out.c0; have c1 := HA.out.c1; have c2 := HA.out.c2; have c3 := HA.out.c3; have c4 := HA.out.c4; have c5 := HA.out.c5
  go_wp2_with fail
  refine (H3.out _).mono ?_
  rintro e w4 ⟨rfl, hb4⟩
  clear c0 c1 c2 c3 c4 c5
  replace B1 := Lib.hid (B1.out.below hb4)
  replace B2 := Lib.hid (B2.out.below hb4)
  replace HT := Lib.hid (HT.out.below hb4)
  replace HX := Lib.hid (HX.out.below hb4)
  replace HA := Lib.hid (HA.out.below hb4)
  have c0 := HA.out.c0; have c1 := HA.out.c1; have c2 := HA.out.c2; have c3 := HA.out.c3; have c4 := HA.out.c4; have c5 := HA.out.c5
  go_wp2_with fail
  refine (H9.out _).mono ?_
  rintro e w5 ⟨rfl, hb5⟩
  clear c0 c1 c2 c3 c4 c5
  replace B1 := Lib.hid (B1.out.below hb5)
  replace B2 := Lib.hid (B2.out.below hb5)
  replace HT := Lib.hid (HT.out.below hb5)
  replace HX := Lib.hid (HX.out.below hb5)
  replace HA := Lib.hid (HA.out.below hb5)
  have c0 := HA.out.c0; have c1 := HA.out.c1; have c2 := HA.out.c2; have c3 := HA.out.c3; have c4 := HA.out.c4; have c5 := HA.out.c5
  go_wp2_with fail
  refine (Ha.out _ B1.out B2.out).mono ?_
  rintro e w6 ⟨Y, dY, rfl, hy1, hy2, hY, hb6, _⟩
  clear c0 c1 c2 c3 c4 c5
  replace B1 := Lib.hid (B1.out.below hb6)
  replace B2 := Lib.hid (B2.out.below hb6)
  replace HT := Lib.hid (HT.out.below hb6)
  replace HX := Lib.hid (HX.out.below hb6)
  replace HA := Lib.hid (HA.out.below hb6)
  have HY := Lib.hid hY
  clear hY
  have q2 : ((sh.length : Int) != N) = false := by rw [HSL.out, HN.out]; simp
  have c0 := HA.out.c0; have c1 := HA.out.c1; have c2 := HA.out.c2; have c3 := HA.out.c3; have c4 := HA.out.c4; have c5 := HA.out.c5
  go_wp2_with fail
  go_region_held3 (fun w' => w'.cell? ⟨w.heap.size, 0, none⟩ = some (.int .i64 N) ∧ w'.cell? ⟨w.heap.size, 1, none⟩ = some (.int .i64 T) ∧ w'.cell? ⟨w.heap.size, 2, none⟩ = some (.int .i64 L) ∧ w'.cell? ⟨w.heap.size, 3, none⟩ = some (.int .i64 W) ∧ w'.cell? ⟨w.heap.size, 4, none⟩ = some (.int .i64 S) ∧ w'.cell? ⟨w.heap.size, 5, none⟩ = some (.int .i64 R)) (first | (exact ⟨HA.out.c0, HA.out.c1, HA.out.c2, HA.out.c3, HA.out.c4, HA.out.c5⟩) | go_keep) ((first
    | (go_simp; go_at_call 12; refine (H8.out _).mono ?_; rintro e w7 ⟨rfl, hb7⟩; have hb7 : Below w6.heap.size w6 w7 := (by first | (exact hb7) | (exact bstep (bdraw w6 _) hb7)); replace B1 := Lib.hid (B1.out.below hb7); replace B2 := Lib.hid (B2.out.below hb7); replace HT := Lib.hid (HT.out.below hb7); replace HX := Lib.hid (HX.out.below hb7); replace HY := Lib.hid (HY.out.below hb7); replace HA := Lib.hid (HA.out.below hb7))
    | (go_simp; go_at_call 10; refine (H9.out _).mono ?_; rintro e w8 ⟨rfl, hb8⟩; have hb8 : Below w7.heap.size w7 w8 := (by first | (exact hb8) | (exact bstep (bdraw w7 _) hb8)); replace B1 := Lib.hid (B1.out.below hb8); replace B2 := Lib.hid (B2.out.below hb8); replace HT := Lib.hid (HT.out.below hb8); replace HX := Lib.hid (HX.out.below hb8); replace HY := Lib.hid (HY.out.below hb8); replace HA := Lib.hid (HA.out.below hb8))))
  clear c0 c1 c2 c3 c4 c5
  all_goals
    have hbase : Below w.heap.size w w8 := bstep hb0 (bstep hb1 (bstep hb2 (bstep hb3 (bstep hb4 (bstep hb5 (bstep hb6 (bstep hb7 (hb8))))))))
    go_wp2_with fail
    go_loopw [118] (fun i wr => ∃ k : Nat, k ≤ n ∧ i = .int .i64 k ∧ Below w8.heap.size w8 wr)
      (fun i _ => n - (intOf i).toNat)
    case atStart => exact ⟨0, Nat.zero_le _, rfl, Below.refl _ _⟩
    case round =>
      obtain ⟨k, hk, rfl, hbk⟩ := hrel
      rename World => x0
      replace HT := Lib.hid (HT.out.below hbk); replace B1 := Lib.hid (B1.out.below hbk); replace B2 := Lib.hid (B2.out.below hbk); replace HX := Lib.hid (HX.out.below hbk); replace HY := Lib.hid (HY.out.below hbk); replace HA := Lib.hid (HA.out.below hbk)
      have c0 := HA.out.c0; have c1 := HA.out.c1; have c2 := HA.out.c2; have c3 := HA.out.c3; have c4 := HA.out.c4; have c5 := HA.out.c5
      by_cases hlt : k < n
      · have hlk : k < sh.length := by rw [HSL.out]; exact hlt
        have i2 : IntKind.i64.wrap ((k : Int) + 1) = (k : Int) + 1 := IntWalk.i64_in _ (by omega)
        obtain ⟨b1, o1, Bk, ck, rfl, f1, g1, g2, hBk⟩ := HX.out.row hlk
        have hg := HSG.out k hlk
        obtain ⟨sk, hsk⟩ : ∃ sk, sk = share ps ((k : Int) + 1) := ⟨_, rfl⟩
        rw [hg, ← hsk] at f1 g1 hBk
        have H5k := fun b0 w ht h1 h2 => H5.out k hlt b0 w ht h1 h2
        have Hbk := fun A c w h => Hb.out A c ((k : Int) + 1) w h
        rw [← hsk] at H5k Hbk
        have hskl : sk.length ≤ 240 := by rw [hsk, HPL2.out]; exact HPL.out
        have HK5 := Lib.hid H5k; have HKb := Lib.hid Hbk; have HBK := Lib.hid hBk; have HSKL := Lib.hid hskl
        clear hg hsk H5k Hbk hBk hskl
        go_wp2_with fail
        refine (HK5.out _ _ HT.out B1.out B2.out).mono ?_
        rintro e x1 ⟨Z, dZ, rfl, hz1, hz2, hZ, hbx1, _⟩
        have HZ := Lib.hid hZ
        clear hZ c0 c1 c2 c3 c4 c5
        replace f1 := (hbx1.cell (p := ⟨b1, o1 + k, none⟩) (cell_lt f1)).trans f1
        replace HBK := Lib.hid (HBK.out.below hbx1); replace HY := Lib.hid (HY.out.below hbx1)
        go_wp2_with fail
        go_region_held3 (fun w' => w'.cell? ⟨b1, o1 + k, none⟩ = some (.slice Bk sk.length ck)) (exact f1)
          ((first
           | (go_simp; go_at_call 15; refine (HKb.out _ _ _ (by first | exact HY.out | exact HY.out.drewN 1)).mono ?_; rintro e x2 ⟨V, dV, rfl, _, _, hV, hbx2, _⟩; have hbx2 : Below x1.heap.size x1 x2 := (by first | (exact hbx2) | (exact bstep (bdraw x1 _) hbx2)); replace f1 := (hbx2.cell (p := ⟨b1, o1 + k, none⟩) (cell_lt f1)).trans f1; replace HBK := Lib.hid (HBK.out.below hbx2); replace HZ := Lib.hid (HZ.out.below hbx2); have HV := Lib.hid hV; clear hV)
           | (go_simp; go_at_call 14; with_reducible (show Calls _ _ #[Value.slice Bk _ _, Value.slice V _ _] _ _); refine (R01.same_eq Bk V sk sk ck dV _ (by first | exact HBK.out | exact HBK.out.drewN 1) (by first | exact HV.out | exact HV.out.drewN 1) (by have := HSKL.out; unfold maxLen; omega) rfl).mono ?_; rintro e x3 ⟨rfl, hq⟩; have hbx3 := bquiet hq; clear hq; have hbx3 : Below x2.heap.size x2 x3 := (by first | (exact hbx3) | (exact bstep (bdraw x2 _) hbx3)); replace f1 := (hbx3.cell (p := ⟨b1, o1 + k, none⟩) (cell_lt f1)).trans f1; replace HBK := Lib.hid (HBK.out.below hbx3); replace HZ := Lib.hid (HZ.out.below hbx3))
           | (go_simp; go_at_call 14; with_reducible (show Calls _ _ #[Value.slice Z _ _, Value.slice Bk _ _] _ _); refine (R01.same_eq Z Bk sk sk dZ ck _ (by first | exact HZ.out | exact HZ.out.drewN 1) (by first | exact HBK.out | exact HBK.out.drewN 1) (by have := HSKL.out; unfold maxLen; omega) rfl).mono ?_; rintro e x4 ⟨rfl, hq⟩; have hbx4 := bquiet hq; clear hq; have hbx4 : Below x3.heap.size x3 x4 := (by first | (exact hbx4) | (exact bstep (bdraw x3 _) hbx4)); replace f1 := (hbx4.cell (p := ⟨b1, o1 + k, none⟩) (cell_lt f1)).trans f1)))
        all_goals
          go_wp2
          go_roundw
          case rel => exact ⟨k + 1, by omega, by go_num, bstep hbk (bstep hbx1 (bstep hbx2 (bstep hbx3 hbx4)))⟩
          case measure => simp [intOf] <;> omega
      · obtain rfl : k = n := by omega
        have hge : ¬ k < sh.length := by rw [HSL.out]; omega
        go_wp2_with fail
        refine (H6.out _ _ HT.out B1.out B2.out).mono ?_
        rintro e x1 ⟨Z, dZ, rfl, _, _, _, hbx1, _⟩
        replace HT := Lib.hid (HT.out.below hbx1); replace B1 := Lib.hid (B1.out.below hbx1); replace B2 := Lib.hid (B2.out.below hbx1); replace HA := Lib.hid (HA.out.below hbx1)
        clear c0 c1 c2 c3 c4 c5
        have c0 := HA.out.c0; have c1 := HA.out.c1; have c2 := HA.out.c2; have c3 := HA.out.c3; have c4 := HA.out.c4; have c5 := HA.out.c5
        go_wp2_with fail
        refine (H7.out _ _ HT.out B1.out B2.out).mono ?_
        rintro e x2 ⟨U, dU, rfl, _, _, _, hbx2, _⟩
        clear c0 c1 c2 c3 c4 c5
        go_wp2_with fail
        refine (alive_any _).mono ?_
        rintro e x3 ⟨rfl, hbx3⟩
        go_wp2
        go_ret
        exact ⟨rfl, bstep hbase (bstep hbk (bstep hbx1 (bstep hbx2 hbx3)))⟩
theorem shares_law (q : P) (A1 : Option Addr) (blob : List UInt8) (u1 : Nat) (A2 : Option Addr) (tape : List UInt8) (u2 : Nat) (w : World) (hp : q.In) (h1 : BytesAt w A1 blob) (k1 : blob.length ≤ u1) (z1 : u1 ≤ maxLen) (h2 : BytesAt w A2 tape) (k2 : tape.length ≤ u2) (z2 : u2 ≤ maxLen) :
    Calls Try.prog 3 #[q.val, .slice A1 blob.length u1, .slice A2 tape.length u2] w fun e w' => e = .returned (.bool true) ∧ Below w.heap.size w w' := by
  obtain ⟨N, T, L, W, S, R⟩ := q
  by_cases hl : N ≤ 12 ∧ L ≤ 12 ∧ T ≤ 12
  · by_cases hf : blob.length ≤ 250
    · by_cases hg : tape.length ≤ 600
      · cases hr : (⟨N, T, L, W, S, R⟩ : P).right
        · exact shares_arg N T L W S R A1 A2 blob tape u1 u2 w hp h1 k1 z1 h2 k2 z2 hl hf hg hr
        · by_cases hb : blob.length ≤ 240
          · by_cases hc : cost ⟨N, T, L, W, S, R⟩ blob.length ≤ tape.length
            · exact shares_ok N T L W S R A1 A2 blob tape u1 u2 w hp h1 k1 z1 h2 k2 z2 hl hf hg hr hb hc
            · exact shares_empty N T L W S R A1 A2 blob tape u1 u2 w hp h1 k1 z1 h2 k2 z2 hl hf hg hr hb (by omega)
          · exact shares_big N T L W S R A1 A2 blob tape u1 u2 w hp h1 k1 z1 h2 k2 z2 hl hf hg hr (by omega)
      · exact shares_far2 N T L W S R A1 A2 blob tape u1 u2 w hp h1 k1 z1 h2 k2 z2 hl hf (by omega)
    · exact shares_far N T L W S R A1 A2 blob tape u1 u2 w hp h1 k1 z1 h2 k2 z2 hl (by omega)
  · exact shares_heavy N T L W S R A1 A2 blob tape u1 u2 w hp h1 k1 z1 h2 k2 z2 hl
end Go.Proofs.Ytmeenipcfmeopaa.Law10
