/- the walk of PlanRights -/
import Derived.Test.YtgdgbhjbeldcmaaLaw08
import Derived.Test.YtgdgbhjbeldcmaaOpenP
set_option maxRecDepth 100000
namespace Go.Proofs.Ytgdgbhjbeldcmaa.Law08
open Go.RowKit PlanM
set_option maxHeartbeats 2000000 in
theorem rights_no (N T L W S R : Int) (i size : Int) (w : World) (hp : (⟨N, T, L, W, S, R⟩ : P).In) (hi : In64 i) (hs : In64 size) (hM : ¬ (⟨N, T, L, W, S, R⟩ : P).May) :
    Calls Try.prog 3 #[.agg #[.int .i64 N, .int .i64 T, .int .i64 L, .int .i64 W, .int .i64 S, .int .i64 R], .int .i64 i, .int .i64 size] w fun e w' => e = .returned (.bool true) ∧ Below w.heap.size w w' := by
  have hr := P.right_no hM
  clear hM
  have HA := Lib.hid (PlanLies.new w N T L W S R)
  have hb0 := balloc w (.cells #[.int .i64 N, .int .i64 T, .int .i64 L, .int .i64 W, .int .i64 S, .int .i64 R] 23)
  obtain ⟨q, hq⟩ : ∃ q : P, q = ⟨N, T, L, W, S, R⟩ := ⟨_, rfl⟩
  rw [← hq] at hp hr
  have hv : q.val = .agg #[.int .i64 N, .int .i64 T, .int .i64 L, .int .i64 W, .int .i64 S, .int .i64 R] := by rw [hq]; rfl
  have K1 := fun W => R08.right_any q W hp
  have K2 := fun W => Plan.right_any q W hp
  have K3 := fun W => Plan.secrets_any q W hp
  have K4 := fun W => Plan.all_any q W hp
  have K5 := fun W => Plan.is_any q i W hp hi
  have K6 := fun W => Plan.need_any q W hp
  have K7 := fun W => Plan.quorum_any q W hp
  have K8 := fun W => Plan.dealers_any q W hp
  have K9 := fun W => Plan.stripes_any q size W hp hs
  rw [show q.secretsA = [] from by unfold P.secretsA; rw [hr]; rfl] at K3
  rw [show q.allA = [] from by unfold P.allA; rw [hr]; rfl] at K4
  rw [show q.isA i = false from by unfold P.isA; rw [hr]; rfl] at K5
  rw [show q.needA = 0 from by unfold P.needA; rw [hr]; rfl] at K6
  rw [show q.quorumA = 0 from by unfold P.quorumA; rw [hr]; rfl] at K7
  rw [show q.dealersA = 0 from by unfold P.dealersA; rw [hr]; rfl] at K8
  rw [show q.stripesA size = 0 from by unfold P.stripesA; rw [hr]; rfl] at K9
  rw [hr] at K1 K2
  rw [hv] at K1 K2 K3 K4 K5 K6 K7 K8 K9
  have H1 := Lib.hid K1
  have H2 := Lib.hid K2
  have H3 := Lib.hid K3
  have H4 := Lib.hid K4
  have H5 := Lib.hid K5
  have H6 := Lib.hid K6
  have H7 := Lib.hid K7
  have H8 := Lib.hid K8
  have H9 := Lib.hid K9
  clear K1 K2 K3 K4 K5 K6 K7 K8 K9 hv hq
  go_enter Try.func3, Try.ntmps3
  go_wp2_with fail
  generalize w.alloc (.cells #[.int .i64 N, .int .i64 T, .int .i64 L, .int .i64 W, .int .i64 S, .int .i64 R] 23) = w0 at *
  refine (H1.out _).mono ?_
  rintro e w1 ⟨rfl, hb1⟩
  replace HA := Lib.hid (HA.out.below hb1)
  have c0 := HA.out.c0; have c1 := HA.out.c1; have c2 := HA.out.c2; have c3 := HA.out.c3; have c4 := HA.out.c4; have c5 := HA.out.c5
  go_wp2_with fail
  refine (H2.out _).mono ?_
  rintro e w2 ⟨rfl, hb2⟩
  clear c0 c1 c2 c3 c4 c5
  replace HA := Lib.hid (HA.out.below hb2)
  have c0 := HA.out.c0; have c1 := HA.out.c1; have c2 := HA.out.c2; have c3 := HA.out.c3; have c4 := HA.out.c4; have c5 := HA.out.c5
  go_wp2_with fail
  refine (Plan.point_any i w2 hi).mono ?_
  rintro e w3 ⟨rfl, hb3⟩
  clear c0 c1 c2 c3 c4 c5
  replace HA := Lib.hid (HA.out.below hb3)
  have c0 := HA.out.c0; have c1 := HA.out.c1; have c2 := HA.out.c2; have c3 := HA.out.c3; have c4 := HA.out.c4; have c5 := HA.out.c5
  go_wp2_with fail
  refine (R08.point_any i w3).mono ?_
  rintro e w' ⟨rfl, rfl⟩
  clear c0 c1 c2 c3 c4 c5
  have c0 := HA.out.c0; have c1 := HA.out.c1; have c2 := HA.out.c2; have c3 := HA.out.c3; have c4 := HA.out.c4; have c5 := HA.out.c5
  go_wp2_with fail
  refine ((Plan.points_any _ [i, 3, i] 3 _ (ints3 w3 i 3 i) (by simp) (by simp) (by unfold maxLen; omega) (by intro x hx; simp at hx; rcases hx with rfl | rfl | rfl <;> first | exact hi | (unfold In64; omega))).mono fun _ _ h => h.new).mono ?_
  rintro e w4 ⟨X, dX, rfl, _, _, hX, hb4, _⟩
  replace hb4 : Below w3.heap.size w3 w4 := bstep (balloc _ _) (hb4)
  clear c0 c1 c2 c3 c4 c5
  replace HA := Lib.hid (HA.out.below hb4)
  have HX := Lib.hid hX
  clear hX
  have c0 := HA.out.c0; have c1 := HA.out.c1; have c2 := HA.out.c2; have c3 := HA.out.c3; have c4 := HA.out.c4; have c5 := HA.out.c5
  go_wp2_with fail
  refine (R08.points_any _ [i, 3, i] 3 _ (ints3 w4 i 3 i) (by simp)).mono ?_
  rintro e w5 ⟨Y, dY, rfl, _, _, hY, hb5, _⟩
  replace hb5 : Below w4.heap.size w4 w5 := bstep (balloc _ _) (hb5)
  clear c0 c1 c2 c3 c4 c5
  replace HX := Lib.hid (HX.out.below hb5)
  replace HA := Lib.hid (HA.out.below hb5)
  have HY := Lib.hid hY
  clear hY
  have c0 := HA.out.c0; have c1 := HA.out.c1; have c2 := HA.out.c2; have c3 := HA.out.c3; have c4 := HA.out.c4; have c5 := HA.out.c5
  go_wp2_with fail
  refine (R01.same_eq X Y _ _ _ _ w5 HX.out HY.out (by rw [points_len]; unfold maxLen; simp) rfl).mono ?_
  rintro e w6 ⟨rfl, hq⟩
  have hb6 := bquiet hq
  clear hq
  clear c0 c1 c2 c3 c4 c5
  replace HX := Lib.hid (HX.out.below hb6)
  replace HY := Lib.hid (HY.out.below hb6)
  replace HA := Lib.hid (HA.out.below hb6)
  clear HX HY
  have c0 := HA.out.c0; have c1 := HA.out.c1; have c2 := HA.out.c2; have c3 := HA.out.c3; have c4 := HA.out.c4; have c5 := HA.out.c5
  go_wp2_with fail
  go_region_held3 (fun w' => w'.cell? ⟨w.heap.size, 0, none⟩ = some (.int .i64 N) ∧ w'.cell? ⟨w.heap.size, 1, none⟩ = some (.int .i64 T) ∧ w'.cell? ⟨w.heap.size, 2, none⟩ = some (.int .i64 L) ∧ w'.cell? ⟨w.heap.size, 3, none⟩ = some (.int .i64 W) ∧ w'.cell? ⟨w.heap.size, 4, none⟩ = some (.int .i64 S) ∧ w'.cell? ⟨w.heap.size, 5, none⟩ = some (.int .i64 R)) (first | (exact ⟨HA.out.c0, HA.out.c1, HA.out.c2, HA.out.c3, HA.out.c4, HA.out.c5⟩) | go_keep) ((first
    | (go_simp; go_at_call 13; refine (H3.out _).mono ?_; rintro e w7 ⟨X, dX, rfl, _, _, _, hb7, _⟩; have hb7 : Below w6.heap.size w6 w7 := (by first | (exact hb7) | (exact bstep (bdraw w6 _) hb7)); replace HA := Lib.hid (HA.out.below hb7))
    | (go_simp; go_at_call 14; refine (H4.out _).mono ?_; rintro e w8 ⟨Y, dY, rfl, _, _, _, hb8, _⟩; have hb8 : Below w7.heap.size w7 w8 := (by first | (exact hb8) | (exact bstep (bdraw w7 _) hb8)); replace HA := Lib.hid (HA.out.below hb8))
    | (go_simp; go_at_call 15; refine (H5.out _).mono ?_; rintro e w9 ⟨rfl, hb9⟩; have hb9 : Below w8.heap.size w8 w9 := (by first | (exact hb9) | (exact bstep (bdraw w8 _) hb9)); replace HA := Lib.hid (HA.out.below hb9))
    | (go_simp; go_at_call 16; refine (H6.out _).mono ?_; rintro e w10 ⟨rfl, hb10⟩; have hb10 : Below w9.heap.size w9 w10 := (by first | (exact hb10) | (exact bstep (bdraw w9 _) hb10)); replace HA := Lib.hid (HA.out.below hb10))
    | (go_simp; go_at_call 17; refine (H7.out _).mono ?_; rintro e w11 ⟨rfl, hb11⟩; have hb11 : Below w10.heap.size w10 w11 := (by first | (exact hb11) | (exact bstep (bdraw w10 _) hb11)); replace HA := Lib.hid (HA.out.below hb11))
    | (go_simp; go_at_call 18; refine (H8.out _).mono ?_; rintro e w12 ⟨rfl, hb12⟩; have hb12 : Below w11.heap.size w11 w12 := (by first | (exact hb12) | (exact bstep (bdraw w11 _) hb12)); replace HA := Lib.hid (HA.out.below hb12))
    | (go_simp; go_at_call 19; refine (H9.out _).mono ?_; rintro e w13 ⟨rfl, hb13⟩; have hb13 : Below w12.heap.size w12 w13 := (by first | (exact hb13) | (exact bstep (bdraw w12 _) hb13)); replace HA := Lib.hid (HA.out.below hb13))
    | (go_simp; go_at_call 20; refine (alive_any _).mono ?_; rintro e w14 ⟨rfl, hb14⟩; have hb14 : Below w13.heap.size w13 w14 := (by first | (exact hb14) | (exact bstep (bdraw w13 _) hb14)); replace HA := Lib.hid (HA.out.below hb14))))
  clear c0 c1 c2 c3 c4 c5
  all_goals
    go_wp2
    go_ret
    exact ⟨rfl, bstep hb0 (bstep hb1 (bstep hb2 (bstep hb3 (bstep hb4 (bstep hb5 (bstep hb6 (bstep hb7 (bstep hb8 (bstep hb9 (bstep hb10 (bstep hb11 (bstep hb12 (bstep hb13 (hb14))))))))))))))⟩
set_option maxHeartbeats 2000000 in
theorem rights_yes (N T L W S R : Int) (i size : Int) (w : World) (hp : (⟨N, T, L, W, S, R⟩ : P).In) (hi : In64 i) (hs : In64 size) (hM : (⟨N, T, L, W, S, R⟩ : P).May) :
    Calls Try.prog 3 #[.agg #[.int .i64 N, .int .i64 T, .int .i64 L, .int .i64 W, .int .i64 S, .int .i64 R], .int .i64 i, .int .i64 size] w fun e w' => e = .returned (.bool true) ∧ Below w.heap.size w w' := by
  have hr := P.right_yes hM
  have HA := Lib.hid (PlanLies.new w N T L W S R)
  unfold P.May at hM
  obtain ⟨m1, m2, m3, m4, m5, m6, m7, m8, m9⟩ := hM
  simp only at m1 m2 m3 m4 m5 m6 m7 m8 m9
  have hb0 := balloc w (.cells #[.int .i64 N, .int .i64 T, .int .i64 L, .int .i64 W, .int .i64 S, .int .i64 R] 23)
  obtain ⟨q, hq⟩ : ∃ q : P, q = ⟨N, T, L, W, S, R⟩ := ⟨_, rfl⟩
  rw [← hq] at hp hr
  have hv : q.val = .agg #[.int .i64 N, .int .i64 T, .int .i64 L, .int .i64 W, .int .i64 S, .int .i64 R] := by rw [hq]; rfl
  have K1 := fun W => R08.right_any q W hp
  have K2 := fun W => Plan.right_any q W hp
  have K3 := fun W => Plan.secrets_any q W hp
  have K4 := fun W => Plan.all_any q W hp
  have K5 := fun W => Plan.is_any q i W hp hi
  have K6 := fun W => Plan.need_any q W hp
  have K7 := fun W => Plan.quorum_any q W hp
  have K8 := fun W => Plan.dealers_any q W hp
  have K9 := fun W => Plan.stripes_any q size W hp hs
  have K10 := fun W => R08.secrets_any q W (by rw [hq]; show 0 ≤ N; omega) (by rw [hq]; show 0 ≤ L; omega) (by rw [hq]; exact m5)
  have K11 := fun W => R08.all_any q W (by rw [hq]; show 0 ≤ N; omega) (by rw [hq]; show N ≤ 256; omega)
  have K12 := fun W => R08.is_any q i W
  have K13 := fun W => R08.stripes_any q size W (by rw [hq]; exact ⟨m2, by show L ≤ 256; omega⟩)
  rw [show q.secretsA = q.secrets from by unfold P.secretsA; rw [hr]; rfl] at K3
  rw [show q.allA = all q.N.toNat from by unfold P.allA; rw [hr]; rfl] at K4
  rw [show q.isA i = q.is i from by unfold P.isA; rw [hr]; rfl] at K5
  rw [show q.needA = T + L from by unfold P.needA; rw [hr, hq]; rfl] at K6
  rw [show q.quorumA = N - W + 1 from by unfold P.quorumA; rw [hr, hq]; rfl] at K7
  rw [show q.dealersA = T + 1 from by unfold P.dealersA; rw [hr, hq]; rfl] at K8
  rw [show q.stripesA size = (q.stripes size : Nat) from by unfold P.stripesA; rw [hr]; rfl] at K9
  have sl : q.secrets.length ≤ maxLen := by unfold P.secrets; rw [from_len, hq]; show L.toNat ≤ maxLen; unfold maxLen; omega
  have al : (all q.N.toNat).length ≤ maxLen := by rw [all_len, hq]; show N.toNat ≤ maxLen; unfold maxLen; omega
  obtain ⟨sec, hsec⟩ : ∃ l, l = q.secrets := ⟨_, rfl⟩
  obtain ⟨als, hal⟩ : ∃ l, l = all q.N.toNat := ⟨_, rfl⟩
  obtain ⟨isq, his⟩ : ∃ b, b = q.is i := ⟨_, rfl⟩
  obtain ⟨ns, hns⟩ : ∃ n, n = q.stripes size := ⟨_, rfl⟩
  rw [hr] at K1 K2
  rw [← hsec] at K3 K10 sl
  rw [← hal] at K4 K11 al
  rw [← his] at K5 K12
  rw [← hns] at K9 K13
  clear hsec hal his hns
  have i1 : IntKind.i64.wrap (T + L) = T + L := IntWalk.i64_in _ (by omega)
  have i2 : IntKind.i64.wrap (N - W) = N - W := IntWalk.i64_in _ (by omega)
  have i3 : IntKind.i64.wrap (N - W + 1) = N - W + 1 := IntWalk.i64_in _ (by omega)
  have i4 : IntKind.i64.wrap (T + 1) = T + 1 := IntWalk.i64_in _ (by omega)
  rw [hv] at K1 K2 K3 K4 K5 K6 K7 K8 K9 K10 K11 K12 K13
  have H1 := Lib.hid K1
  have H2 := Lib.hid K2
  have H3 := Lib.hid K3
  have H4 := Lib.hid K4
  have H5 := Lib.hid K5
  have H6 := Lib.hid K6
  have H7 := Lib.hid K7
  have H8 := Lib.hid K8
  have H9 := Lib.hid K9
  have H10 := Lib.hid K10
  have H11 := Lib.hid K11
  have H12 := Lib.hid K12
  have H13 := Lib.hid K13
  clear K1 K2 K3 K4 K5 K6 K7 K8 K9 K10 K11 K12 K13 hv hq
  go_enter Try.func3, Try.ntmps3
  go_wp2_with fail
  generalize w.alloc (.cells #[.int .i64 N, .int .i64 T, .int .i64 L, .int .i64 W, .int .i64 S, .int .i64 R] 23) = w0 at *
  refine (H1.out _).mono ?_
  rintro e w1 ⟨rfl, hb1⟩
  replace HA := Lib.hid (HA.out.below hb1)
  have c0 := HA.out.c0; have c1 := HA.out.c1; have c2 := HA.out.c2; have c3 := HA.out.c3; have c4 := HA.out.c4; have c5 := HA.out.c5
  go_wp2_with fail
  refine (H2.out _).mono ?_
  rintro e w2 ⟨rfl, hb2⟩
  clear c0 c1 c2 c3 c4 c5
  replace HA := Lib.hid (HA.out.below hb2)
  have c0 := HA.out.c0; have c1 := HA.out.c1; have c2 := HA.out.c2; have c3 := HA.out.c3; have c4 := HA.out.c4; have c5 := HA.out.c5
  go_wp2_with fail
  refine (Plan.point_any i w2 hi).mono ?_
  rintro e w3 ⟨rfl, hb3⟩
  clear c0 c1 c2 c3 c4 c5
  replace HA := Lib.hid (HA.out.below hb3)
  have c0 := HA.out.c0; have c1 := HA.out.c1; have c2 := HA.out.c2; have c3 := HA.out.c3; have c4 := HA.out.c4; have c5 := HA.out.c5
  go_wp2_with fail
  refine (R08.point_any i w3).mono ?_
  rintro e w' ⟨rfl, rfl⟩
  clear c0 c1 c2 c3 c4 c5
  have c0 := HA.out.c0; have c1 := HA.out.c1; have c2 := HA.out.c2; have c3 := HA.out.c3; have c4 := HA.out.c4; have c5 := HA.out.c5
  go_wp2_with fail
  refine ((Plan.points_any _ [i, 3, i] 3 _ (ints3 w3 i 3 i) (by simp) (by simp) (by unfold maxLen; omega) (by intro x hx; simp at hx; rcases hx with rfl | rfl | rfl <;> first | exact hi | (unfold In64; omega))).mono fun _ _ h => h.new).mono ?_
  rintro e w4 ⟨X, dX, rfl, _, _, hX, hb4, _⟩
  replace hb4 : Below w3.heap.size w3 w4 := bstep (balloc _ _) (hb4)
  clear c0 c1 c2 c3 c4 c5
  replace HA := Lib.hid (HA.out.below hb4)
  have HX := Lib.hid hX
  clear hX
  have c0 := HA.out.c0; have c1 := HA.out.c1; have c2 := HA.out.c2; have c3 := HA.out.c3; have c4 := HA.out.c4; have c5 := HA.out.c5
  go_wp2_with fail
  refine (R08.points_any _ [i, 3, i] 3 _ (ints3 w4 i 3 i) (by simp)).mono ?_
  rintro e w5 ⟨Y, dY, rfl, _, _, hY, hb5, _⟩
  replace hb5 : Below w4.heap.size w4 w5 := bstep (balloc _ _) (hb5)
  clear c0 c1 c2 c3 c4 c5
  replace HX := Lib.hid (HX.out.below hb5)
  replace HA := Lib.hid (HA.out.below hb5)
  have HY := Lib.hid hY
  clear hY
  have c0 := HA.out.c0; have c1 := HA.out.c1; have c2 := HA.out.c2; have c3 := HA.out.c3; have c4 := HA.out.c4; have c5 := HA.out.c5
  go_wp2_with fail
  refine (R01.same_eq X Y _ _ _ _ w5 HX.out HY.out (by rw [points_len]; unfold maxLen; simp) rfl).mono ?_
  rintro e w6 ⟨rfl, hq⟩
  have hb6 := bquiet hq
  clear hq
  clear c0 c1 c2 c3 c4 c5
  replace HX := Lib.hid (HX.out.below hb6)
  replace HY := Lib.hid (HY.out.below hb6)
  replace HA := Lib.hid (HA.out.below hb6)
  clear HX HY
  have c0 := HA.out.c0; have c1 := HA.out.c1; have c2 := HA.out.c2; have c3 := HA.out.c3; have c4 := HA.out.c4; have c5 := HA.out.c5
  go_wp2_with fail
  go_region_held3 (fun w' => w'.cell? ⟨w.heap.size, 0, none⟩ = some (.int .i64 N) ∧ w'.cell? ⟨w.heap.size, 1, none⟩ = some (.int .i64 T) ∧ w'.cell? ⟨w.heap.size, 2, none⟩ = some (.int .i64 L) ∧ w'.cell? ⟨w.heap.size, 3, none⟩ = some (.int .i64 W) ∧ w'.cell? ⟨w.heap.size, 4, none⟩ = some (.int .i64 S) ∧ w'.cell? ⟨w.heap.size, 5, none⟩ = some (.int .i64 R)) (first | (exact ⟨HA.out.c0, HA.out.c1, HA.out.c2, HA.out.c3, HA.out.c4, HA.out.c5⟩) | go_keep) ((first
    | (go_simp; go_at_call 13; refine (H3.out _).mono ?_; rintro e w7 ⟨X, dX, rfl, _, _, hX, hb7, _⟩; have hb7 : Below w6.heap.size w6 w7 := (by first | (exact hb7) | (exact bstep (bdraw w6 _) hb7)); replace HA := Lib.hid (HA.out.below hb7); have HX := Lib.hid hX; clear hX)
    | (go_simp; go_at_call 21; refine (H10.out _).mono ?_; rintro e w8 ⟨Y, dY, rfl, _, _, hY, hb8, _⟩; have hb8 : Below w7.heap.size w7 w8 := (by first | (exact hb8) | (exact bstep (bdraw w7 _) hb8)); replace HX := Lib.hid (HX.out.below hb8); replace HA := Lib.hid (HA.out.below hb8); have HY := Lib.hid hY; clear hY)
    | (go_simp; go_at_call 10; refine (R01.same_eq X Y sec sec _ _ _ HX.out HY.out sl rfl).mono ?_; rintro e w9 ⟨rfl, hq⟩; have hb9 := bquiet hq; clear hq; have hb9 : Below w8.heap.size w8 w9 := (by first | (exact hb9) | (exact bstep (bdraw w8 _) hb9)); replace HX := Lib.hid (HX.out.below hb9); replace HY := Lib.hid (HY.out.below hb9); replace HA := Lib.hid (HA.out.below hb9))
    | (go_simp; go_at_call 14; refine (H4.out _).mono ?_; rintro e w10 ⟨X2, dX2, rfl, _, _, hX2, hb10, _⟩; have hb10 : Below w9.heap.size w9 w10 := (by first | (exact hb10) | (exact bstep (bdraw w9 _) hb10)); replace HX := Lib.hid (HX.out.below hb10); replace HY := Lib.hid (HY.out.below hb10); replace HA := Lib.hid (HA.out.below hb10); have HX2 := Lib.hid hX2; clear hX2)
    | (go_simp; go_at_call 23; refine (H11.out _).mono ?_; rintro e w11 ⟨Y2, dY2, rfl, _, _, hY2, hb11, _⟩; have hb11 : Below w10.heap.size w10 w11 := (by first | (exact hb11) | (exact bstep (bdraw w10 _) hb11)); replace HX := Lib.hid (HX.out.below hb11); replace HY := Lib.hid (HY.out.below hb11); replace HX2 := Lib.hid (HX2.out.below hb11); replace HA := Lib.hid (HA.out.below hb11); have HY2 := Lib.hid hY2; clear hY2)
    | (go_simp; go_at_call 22; refine (sameI_eq X2 Y2 als als _ _ _ HX2.out HY2.out al rfl).mono ?_; rintro e w12 ⟨rfl, hq⟩; have hb12 := bquiet hq; clear hq; have hb12 : Below w11.heap.size w11 w12 := (by first | (exact hb12) | (exact bstep (bdraw w11 _) hb12)); replace HX := Lib.hid (HX.out.below hb12); replace HY := Lib.hid (HY.out.below hb12); replace HX2 := Lib.hid (HX2.out.below hb12); replace HY2 := Lib.hid (HY2.out.below hb12); replace HA := Lib.hid (HA.out.below hb12))
    | (go_simp; go_at_call 15; refine (H5.out _).mono ?_; rintro e w13 ⟨rfl, hb13⟩; have hb13 : Below w12.heap.size w12 w13 := (by first | (exact hb13) | (exact bstep (bdraw w12 _) hb13)); replace HX := Lib.hid (HX.out.below hb13); replace HY := Lib.hid (HY.out.below hb13); replace HX2 := Lib.hid (HX2.out.below hb13); replace HY2 := Lib.hid (HY2.out.below hb13); replace HA := Lib.hid (HA.out.below hb13))
    | (go_simp; go_at_call 24; refine (H12.out _).mono ?_; rintro e w14 ⟨rfl, hb14⟩; have hb14 : Below w13.heap.size w13 w14 := (by first | (exact hb14) | (exact bstep (bdraw w13 _) hb14)); replace HX := Lib.hid (HX.out.below hb14); replace HY := Lib.hid (HY.out.below hb14); replace HX2 := Lib.hid (HX2.out.below hb14); replace HY2 := Lib.hid (HY2.out.below hb14); replace HA := Lib.hid (HA.out.below hb14))))
  clear c0 c1 c2 c3 c4 c5
  all_goals
    clear HX HY HX2 HY2
    have c0 := HA.out.c0; have c1 := HA.out.c1; have c2 := HA.out.c2; have c3 := HA.out.c3; have c4 := HA.out.c4; have c5 := HA.out.c5
    go_wp2_with fail
    go_region_held3 (fun w' => w'.cell? ⟨w.heap.size, 0, none⟩ = some (.int .i64 N) ∧ w'.cell? ⟨w.heap.size, 1, none⟩ = some (.int .i64 T) ∧ w'.cell? ⟨w.heap.size, 2, none⟩ = some (.int .i64 L) ∧ w'.cell? ⟨w.heap.size, 3, none⟩ = some (.int .i64 W) ∧ w'.cell? ⟨w.heap.size, 4, none⟩ = some (.int .i64 S) ∧ w'.cell? ⟨w.heap.size, 5, none⟩ = some (.int .i64 R)) (first | (exact ⟨HA.out.c0, HA.out.c1, HA.out.c2, HA.out.c3, HA.out.c4, HA.out.c5⟩) | go_keep) ((first
      | (go_simp; go_at_call 16; refine (H6.out _).mono ?_; rintro e w15 ⟨rfl, hb15⟩; have hb15 : Below w14.heap.size w14 w15 := (by first | (exact hb15) | (exact bstep (bdraw w14 _) hb15)); replace HA := Lib.hid (HA.out.below hb15))
      | (go_simp; go_at_call 17; refine (H7.out _).mono ?_; rintro e w16 ⟨rfl, hb16⟩; have hb16 : Below w15.heap.size w15 w16 := (by first | (exact hb16) | (exact bstep (bdraw w15 _) hb16)); replace HA := Lib.hid (HA.out.below hb16))
      | (go_simp; go_at_call 18; refine (H8.out _).mono ?_; rintro e w17 ⟨rfl, hb17⟩; have hb17 : Below w16.heap.size w16 w17 := (by first | (exact hb17) | (exact bstep (bdraw w16 _) hb17)); replace HA := Lib.hid (HA.out.below hb17))
      | (go_simp; go_at_call 19; refine (H9.out _).mono ?_; rintro e w18 ⟨rfl, hb18⟩; have hb18 : Below w17.heap.size w17 w18 := (by first | (exact hb18) | (exact bstep (bdraw w17 _) hb18)); replace HA := Lib.hid (HA.out.below hb18))
      | (go_simp; go_at_call 25; refine (H13.out _).mono ?_; rintro e w19 ⟨rfl, hb19⟩; have hb19 : Below w18.heap.size w18 w19 := (by first | (exact hb19) | (exact bstep (bdraw w18 _) hb19)); replace HA := Lib.hid (HA.out.below hb19))
      | (go_simp; go_at_call 20; refine (alive_any _).mono ?_; rintro e w20 ⟨rfl, hb20⟩; have hb20 : Below w19.heap.size w19 w20 := (by first | (exact hb20) | (exact bstep (bdraw w19 _) hb20)); replace HA := Lib.hid (HA.out.below hb20))))
    clear c0 c1 c2 c3 c4 c5
    all_goals
      go_wp2
      go_ret
      exact ⟨rfl, bstep hb0 (bstep hb1 (bstep hb2 (bstep hb3 (bstep hb4 (bstep hb5 (bstep hb6 (bstep hb7 (bstep hb8 (bstep hb9 (bstep hb10 (bstep hb11 (bstep hb12 (bstep hb13 (bstep hb14 (bstep hb15 (bstep hb16 (bstep hb17 (bstep hb18 (bstep hb19 (hb20))))))))))))))))))))⟩
theorem rights_any (p : P) (i size : Int) (w : World) (hp : p.In) (hi : In64 i) (hs : In64 size) :
    Calls Try.prog 3 #[p.val, .int .i64 i, .int .i64 size] w fun e w' => e = .returned (.bool true) ∧ Below w.heap.size w w' := by
  by_cases hM : p.May
  · exact rights_yes p.N p.T p.L p.W p.S p.R i size w hp hi hs hM
  · exact rights_no p.N p.T p.L p.W p.S p.R i size w hp hi hs hM
end Go.Proofs.Ytgdgbhjbeldcmaa.Law08
