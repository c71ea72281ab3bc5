/- the walk of PlanMeets -/
import Derived.Test.YtgdgbhjbeldcmaaLaw08B
set_option maxRecDepth 100000
namespace Go.Proofs.Ytgdgbhjbeldcmaa.Law08
open Go.RowKit PlanM

theorem all_get (n k : Nat) (h : k < (all n).length) : (all n)[k] = (k : Int) + 1 := by simp [all]
def boolV (l : List Bool) : List Value := l.map Value.bool
def BoolsAt (w : World) (A : Option Addr) (l : List Bool) : Prop := CellsAt w A (boolV l)
theorem BoolsAt.below {w w' : World} {A : Option Addr} {l : List Bool} (h : BoolsAt w A l) (hb : Below w.heap.size w w') : BoolsAt w' A l := CellsAt.below h hb
theorem BoolsAt.at {w : World} {A : Option Addr} {l : List Bool} (h : BoolsAt w A l) {i : Nat} (hi : i < l.length) : ∃ b o, A = some ⟨b, o, none⟩ ∧ w.cell? ⟨b, o + i, none⟩ = some (.bool l[i]) := by
  obtain ⟨b, o, e, hc⟩ := h i (by unfold boolV; rw [List.length_map]; exact hi)
  exact ⟨b, o, e, by rw [hc]; simp [boolV]⟩
theorem meets_no (N T L W S R : Int) (A1 : Option Addr) (l1 : List Bool) (c1 : Nat) (A2 : Option Addr) (l2 : List Bool) (c2 : Nat) (w : World) (hp : (⟨N, T, L, W, S, R⟩ : P).In) (h1 : BoolsAt w A1 l1) (k1 : l1.length ≤ c1) (z1 : c1 ≤ maxLen) (h2 : BoolsAt w A2 l2) (k2 : l2.length ≤ c2) (z2 : c2 ≤ maxLen) (hM : ¬ (⟨N, T, L, W, S, R⟩ : P).May) :
    Calls Try.prog 5 #[.agg #[.int .i64 N, .int .i64 T, .int .i64 L, .int .i64 W, .int .i64 S, .int .i64 R], .slice A1 l1.length c1, .slice A2 l2.length c2] w fun e w' => e = .returned (.bool true) ∧ Below w.heap.size w w' := by
  have hr := P.right_no hM
  clear hM h1 h2
  have HA := Lib.hid (PlanLies.new w N T L W S R)
  have hb0 := balloc w (.cells #[.int .i64 N, .int .i64 T, .int .i64 L, .int .i64 W, .int .i64 S, .int .i64 R] 23)
  obtain ⟨q, hq⟩ : ∃ q : P, q = ⟨N, T, L, W, S, R⟩ := ⟨_, rfl⟩
  rw [← hq] at hp hr
  have hv : q.val = .agg #[.int .i64 N, .int .i64 T, .int .i64 L, .int .i64 W, .int .i64 S, .int .i64 R] := by rw [hq]; rfl
  have K1 := fun W => R08.right_any q W hp
  rw [hr] at K1; rw [hv] at K1
  have H1 := Lib.hid K1
  clear K1
  go_enter Try.func5, Try.ntmps5
  go_wp2_with fail
  generalize w.alloc (.cells #[.int .i64 N, .int .i64 T, .int .i64 L, .int .i64 W, .int .i64 S, .int .i64 R] 23) = w0 at *
  refine (H1.out _).mono ?_
  rintro e w1 ⟨rfl, hb1⟩
  replace HA := Lib.hid (HA.out.below hb1)
  have c0 := HA.out.c0; have c1 := HA.out.c1; have c2 := HA.out.c2; have c3 := HA.out.c3; have c4 := HA.out.c4; have c5 := HA.out.c5
  go_wp2_with fail
  refine (alive_any _).mono ?_
  rintro e w2 ⟨rfl, hb2⟩
  clear c0 c1 c2 c3 c4 c5
  replace HA := Lib.hid (HA.out.below hb2)
  go_wp2
  go_ret
  exact ⟨rfl, bstep hb0 (bstep hb1 (hb2))⟩
set_option maxHeartbeats 2000000 in
theorem meets_yes (n : Nat) (T L W S R : Int) (A1 : Option Addr) (l1 : List Bool) (c1 : Nat) (A2 : Option Addr) (l2 : List Bool) (c2 : Nat) (w : World) (hp : (⟨(n : Int), T, L, W, S, R⟩ : P).In) (h1 : BoolsAt w A1 l1) (k1 : l1.length ≤ c1) (z1 : c1 ≤ maxLen) (h2 : BoolsAt w A2 l2) (k2 : l2.length ≤ c2) (z2 : c2 ≤ maxLen) (hM : (⟨(n : Int), T, L, W, S, R⟩ : P).May) :
    Calls Try.prog 5 #[.agg #[.int .i64 (n : Int), .int .i64 T, .int .i64 L, .int .i64 W, .int .i64 S, .int .i64 R], .slice A1 l1.length c1, .slice A2 l2.length c2] w fun e w' => e = .returned (.bool true) ∧ Below w.heap.size w w' := by
  have hr := P.right_yes hM
  unfold P.May at hM
  obtain ⟨m1, m2, m3, m4, m5, m6, m7, m8, m9⟩ := hM
  simp only at m1 m2 m3 m4 m5 m6 m7 m8 m9
  unfold maxLen at z1 z2
  have HA := Lib.hid (PlanLies.new w (n : Int) T L W S R)
  have hb0 := balloc w (.cells #[.int .i64 (n : Int), .int .i64 T, .int .i64 L, .int .i64 W, .int .i64 S, .int .i64 R] 23)
  obtain ⟨q, hq⟩ : ∃ q : P, q = ⟨(n : Int), T, L, W, S, R⟩ := ⟨_, rfl⟩
  rw [← hq] at hp hr
  have hv : q.val = .agg #[.int .i64 (n : Int), .int .i64 T, .int .i64 L, .int .i64 W, .int .i64 S, .int .i64 R] := by rw [hq]; rfl
  have B1 := Lib.hid h1; have B2 := Lib.hid h2
  have K1 := fun W => R08.right_any q W hp
  have K2 := fun W => Plan.all_any q W hp
  have K3 := fun W => Plan.quorum_any q W hp
  rw [show q.allA = all (n : Int).toNat from by unfold P.allA; rw [hr, hq]; rfl] at K2
  rw [show q.quorumA = (n : Int) - W + 1 from by unfold P.quorumA; rw [hr, hq]; rfl] at K3
  rw [hr] at K1
  rw [hv] at K1 K2 K3
  rw [Int.toNat_natCast] at K2
  have al : (all n).length = n := all_len n
  have ag : ∀ k (h : k < (all n).length), (all n)[k] = (k : Int) + 1 := by
    intro k h
    exact all_get n k h
  generalize all n = als at *
  have AL := Lib.hid al; have AG := Lib.hid ag
  clear al ag hv hq h1 h2
  have H1 := Lib.hid K1
  have H2 := Lib.hid K2
  have H3 := Lib.hid K3
  clear K1 K2 K3
  go_enter Try.func5, Try.ntmps5
  go_wp2_with fail
  generalize w.alloc (.cells #[.int .i64 (n : Int), .int .i64 T, .int .i64 L, .int .i64 W, .int .i64 S, .int .i64 R] 23) = w0 at *
  replace B1 := Lib.hid (B1.out.below hb0)
  replace B2 := Lib.hid (B2.out.below hb0)
  refine (H1.out _).mono ?_
  rintro e w1 ⟨rfl, hb1⟩
  replace B1 := Lib.hid (B1.out.below hb1)
  replace B2 := Lib.hid (B2.out.below hb1)
  replace HA := Lib.hid (HA.out.below hb1)
  have c0 := HA.out.c0; have c1 := HA.out.c1; have c2 := HA.out.c2; have c3 := HA.out.c3; have c4 := HA.out.c4; have c5 := HA.out.c5
  go_wp2_with fail
  refine (H2.out _).mono ?_
  rintro e w2 ⟨X, dX, rfl, hd1, hd2, hX, hb2, _⟩
  clear c0 c1 c2 c3 c4 c5
  replace B1 := Lib.hid (B1.out.below hb2)
  replace B2 := Lib.hid (B2.out.below hb2)
  replace HA := Lib.hid (HA.out.below hb2)
  have HX := Lib.hid hX
  clear hX
  go_wp2_with fail
  go_loop [7, 8, 9, 21] (fun a b c i => ∃ k x y z : Nat, k ≤ n ∧ x + y ≤ k + z ∧ z ≤ k ∧ i = .int .i64 k ∧ a = .int .i64 x ∧ b = .int .i64 y ∧ c = .int .i64 z)
    (fun _ _ _ i => n - (intOf i).toNat)
  case atStart => exact ⟨0, 0, 0, 0, by omega, by omega, by omega, rfl, rfl, rfl, rfl⟩
  case round =>
    obtain ⟨k, x, y, z, hk, hxy, hz, rfl, rfl, rfl, rfl⟩ := hrel
    by_cases hlt : k < n
    · have hlk : k < als.length := by rw [AL.out]; exact hlt
      obtain ⟨b0, o0, rfl, f0⟩ := HX.out.at hlk
      rw [AG.out k hlk] at f0
      have i1 : IntKind.i64.wrap ((k : Int) + 1 - 1) = (k : Int) := by rw [Int.add_sub_cancel]; exact IntWalk.i64_in _ (by omega)
      have i2 : ((k : Int) + 1 - 1) = (k : Int) := by omega
      by_cases ha : k < l1.length
      · obtain ⟨b1, o1, rfl, f1⟩ := B1.out.at ha
        have j1 : decide ((k : Int) + 1 ≤ (l1.length : Int)) = true := by simp; omega
        generalize l1[k] = va at f1
        cases va
        · by_cases hb : k < l2.length
          · obtain ⟨b2, o2, rfl, f2⟩ := B2.out.at hb
            have j2 : decide ((k : Int) + 1 ≤ (l2.length : Int)) = true := by simp; omega
            generalize l2[k] = vb at f2
            cases vb
            · go_wp2
              go_round
              case rel => exact ⟨k + 1, x, y, z, by omega, by omega, by omega, by go_num, by first | rfl | go_num, by first | rfl | go_num, by first | rfl | go_num⟩
              case measure => simp [intOf] <;> omega
            · go_wp2
              go_round
              case rel => exact ⟨k + 1, x, y + 1, z, by omega, by omega, by omega, by go_num, by first | rfl | go_num, by first | rfl | go_num, by first | rfl | go_num⟩
              case measure => simp [intOf] <;> omega
          · have j2 : decide ((k : Int) + 1 ≤ (l2.length : Int)) = false := by simp; omega
            go_wp2
            go_round
            case rel => exact ⟨k + 1, x, y, z, by omega, by omega, by omega, by go_num, by first | rfl | go_num, by first | rfl | go_num, by first | rfl | go_num⟩
            case measure => simp [intOf] <;> omega
        · by_cases hb : k < l2.length
          · obtain ⟨b2, o2, rfl, f2⟩ := B2.out.at hb
            have j2 : decide ((k : Int) + 1 ≤ (l2.length : Int)) = true := by simp; omega
            generalize l2[k] = vb at f2
            cases vb
            · go_wp2
              go_round
              case rel => exact ⟨k + 1, x + 1, y, z, by omega, by omega, by omega, by go_num, by first | rfl | go_num, by first | rfl | go_num, by first | rfl | go_num⟩
              case measure => simp [intOf] <;> omega
            · go_wp2
              go_round
              case rel => exact ⟨k + 1, x + 1, y + 1, z + 1, by omega, by omega, by omega, by go_num, by first | rfl | go_num, by first | rfl | go_num, by first | rfl | go_num⟩
              case measure => simp [intOf] <;> omega
          · have j2 : decide ((k : Int) + 1 ≤ (l2.length : Int)) = false := by simp; omega
            go_wp2
            go_round
            case rel => exact ⟨k + 1, x + 1, y, z, by omega, by omega, by omega, by go_num, by first | rfl | go_num, by first | rfl | go_num, by first | rfl | go_num⟩
            case measure => simp [intOf] <;> omega
      · have j1 : decide ((k : Int) + 1 ≤ (l1.length : Int)) = false := by simp; omega
        by_cases hb : k < l2.length
        · obtain ⟨b2, o2, rfl, f2⟩ := B2.out.at hb
          have j2 : decide ((k : Int) + 1 ≤ (l2.length : Int)) = true := by simp; omega
          generalize l2[k] = vb at f2
          cases vb
          · go_wp2
            go_round
            case rel => exact ⟨k + 1, x, y, z, by omega, by omega, by omega, by go_num, by first | rfl | go_num, by first | rfl | go_num, by first | rfl | go_num⟩
            case measure => simp [intOf] <;> omega
          · go_wp2
            go_round
            case rel => exact ⟨k + 1, x, y + 1, z, by omega, by omega, by omega, by go_num, by first | rfl | go_num, by first | rfl | go_num, by first | rfl | go_num⟩
            case measure => simp [intOf] <;> omega
        · have j2 : decide ((k : Int) + 1 ≤ (l2.length : Int)) = false := by simp; omega
          go_wp2
          go_round
          case rel => exact ⟨k + 1, x, y, z, by omega, by omega, by omega, by go_num, by first | rfl | go_num, by first | rfl | go_num, by first | rfl | go_num⟩
          case measure => simp [intOf] <;> omega
    · obtain rfl : n = k := by omega
      clear B1 B2 HX
      have hge : ¬ n < als.length := by rw [AL.out]; omega
      have i4 : IntKind.i64.wrap ((n : Int) - W) = (n : Int) - W := IntWalk.i64_in _ (by omega)
      have q0 : ((als.length : Int) != (n : Int)) = false := by rw [AL.out]; simp
      have c0 := HA.out.c0; have c1 := HA.out.c1; have c2 := HA.out.c2; have c3 := HA.out.c3; have c4 := HA.out.c4; have c5 := HA.out.c5
      go_wp2_with fail
      go_region_held3 (fun w' => w'.cell? ⟨w.heap.size, 0, none⟩ = some (.int .i64 (n : Int)) ∧ w'.cell? ⟨w.heap.size, 1, none⟩ = some (.int .i64 T) ∧ w'.cell? ⟨w.heap.size, 2, none⟩ = some (.int .i64 L) ∧ w'.cell? ⟨w.heap.size, 3, none⟩ = some (.int .i64 W) ∧ w'.cell? ⟨w.heap.size, 4, none⟩ = some (.int .i64 S) ∧ w'.cell? ⟨w.heap.size, 5, none⟩ = some (.int .i64 R)) (first | (exact ⟨HA.out.c0, HA.out.c1, HA.out.c2, HA.out.c3, HA.out.c4, HA.out.c5⟩) | go_keep) ((first
        | (go_simp; go_at_call 14; refine (H2.out _).mono ?_; rintro e w3 ⟨Y, dY, rfl, _, _, _, hb3, _⟩; have hb3 : Below w2.heap.size w2 w3 := (by first | (exact hb3) | (exact bstep (bdraw w2 _) hb3)); replace HA := Lib.hid (HA.out.below hb3))))
      clear c0 c1 c2 c3 c4 c5
      all_goals
        have q5 : decide (1 ≤ (n : Int) - W + 1) = true := by simp; omega
        by_cases hx : (x : Int) < W
        · have q1 : decide ((x : Int) < W) = true := by simpa using hx
          have c0 := HA.out.c0; have c1 := HA.out.c1; have c2 := HA.out.c2; have c3 := HA.out.c3; have c4 := HA.out.c4; have c5 := HA.out.c5
          go_wp2_with fail
          refine (H3.out _).mono ?_
          rintro e w4 ⟨rfl, hb4⟩
          clear c0 c1 c2 c3 c4 c5
          replace HA := Lib.hid (HA.out.below hb4)
          have c0 := HA.out.c0; have c1 := HA.out.c1; have c2 := HA.out.c2; have c3 := HA.out.c3; have c4 := HA.out.c4; have c5 := HA.out.c5
          go_wp2_with fail
          refine (alive_any _).mono ?_
          rintro e w5 ⟨rfl, hb5⟩
          clear c0 c1 c2 c3 c4 c5
          replace HA := Lib.hid (HA.out.below hb5)
          go_wp2
          go_ret
          exact ⟨rfl, bstep hb0 (bstep hb1 (bstep hb2 (bstep hb3 (bstep hb4 (hb5)))))⟩
        by_cases hy : (y : Int) < (n : Int) - W + 1
        · have q1 : decide ((x : Int) < W) = false := by simpa using hx
          have q2 : decide ((y : Int) < (n : Int) - W + 1) = true := by simp; omega
          have c0 := HA.out.c0; have c1 := HA.out.c1; have c2 := HA.out.c2; have c3 := HA.out.c3; have c4 := HA.out.c4; have c5 := HA.out.c5
          go_wp2_with fail
          refine (H3.out _).mono ?_
          rintro e w4 ⟨rfl, hb4⟩
          clear c0 c1 c2 c3 c4 c5
          replace HA := Lib.hid (HA.out.below hb4)
          have c0 := HA.out.c0; have c1 := HA.out.c1; have c2 := HA.out.c2; have c3 := HA.out.c3; have c4 := HA.out.c4; have c5 := HA.out.c5
          go_wp2_with fail
          refine (H3.out _).mono ?_
          rintro e w5 ⟨rfl, hb5⟩
          clear c0 c1 c2 c3 c4 c5
          replace HA := Lib.hid (HA.out.below hb5)
          have c0 := HA.out.c0; have c1 := HA.out.c1; have c2 := HA.out.c2; have c3 := HA.out.c3; have c4 := HA.out.c4; have c5 := HA.out.c5
          go_wp2_with fail
          refine (alive_any _).mono ?_
          rintro e w6 ⟨rfl, hb6⟩
          clear c0 c1 c2 c3 c4 c5
          replace HA := Lib.hid (HA.out.below hb6)
          go_wp2
          go_ret
          exact ⟨rfl, bstep hb0 (bstep hb1 (bstep hb2 (bstep hb3 (bstep hb4 (bstep hb5 (hb6))))))⟩
        have q1 : decide ((x : Int) < W) = false := by simpa using hx
        have q2 : decide ((y : Int) < (n : Int) - W + 1) = false := by simp; omega
        have q3 : decide (0 < (z : Int)) = true := by simp; omega
        have c0 := HA.out.c0; have c1 := HA.out.c1; have c2 := HA.out.c2; have c3 := HA.out.c3; have c4 := HA.out.c4; have c5 := HA.out.c5
        go_wp2_with fail
        refine (H3.out _).mono ?_
        rintro e w4 ⟨rfl, hb4⟩
        clear c0 c1 c2 c3 c4 c5
        replace HA := Lib.hid (HA.out.below hb4)
        have c0 := HA.out.c0; have c1 := HA.out.c1; have c2 := HA.out.c2; have c3 := HA.out.c3; have c4 := HA.out.c4; have c5 := HA.out.c5
        go_wp2_with fail
        refine (H3.out _).mono ?_
        rintro e w5 ⟨rfl, hb5⟩
        clear c0 c1 c2 c3 c4 c5
        replace HA := Lib.hid (HA.out.below hb5)
        have c0 := HA.out.c0; have c1 := HA.out.c1; have c2 := HA.out.c2; have c3 := HA.out.c3; have c4 := HA.out.c4; have c5 := HA.out.c5
        go_wp2_with fail
        refine (alive_any _).mono ?_
        rintro e w6 ⟨rfl, hb6⟩
        clear c0 c1 c2 c3 c4 c5
        replace HA := Lib.hid (HA.out.below hb6)
        go_wp2
        go_ret
        exact ⟨rfl, bstep hb0 (bstep hb1 (bstep hb2 (bstep hb3 (bstep hb4 (bstep hb5 (hb6))))))⟩
theorem meets_law (p : P) (A1 : Option Addr) (l1 : List Bool) (c1 : Nat) (A2 : Option Addr) (l2 : List Bool) (c2 : Nat) (w : World) (hp : p.In) (h1 : BoolsAt w A1 l1) (k1 : l1.length ≤ c1) (z1 : c1 ≤ maxLen) (h2 : BoolsAt w A2 l2) (k2 : l2.length ≤ c2) (z2 : c2 ≤ maxLen) :
    Calls Try.prog 5 #[p.val, .slice A1 l1.length c1, .slice A2 l2.length c2] w fun e w' => e = .returned (.bool true) ∧ Below w.heap.size w w' := by
  by_cases hM : p.May
  · obtain ⟨N, T, L, W, S, R⟩ := p
    have h := hM
    unfold P.May at h
    simp only at h
    obtain ⟨n, rfl⟩ : ∃ n : Nat, N = n := ⟨N.toNat, by omega⟩
    exact meets_yes n T L W S R A1 l1 c1 A2 l2 c2 w hp h1 k1 z1 h2 k2 z2 hM
  · exact meets_no p.N p.T p.L p.W p.S p.R A1 l1 c1 A2 l2 c2 w hp h1 k1 z1 h2 k2 z2 hM
end Go.Proofs.Ytgdgbhjbeldcmaa.Law08
