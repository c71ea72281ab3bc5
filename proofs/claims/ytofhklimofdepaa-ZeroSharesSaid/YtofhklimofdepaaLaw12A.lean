/- the walk of ZeroShares -/
import Derived.Test.YtofhklimofdepaaLaw12
set_option maxRecDepth 100000
namespace Go.Proofs.Ytofhklimofdepaa.Law12
open Go.RowKit PlanM StripeM DealM RebM ZeroM Law08 Law10

def SP.rE (m : List (List UInt8)) (n : Nat) (r : Int) : Drawn.SP := ⟨fun v w => ∃ X d, v = .tuple #[.slice X n d, .int .i64 r] ∧ n ≤ d ∧ d ≤ maxLen ∧ RowsAt w X m, fun _ _ _ h hb => by
  obtain ⟨X, d, h1, h2, h3, h4⟩ := h; exact ⟨X, d, h1, h2, h3, h4.below hb⟩⟩
def SP.rn (m : List (List UInt8)) (n : Nat) : Drawn.SP := ⟨fun v w => ∃ X d, v = .slice X n d ∧ n ≤ d ∧ d ≤ maxLen ∧ RowsAt w X m, fun _ _ _ h hb => by
  obtain ⟨X, d, h1, h2, h3, h4⟩ := h; exact ⟨X, d, h1, h2, h3, h4.below hb⟩⟩
def SP.bn (l : List UInt8) (n : Nat) : Drawn.SP := ⟨fun v w => ∃ X d, v = .slice X n d ∧ BytesAt w X l, fun _ _ _ h hb => by
  obtain ⟨X, d, h1, h2⟩ := h; exact ⟨X, d, h1, h2.below hb⟩⟩

theorem sh_heavy (N T L W S R n : Int) (A : Option Addr) (tape : List UInt8) (u : Nat) (w : World) (_hp : (⟨N, T, L, W, S, R⟩ : P).In) (_hn : In64 n) (hl : ¬ (N ≤ 12 ∧ L ≤ 12 ∧ T ≤ 12)) :
    Calls Try.prog 3 #[.agg #[.int .i64 N, .int .i64 T, .int .i64 L, .int .i64 W, .int .i64 S, .int .i64 R], .int .i64 n, .slice A tape.length u] w fun e w' => e = .returned (.bool true) ∧ Below w.heap.size w w' := by
  have K0 := fun w => Law10.light_any N T L W S R w
  rw [decide_eq_false hl] at K0
  have H0 := Lib.hid K0
  clear K0 hl _hp _hn
  have HA := Lib.hid (PlanLies.new w N T L W S R)
  have HB0 := Lib.hid (balloc w (.cells #[.int .i64 N, .int .i64 T, .int .i64 L, .int .i64 W, .int .i64 S, .int .i64 R] 23))
  go_enter Try.func3, Try.ntmps3
  go_wp2_with fail
  generalize w.alloc (.cells #[.int .i64 N, .int .i64 T, .int .i64 L, .int .i64 W, .int .i64 S, .int .i64 R] 23) = w0 at *
  refine (H0.out _).mono ?_
  rintro e w1 ⟨rfl, hb1⟩
  have HB1 := Lib.hid (bstep HB0.out hb1)
  have HA1 := Lib.hid (HA.out.below hb1)
  clear hb1 HB0 HA
  go_wp2_with fail
  refine (alive_any _).mono ?_
  rintro e w2 ⟨rfl, hb2⟩
  go_wp2
  go_ret
  exact ⟨rfl, bstep HB1.out hb2⟩

theorem sh_long (N T L W S R n : Int) (A : Option Addr) (tape : List UInt8) (u : Nat) (w : World) (_hp : (⟨N, T, L, W, S, R⟩ : P).In) (_hn : In64 n) (hl : N ≤ 12 ∧ L ≤ 12 ∧ T ≤ 12) (h7 : 700 < tape.length) :
    Calls Try.prog 3 #[.agg #[.int .i64 N, .int .i64 T, .int .i64 L, .int .i64 W, .int .i64 S, .int .i64 R], .int .i64 n, .slice A tape.length u] w fun e w' => e = .returned (.bool true) ∧ Below w.heap.size w w' := by
  have K0 := fun w => Law10.light_any N T L W S R w
  rw [decide_eq_true hl] at K0
  have H0 := Lib.hid K0
  clear K0 hl _hp _hn
  have HA := Lib.hid (PlanLies.new w N T L W S R)
  have HB0 := Lib.hid (balloc w (.cells #[.int .i64 N, .int .i64 T, .int .i64 L, .int .i64 W, .int .i64 S, .int .i64 R] 23))
  go_enter Try.func3, Try.ntmps3
  go_wp2_with fail
  generalize w.alloc (.cells #[.int .i64 N, .int .i64 T, .int .i64 L, .int .i64 W, .int .i64 S, .int .i64 R] 23) = w0 at *
  refine (H0.out _).mono ?_
  rintro e w1 ⟨rfl, hb1⟩
  have HB1 := Lib.hid (bstep HB0.out hb1)
  have HA1 := Lib.hid (HA.out.below hb1)
  clear hb1 HB0 HA
  go_wp2_with fail
  refine (alive_any _).mono ?_
  rintro e w2 ⟨rfl, hb2⟩
  go_wp2
  go_ret
  exact ⟨rfl, bstep HB1.out hb2⟩

set_option maxHeartbeats 2000000 in
theorem sh_bad (N T L W S R n : Int) (A : Option Addr) (tape : List UInt8) (u : Nat) (w : World) (hp : (⟨N, T, L, W, S, R⟩ : P).In) (hn : In64 n) (h : BytesAt w A tape) (k : tape.length ≤ u) (z : u ≤ maxLen) (hl : N ≤ 12 ∧ L ≤ 12 ∧ T ≤ 12) (h7 : tape.length ≤ 700) (hr : zcheck ⟨N, T, L, W, S, R⟩ n tape ≠ 0) :
    Calls Try.prog 3 #[.agg #[.int .i64 N, .int .i64 T, .int .i64 L, .int .i64 W, .int .i64 S, .int .i64 R], .int .i64 n, .slice A tape.length u] w fun e w' => e = .returned (.bool true) ∧ Below w.heap.size w w' := by
  have K0 := fun w => Law10.light_any N T L W S R w
  rw [decide_eq_true hl] at K0
  obtain ⟨q, hq⟩ : ∃ q : P, q = ⟨N, T, L, W, S, R⟩ := ⟨_, rfl⟩
  rw [← hq] at hp hr
  have hv : q.val = .agg #[.int .i64 N, .int .i64 T, .int .i64 L, .int .i64 W, .int .i64 S, .int .i64 R] := by rw [hq]; rfl
  have K1 := fun b0 V (ht : Gf.Tab V b0) (h : BytesAt V A tape) => Zero.zero_any b0 q n A tape u V hp hn ht h k z
  have K3 := fun V => Zero.cost_any q n V hp hn
  have K2 := fun V => R12.check_any N T L W S R n A tape u V (by rw [← hq]; exact hp) hn (by omega)
  rw [← hq] at K2
  rw [hv] at K1 K3
  have hz : zeroE q n tape = zcheck q n tape := rfl
  have ha : zeroA q n tape = [] := by unfold zeroA; rw [if_neg hr]
  have hc : zcheck q n tape ≠ 12 → zcost q n = 0 := fun h12 => by
    unfold zcheck at hr h12
    unfold zcost
    split at hr
    · rename_i e1
      rw [if_pos e1] at h12 ⊢
      split at hr
      · rename_i e2; rw [if_pos e2]
      · rename_i e2
        rw [if_neg e2] at h12
        split at hr
        · rename_i e3; rw [if_pos e3] at h12; exact absurd rfl h12
        · exact absurd rfl hr
    · rename_i e1; rw [if_neg e1]
  rw [hz, ha] at K1
  obtain ⟨rs, hrs⟩ : ∃ rs : List (List UInt8), rs = [] := ⟨_, rfl⟩
  unfold Stripe.RetRowsE at K1
  simp only [List.length_nil] at K1
  rw [← hrs] at K1
  generalize zcost q n = zc at *
  generalize zcheck q n tape = r at *
  have hne : (r != 0) = true := by rw [bne_iff_ne]; exact hr
  have hee : (r == r) = true := by simp
  have H0 := Lib.hid K0; have H1 := Lib.hid K1; have H2 := Lib.hid K2; have BT := Lib.hid h; have HC := Lib.hid hc
  obtain ⟨tl, htl⟩ : ∃ tl, tl = tape.length := ⟨_, rfl⟩
  rw [← htl] at H1 H2 k h7 ⊢
  have H3 := Lib.hid K3
  clear K0 K1 K2 K3 hl hp hn hr hq hv hrs htl h hc hz ha
  have HA := Lib.hid (PlanLies.new w N T L W S R)
  have HB0 := Lib.hid (balloc w (.cells #[.int .i64 N, .int .i64 T, .int .i64 L, .int .i64 W, .int .i64 S, .int .i64 R] 23))
  go_enter Try.func3, Try.ntmps3
  go_wp2_with fail
  generalize w.alloc (.cells #[.int .i64 N, .int .i64 T, .int .i64 L, .int .i64 W, .int .i64 S, .int .i64 R] 23) = w0 at *
  refine (H0.out _).mono ?_
  rintro e w1 ⟨rfl, hb1⟩
  have HB1 := Lib.hid (bstep HB0.out hb1)
  have HA1 := Lib.hid (HA.out.below hb1)
  clear hb1 HB0 HA
  go_wp2_with fail
  refine Drawn.wp_region_flowL 10 [Drawn.SP.tab, Drawn.SP.is (.agg #[.int .i64 N, .int .i64 T, .int .i64 L, .int .i64 W, .int .i64 S, .int .i64 R]), Drawn.SP.is (.int .i64 n), Drawn.SP.is (.slice A tl u), SP.rE rs 0 r, SP.rE rs 0 r, SP.rn rs 0, Drawn.SP.is (.int .i64 r), SP.rn rs 0, Drawn.SP.is (.int .i64 r)] (by kernel_rfl) (by kernel_rfl) ?_ ?_
  · intro i hi a wq hb hev hdep
    rcases (show i = 0 ∨ i = 1 ∨ i = 2 ∨ i = 3 ∨ i = 4 ∨ i = 5 ∨ i = 6 ∨ i = 7 ∨ i = 8 ∨ i = 9 by omega) with rfl | rfl | rfl | rfl | rfl | rfl | rfl | rfl | rfl | rfl
    · refine Drawn.wpOp_flow 22 rfl rfl rfl ?_
      clear hev hdep
      clear hb
      go_simp
      refine (Gf.new_any wq).mono ?_
      rintro e w' ⟨rfl, ht, hb', _⟩
      exact ⟨_, rfl, ⟨_, rfl, ht⟩, hb'⟩
    · have e3 : a.tmps[3]?.getD undef = .pointer (some ⟨w.heap.size, 0, none⟩) := hev 3 rfl
      refine Drawn.wpOp_flow 23 rfl rfl rfl ?_
      obtain ⟨c0, c1, c2, c3, c4, c5⟩ := six (HA1.out.below hb)
      clear hev hdep hb
      go_simp
      exact ⟨_, rfl, rfl, Below.refl _ _⟩
    · have e1 : a.tmps[1]?.getD undef = .int .i64 n := hev 1 rfl
      refine Drawn.wpOp_flow 24 rfl rfl rfl ?_
      clear hev hdep hb
      go_simp
      exact ⟨_, rfl, rfl, Below.refl _ _⟩
    · have e2 : a.tmps[2]?.getD undef = .slice A tl u := hev 2 rfl
      refine Drawn.wpOp_flow 25 rfl rfl rfl ?_
      clear hev hdep hb
      go_simp
      exact ⟨_, rfl, rfl, Below.refl _ _⟩
    · obtain ⟨bf, d0, ht⟩ : (Drawn.SP.tab).p (a.tmps[22]?.getD undef) wq := hdep 0 rfl
      have d1 : a.tmps[23]?.getD undef = .agg #[.int .i64 N, .int .i64 T, .int .i64 L, .int .i64 W, .int .i64 S, .int .i64 R] := hdep 1 rfl
      have d2 : a.tmps[24]?.getD undef = .int .i64 n := hdep 2 rfl
      have d3 : a.tmps[25]?.getD undef = .slice A tl u := hdep 3 rfl
      refine Drawn.wpOp_flow 26 rfl rfl rfl ?_
      clear hev hdep
      have C := H1.out bf wq ht (BT.out.below (bstep HB1.out hb))
      clear hb ht
      go_simp
      refine C.mono ?_
      rintro e w' ⟨X, f, rfl, g1, g2, g3, hb', _⟩
      exact ⟨_, rfl, ⟨X, f, rfl, g1, g2, g3⟩, hb'⟩
    · have d4 := hdep 4 rfl
      refine Drawn.wpOp_flow 21 rfl rfl rfl ?_
      clear hev hdep hb
      go_simp
      exact ⟨_, rfl, d4, Below.refl _ _⟩
    · obtain ⟨Z, dz, d5, z1, z2, z3⟩ : (SP.rE rs 0 r).p (a.tmps[21]?.getD undef) wq := hdep 5 rfl
      refine Drawn.wpOp_flow 27 rfl rfl rfl ?_
      clear hev hdep
      clear hb
      go_simp
      exact ⟨_, rfl, ⟨Z, dz, rfl, z1, z2, z3⟩, Below.refl _ _⟩
    · obtain ⟨Z, dz, d5, z1, z2, z3⟩ : (SP.rE rs 0 r).p (a.tmps[21]?.getD undef) wq := hdep 5 rfl
      refine Drawn.wpOp_flow 28 rfl rfl rfl ?_
      clear hev hdep hb
      go_simp
      exact ⟨_, rfl, rfl, Below.refl _ _⟩
    · have d6 := hdep 6 rfl
      refine Drawn.wpOp_flow 7 rfl rfl rfl ?_
      clear hev hdep hb
      go_simp
      exact ⟨_, rfl, d6, Below.refl _ _⟩
    · have d7 : a.tmps[28]?.getD undef = .int .i64 r := hdep 7 rfl
      refine Drawn.wpOp_flow 8 rfl rfl rfl ?_
      clear hev hdep hb
      go_simp
      exact ⟨_, rfl, rfl, Below.refl _ _⟩
  · intro xq wq hb hxq
    have vq1 : xq 1 = .agg #[.int .i64 N, .int .i64 T, .int .i64 L, .int .i64 W, .int .i64 S, .int .i64 R] := hxq 1 (by omega)
    have vq2 : xq 2 = .int .i64 n := hxq 2 (by omega)
    have vq3 : xq 3 = .slice A tl u := hxq 3 (by omega)
    have vq7 : xq 7 = .int .i64 r := hxq 7 (by omega)
    obtain ⟨Z, dz, vq8, z1, z2, z3⟩ : (SP.rn rs 0).p (xq 8) wq := hxq 8 (by omega)
    have vq9 : xq 9 = .int .i64 r := hxq 9 (by omega)
    show Exit.then _ _ Exit.normal (Drawn.acts _ [(8, some (xq 9)), (7, some (xq 8)), (28, some (xq 7)), (27, some (xq 6)), (21, some (xq 5)), (26, some (xq 4)), (25, some (xq 3)), (24, some (xq 2)), (23, some (xq 1)), (22, some (xq 0))]) _
    rw [vq1, vq2, vq3, vq7, vq8, vq9]
    clear hxq vq1 vq2 vq3 vq7 vq8 vq9
    generalize xq 0 = yq0
    generalize xq 4 = yq4
    generalize xq 5 = yq5
    generalize xq 6 = yq6
    clear xq
    simp only [Drawn.acts]
    go_simp
    obtain ⟨c0, c1, c2, c3, c4, c5⟩ := six (HA1.out.below hb)
    have HB2 := Lib.hid (bstep HB1.out hb)
    have HA2 := Lib.hid (HA1.out.below hb)
    clear hb z1 z2 z3
    go_wp2_with fail
    refine (H2.out _).mono ?_
    rintro e w2 ⟨rfl, hb2⟩
    have HB3 := Lib.hid (bstep HB2.out hb2)
    clear c0 c1 c2 c3 c4 c5
    obtain ⟨c0, c1, c2, c3, c4, c5⟩ := six (HA2.out.below hb2)
    clear hb2
    by_cases h12 : r = 12
    · subst h12
      clear c0 c1 c2 c3 c4 c5
      go_wp2_with fail
      refine (alive_any _).mono ?_
      rintro e w3 ⟨rfl, hb3⟩
      go_wp2
      go_ret
      exact ⟨rfl, bstep HB3.out hb3⟩
    · have h12b : (r == 12) = false := by rw [beq_eq_false_iff_ne]; exact h12
      have C := H3.out w2
      rw [HC.out h12] at C
      have H4 := Lib.hid C
      clear C h12
      go_wp2_with fail
      refine (H4.out).mono ?_
      rintro e w3 ⟨rfl, hb3⟩
      have HB4 := Lib.hid (bstep HB3.out hb3)
      clear hb3 c0 c1 c2 c3 c4 c5
      go_wp2_with fail
      refine (alive_any _).mono ?_
      rintro e w4 ⟨rfl, hb4⟩
      go_wp2
      go_ret
      exact ⟨rfl, bstep HB4.out hb4⟩

set_option maxHeartbeats 4000000 in
theorem sh_ok (L W S R : Int) (N0 t0 m : Nat) (A : Option Addr) (tape : List UInt8) (u : Nat) (w : World) (hp : (⟨N0, t0, L, W, S, R⟩ : P).In) (h : BytesAt w A tape) (k : tape.length ≤ u) (z : u ≤ maxLen) (hl : (N0 : Int) ≤ 12 ∧ L ≤ 12 ∧ (t0 : Int) ≤ 12) (h7 : tape.length ≤ 700) (hr : zcheck ⟨N0, t0, L, W, S, R⟩ m tape = 0)
    (hM : (⟨N0, t0, L, W, S, R⟩ : P).May) (hm : m ≤ 240) (hx0 : t0 * m ≤ tape.length) :
    Calls Try.prog 3 #[.agg #[.int .i64 (N0 : Nat), .int .i64 (t0 : Nat), .int .i64 L, .int .i64 W, .int .i64 S, .int .i64 R], .int .i64 (m : Nat), .slice A tape.length u] w fun e w' => e = .returned (.bool true) ∧ Below w.heap.size w w' := by
  have hn : In64 (m : Int) := by unfold In64; omega
  have K0 := fun w => Law10.light_any N0 t0 L W S R w
  rw [decide_eq_true hl] at K0
  obtain ⟨q, hq⟩ : ∃ q : P, q = ⟨N0, t0, L, W, S, R⟩ := ⟨_, rfl⟩
  rw [← hq] at hp hr
  have hv : q.val = .agg #[.int .i64 (N0 : Nat), .int .i64 (t0 : Nat), .int .i64 L, .int .i64 W, .int .i64 S, .int .i64 R] := by rw [hq]; rfl
  have K1 := fun b0 V (ht : Gf.Tab V b0) (h : BytesAt V A tape) => Zero.zero_any b0 q m A tape u V hp hn ht h k z
  have K3 := fun V => Zero.cost_any q m V hp hn
  have K2 := fun V => R12.check_any N0 t0 L W S R m A tape u V (by rw [← hq]; exact hp) hn (by omega)
  rw [← hq] at K2
  rw [hv] at K1 K3
  have K5 := fun V (h : BytesAt V A tape) => R12.polys_any N0 L W S R t0 m A tape u V hM h k z hm (by omega) hx0
  rw [← hq] at K5
  have ha : zeroA q m tape = shares q (zpolysTo q tape m) := by unfold zeroA; rw [if_pos hr, Int.toNat_natCast]
  have hz : zeroE q m tape = 0 := hr
  have hqN : q.N.toNat = N0 := by rw [hq]; simp
  have hqT : q.T = t0 := by rw [hq]
  obtain ⟨x, hx⟩ : ∃ x : Nat, x = t0 * m := ⟨_, rfl⟩
  have hc : zcost q m = (x : Int) := by
    unfold zcheck at hr
    unfold zcost
    split at hr
    · rename_i e1
      rw [if_pos e1]
      rw [if_neg (by omega), hqT, hx, Int.natCast_mul]
    · omega
  have hxi : ((t0 : Int) * (m : Int)) = (x : Int) := by rw [hx, Int.natCast_mul]
  have hxw : IntKind.i64.wrap (x : Int) = (x : Int) := IntWalk.i64_in _ (by omega)
  have hsl : (shares q (zpolysTo q tape m)).length = N0 := by rw [shares_len, hqN]
  have hsg : ∀ i, (hi : i < (shares q (zpolysTo q tape m)).length) → (shares q (zpolysTo q tape m))[i] = share (zpolysTo q tape m) ((i : Int) + 1) := fun i hi => shares_get q _ i hi
  have hzl : (zpolysTo q tape m).length = m := zpolysTo_len _ _ _
  have hzr : ∀ j, (hj : j < (zpolysTo q tape m).length) → (zpolysTo q tape m)[j].length ≤ 1099511627 := fun j hj => by
    have h2 := hM
    rw [← hq] at h2
    rw [zpolysTo_get]
    have := zpoly_len h2 (take_ q.T.toNat tape j) (take_len _ _ _ (by
      have : (j + 1) * q.T.toNat ≤ t0 * m := by rw [hqT, Nat.mul_comm]; exact Nat.mul_le_mul (by simp) (by rw [hzl] at hj; omega)
      omega))
    unfold P.May at h2
    unfold need at this
    omega
  have K6 := fun X d i V (h : RowsAt V X (zpolysTo q tape m)) => R10.share_any X (zpolysTo q tape m) d i V h (by rw [hzl]; omega) hzr
  rw [hz, ha] at K1
  rw [hc] at K3
  rw [hr] at K2
  unfold Stripe.RetRowsE at K1
  rw [hsl] at K1
  unfold RetRows at K5
  rw [hzl] at K5 K6
  generalize shares q (zpolysTo q tape m) = rs at *
  generalize zpolysTo q tape m = zp at *
  have hshl : ∀ i, (share zp i).length = m := fun i => by rw [share_len]; exact hzl
  have H0 := Lib.hid K0; have H1 := Lib.hid K1; have H2 := Lib.hid K2; have BT := Lib.hid h; have H3 := Lib.hid K3; have H5 := Lib.hid K5; have H6 := Lib.hid K6; have HSG := Lib.hid hsg; have HSL := Lib.hid hsl; have HSHL := Lib.hid hshl
  obtain ⟨tl, htl⟩ : ∃ tl, tl = tape.length := ⟨_, rfl⟩
  rw [← htl] at H1 H2 H5 k h7 hx0 ⊢
  clear K0 K1 K2 K3 K5 K6 hp hn hr hq hv htl h hc hz ha hqN hqT hsl hsg hzl hzr hx hM hshl hx0
  obtain ⟨l1, _, l2⟩ := hl
  have HA := Lib.hid (PlanLies.new w N0 t0 L W S R)
  have HB0 := Lib.hid (balloc w (.cells #[.int .i64 (N0 : Nat), .int .i64 (t0 : Nat), .int .i64 L, .int .i64 W, .int .i64 S, .int .i64 R] 23))
  go_enter Try.func3, Try.ntmps3
  go_wp2_with fail
  generalize w.alloc (.cells #[.int .i64 (N0 : Nat), .int .i64 (t0 : Nat), .int .i64 L, .int .i64 W, .int .i64 S, .int .i64 R] 23) = w0 at *
  refine (H0.out _).mono ?_
  rintro e w1 ⟨rfl, hb1⟩
  have HB1 := Lib.hid (bstep HB0.out hb1)
  have HA1 := Lib.hid (HA.out.below hb1)
  clear hb1 HB0 HA
  go_wp2_with fail
  refine Drawn.wp_region_flowL 10 [Drawn.SP.tab, Drawn.SP.is (.agg #[.int .i64 (N0 : Nat), .int .i64 (t0 : Nat), .int .i64 L, .int .i64 W, .int .i64 S, .int .i64 R]), Drawn.SP.is (.int .i64 (m : Nat)), Drawn.SP.is (.slice A tl u), SP.rE rs N0 0, SP.rE rs N0 0, SP.rn rs N0, Drawn.SP.is (.int .i64 0), SP.rn rs N0, Drawn.SP.is (.int .i64 0)] (by kernel_rfl) (by kernel_rfl) ?_ ?_
  · intro i hi a wq hb hev hdep
    rcases (show i = 0 ∨ i = 1 ∨ i = 2 ∨ i = 3 ∨ i = 4 ∨ i = 5 ∨ i = 6 ∨ i = 7 ∨ i = 8 ∨ i = 9 by omega) with rfl | rfl | rfl | rfl | rfl | rfl | rfl | rfl | rfl | rfl
    · refine Drawn.wpOp_flow 22 rfl rfl rfl ?_
      clear hev hdep
      clear hb
      go_simp
      refine (Gf.new_any wq).mono ?_
      rintro e w' ⟨rfl, ht, hb', _⟩
      exact ⟨_, rfl, ⟨_, rfl, ht⟩, hb'⟩
    · have e3 : a.tmps[3]?.getD undef = .pointer (some ⟨w.heap.size, 0, none⟩) := hev 3 rfl
      refine Drawn.wpOp_flow 23 rfl rfl rfl ?_
      obtain ⟨c0, c1, c2, c3, c4, c5⟩ := six (HA1.out.below hb)
      clear hev hdep hb
      go_simp
      exact ⟨_, rfl, rfl, Below.refl _ _⟩
    · have e1 : a.tmps[1]?.getD undef = .int .i64 (m : Nat) := hev 1 rfl
      refine Drawn.wpOp_flow 24 rfl rfl rfl ?_
      clear hev hdep hb
      go_simp
      exact ⟨_, rfl, rfl, Below.refl _ _⟩
    · have e2 : a.tmps[2]?.getD undef = .slice A tl u := hev 2 rfl
      refine Drawn.wpOp_flow 25 rfl rfl rfl ?_
      clear hev hdep hb
      go_simp
      exact ⟨_, rfl, rfl, Below.refl _ _⟩
    · obtain ⟨bf, d0, ht⟩ : (Drawn.SP.tab).p (a.tmps[22]?.getD undef) wq := hdep 0 rfl
      have d1 : a.tmps[23]?.getD undef = .agg #[.int .i64 (N0 : Nat), .int .i64 (t0 : Nat), .int .i64 L, .int .i64 W, .int .i64 S, .int .i64 R] := hdep 1 rfl
      have d2 : a.tmps[24]?.getD undef = .int .i64 (m : Nat) := hdep 2 rfl
      have d3 : a.tmps[25]?.getD undef = .slice A tl u := hdep 3 rfl
      refine Drawn.wpOp_flow 26 rfl rfl rfl ?_
      clear hev hdep
      have C := H1.out bf wq ht (BT.out.below (bstep HB1.out hb))
      clear hb ht
      go_simp
      refine C.mono ?_
      rintro e w' ⟨X, f, rfl, g1, g2, g3, hb', _⟩
      exact ⟨_, rfl, ⟨X, f, rfl, g1, g2, g3⟩, hb'⟩
    · have d4 := hdep 4 rfl
      refine Drawn.wpOp_flow 21 rfl rfl rfl ?_
      clear hev hdep hb
      go_simp
      exact ⟨_, rfl, d4, Below.refl _ _⟩
    · obtain ⟨Z, dz, d5, z1, z2, z3⟩ : (SP.rE rs N0 0).p (a.tmps[21]?.getD undef) wq := hdep 5 rfl
      refine Drawn.wpOp_flow 27 rfl rfl rfl ?_
      clear hev hdep
      clear hb
      go_simp
      exact ⟨_, rfl, ⟨Z, dz, rfl, z1, z2, z3⟩, Below.refl _ _⟩
    · obtain ⟨Z, dz, d5, z1, z2, z3⟩ : (SP.rE rs N0 0).p (a.tmps[21]?.getD undef) wq := hdep 5 rfl
      refine Drawn.wpOp_flow 28 rfl rfl rfl ?_
      clear hev hdep hb
      go_simp
      exact ⟨_, rfl, rfl, Below.refl _ _⟩
    · have d6 := hdep 6 rfl
      refine Drawn.wpOp_flow 7 rfl rfl rfl ?_
      clear hev hdep hb
      go_simp
      exact ⟨_, rfl, d6, Below.refl _ _⟩
    · have d7 : a.tmps[28]?.getD undef = .int .i64 0 := hdep 7 rfl
      refine Drawn.wpOp_flow 8 rfl rfl rfl ?_
      clear hev hdep hb
      go_simp
      exact ⟨_, rfl, rfl, Below.refl _ _⟩
  · intro xq wq hb hxq
    have vq1 : xq 1 = .agg #[.int .i64 (N0 : Nat), .int .i64 (t0 : Nat), .int .i64 L, .int .i64 W, .int .i64 S, .int .i64 R] := hxq 1 (by omega)
    have vq2 : xq 2 = .int .i64 (m : Nat) := hxq 2 (by omega)
    have vq3 : xq 3 = .slice A tl u := hxq 3 (by omega)
    have vq7 : xq 7 = .int .i64 0 := hxq 7 (by omega)
    obtain ⟨Z, dz, vq8, z1, z2, z3⟩ : (SP.rn rs N0).p (xq 8) wq := hxq 8 (by omega)
    have vq9 : xq 9 = .int .i64 0 := hxq 9 (by omega)
    show Exit.then _ _ Exit.normal (Drawn.acts _ [(8, some (xq 9)), (7, some (xq 8)), (28, some (xq 7)), (27, some (xq 6)), (21, some (xq 5)), (26, some (xq 4)), (25, some (xq 3)), (24, some (xq 2)), (23, some (xq 1)), (22, some (xq 0))]) _
    rw [vq1, vq2, vq3, vq7, vq8, vq9]
    clear hxq vq1 vq2 vq3 vq7 vq8 vq9
    generalize xq 0 = yq0
    generalize xq 4 = yq4
    generalize xq 5 = yq5
    generalize xq 6 = yq6
    clear xq
    simp only [Drawn.acts]
    go_simp
    have HZ := Lib.hid z3
    have HB2 := Lib.hid (bstep HB1.out hb)
    have HA2 := Lib.hid (HA1.out.below hb)
    obtain ⟨c0, c1, c2, c3, c4, c5⟩ := six HA2.out
    clear hb z3
    go_wp2_with fail
    refine (H2.out _).mono ?_
    rintro e w2 ⟨rfl, hb2⟩
    have HB3 := Lib.hid (bstep HB2.out hb2)
    have HA3 := Lib.hid (HA2.out.below hb2)
    have HZ3 := Lib.hid (HZ.out.below hb2)
    clear c0 c1 c2 c3 c4 c5 hb2
    go_wp2_with fail
    refine Drawn.wp_region_flowL 19 [Drawn.SP.is (.int .i64 0), Drawn.SP.is (.bool false), Drawn.SP.is (.bool false), Drawn.SP.is (.slice Z N0 dz), Drawn.SP.is (.int .i64 (N0 : Nat)), Drawn.SP.is (.pointer (some ⟨w.heap.size, 0, none⟩)), Drawn.SP.is (.int .i64 (N0 : Nat)), Drawn.SP.is (.bool false), Drawn.SP.is (.bool false), Drawn.SP.is (.bool false), Drawn.SP.is (.agg #[.int .i64 (N0 : Nat), .int .i64 (t0 : Nat), .int .i64 L, .int .i64 W, .int .i64 S, .int .i64 R]), Drawn.SP.is (.int .i64 (m : Nat)), Drawn.SP.is (.int .i64 (x : Nat)), Drawn.SP.is (.pointer (some ⟨w.heap.size, 1, none⟩)), Drawn.SP.is (.int .i64 (t0 : Nat)), Drawn.SP.is (.int .i64 (m : Nat)), Drawn.SP.is (.int .i64 (x : Nat)), Drawn.SP.is (.bool false), Drawn.SP.is (.bool false)] (by kernel_rfl) (by kernel_rfl) ?_ ?_
    · intro i hi a wy hb hev hdep
      rcases (show i = 0 ∨ i = 1 ∨ i = 2 ∨ i = 3 ∨ i = 4 ∨ i = 5 ∨ i = 6 ∨ i = 7 ∨ i = 8 ∨ i = 9 ∨ i = 10 ∨ i = 11 ∨ i = 12 ∨ i = 13 ∨ i = 14 ∨ i = 15 ∨ i = 16 ∨ i = 17 ∨ i = 18 by omega) with rfl | rfl | rfl | rfl | rfl | rfl | rfl | rfl | rfl | rfl | rfl | rfl | rfl | rfl | rfl | rfl | rfl | rfl | rfl
      · have e8 : a.tmps[8]?.getD undef = .int .i64 0 := hev 8 rfl
        refine Drawn.wpOp_flow 56 rfl rfl rfl ?_
        clear hev hdep hb
        go_simp
        exact ⟨_, rfl, rfl, Below.refl _ _⟩
      · have d0 : a.tmps[56]?.getD undef = .int .i64 0 := hdep 0 rfl
        refine Drawn.wpOp_flow 57 rfl rfl rfl ?_
        clear hev hdep hb
        go_simp
        exact ⟨_, rfl, rfl, Below.refl _ _⟩
      · have d1 : a.tmps[57]?.getD undef = .bool false := hdep 1 rfl
        refine Drawn.wpOp_flow 58 rfl rfl rfl ?_
        clear hev hdep hb
        go_simp
        exact ⟨_, rfl, rfl, Below.refl _ _⟩
      · have e7 : a.tmps[7]?.getD undef = .slice Z N0 dz := hev 7 rfl
        have dg : a.tmps[58]?.getD undef = .bool false := hdep 2 rfl
        refine Drawn.wpOp_flow 59 rfl (Drawn.wanted_of rfl rfl rfl dg) rfl ?_
        clear dg
        clear hev hdep hb
        go_simp
        exact ⟨_, rfl, rfl, Below.refl _ _⟩
      · have d3 : a.tmps[59]?.getD undef = .slice Z N0 dz := hdep 3 rfl
        have dg : a.tmps[58]?.getD undef = .bool false := hdep 2 rfl
        refine Drawn.wpOp_flow 60 rfl (Drawn.wanted_of rfl rfl rfl dg) rfl ?_
        clear dg
        clear hev hdep hb
        go_simp
        exact ⟨_, rfl, rfl, Below.refl _ _⟩
      · have e3 : a.tmps[3]?.getD undef = .pointer (some ⟨w.heap.size, 0, none⟩) := hev 3 rfl
        have dg : a.tmps[58]?.getD undef = .bool false := hdep 2 rfl
        refine Drawn.wpOp_flow 61 rfl (Drawn.wanted_of rfl rfl rfl dg) rfl ?_
        clear dg
        clear hev hdep hb
        go_simp
        exact ⟨_, rfl, rfl, Below.refl _ _⟩
      · have d5 : a.tmps[61]?.getD undef = .pointer (some ⟨w.heap.size, 0, none⟩) := hdep 5 rfl
        have dg : a.tmps[58]?.getD undef = .bool false := hdep 2 rfl
        refine Drawn.wpOp_flow 62 rfl (Drawn.wanted_of rfl rfl rfl dg) rfl ?_
        obtain ⟨c0, c1, c2, c3, c4, c5⟩ := six (HA3.out.below hb)
        clear dg
        clear hev hdep hb
        go_simp
        exact ⟨_, rfl, rfl, Below.refl _ _⟩
      · have d4 : a.tmps[60]?.getD undef = .int .i64 (N0 : Nat) := hdep 4 rfl
        have d6 : a.tmps[62]?.getD undef = .int .i64 (N0 : Nat) := hdep 6 rfl
        have dg : a.tmps[58]?.getD undef = .bool false := hdep 2 rfl
        refine Drawn.wpOp_flow 63 rfl (Drawn.wanted_of rfl rfl rfl dg) rfl ?_
        clear dg
        clear hev hdep hb
        go_simp
        exact ⟨_, rfl, rfl, Below.refl _ _⟩
      · have d2 : a.tmps[58]?.getD undef = .bool false := hdep 2 rfl
        have d7 : a.tmps[63]?.getD undef = .bool false := hdep 7 rfl
        refine Drawn.wpOp_flow 64 rfl rfl rfl ?_
        clear hev hdep hb
        go_simp
        exact ⟨_, rfl, rfl, Below.refl _ _⟩
      · have d8 : a.tmps[64]?.getD undef = .bool false := hdep 8 rfl
        refine Drawn.wpOp_flow 65 rfl rfl rfl ?_
        clear hev hdep hb
        go_simp
        exact ⟨_, rfl, rfl, Below.refl _ _⟩
      · have e3 : a.tmps[3]?.getD undef = .pointer (some ⟨w.heap.size, 0, none⟩) := hev 3 rfl
        have dg : a.tmps[65]?.getD undef = .bool false := hdep 9 rfl
        refine Drawn.wpOp_flow 66 rfl (Drawn.wanted_of rfl rfl rfl dg) rfl ?_
        obtain ⟨c0, c1, c2, c3, c4, c5⟩ := six (HA3.out.below hb)
        clear dg
        clear hev hdep hb
        go_simp
        exact ⟨_, rfl, rfl, Below.refl _ _⟩
      · have e1 : a.tmps[1]?.getD undef = .int .i64 (m : Nat) := hev 1 rfl
        have dg : a.tmps[65]?.getD undef = .bool false := hdep 9 rfl
        refine Drawn.wpOp_flow 67 rfl (Drawn.wanted_of rfl rfl rfl dg) rfl ?_
        clear dg
        clear hev hdep hb
        go_simp
        exact ⟨_, rfl, rfl, Below.refl _ _⟩
      · have d10 : a.tmps[66]?.getD undef = .agg #[.int .i64 (N0 : Nat), .int .i64 (t0 : Nat), .int .i64 L, .int .i64 W, .int .i64 S, .int .i64 R] := hdep 10 rfl
        have d11 : a.tmps[67]?.getD undef = .int .i64 (m : Nat) := hdep 11 rfl
        have dg : a.tmps[65]?.getD undef = .bool false := hdep 9 rfl
        refine Drawn.wpOp_flow 68 rfl (Drawn.wanted_of rfl rfl rfl dg) rfl ?_
        clear hev hdep
        clear hb dg
        go_simp
        refine (H3.out wy).mono ?_
        rintro e w' ⟨rfl, hb'⟩
        exact ⟨_, rfl, rfl, hb'⟩
      · have e3 : a.tmps[3]?.getD undef = .pointer (some ⟨w.heap.size, 0, none⟩) := hev 3 rfl
        have dg : a.tmps[65]?.getD undef = .bool false := hdep 9 rfl
        refine Drawn.wpOp_flow 69 rfl (Drawn.wanted_of rfl rfl rfl dg) rfl ?_
        clear dg
        clear hev hdep hb
        go_simp
        exact ⟨_, rfl, rfl, Below.refl _ _⟩
      · have d13 : a.tmps[69]?.getD undef = .pointer (some ⟨w.heap.size, 1, none⟩) := hdep 13 rfl
        have dg : a.tmps[65]?.getD undef = .bool false := hdep 9 rfl
        refine Drawn.wpOp_flow 70 rfl (Drawn.wanted_of rfl rfl rfl dg) rfl ?_
        obtain ⟨c0, c1, c2, c3, c4, c5⟩ := six (HA3.out.below hb)
        clear dg
        clear hev hdep hb
        go_simp
        exact ⟨_, rfl, rfl, Below.refl _ _⟩
      · have e1 : a.tmps[1]?.getD undef = .int .i64 (m : Nat) := hev 1 rfl
        have dg : a.tmps[65]?.getD undef = .bool false := hdep 9 rfl
        refine Drawn.wpOp_flow 71 rfl (Drawn.wanted_of rfl rfl rfl dg) rfl ?_
        clear dg
        clear hev hdep hb
        go_simp
        exact ⟨_, rfl, rfl, Below.refl _ _⟩
      · have d14 : a.tmps[70]?.getD undef = .int .i64 (t0 : Nat) := hdep 14 rfl
        have d15 : a.tmps[71]?.getD undef = .int .i64 (m : Nat) := hdep 15 rfl
        have dg : a.tmps[65]?.getD undef = .bool false := hdep 9 rfl
        refine Drawn.wpOp_flow 72 rfl (Drawn.wanted_of rfl rfl rfl dg) rfl ?_
        clear dg
        clear hev hdep hb
        go_simp
        exact ⟨_, rfl, rfl, Below.refl _ _⟩
      · have d12 : a.tmps[68]?.getD undef = .int .i64 (x : Nat) := hdep 12 rfl
        have d16 : a.tmps[72]?.getD undef = .int .i64 (x : Nat) := hdep 16 rfl
        have dg : a.tmps[65]?.getD undef = .bool false := hdep 9 rfl
        refine Drawn.wpOp_flow 73 rfl (Drawn.wanted_of rfl rfl rfl dg) rfl ?_
        clear dg
        clear hev hdep hb
        go_simp
        exact ⟨_, rfl, rfl, Below.refl _ _⟩
      · have d9 : a.tmps[65]?.getD undef = .bool false := hdep 9 rfl
        have d17 : a.tmps[73]?.getD undef = .bool false := hdep 17 rfl
        refine Drawn.wpOp_flow 74 rfl rfl rfl ?_
        clear hev hdep hb
        go_simp
        exact ⟨_, rfl, rfl, Below.refl _ _⟩
    · intro xq wy hb hxq
      have vq0 : xq 0 = .int .i64 0 := hxq 0 (by omega)
      have vq1 : xq 1 = .bool false := hxq 1 (by omega)
      have vq2 : xq 2 = .bool false := hxq 2 (by omega)
      have vq3 : xq 3 = .slice Z N0 dz := hxq 3 (by omega)
      have vq4 : xq 4 = .int .i64 (N0 : Nat) := hxq 4 (by omega)
      have vq5 : xq 5 = .pointer (some ⟨w.heap.size, 0, none⟩) := hxq 5 (by omega)
      have vq6 : xq 6 = .int .i64 (N0 : Nat) := hxq 6 (by omega)
      have vq7 : xq 7 = .bool false := hxq 7 (by omega)
      have vq8 : xq 8 = .bool false := hxq 8 (by omega)
      have vq9 : xq 9 = .bool false := hxq 9 (by omega)
      have vq10 : xq 10 = .agg #[.int .i64 (N0 : Nat), .int .i64 (t0 : Nat), .int .i64 L, .int .i64 W, .int .i64 S, .int .i64 R] := hxq 10 (by omega)
      have vq11 : xq 11 = .int .i64 (m : Nat) := hxq 11 (by omega)
      have vq12 : xq 12 = .int .i64 (x : Nat) := hxq 12 (by omega)
      have vq13 : xq 13 = .pointer (some ⟨w.heap.size, 1, none⟩) := hxq 13 (by omega)
      have vq14 : xq 14 = .int .i64 (t0 : Nat) := hxq 14 (by omega)
      have vq15 : xq 15 = .int .i64 (m : Nat) := hxq 15 (by omega)
      have vq16 : xq 16 = .int .i64 (x : Nat) := hxq 16 (by omega)
      have vq17 : xq 17 = .bool false := hxq 17 (by omega)
      have vq18 : xq 18 = .bool false := hxq 18 (by omega)
      show Exit.then _ _ Exit.normal (Drawn.acts _ [(74, some (xq 18)), (73, some (xq 17)), (72, some (xq 16)), (71, some (xq 15)), (70, some (xq 14)), (69, some (xq 13)), (68, some (xq 12)), (67, some (xq 11)), (66, some (xq 10)), (65, some (xq 9)), (64, some (xq 8)), (63, some (xq 7)), (62, some (xq 6)), (61, some (xq 5)), (60, some (xq 4)), (59, some (xq 3)), (58, some (xq 2)), (57, some (xq 1)), (56, some (xq 0))]) _
      rw [vq0, vq1, vq2, vq3, vq4, vq5, vq6, vq7, vq8, vq9, vq10, vq11, vq12, vq13, vq14, vq15, vq16, vq17, vq18]
      clear hxq vq0 vq1 vq2 vq3 vq4 vq5 vq6 vq7 vq8 vq9 vq10 vq11 vq12 vq13 vq14 vq15 vq16 vq17 vq18
      clear xq
      simp only [Drawn.acts]
      go_simp
      have HB4 := Lib.hid (bstep HB3.out hb)
      have HA4 := Lib.hid (HA3.out.below hb)
      have HZ4 := Lib.hid (HZ3.out.below hb)
      obtain ⟨c0, c1, c2, c3, c4, c5⟩ := six HA4.out
      clear hb
      go_wp2_with fail
      refine (H5.out _ (BT.out.below HB4.out)).mono ?_
      rintro e w5 ⟨X, dX, rfl, x1, x2, hX, hb5, _⟩
      have HX := Lib.hid hX
      have HB5 := Lib.hid (bstep HB4.out hb5)
      have HZ5 := Lib.hid (HZ4.out.below hb5)
      clear c0 c1 c2 c3 c4 c5 hb5 hX
      go_wp2_with fail
      go_loopw [81] (fun i wr => ∃ k : Nat, k ≤ N0 ∧ i = .int .i64 k ∧ Below w5.heap.size w5 wr) (fun i _ => N0 - (intOf i).toNat)
      case atStart => exact ⟨0, Nat.zero_le _, rfl, Below.refl _ _⟩
      case round =>
      obtain ⟨k, hk, rfl, hbr⟩ := hrel
      rename World => wr
      have HBR := Lib.hid hbr
      clear hbr
      by_cases hlt : k < N0
      · have hkl : k < rs.length := by rw [HSL.out]; exact hlt
        obtain ⟨zb, zo, B, cr, rfl, e1, g1, g2, hB⟩ := (HZ5.out.below HBR.out).row hkl
        rw [HSG.out k hkl] at e1 g1 hB
        have hsh := HSHL.out ((k : Int) + 1)
        have HSH := Lib.hid (fun V (h : RowsAt V X zp) => H6.out X dX ((k : Int) + 1) V h)
        generalize share zp ((k : Int) + 1) = sh at *
        have hshl : sh.length ≤ maxLen := by unfold maxLen; omega
        have E1 := Lib.hid e1; have HBY := Lib.hid hB
        have i1 : IntKind.i64.wrap ((k : Int) + 1) = (k : Int) + 1 := IntWalk.i64_in _ (by omega)
        clear e1 hB hsh hkl
        go_wp2_with fail
        refine Drawn.wp_region_flowL 10 [Drawn.SP.is (.slice (some ⟨zb, zo, none⟩) N0 dz), Drawn.SP.is (.int .i64 (k : Nat)), Drawn.SP.is (.pointer (some ⟨zb, zo + k, none⟩)), Drawn.SP.is (.slice B sh.length cr), Drawn.SP.is (.slice X m dX), Drawn.SP.is (.int .i64 (k : Nat)), Drawn.SP.is (.int .i64 ((k : Int) + 1)), SP.bn sh sh.length, Drawn.SP.is (.bool true), Drawn.SP.is (.bool false)] (by kernel_rfl) (by kernel_rfl) ?_ ?_
        · intro i hi a w9 hb hev hdep
          rcases (show i = 0 ∨ i = 1 ∨ i = 2 ∨ i = 3 ∨ i = 4 ∨ i = 5 ∨ i = 6 ∨ i = 7 ∨ i = 8 ∨ i = 9 by omega) with rfl | rfl | rfl | rfl | rfl | rfl | rfl | rfl | rfl | rfl
          · have e7 : a.tmps[7]?.getD undef = .slice (some ⟨zb, zo, none⟩) N0 dz := hev 7 rfl
            refine Drawn.wpOp_flow 84 rfl rfl rfl ?_
            clear hev hdep hb
            go_simp
            exact ⟨_, rfl, rfl, Below.refl _ _⟩
          · have e11 : a.tmps[11]?.getD undef = .int .i64 (k : Nat) := hev 11 rfl
            refine Drawn.wpOp_flow 85 rfl rfl rfl ?_
            clear hev hdep hb
            go_simp
            exact ⟨_, rfl, rfl, Below.refl _ _⟩
          · have d0 : a.tmps[84]?.getD undef = .slice (some ⟨zb, zo, none⟩) N0 dz := hdep 0 rfl
            have d1 : a.tmps[85]?.getD undef = .int .i64 (k : Nat) := hdep 1 rfl
            refine Drawn.wpOp_flow 86 rfl rfl rfl ?_
            clear hev hdep hb
            go_simp
            exact ⟨_, rfl, rfl, Below.refl _ _⟩
          · have d2 : a.tmps[86]?.getD undef = .pointer (some ⟨zb, zo + k, none⟩) := hdep 2 rfl
            refine Drawn.wpOp_flow 87 rfl rfl rfl ?_
            have k1 := (hb.cell (p := ⟨zb, zo + k, none⟩) (cell_lt E1.out)).trans E1.out
            clear hev hdep hb
            go_simp
            exact ⟨_, rfl, rfl, Below.refl _ _⟩
          · have e10 : a.tmps[10]?.getD undef = .slice X m dX := hev 10 rfl
            refine Drawn.wpOp_flow 88 rfl rfl rfl ?_
            clear hev hdep hb
            go_simp
            exact ⟨_, rfl, rfl, Below.refl _ _⟩
          · have e11 : a.tmps[11]?.getD undef = .int .i64 (k : Nat) := hev 11 rfl
            refine Drawn.wpOp_flow 89 rfl rfl rfl ?_
            clear hev hdep hb
            go_simp
            exact ⟨_, rfl, rfl, Below.refl _ _⟩
          · have d5 : a.tmps[89]?.getD undef = .int .i64 (k : Nat) := hdep 5 rfl
            refine Drawn.wpOp_flow 90 rfl rfl rfl ?_
            clear hev hdep hb
            go_simp
            exact ⟨_, rfl, rfl, Below.refl _ _⟩
          · have d4 : a.tmps[88]?.getD undef = .slice X m dX := hdep 4 rfl
            have d6 : a.tmps[90]?.getD undef = .int .i64 ((k : Int) + 1) := hdep 6 rfl
            refine Drawn.wpOp_flow 91 rfl rfl rfl ?_
            clear hev hdep
            have C := HSH.out w9 (HX.out.below (bstep HBR.out hb))
            clear hb
            go_simp
            refine C.mono ?_
            rintro e w' ⟨Y, dY, rfl, _, _, hY, hb', _⟩
            exact ⟨_, rfl, ⟨Y, dY, rfl, hY⟩, hb'⟩
          · have d3 : a.tmps[87]?.getD undef = .slice B sh.length cr := hdep 3 rfl
            obtain ⟨Y, dY, d7, hY⟩ : (SP.bn sh sh.length).p (a.tmps[91]?.getD undef) w9 := hdep 7 rfl
            refine Drawn.wpOp_flow 92 rfl rfl rfl ?_
            clear hev hdep
            have C := R01.same_any B Y sh sh cr dY w9 (HBY.out.below hb) hY (by omega) (by omega)
            rw [same_self] at C
            clear hb hY
            go_simp
            refine C.mono ?_
            rintro e w' ⟨rfl, hq⟩
            exact ⟨_, rfl, rfl, bquiet hq⟩
          · have d8 : a.tmps[92]?.getD undef = .bool true := hdep 8 rfl
            refine Drawn.wpOp_flow 93 rfl rfl rfl ?_
            clear hev hdep hb
            go_simp
            exact ⟨_, rfl, rfl, Below.refl _ _⟩
        · intro xq w9 hb hxq
          have vq0 : xq 0 = .slice (some ⟨zb, zo, none⟩) N0 dz := hxq 0 (by omega)
          have vq1 : xq 1 = .int .i64 (k : Nat) := hxq 1 (by omega)
          have vq2 : xq 2 = .pointer (some ⟨zb, zo + k, none⟩) := hxq 2 (by omega)
          have vq3 : xq 3 = .slice B sh.length cr := hxq 3 (by omega)
          have vq4 : xq 4 = .slice X m dX := hxq 4 (by omega)
          have vq5 : xq 5 = .int .i64 (k : Nat) := hxq 5 (by omega)
          have vq6 : xq 6 = .int .i64 ((k : Int) + 1) := hxq 6 (by omega)
          have vq8 : xq 8 = .bool true := hxq 8 (by omega)
          have vq9 : xq 9 = .bool false := hxq 9 (by omega)
          show Exit.then _ _ Exit.normal (Drawn.acts _ [(93, some (xq 9)), (92, some (xq 8)), (91, some (xq 7)), (90, some (xq 6)), (89, some (xq 5)), (88, some (xq 4)), (87, some (xq 3)), (86, some (xq 2)), (85, some (xq 1)), (84, some (xq 0))]) _
          rw [vq0, vq1, vq2, vq3, vq4, vq5, vq6, vq8, vq9]
          clear hxq vq0 vq1 vq2 vq3 vq4 vq5 vq6 vq8 vq9
          generalize xq 7 = yq7
          clear xq
          simp only [Drawn.acts]
          go_simp
          go_wp2
          go_roundw
          case rel => exact ⟨k + 1, by omega, by go_num, bstep HBR.out hb⟩
          case measure => simp [intOf] <;> omega
      · obtain rfl : k = N0 := by omega
        go_wp2_with fail
        refine (alive_any _).mono ?_
        rintro e w6 ⟨rfl, hb6⟩
        go_wp2
        go_ret
        exact ⟨rfl, bstep HB5.out (bstep HBR.out hb6)⟩

theorem shares_law (q : P) (n : Int) (A : Option Addr) (tape : List UInt8) (u : Nat) (w : World) (hp : q.In) (hn : In64 n) (h : BytesAt w A tape) (k : tape.length ≤ u) (z : u ≤ maxLen) :
    Calls Try.prog 3 #[q.val, .int .i64 n, .slice A tape.length u] w fun e w' => e = .returned (.bool true) ∧ Below w.heap.size w w' := by
  obtain ⟨N, T, L, W, S, R⟩ := q
  by_cases hl : N ≤ 12 ∧ L ≤ 12 ∧ T ≤ 12
  · by_cases h7 : 700 < tape.length
    · exact sh_long N T L W S R n A tape u w hp hn hl h7
    · by_cases hr : zcheck ⟨N, T, L, W, S, R⟩ n tape = 0
      · have hr2 := hr
        unfold zcheck at hr2
        split at hr2
        · rename_i e1
          have hM : P.May ⟨N, T, L, W, S, R⟩ := of_decide_eq_true e1
          have hM' := hM
          unfold P.May at hM'
          simp only at hM' hr2
          split at hr2
          · omega
          · rename_i e2
            split at hr2
            · omega
            · rename_i e3
              obtain ⟨N0, rfl⟩ : ∃ a : Nat, N = a := ⟨N.toNat, by omega⟩
              obtain ⟨t0, rfl⟩ : ∃ a : Nat, T = a := ⟨T.toNat, by omega⟩
              obtain ⟨m, rfl⟩ : ∃ a : Nat, n = a := ⟨n.toNat, by omega⟩
              exact sh_ok L W S R N0 t0 m A tape u w hp h k z hl (by omega) hr hM (by omega) (by rw [← Int.natCast_mul] at e3; omega)
        · omega
      · exact sh_bad N T L W S R n A tape u w hp hn h k z hl (by omega) hr
  · exact sh_heavy N T L W S R n A tape u w hp hn hl
end Go.Proofs.Ytofhklimofdepaa.Law12
