/- the walk of MaskShifts -/
import Derived.Test.YtompeiemioeohaaLaw14
set_option maxRecDepth 100000
namespace Go.Proofs.Ytompeiemioeohaa.Law14
open Go.RowKit PlanM StripeM LagrM DealM RebM ZeroM MaskM Law08 Law10
set_option maxHeartbeats 1000000 in
theorem shifts_heavy (N T L W S R : Int) (A1 A : Option Addr) (dn zn c1 c : Nat) (w : World) (hl : ¬ (N ≤ 12 ∧ L ≤ 12 ∧ T ≤ 12))  :
    Calls Try.prog 3 #[.agg #[.int .i64 N, .int .i64 T, .int .i64 L, .int .i64 W, .int .i64 S, .int .i64 R], .slice A1 dn c1, .slice A zn c] w fun e w' => e = .returned (.bool true) ∧ Below w.heap.size w w' := by
  have K0 := fun w => Law10.light_any N T L W S R w
  rw [decide_eq_false hl] at K0
  have H0 := Lib.hid K0
  clear K0 hl
  have HA := Lib.hid (PlanLies.new w N T L W S R)
  have HB0 := Lib.hid (balloc w (.cells #[.int .i64 N, .int .i64 T, .int .i64 L, .int .i64 W, .int .i64 S, .int .i64 R] 23))
  go_enter Try.func3, Try.ntmps3
  go_wp2_with fail
  generalize w.alloc (.cells #[.int .i64 N, .int .i64 T, .int .i64 L, .int .i64 W, .int .i64 S, .int .i64 R] 23) = w0 at *
  obtain ⟨c0, c1', c2, c3, c4, c5⟩ := six HA.out
  refine (H0.out _).mono ?_
  rintro e w1 ⟨rfl, hb1⟩
  clear c0 c1' c2 c3 c4 c5
  have HB1 := Lib.hid (bstep HB0.out hb1)
  have HA1 := Lib.hid (HA.out.below hb1)
  clear hb1
  go_wp2_with fail
  refine (alive_any _).mono ?_
  rintro e w9 ⟨rfl, hb9⟩
  go_wp2
  go_ret
  exact ⟨rfl, bstep HB1.out hb9⟩
set_option maxHeartbeats 1000000 in
theorem shifts_long (N T L W S R : Int) (A1 A : Option Addr) (dn zn c1 c : Nat) (w : World) (hl : N ≤ 12 ∧ L ≤ 12 ∧ T ≤ 12) (hd : 20 < dn) :
    Calls Try.prog 3 #[.agg #[.int .i64 N, .int .i64 T, .int .i64 L, .int .i64 W, .int .i64 S, .int .i64 R], .slice A1 dn c1, .slice A zn c] w fun e w' => e = .returned (.bool true) ∧ Below w.heap.size w w' := by
  have K0 := fun w => Law10.light_any N T L W S R w
  rw [decide_eq_true hl] at K0
  have H0 := Lib.hid K0
  clear K0 hl
  have HA := Lib.hid (PlanLies.new w N T L W S R)
  have HB0 := Lib.hid (balloc w (.cells #[.int .i64 N, .int .i64 T, .int .i64 L, .int .i64 W, .int .i64 S, .int .i64 R] 23))
  go_enter Try.func3, Try.ntmps3
  go_wp2_with fail
  generalize w.alloc (.cells #[.int .i64 N, .int .i64 T, .int .i64 L, .int .i64 W, .int .i64 S, .int .i64 R] 23) = w0 at *
  obtain ⟨c0, c1', c2, c3, c4, c5⟩ := six HA.out
  refine (H0.out _).mono ?_
  rintro e w1 ⟨rfl, hb1⟩
  clear c0 c1' c2 c3 c4 c5
  have HB1 := Lib.hid (bstep HB0.out hb1)
  have HA1 := Lib.hid (HA.out.below hb1)
  clear hb1
  go_wp2_with fail
  refine (alive_any _).mono ?_
  rintro e w9 ⟨rfl, hb9⟩
  go_wp2
  go_ret
  exact ⟨rfl, bstep HB1.out hb9⟩
set_option maxHeartbeats 1000000 in
theorem shifts_many (N T L W S R : Int) (A1 A : Option Addr) (dn zn c1 c : Nat) (w : World) (hl : N ≤ 12 ∧ L ≤ 12 ∧ T ≤ 12) (hd : dn ≤ 20) (hz : 20 < zn) :
    Calls Try.prog 3 #[.agg #[.int .i64 N, .int .i64 T, .int .i64 L, .int .i64 W, .int .i64 S, .int .i64 R], .slice A1 dn c1, .slice A zn c] w fun e w' => e = .returned (.bool true) ∧ Below w.heap.size w w' := by
  have K0 := fun w => Law10.light_any N T L W S R w
  rw [decide_eq_true hl] at K0
  have H0 := Lib.hid K0
  clear K0 hl
  have HA := Lib.hid (PlanLies.new w N T L W S R)
  have HB0 := Lib.hid (balloc w (.cells #[.int .i64 N, .int .i64 T, .int .i64 L, .int .i64 W, .int .i64 S, .int .i64 R] 23))
  go_enter Try.func3, Try.ntmps3
  go_wp2_with fail
  generalize w.alloc (.cells #[.int .i64 N, .int .i64 T, .int .i64 L, .int .i64 W, .int .i64 S, .int .i64 R] 23) = w0 at *
  obtain ⟨c0, c1', c2, c3, c4, c5⟩ := six HA.out
  refine (H0.out _).mono ?_
  rintro e w1 ⟨rfl, hb1⟩
  clear c0 c1' c2 c3 c4 c5
  have HB1 := Lib.hid (bstep HB0.out hb1)
  have HA1 := Lib.hid (HA.out.below hb1)
  clear hb1
  go_wp2_with fail
  refine (alive_any _).mono ?_
  rintro e w9 ⟨rfl, hb9⟩
  go_wp2
  go_ret
  exact ⟨rfl, bstep HB1.out hb9⟩

set_option maxHeartbeats 4000000 in
theorem shifts_bad (N T L W S R : Int) (A1 A : Option Addr) (delta : List UInt8) (z : List Int) (c1 c : Nat) (w : World) (hp : (⟨N, T, L, W, S, R⟩ : P).In) (h1 : BytesAt w A1 delta) (h : IntsAt w A z) (hi : ∀ x ∈ z, In64 x) (hl : N ≤ 12 ∧ L ≤ 12 ∧ T ≤ 12) (hd : delta.length ≤ 20) (hzn : z.length ≤ 20) (he : mcheck ⟨N, T, L, W, S, R⟩ delta z ≠ 0) :
    Calls Try.prog 3 #[.agg #[.int .i64 N, .int .i64 T, .int .i64 L, .int .i64 W, .int .i64 S, .int .i64 R], .slice A1 delta.length c1, .slice A z.length c] w fun e w' => e = .returned (.bool true) ∧ Below w.heap.size w w' := by
  have K0 := fun w => Law10.light_any N T L W S R w
  rw [decide_eq_true hl] at K0
  have H0 := Lib.hid K0
  have K1 := fun bf V ht h1 h => Mask.shift_any bf ⟨N, T, L, W, S, R⟩ A1 A delta c1 z c V hp ht h1 h (by omega) hi
  have K2 := fun V h => R14.check_any N T L W S R A1 A delta z c1 c V hp h (by omega)
  have e0 : Mask.shiftA ⟨N, T, L, W, S, R⟩ delta z = [] := by unfold Mask.shiftA; rw [if_neg he]
  rw [e0] at K1
  unfold Mask.RetSE at K1
  simp only [P.val, List.length_nil] at K1
  generalize mcheck ⟨N, T, L, W, S, R⟩ delta z = er at *
  obtain ⟨dn, hdn⟩ : ∃ dn, dn = delta.length := ⟨_, rfl⟩
  obtain ⟨zn, hzz⟩ : ∃ zn, zn = z.length := ⟨_, rfl⟩
  rw [← hdn] at K1 K2 hd ⊢
  rw [← hzz] at K1 K2 hzn ⊢
  have hne : (er != 0) = true := by simpa using he
  have H1 := Lib.hid K1; have H2 := Lib.hid K2; have D := Lib.hid h1; have ZS := Lib.hid h
  clear K0 K1 K2 hl h1 h hi hp he e0 hdn hzz
  have HA := Lib.hid (PlanLies.new w N T L W S R)
  have HB0 := Lib.hid (balloc w (.cells #[.int .i64 N, .int .i64 T, .int .i64 L, .int .i64 W, .int .i64 S, .int .i64 R] 23))
  go_enter Try.func3, Try.ntmps3
  go_wp2_with fail
  generalize w.alloc (.cells #[.int .i64 N, .int .i64 T, .int .i64 L, .int .i64 W, .int .i64 S, .int .i64 R] 23) = w0 at *
  obtain ⟨c0, c1', c2, c3, c4, c5⟩ := six HA.out
  refine (H0.out _).mono ?_
  rintro e w1 ⟨rfl, hb1⟩
  clear c0 c1' c2 c3 c4 c5
  have HB1 := Lib.hid (bstep HB0.out hb1)
  have HA1 := Lib.hid (HA.out.below hb1)
  clear hb1
  go_wp2_with fail
  refine Drawn.wp_region_flowL 10 [Drawn.SP.tab, Drawn.SP.is (.agg #[.int .i64 N, .int .i64 T, .int .i64 L, .int .i64 W, .int .i64 S, .int .i64 R]), Drawn.SP.is (.slice A1 dn c1), Drawn.SP.is (.slice A zn c), SP.sE [] 0 er, SP.sE [] 0 er, SP.bN [] 0, Drawn.SP.is (.int .i64 er), SP.bN [] 0, Drawn.SP.is (.int .i64 er)] (by kernel_rfl) (by kernel_rfl) ?_ ?_
  · intro i hi a wq hb hev hdep
    rcases (show i = 0 ∨ i = 1 ∨ i = 2 ∨ i = 3 ∨ i = 4 ∨ i = 5 ∨ i = 6 ∨ i = 7 ∨ i = 8 ∨ i = 9 by omega) with rfl | rfl | rfl | rfl | rfl | rfl | rfl | rfl | rfl | rfl
    · refine Drawn.wpOp_flow 29 rfl rfl rfl ?_
      clear hev hdep
      clear hb
      go_simp
      refine (Gf.new_any wq).mono ?_
      rintro e w' ⟨rfl, ht, hb', _⟩
      exact ⟨_, rfl, ⟨_, rfl, ht⟩, hb'⟩
    · have e3 : a.tmps[3]?.getD undef = .pointer (some ⟨w.heap.size, 0, none⟩) := hev 3 rfl
      refine Drawn.wpOp_flow 30 rfl rfl rfl ?_
      obtain ⟨c0, c1, c2, c3, c4, c5⟩ := six (HA1.out.below hb)
      clear hev hdep hb
      go_simp
      exact ⟨_, rfl, rfl, Below.refl _ _⟩
    · have e1 : a.tmps[1]?.getD undef = .slice A1 dn c1 := hev 1 rfl
      refine Drawn.wpOp_flow 31 rfl rfl rfl ?_
      clear hev hdep hb
      go_simp
      exact ⟨_, rfl, rfl, Below.refl _ _⟩
    · have e2 : a.tmps[2]?.getD undef = .slice A zn c := hev 2 rfl
      refine Drawn.wpOp_flow 32 rfl rfl rfl ?_
      clear hev hdep hb
      go_simp
      exact ⟨_, rfl, rfl, Below.refl _ _⟩
    · obtain ⟨bf, d0, ht⟩ : (Drawn.SP.tab).p (a.tmps[29]?.getD undef) wq := hdep 0 rfl
      have d1 : a.tmps[30]?.getD undef = .agg #[.int .i64 N, .int .i64 T, .int .i64 L, .int .i64 W, .int .i64 S, .int .i64 R] := hdep 1 rfl
      have d2 : a.tmps[31]?.getD undef = .slice A1 dn c1 := hdep 2 rfl
      have d3 : a.tmps[32]?.getD undef = .slice A zn c := hdep 3 rfl
      refine Drawn.wpOp_flow 33 rfl rfl rfl ?_
      clear hev hdep
      have C := H1.out bf wq ht (D.out.below (bstep HB1.out hb)) (ZS.out.below (bstep HB1.out hb))
      clear ht
      clear hb
      go_simp
      refine C.mono ?_
      rintro e w' ⟨X, d, rfl, g3, hb'⟩
      exact ⟨_, rfl, ⟨X, d, rfl, g3⟩, hb'⟩
    · have d4 := hdep 4 rfl
      refine Drawn.wpOp_flow 28 rfl rfl rfl ?_
      clear hev hdep hb
      go_simp
      exact ⟨_, rfl, d4, Below.refl _ _⟩
    · obtain ⟨Z, cz, d5, hz⟩ : (SP.sE [] 0 er).p (a.tmps[28]?.getD undef) wq := hdep 5 rfl
      refine Drawn.wpOp_flow 34 rfl rfl rfl ?_
      clear hev hdep
      clear hb
      go_simp
      exact ⟨_, rfl, ⟨Z, cz, rfl, hz⟩, Below.refl _ _⟩
    · obtain ⟨Z, cz, d5, hz⟩ : (SP.sE [] 0 er).p (a.tmps[28]?.getD undef) wq := hdep 5 rfl
      refine Drawn.wpOp_flow 35 rfl rfl rfl ?_
      clear hev hdep hb
      go_simp
      exact ⟨_, rfl, rfl, Below.refl _ _⟩
    · have d6 := hdep 6 rfl
      refine Drawn.wpOp_flow 7 rfl rfl rfl ?_
      clear hev hdep hb
      go_simp
      exact ⟨_, rfl, d6, Below.refl _ _⟩
    · have d7 : a.tmps[35]?.getD undef = .int .i64 er := hdep 7 rfl
      refine Drawn.wpOp_flow 8 rfl rfl rfl ?_
      clear hev hdep hb
      go_simp
      exact ⟨_, rfl, rfl, Below.refl _ _⟩
  · intro xq wq hb hxq
    have vq1 : xq 1 = .agg #[.int .i64 N, .int .i64 T, .int .i64 L, .int .i64 W, .int .i64 S, .int .i64 R] := hxq 1 (by omega)
    have vq2 : xq 2 = .slice A1 dn c1 := hxq 2 (by omega)
    have vq3 : xq 3 = .slice A zn c := hxq 3 (by omega)
    have vq7 : xq 7 = .int .i64 er := hxq 7 (by omega)
    obtain ⟨Z, cz, vq8, hz⟩ : (SP.bN [] 0).p (xq 8) wq := hxq 8 (by omega)
    have vq9 : xq 9 = .int .i64 er := hxq 9 (by omega)
    show Exit.then _ _ Exit.normal (Drawn.acts _ [(8, some (xq 9)), (7, some (xq 8)), (35, some (xq 7)), (34, some (xq 6)), (28, some (xq 5)), (33, some (xq 4)), (32, some (xq 3)), (31, some (xq 2)), (30, some (xq 1)), (29, some (xq 0))]) _
    rw [vq1, vq2, vq3, vq7, vq8, vq9]
    clear hxq vq1 vq2 vq3 vq7 vq8 vq9
    generalize xq 0 = yq0
    generalize xq 4 = yq4
    generalize xq 5 = yq5
    generalize xq 6 = yq6
    clear xq
    simp only [Drawn.acts]
    go_simp
    have HB2 := Lib.hid (bstep HB1.out hb)
    have HA2 := Lib.hid (HA1.out.below hb)
    clear hb hz
    obtain ⟨c0, c1', c2, c3, c4, c5⟩ := six HA2.out
    go_at_K
    go_wp2_with fail
    refine (H2.out _ (ZS.out.below HB2.out)).mono ?_
    rintro e w4 ⟨rfl, hb4⟩
    clear c0 c1' c2 c3 c4 c5
    have HB4 := Lib.hid (bstep HB2.out hb4)
    clear hb4
    go_wp2_with fail
    refine (alive_any _).mono ?_
    rintro e w9 ⟨rfl, hb9⟩
    go_wp2
    go_ret
    exact ⟨rfl, bstep HB4.out hb9⟩

set_option maxHeartbeats 1200000 in
theorem shifts_ok (W S R : Int) (n0 t0 l0 : Nat) (A1 A : Option Addr) (delta : List UInt8) (z : List Int) (c1 c : Nat) (w : World) (hp : (⟨n0, t0, l0, W, S, R⟩ : P).In) (h1 : BytesAt w A1 delta) (h : IntsAt w A z) (hi : ∀ x ∈ z, In64 x) (hl : (n0 : Int) ≤ 12 ∧ (l0 : Int) ≤ 12 ∧ (t0 : Int) ≤ 12) (hd : delta.length ≤ 20) (hzn : z.length ≤ 20) (hok : MOk ⟨n0, t0, l0, W, S, R⟩ delta z) :
    Calls Try.prog 3 #[.agg #[.int .i64 (n0 : Nat), .int .i64 (t0 : Nat), .int .i64 (l0 : Nat), .int .i64 W, .int .i64 S, .int .i64 R], .slice A1 delta.length c1, .slice A z.length c] w fun e w' => e = .returned (.bool true) ∧ Below w.heap.size w w' := by
  have he := mcheck_of hok
  have K0 := fun w => Law10.light_any n0 t0 l0 W S R w
  rw [decide_eq_true hl] at K0
  have H0 := Lib.hid K0
  have K1 := fun bf V ht h1 h => Mask.shift_any bf ⟨n0, t0, l0, W, S, R⟩ A1 A delta c1 z c V hp ht h1 h (by omega) hi
  have K2 := fun V h => R14.check_any n0 t0 l0 W S R A1 A delta z c1 c V hp h (by omega)
  have K3 := fun V h1 h => R14.shift_any W S R n0 t0 l0 A1 A delta z c1 c V h1 h hok
  have hM := hok.may
  unfold P.May at hM
  simp only at hM
  have K4 := fun V => R08.secrets_any ⟨n0, t0, l0, W, S, R⟩ V (by show (0 : Int) ≤ n0; omega) (by show (0 : Int) ≤ l0; omega) (by show (n0 : Int) + l0 ≤ 256; omega)
  have hsec := fun m (hm : m < l0) => shift_has hok (m := m) (by show m < (l0 : Int).toNat; omega)
  have hzer := fun x hx => shift_zero' hok (x := x) hx
  have hshl := shift_len hok
  have hdl := hok.len
  have hsl := secrets_len ⟨n0, t0, l0, W, S, R⟩
  have e0 : Mask.shiftA ⟨n0, t0, l0, W, S, R⟩ delta z = shift ⟨n0, t0, l0, W, S, R⟩ delta z := by unfold Mask.shiftA; rw [if_pos he]
  rw [e0, he] at K1
  rw [he] at K2
  unfold Mask.RetSE at K1
  unfold R14.RetB at K3
  unfold RetNew at K4
  simp only [P.val] at K1 K4
  simp only at hdl hsl hshl
  generalize P.secrets ⟨n0, t0, l0, W, S, R⟩ = sec at *
  generalize shift ⟨n0, t0, l0, W, S, R⟩ delta z = sh at *
  have ed : delta.length = l0 := by omega
  have esl : sec.length = l0 := by omega
  obtain ⟨sn, hsn⟩ : ∃ sn, sn = sh.length := ⟨_, rfl⟩
  have hsn2 : sn ≤ 24 := by omega
  rw [← hsn] at K1 K3
  rw [esl] at K4
  have HE0 := Lib.hid (fun m (hm : m < l0) (g1 : m < sec.length) (g2 : m < delta.length) Z cz V (hz : BytesAt V Z sh) => (show Calls Try.prog 16 #[.slice Z sn cz, .int .u8 ((sec[m]'g1).toNat : Nat)] V fun e w' => e = .returned (.int .u8 ((delta[m]'g2).toNat : Nat)) ∧ V = w' from by
    have C := R02.eval_any Z sh cz (sec[m]'g1) V hz (by omega)
    have e2 := hsec m hm
    rw [PolyM.co_get sec m g1, PolyM.co_get delta m g2] at e2
    rw [e2, ← hsn] at C
    exact C))
  have HZ0 := Lib.hid (fun x (hx : x ∈ z) Z cz V (hz : BytesAt V Z sh) => (show Calls Try.prog 16 #[.slice Z sn cz, .int .u8 ((point x).toNat : Nat)] V fun e w' => e = .returned (.int .u8 0) ∧ V = w' from by
    have C := R02.eval_any Z sh cz (point x) V hz (by omega)
    rw [hzer x hx, ← hsn] at C
    exact C))
  have HSN := Lib.hid hsn
  have HMX : Hid (sn ≤ maxLen) := Lib.hid (by unfold maxLen; omega)
  rw [ed] at K1 K2 K3 hd ⊢
  have HED := Lib.hid ed; have HES := Lib.hid esl
  obtain ⟨zn, hzz⟩ : ∃ zn, zn = z.length := ⟨_, rfl⟩
  rw [← hzz] at K1 K2 K3 hzn ⊢
  have HZZ := Lib.hid hzz
  have H1 := Lib.hid K1; have H2 := Lib.hid K2; have H3 := Lib.hid K3; have H4 := Lib.hid K4; have D := Lib.hid h1; have ZS := Lib.hid h
  have hl2 : l0 ≤ 12 := by omega
  clear K0 K1 K2 K3 K4 hl h1 h hi hp he e0 hdl hsl hsec hzer hshl hM hok hsn hsn2 ed esl hzz
  have HA := Lib.hid (PlanLies.new w n0 t0 l0 W S R)
  have HB0 := Lib.hid (balloc w (.cells #[.int .i64 (n0 : Nat), .int .i64 (t0 : Nat), .int .i64 (l0 : Nat), .int .i64 W, .int .i64 S, .int .i64 R] 23))
  go_enter Try.func3, Try.ntmps3
  go_wp2_with fail
  generalize w.alloc (.cells #[.int .i64 (n0 : Nat), .int .i64 (t0 : Nat), .int .i64 (l0 : Nat), .int .i64 W, .int .i64 S, .int .i64 R] 23) = w0 at *
  obtain ⟨c0, c1', c2, c3, c4, c5⟩ := six HA.out
  refine (H0.out _).mono ?_
  rintro e w1 ⟨rfl, hb1⟩
  clear c0 c1' c2 c3 c4 c5
  have HB1 := Lib.hid (bstep HB0.out hb1)
  have HA1 := Lib.hid (HA.out.below hb1)
  clear hb1
  go_wp2_with fail
  refine Drawn.wp_region_flowL 10 [Drawn.SP.tab, Drawn.SP.is (.agg #[.int .i64 (n0 : Nat), .int .i64 (t0 : Nat), .int .i64 (l0 : Nat), .int .i64 W, .int .i64 S, .int .i64 R]), Drawn.SP.is (.slice A1 l0 c1), Drawn.SP.is (.slice A zn c), SP.sE sh sn 0, SP.sE sh sn 0, SP.bN sh sn, Drawn.SP.is (.int .i64 0), SP.bN sh sn, Drawn.SP.is (.int .i64 0)] (by kernel_rfl) (by kernel_rfl) ?_ ?_
  · intro i hi a wq hb hev hdep
    rcases (show i = 0 ∨ i = 1 ∨ i = 2 ∨ i = 3 ∨ i = 4 ∨ i = 5 ∨ i = 6 ∨ i = 7 ∨ i = 8 ∨ i = 9 by omega) with rfl | rfl | rfl | rfl | rfl | rfl | rfl | rfl | rfl | rfl
    · refine Drawn.wpOp_flow 29 rfl rfl rfl ?_
      clear hev hdep
      clear hb
      go_simp
      refine (Gf.new_any wq).mono ?_
      rintro e w' ⟨rfl, ht, hb', _⟩
      exact ⟨_, rfl, ⟨_, rfl, ht⟩, hb'⟩
    · have e3 : a.tmps[3]?.getD undef = .pointer (some ⟨w.heap.size, 0, none⟩) := hev 3 rfl
      refine Drawn.wpOp_flow 30 rfl rfl rfl ?_
      obtain ⟨c0, c1, c2, c3, c4, c5⟩ := six (HA1.out.below hb)
      clear hev hdep hb
      go_simp
      exact ⟨_, rfl, rfl, Below.refl _ _⟩
    · have e1 : a.tmps[1]?.getD undef = .slice A1 l0 c1 := hev 1 rfl
      refine Drawn.wpOp_flow 31 rfl rfl rfl ?_
      clear hev hdep hb
      go_simp
      exact ⟨_, rfl, rfl, Below.refl _ _⟩
    · have e2 : a.tmps[2]?.getD undef = .slice A zn c := hev 2 rfl
      refine Drawn.wpOp_flow 32 rfl rfl rfl ?_
      clear hev hdep hb
      go_simp
      exact ⟨_, rfl, rfl, Below.refl _ _⟩
    · obtain ⟨bf, d0, ht⟩ : (Drawn.SP.tab).p (a.tmps[29]?.getD undef) wq := hdep 0 rfl
      have d1 : a.tmps[30]?.getD undef = .agg #[.int .i64 (n0 : Nat), .int .i64 (t0 : Nat), .int .i64 (l0 : Nat), .int .i64 W, .int .i64 S, .int .i64 R] := hdep 1 rfl
      have d2 : a.tmps[31]?.getD undef = .slice A1 l0 c1 := hdep 2 rfl
      have d3 : a.tmps[32]?.getD undef = .slice A zn c := hdep 3 rfl
      refine Drawn.wpOp_flow 33 rfl rfl rfl ?_
      clear hev hdep
      have C := H1.out bf wq ht (D.out.below (bstep HB1.out hb)) (ZS.out.below (bstep HB1.out hb))
      clear ht
      clear hb
      go_simp
      refine C.mono ?_
      rintro e w' ⟨X, d, rfl, g3, hb'⟩
      exact ⟨_, rfl, ⟨X, d, rfl, g3⟩, hb'⟩
    · have d4 := hdep 4 rfl
      refine Drawn.wpOp_flow 28 rfl rfl rfl ?_
      clear hev hdep hb
      go_simp
      exact ⟨_, rfl, d4, Below.refl _ _⟩
    · obtain ⟨Z, cz, d5, hz⟩ : (SP.sE sh sn 0).p (a.tmps[28]?.getD undef) wq := hdep 5 rfl
      refine Drawn.wpOp_flow 34 rfl rfl rfl ?_
      clear hev hdep
      clear hb
      go_simp
      exact ⟨_, rfl, ⟨Z, cz, rfl, hz⟩, Below.refl _ _⟩
    · obtain ⟨Z, cz, d5, hz⟩ : (SP.sE sh sn 0).p (a.tmps[28]?.getD undef) wq := hdep 5 rfl
      refine Drawn.wpOp_flow 35 rfl rfl rfl ?_
      clear hev hdep hb
      go_simp
      exact ⟨_, rfl, rfl, Below.refl _ _⟩
    · have d6 := hdep 6 rfl
      refine Drawn.wpOp_flow 7 rfl rfl rfl ?_
      clear hev hdep hb
      go_simp
      exact ⟨_, rfl, d6, Below.refl _ _⟩
    · have d7 : a.tmps[35]?.getD undef = .int .i64 0 := hdep 7 rfl
      refine Drawn.wpOp_flow 8 rfl rfl rfl ?_
      clear hev hdep hb
      go_simp
      exact ⟨_, rfl, rfl, Below.refl _ _⟩
  · intro xq wq hb hxq
    have vq1 : xq 1 = .agg #[.int .i64 (n0 : Nat), .int .i64 (t0 : Nat), .int .i64 (l0 : Nat), .int .i64 W, .int .i64 S, .int .i64 R] := hxq 1 (by omega)
    have vq2 : xq 2 = .slice A1 l0 c1 := hxq 2 (by omega)
    have vq3 : xq 3 = .slice A zn c := hxq 3 (by omega)
    have vq7 : xq 7 = .int .i64 0 := hxq 7 (by omega)
    obtain ⟨Z, cz, vq8, hz⟩ : (SP.bN sh sn).p (xq 8) wq := hxq 8 (by omega)
    have vq9 : xq 9 = .int .i64 0 := hxq 9 (by omega)
    show Exit.then _ _ Exit.normal (Drawn.acts _ [(8, some (xq 9)), (7, some (xq 8)), (35, some (xq 7)), (34, some (xq 6)), (28, some (xq 5)), (33, some (xq 4)), (32, some (xq 3)), (31, some (xq 2)), (30, some (xq 1)), (29, some (xq 0))]) _
    rw [vq1, vq2, vq3, vq7, vq8, vq9]
    clear hxq vq1 vq2 vq3 vq7 vq8 vq9
    generalize xq 0 = yq0
    generalize xq 4 = yq4
    generalize xq 5 = yq5
    generalize xq 6 = yq6
    clear xq
    simp only [Drawn.acts]
    go_simp
    have HB2 := Lib.hid (bstep HB1.out hb)
    have HA2 := Lib.hid (HA1.out.below hb)
    have HZ := Lib.hid hz
    clear hb hz
    obtain ⟨c0, c1', c2, c3, c4, c5⟩ := six HA2.out
    go_at_K
    go_wp2_with fail
    refine (H2.out _ (ZS.out.below HB2.out)).mono ?_
    rintro e w4 ⟨rfl, hb4⟩
    clear c0 c1' c2 c3 c4 c5
    have HB4 := Lib.hid (bstep HB2.out hb4)
    have HA4 := Lib.hid (HA2.out.below hb4)
    replace HZ := Lib.hid (HZ.out.below hb4)
    clear hb4
    obtain ⟨c0, c1', c2, c3, c4, c5⟩ := six HA4.out
    go_wp2_with fail
    refine (H3.out _ (D.out.below HB4.out) (ZS.out.below HB4.out)).mono ?_
    rintro e w5 ⟨X, d, rfl, hX, hb5⟩
    clear c0 c1' c2 c3 c4 c5
    replace HZ := Lib.hid (HZ.out.below hb5)
    have HB5 := Lib.hid (bstep HB4.out hb5)
    have HA5 := Lib.hid (HA4.out.below hb5)
    have C := same_yes Z X sh sn HSN.out cz d w5 HZ.out hX HMX.out
    have HC := Lib.hid C
    clear hb5 hX C
    go_wp2_with fail
    refine HC.out.mono ?_
    rintro e w6 ⟨rfl, hb6⟩
    replace HZ := Lib.hid (HZ.out.below hb6)
    have HB6 := Lib.hid (bstep HB5.out hb6)
    have HA6 := Lib.hid (HA5.out.below hb6)
    clear hb6 HC
    obtain ⟨c0, c1', c2, c3, c4, c5⟩ := six HA6.out
    go_wp2_with fail
    refine (H4.out w6).mono ?_
    rintro e w7 ⟨Y, dy, rfl, _, _, hY, hb7, _⟩
    clear c0 c1' c2 c3 c4 c5
    replace HZ := Lib.hid (HZ.out.below hb7)
    have HB7 := Lib.hid (bstep HB6.out hb7)
    have HY := Lib.hid hY
    have HD7 := Lib.hid (D.out.below HB7.out)
    clear hb7 hY HA HA1 HA2 HA4 HA5 HA6
    go_wp2
    go_loopw [67] (fun i wr => ∃ k : Nat, k ≤ l0 ∧ i = .int .i64 k ∧ Below w7.heap.size w7 wr) (fun i _ => l0 - (intOf i).toNat)
    case atStart => exact ⟨0, Nat.zero_le _, rfl, Below.refl _ _⟩
    case round =>
      obtain ⟨k, hk, rfl, hbr⟩ := hrel
      rename World => wr
      by_cases hlt : k < l0
      · obtain ⟨b2, o2, rfl, f2⟩ := (HY.out.below hbr) k (by have := HES.out; omega)
        obtain ⟨b1, o1, rfl, f1⟩ := (HD7.out.below hbr) k (by have := HED.out; omega)
        have g1 : k < sec.length := by have := HES.out; omega
        have g2 : k < delta.length := by have := HED.out; omega
        have HE1 := fun V hz => HE0.out k hlt g1 g2 Z cz V hz
        generalize sec[k]'g1 = x at *
        generalize delta[k]'g2 = y at *
        have HE := Lib.hid HE1
        clear HE1 g1 g2
        go_wp2_with fail
        refine Drawn.wp_region_flowL 8 [Drawn.SP.is (.slice Z sn cz), Drawn.SP.is (.int .u8 (x.toNat : Nat)), Drawn.SP.is (.int .u8 (y.toNat : Nat)), Drawn.SP.is (.slice (some ⟨b1, o1, none⟩) l0 c1), Drawn.SP.is (.int .i64 (k : Nat)), Drawn.SP.is (.pointer (some ⟨b1, o1 + k, none⟩)), Drawn.SP.is (.int .u8 (y.toNat : Nat)), Drawn.SP.is (.bool false)] (by kernel_rfl) (by kernel_rfl) ?_ ?_
        · intro i hi a wq hb hev hdep
          rcases (show i = 0 ∨ i = 1 ∨ i = 2 ∨ i = 3 ∨ i = 4 ∨ i = 5 ∨ i = 6 ∨ i = 7 by omega) with rfl | rfl | rfl | rfl | rfl | rfl | rfl | rfl
          · have e7 : a.tmps[7]?.getD undef = .slice Z sn cz := hev 7 rfl
            refine Drawn.wpOp_flow 72 rfl rfl rfl ?_
            clear hev hdep hb
            go_simp
            exact ⟨_, rfl, rfl, Below.refl _ _⟩
          · have e11 : a.tmps[11]?.getD undef = .int .u8 (x.toNat : Nat) := hev 11 rfl
            refine Drawn.wpOp_flow 73 rfl rfl rfl ?_
            clear hev hdep hb
            go_simp
            exact ⟨_, rfl, rfl, Below.refl _ _⟩
          · have d0 : a.tmps[72]?.getD undef = .slice Z sn cz := hdep 0 rfl
            have d1 : a.tmps[73]?.getD undef = .int .u8 (x.toNat : Nat) := hdep 1 rfl
            refine Drawn.wpOp_flow 74 rfl rfl rfl ?_
            clear hev hdep
            have C := HE.out wq (HZ.out.below (bstep hbr hb))
            clear hb
            go_simp
            refine C.mono ?_
            rintro e w' ⟨rfl, rfl⟩
            exact ⟨_, rfl, rfl, Below.refl _ _⟩
          · have e1 : a.tmps[1]?.getD undef = .slice (some ⟨b1, o1, none⟩) l0 c1 := hev 1 rfl
            refine Drawn.wpOp_flow 75 rfl rfl rfl ?_
            clear hev hdep hb
            go_simp
            exact ⟨_, rfl, rfl, Below.refl _ _⟩
          · have e10 : a.tmps[10]?.getD undef = .int .i64 (k : Nat) := hev 10 rfl
            refine Drawn.wpOp_flow 76 rfl rfl rfl ?_
            clear hev hdep hb
            go_simp
            exact ⟨_, rfl, rfl, Below.refl _ _⟩
          · have d3 : a.tmps[75]?.getD undef = .slice (some ⟨b1, o1, none⟩) l0 c1 := hdep 3 rfl
            have d4 : a.tmps[76]?.getD undef = .int .i64 (k : Nat) := hdep 4 rfl
            refine Drawn.wpOp_flow 77 rfl rfl rfl ?_
            clear hev hdep hb
            go_simp
            exact ⟨_, rfl, rfl, Below.refl _ _⟩
          · have d5 : a.tmps[77]?.getD undef = .pointer (some ⟨b1, o1 + k, none⟩) := hdep 5 rfl
            refine Drawn.wpOp_flow 78 rfl rfl rfl ?_
            clear hev hdep
            have cy := (hb.cell (p := ⟨b1, o1 + k, none⟩) (cell_lt f1)).trans f1
            clear hb
            go_simp
            exact ⟨_, rfl, rfl, Below.refl _ _⟩
          · have d2 : a.tmps[74]?.getD undef = .int .u8 (y.toNat : Nat) := hdep 2 rfl
            have d6 : a.tmps[78]?.getD undef = .int .u8 (y.toNat : Nat) := hdep 6 rfl
            refine Drawn.wpOp_flow 79 rfl rfl rfl ?_
            clear hev hdep hb
            go_simp
            exact ⟨_, rfl, rfl, Below.refl _ _⟩
        · intro xq wq hb hxq
          have vq0 : xq 0 = .slice Z sn cz := hxq 0 (by omega)
          have vq1 : xq 1 = .int .u8 (x.toNat : Nat) := hxq 1 (by omega)
          have vq2 : xq 2 = .int .u8 (y.toNat : Nat) := hxq 2 (by omega)
          have vq3 : xq 3 = .slice (some ⟨b1, o1, none⟩) l0 c1 := hxq 3 (by omega)
          have vq4 : xq 4 = .int .i64 (k : Nat) := hxq 4 (by omega)
          have vq5 : xq 5 = .pointer (some ⟨b1, o1 + k, none⟩) := hxq 5 (by omega)
          have vq6 : xq 6 = .int .u8 (y.toNat : Nat) := hxq 6 (by omega)
          have vq7 : xq 7 = .bool false := hxq 7 (by omega)
          show Exit.then _ _ Exit.normal (Drawn.acts _ [(79, some (xq 7)), (78, some (xq 6)), (77, some (xq 5)), (76, some (xq 4)), (75, some (xq 3)), (74, some (xq 2)), (73, some (xq 1)), (72, some (xq 0))]) _
          rw [vq0, vq1, vq2, vq3, vq4, vq5, vq6, vq7]
          clear hxq vq0 vq1 vq2 vq3 vq4 vq5 vq6 vq7
          clear xq
          simp only [Drawn.acts]
          go_simp
          have HBR := Lib.hid (bstep hbr hb)
          clear hb
          go_at_K
          go_wp2
          go_roundw
          case rel => exact ⟨k + 1, by omega, by go_num, HBR.out⟩
          case measure => simp [intOf] <;> omega
      · obtain rfl : k = l0 := by omega
        have HB8 := Lib.hid (bstep HB7.out hbr)
        replace HZ := Lib.hid (HZ.out.below hbr)
        clear hbr
        go_wp2
        go_loopw [83] (fun i w2 => ∃ j : Nat, j ≤ zn ∧ i = .int .i64 j ∧ Below wr.heap.size wr w2) (fun i _ => zn - (intOf i).toNat)
        case atStart => exact ⟨0, Nat.zero_le _, rfl, Below.refl _ _⟩
        case round =>
          obtain ⟨j, hj, rfl, hbr⟩ := hrel
          rename World => w2
          by_cases hlt2 : j < zn
          · obtain ⟨b3, o3, rfl, f3⟩ := (ZS.out.below (bstep HB8.out hbr)).at (i := j) (by have := HZZ.out; omega)
            have HP := Lib.hid (HZ0.out (z[j]'(by have := HZZ.out; omega)) (List.getElem_mem _) Z cz w2 (HZ.out.below hbr))
            generalize z[j]'(by have := HZZ.out; omega) = zj at *
            go_wp2_with fail
            refine (R08.point_any zj w2).mono ?_
            rintro e w' ⟨rfl, rfl⟩
            go_wp2_with fail
            refine HP.out.mono ?_
            rintro e w' ⟨rfl, rfl⟩
            go_wp2
            go_roundw
            case rel => exact ⟨j + 1, by omega, by go_num, hbr⟩
            case measure => simp [intOf] <;> omega
          · obtain rfl : j = zn := by omega
            have HB9 := Lib.hid (bstep HB8.out hbr)
            clear hbr
            go_wp2_with fail
            refine (alive_any _).mono ?_
            rintro e w9 ⟨rfl, hb9⟩
            go_wp2
            go_ret
            exact ⟨rfl, bstep HB9.out hb9⟩
theorem shifts_law (q : P) (A1 : Option Addr) (delta : List UInt8) (c1 : Nat) (A : Option Addr) (z : List Int) (c : Nat) (w : World) (hp : q.In) (h1 : BytesAt w A1 delta) (_k1 : delta.length ≤ c1) (_z1 : c1 ≤ maxLen) (h : IntsAt w A z) (_k : z.length ≤ c) (_z : c ≤ maxLen) (hi : ∀ x ∈ z, In64 x) :
    Calls Try.prog 3 #[q.val, .slice A1 delta.length c1, .slice A z.length c] w fun e w' => e = .returned (.bool true) ∧ Below w.heap.size w w' := by
  obtain ⟨N, T, L, W, S, R⟩ := q
  unfold P.val
  by_cases hl : N ≤ 12 ∧ L ≤ 12 ∧ T ≤ 12
  · by_cases hd : delta.length ≤ 20
    · by_cases hz : z.length ≤ 20
      · by_cases he : mcheck ⟨N, T, L, W, S, R⟩ delta z = 0
        · have hok := mcheck_ok he
          have hM := hok.may
          unfold P.May at hM
          simp only at hM
          obtain ⟨n0, rfl⟩ : ∃ n0 : Nat, N = n0 := ⟨N.toNat, by omega⟩
          obtain ⟨t0, rfl⟩ : ∃ t0 : Nat, T = t0 := ⟨T.toNat, by omega⟩
          obtain ⟨l0, rfl⟩ : ∃ l0 : Nat, L = l0 := ⟨L.toNat, by omega⟩
          exact shifts_ok W S R n0 t0 l0 A1 A delta z c1 c w hp h1 h hi hl hd hz hok
        · exact shifts_bad N T L W S R A1 A delta z c1 c w hp h1 h hi hl hd hz he
      · exact shifts_many N T L W S R A1 A delta.length z.length c1 c w hl hd (by omega)
    · exact shifts_long N T L W S R A1 A delta.length z.length c1 c w hl (by omega)
  · exact shifts_heavy N T L W S R A1 A delta.length z.length c1 c w hl
end Go.Proofs.Ytompeiemioeohaa.Law14
