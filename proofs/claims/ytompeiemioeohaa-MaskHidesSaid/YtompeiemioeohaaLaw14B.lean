/- the walk of MaskTurns -/
import Derived.Test.YtompeiemioeohaaLaw14
set_option maxRecDepth 100000
namespace Go.Proofs.Ytompeiemioeohaa.Law14
open Go.RowKit PlanM StripeM LagrM DealM RebM ZeroM MaskM Law08 Law10
set_option maxHeartbeats 1000000 in
theorem turns_heavy (N T L W S R : Int) (A1 A : Option Addr) (dn zn c1 c : Nat) (w : World) (hl : ¬ (N ≤ 12 ∧ L ≤ 12 ∧ T ≤ 12))  :
    Calls Try.prog 7 #[.agg #[.int .i64 N, .int .i64 T, .int .i64 L, .int .i64 W, .int .i64 S, .int .i64 R], .slice A1 dn c1, .slice A zn c] w fun e w' => e = .returned (.bool true) ∧ Below w.heap.size w w' := by
  have K0 := fun w => Law10.light_any N T L W S R w
  rw [decide_eq_false hl] at K0
  have H0 := Lib.hid K0
  clear K0 hl
  have HA := Lib.hid (PlanLies.new w N T L W S R)
  have HB0 := Lib.hid (balloc w (.cells #[.int .i64 N, .int .i64 T, .int .i64 L, .int .i64 W, .int .i64 S, .int .i64 R] 23))
  go_enter Try.func7, Try.ntmps7
  go_wp2_with fail
  generalize w.alloc (.cells #[.int .i64 N, .int .i64 T, .int .i64 L, .int .i64 W, .int .i64 S, .int .i64 R] 23) = w0 at *
  obtain ⟨c0, c1', c2, c3, c4, c5⟩ := six HA.out
  refine (H0.out _).mono ?_
  rintro e w1 ⟨rfl, hb1⟩
  clear c0 c1' c2 c3 c4 c5
  have HB1 := Lib.hid (bstep HB0.out hb1)
  have HA1 := Lib.hid (HA.out.below hb1)
  clear hb1
  go_wp2_with fail
  refine (alive_any _).mono ?_
  rintro e w9 ⟨rfl, hb9⟩
  go_wp2
  go_ret
  exact ⟨rfl, bstep HB1.out hb9⟩

/-- more custodians than may be: told before any of them is looked at -/
theorem check_far (N T L W S R : Int) (A1 A : Option Addr) (delta : List UInt8) (z : List Int) (c1 c : Nat) (w : World) (hp : (⟨N, T, L, W, S, R⟩ : P).In) (hT : T < (z.length : Int)) :
    Calls Try.prog 12 #[.agg #[.int .i64 N, .int .i64 T, .int .i64 L, .int .i64 W, .int .i64 S, .int .i64 R], .slice A1 delta.length c1, .slice A z.length c] w fun e w' => e = .returned (.int .i64 (mcheck ⟨N, T, L, W, S, R⟩ delta z)) ∧ Below w.heap.size w w' := by
  have HA := Lib.hid (PlanLies.new w N T L W S R)
  have HB0 := Lib.hid (balloc w (.cells #[.int .i64 N, .int .i64 T, .int .i64 L, .int .i64 W, .int .i64 S, .int .i64 R] 23))
  obtain ⟨q, hq⟩ : ∃ q : P, q = ⟨N, T, L, W, S, R⟩ := ⟨_, rfl⟩
  rw [← hq] at hp ⊢
  have hv : q.val = .agg #[.int .i64 N, .int .i64 T, .int .i64 L, .int .i64 W, .int .i64 S, .int .i64 R] := by rw [hq]; rfl
  have hR := fun V => R08.right_any q V hp
  rw [hv] at hR
  have eT : q.T = T := by rw [hq]
  have eL : q.L = L := by rw [hq]
  obtain ⟨ans, hans⟩ : ∃ ans, ans = mcheck q delta z := ⟨_, rfl⟩
  rw [← hans]
  unfold mcheck at hans
  rw [eT, eL] at hans
  generalize q.right = vr at *
  have HANS := Lib.hid hans; have HR := Lib.hid hR
  obtain ⟨dn, hdn⟩ : ∃ dn, dn = delta.length := ⟨_, rfl⟩
  obtain ⟨zn, hzn⟩ : ∃ zn, zn = z.length := ⟨_, rfl⟩
  rw [← hdn] at HANS ⊢
  rw [← hzn] at HANS hT ⊢
  clear hp hans hR hq hv eT eL hdn hzn
  go_enter Try.func12, Try.ntmps12
  go_wp2_with fail
  generalize w.alloc (.cells #[.int .i64 N, .int .i64 T, .int .i64 L, .int .i64 W, .int .i64 S, .int .i64 R] 23) = w0 at *
  refine (HR.out _).mono ?_
  rintro e w1 ⟨rfl, hb1⟩
  have ha := HANS.out
  have HB1 := Lib.hid (bstep HB0.out hb1)
  cases vr
  · rw [if_neg (by decide)] at ha
    subst ha
    go_wp2
    go_ret
    exact ⟨rfl, HB1.out⟩
  rw [if_pos rfl] at ha
  obtain ⟨c0, c1', c2, c3, c4, c5⟩ := six (HA.out.below hb1)
  by_cases hL : (dn : Int) = L
  rotate_left
  · rw [if_pos hL] at ha
    subst ha
    go_wp2
    go_ret
    exact ⟨rfl, HB1.out⟩
  rw [if_neg (fun h => h hL), if_pos hT] at ha
  subst ha
  go_wp2
  go_ret
  exact ⟨rfl, HB1.out⟩
theorem check_all (N T L W S R : Int) (A1 A : Option Addr) (delta : List UInt8) (z : List Int) (c1 c : Nat) (w : World) (hp : (⟨N, T, L, W, S, R⟩ : P).In) (h : IntsAt w A z) (hl : T ≤ 12) :
    Calls Try.prog 12 #[.agg #[.int .i64 N, .int .i64 T, .int .i64 L, .int .i64 W, .int .i64 S, .int .i64 R], .slice A1 delta.length c1, .slice A z.length c] w fun e w' => e = .returned (.int .i64 (mcheck ⟨N, T, L, W, S, R⟩ delta z)) ∧ Below w.heap.size w w' := by
  by_cases hT : T < (z.length : Int)
  · exact check_far N T L W S R A1 A delta z c1 c w hp hT
  · exact R14.check_any N T L W S R A1 A delta z c1 c w hp h (by omega)
set_option maxHeartbeats 2000000 in
theorem turns_bad (N T L W S R : Int) (A1 A : Option Addr) (delta : List UInt8) (z : List Int) (c1 c : Nat) (w : World) (hp : (⟨N, T, L, W, S, R⟩ : P).In) (h : IntsAt w A z) (hl : N ≤ 12 ∧ L ≤ 12 ∧ T ≤ 12) (he : mcheck ⟨N, T, L, W, S, R⟩ delta z ≠ 0) :
    Calls Try.prog 7 #[.agg #[.int .i64 N, .int .i64 T, .int .i64 L, .int .i64 W, .int .i64 S, .int .i64 R], .slice A1 delta.length c1, .slice A z.length c] w fun e w' => e = .returned (.bool true) ∧ Below w.heap.size w w' := by
  have K0 := fun w => Law10.light_any N T L W S R w
  rw [decide_eq_true hl] at K0
  have H0 := Lib.hid K0
  have K2 := fun V h => check_all N T L W S R A1 A delta z c1 c V hp h hl.2.2
  generalize mcheck ⟨N, T, L, W, S, R⟩ delta z = er at *
  have hne : (er != 0) = true := by simpa using he
  generalize delta.length = dn at *
  obtain ⟨zn, hzn⟩ : ∃ zn, zn = z.length := ⟨_, rfl⟩
  rw [← hzn] at K2 ⊢
  have H2 := Lib.hid K2; have ZS := Lib.hid h
  clear K0 K2 hl h hp he hzn
  have HA := Lib.hid (PlanLies.new w N T L W S R)
  have HB0 := Lib.hid (balloc w (.cells #[.int .i64 N, .int .i64 T, .int .i64 L, .int .i64 W, .int .i64 S, .int .i64 R] 23))
  go_enter Try.func7, Try.ntmps7
  go_wp2_with fail
  generalize w.alloc (.cells #[.int .i64 N, .int .i64 T, .int .i64 L, .int .i64 W, .int .i64 S, .int .i64 R] 23) = w0 at *
  obtain ⟨c0, c1', c2, c3, c4, c5⟩ := six HA.out
  refine (H0.out _).mono ?_
  rintro e w1 ⟨rfl, hb1⟩
  clear c0 c1' c2 c3 c4 c5
  have HB1 := Lib.hid (bstep HB0.out hb1)
  have HA1 := Lib.hid (HA.out.below hb1)
  clear hb1
  obtain ⟨c0, c1', c2, c3, c4, c5⟩ := six HA1.out
  go_wp2_with fail
  refine (H2.out _ (ZS.out.below HB1.out)).mono ?_
  rintro e w2 ⟨rfl, hb2⟩
  clear c0 c1' c2 c3 c4 c5
  have HB2 := Lib.hid (bstep HB1.out hb2)
  have HA2 := Lib.hid (HA1.out.below hb2)
  clear hb2
  go_wp2_with fail
  refine (alive_any _).mono ?_
  rintro e w9 ⟨rfl, hb9⟩
  go_wp2
  go_ret
  exact ⟨rfl, bstep HB2.out hb9⟩

set_option maxHeartbeats 4000000 in
theorem turns_ok (W S R : Int) (n0 t0 l0 : Nat) (A1 A : Option Addr) (delta : List UInt8) (z : List Int) (c1 c : Nat) (w : World) (hp : (⟨n0, t0, l0, W, S, R⟩ : P).In) (h1 : BytesAt w A1 delta) (h : IntsAt w A z) (hi : ∀ x ∈ z, In64 x) (hl : (n0 : Int) ≤ 12 ∧ (l0 : Int) ≤ 12 ∧ (t0 : Int) ≤ 12) (hok : MOk ⟨n0, t0, l0, W, S, R⟩ delta z) :
    Calls Try.prog 7 #[.agg #[.int .i64 (n0 : Nat), .int .i64 (t0 : Nat), .int .i64 (l0 : Nat), .int .i64 W, .int .i64 S, .int .i64 R], .slice A1 delta.length c1, .slice A z.length c] w fun e w' => e = .returned (.bool true) ∧ Below w.heap.size w w' := by
  have he := mcheck_of hok
  have K0 := fun w => Law10.light_any n0 t0 l0 W S R w
  rw [decide_eq_true hl] at K0
  have H0 := Lib.hid K0
  have hzl : z.length ≤ 12 := by have := hok.few; simp only [Int.toNat_natCast] at this; omega
  have K1 := fun bf V ht h1 h => Mask.shift_any bf ⟨n0, t0, l0, W, S, R⟩ A1 A delta c1 z c V hp ht h1 h (by omega) hi
  have K5 := fun bf V ht X d h1 h => Mask.shift_any bf ⟨n0, t0, l0, W, S, R⟩ A1 X delta c1 z.reverse d V hp ht h1 h (by rw [List.length_reverse]; omega) (fun x hx => hi x (List.mem_reverse.mp hx))
  have K2 := fun V h => check_all n0 t0 l0 W S R A1 A delta z c1 c V hp h hl.2.2
  have e0 : Mask.shiftA ⟨n0, t0, l0, W, S, R⟩ delta z = shift ⟨n0, t0, l0, W, S, R⟩ delta z := by unfold Mask.shiftA; rw [if_pos he]
  have e5 : Mask.shiftA ⟨n0, t0, l0, W, S, R⟩ delta z.reverse = shift ⟨n0, t0, l0, W, S, R⟩ delta z := by unfold Mask.shiftA; rw [if_pos (mcheck_of hok.turn), shift_reverse hok]
  rw [e0, he] at K1
  rw [e5, mcheck_of hok.turn, List.length_reverse] at K5
  rw [he] at K2
  have hshl := shift_len hok
  simp only at hshl
  unfold Mask.RetSE at K1 K5
  simp only [P.val] at K1 K5
  generalize shift ⟨n0, t0, l0, W, S, R⟩ delta z = sh at *
  obtain ⟨sn, hsn⟩ : ∃ sn, sn = sh.length := ⟨_, rfl⟩
  rw [← hsn] at K1 K5 hshl
  have HSN := Lib.hid hsn
  have HMX : Hid (sn ≤ maxLen) := Lib.hid (by unfold maxLen; omega)
  generalize delta.length = dn at *
  obtain ⟨zn, hzz⟩ : ∃ zn, zn = z.length := ⟨_, rfl⟩
  rw [← hzz] at K1 K2 K5 hzl ⊢
  have HZZ := Lib.hid hzz
  have H1 := Lib.hid K1; have H2 := Lib.hid K2; have H5 := Lib.hid K5; have D := Lib.hid h1; have ZS := Lib.hid h
  clear K0 K1 K2 K5 hl h1 h hi hp he e0 e5 hshl hok hsn hzz
  have HA := Lib.hid (PlanLies.new w n0 t0 l0 W S R)
  have HB0 := Lib.hid (balloc w (.cells #[.int .i64 (n0 : Nat), .int .i64 (t0 : Nat), .int .i64 (l0 : Nat), .int .i64 W, .int .i64 S, .int .i64 R] 23))
  go_enter Try.func7, Try.ntmps7
  go_wp2_with fail
  generalize w.alloc (.cells #[.int .i64 (n0 : Nat), .int .i64 (t0 : Nat), .int .i64 (l0 : Nat), .int .i64 W, .int .i64 S, .int .i64 R] 23) = w0 at *
  obtain ⟨c0, c1', c2, c3, c4, c5⟩ := six HA.out
  refine (H0.out _).mono ?_
  rintro e w1 ⟨rfl, hb1⟩
  clear c0 c1' c2 c3 c4 c5
  have HB1 := Lib.hid (bstep HB0.out hb1)
  have HA1 := Lib.hid (HA.out.below hb1)
  clear hb1
  obtain ⟨c0, c1', c2, c3, c4, c5⟩ := six HA1.out
  go_wp2_with fail
  refine (H2.out _ (ZS.out.below HB1.out)).mono ?_
  rintro e w2 ⟨rfl, hb2⟩
  clear c0 c1' c2 c3 c4 c5
  have HB2 := Lib.hid (bstep HB1.out hb2)
  have HA2 := Lib.hid (HA1.out.below hb2)
  clear hb2
  go_wp2
  go_loopw [7, 28] (fun v i wr => ∃ k : Nat, k ≤ zn ∧ i = .int .i64 k ∧ (∃ X d, v = .slice X k d ∧ IntsAt wr X (z.take k).reverse) ∧ Below w2.heap.size w2 wr) (fun _ i _ => zn - (intOf i).toNat)
  case atStart => exact ⟨0, Nat.zero_le _, rfl, ⟨none, 0, rfl, CellsAt.nil _ _⟩, Below.refl _ _⟩
  case round =>
    obtain ⟨k, hk, rfl, ⟨X, d, rfl, hX⟩, hbr⟩ := hrel
    rename World => wr
    by_cases hlt : k < zn
    · have hlz : k < z.length := by have := HZZ.out; omega
      obtain ⟨b3, o3, rfl, f3⟩ := (ZS.out.below (bstep HB2.out hbr)).at hlz
      have hrev : (z.take (k + 1)).reverse = [z[k]] ++ (z.take k).reverse := by rw [List.take_succ_eq_append_getElem hlz, List.reverse_append]; rfl
      have hrl : (z.take k).reverse.length = k := by rw [List.length_reverse, List.length_take]; omega
      have HRV := Lib.hid hrev
      have HRL := Lib.hid hrl
      have HX := Lib.hid hX
      generalize z[k] = x at *
      clear hrev hrl hX hlz
      have hzr := hbr.size
      have HO : OwnI (wr.alloc (.cells #[.int .i64 x] 3)) wr.heap.size (.slice (some ⟨wr.heap.size, 0, none⟩) 1 1) [x] := ⟨rfl, .inr ⟨wr.heap.size, 1, #[.int .i64 x], rfl, Nat.le_refl _, heap_alloc_new wr _, Nat.le_refl _, by unfold maxLen; omega, rfl, rfl⟩⟩
      have HOO := Lib.hid HO
      clear HO
      go_wp2_with (at_builtin; refine wpList_append_ints rfl _ _ rfl wr.heap.size _ [x] rfl HOO.out X k d (z.take k).reverse rfl HRL.out (CellsAt.below HX.out (balloc _ _)) (by simp; omega) (by simp) ?_; intro v3 w3 ha; have HA3 := Lib.hid ha; clear ha)
      have ho := HA3.out.own
      have hb3 : Below wr.heap.size wr w3 := HA3.out.below HOO.out (balloc wr _) (Nat.le_refl _) (by simp)
      rw [← HRV.out] at ho
      obtain ⟨X3, d3, rfl, _, _, hX3, _⟩ := ho.ints
      have hl3 : (z.take (k + 1)).reverse.length = k + 1 := by rw [HRV.out, List.length_append, HRL.out]; simp; omega
      rw [hl3]
      have HX3 := Lib.hid hX3
      clear ho hX3 hl3
      go_roundw
      case rel => exact ⟨k + 1, by omega, by go_num, ⟨X3, d3, rfl, HX3.out⟩, bstep hbr hb3⟩
      case measure => simp [intOf] <;> omega
    · obtain rfl : k = zn := by omega
      have ef : z.take k = z := by rw [HZZ.out, List.take_length]
      rw [ef] at hX
      have HX := Lib.hid hX
      have HB3 := Lib.hid (bstep HB2.out hbr)
      have HA3 := Lib.hid (HA2.out.below hbr)
      clear hX ef hbr
      go_wp2_with fail
      refine (Gf.new_any wr).mono ?_
      rintro e w4 ⟨rfl, ht4, hb4, _⟩
      have HT4 := Lib.hid ht4
      have HB4 := Lib.hid (bstep HB3.out hb4)
      have HA4 := Lib.hid (HA3.out.below hb4)
      have HX4 := Lib.hid (CellsAt.below HX.out hb4)
      clear ht4 hb4
      obtain ⟨c0, c1', c2, c3, c4, c5⟩ := six HA4.out
      go_wp2_with fail
      refine (H1.out _ w4 HT4.out (D.out.below HB4.out) (ZS.out.below HB4.out)).mono ?_
      rintro e w5 ⟨Z, cz, rfl, hz, hb5⟩
      clear c0 c1' c2 c3 c4 c5
      have HZ := Lib.hid hz
      have HT5 := Lib.hid (HT4.out.below hb5)
      have HB5 := Lib.hid (bstep HB4.out hb5)
      have HA5 := Lib.hid (HA4.out.below hb5)
      have HX5 := Lib.hid (CellsAt.below HX4.out hb5)
      clear hz hb5
      obtain ⟨c0, c1', c2, c3, c4, c5⟩ := six HA5.out
      go_wp2_with fail
      refine (H5.out _ w5 HT5.out X d (D.out.below HB5.out) HX5.out).mono ?_
      rintro e w6 ⟨Y, cy, rfl, hy, hb6⟩
      clear c0 c1' c2 c3 c4 c5
      have C := same_yes Z Y sh sn HSN.out cz cy w6 (HZ.out.below hb6) hy HMX.out
      have HC := Lib.hid C
      have HB6 := Lib.hid (bstep HB5.out hb6)
      clear hy hb6 C
      go_wp2_with fail
      refine HC.out.mono ?_
      rintro e w7 ⟨rfl, hb7⟩
      have HB7 := Lib.hid (bstep HB6.out hb7)
      clear hb7
      go_wp2_with fail
      refine (alive_any _).mono ?_
      rintro e w9 ⟨rfl, hb9⟩
      go_wp2
      go_ret
      exact ⟨rfl, bstep HB7.out hb9⟩
theorem turns_law (q : P) (A1 : Option Addr) (delta : List UInt8) (c1 : Nat) (A : Option Addr) (z : List Int) (c : Nat) (w : World) (hp : q.In) (h1 : BytesAt w A1 delta) (_k1 : delta.length ≤ c1) (_z1 : c1 ≤ maxLen) (h : IntsAt w A z) (_k : z.length ≤ c) (_z : c ≤ maxLen) (hi : ∀ x ∈ z, In64 x) :
    Calls Try.prog 7 #[q.val, .slice A1 delta.length c1, .slice A z.length c] w fun e w' => e = .returned (.bool true) ∧ Below w.heap.size w w' := by
  obtain ⟨N, T, L, W, S, R⟩ := q
  unfold P.val
  by_cases hl : N ≤ 12 ∧ L ≤ 12 ∧ T ≤ 12
  · by_cases he : mcheck ⟨N, T, L, W, S, R⟩ delta z = 0
    · have hok := mcheck_ok he
      have hM := hok.may
      unfold P.May at hM
      simp only at hM
      obtain ⟨n0, rfl⟩ : ∃ n0 : Nat, N = n0 := ⟨N.toNat, by omega⟩
      obtain ⟨t0, rfl⟩ : ∃ t0 : Nat, T = t0 := ⟨T.toNat, by omega⟩
      obtain ⟨l0, rfl⟩ : ∃ l0 : Nat, L = l0 := ⟨L.toNat, by omega⟩
      exact turns_ok W S R n0 t0 l0 A1 A delta z c1 c w hp h1 h hi hl hok
    · exact turns_bad N T L W S R A1 A delta z c1 c w hp h hl he
  · exact turns_heavy N T L W S R A1 A delta.length z.length c1 c w hl
end Go.Proofs.Ytompeiemioeohaa.Law14
