/- the document's own answers of layer 13 -/
import Derived.Test.YtchcgiapjhmflaaR12
import Derived.Test.YtchcgiapjhmflaaLaw10
import Derived.Test.YtchcgiapjhmflaaBlindMath
import Derived.Test.YtchcgiapjhmflaaSkip
set_option maxRecDepth 100000
namespace Go.Proofs.Ytchcgiapjhmflaa.R13
open Go.RowKit PlanM StripeM LagrM DealM RebM ZeroM Law08 Law10

theorem at_get {sh : List (List UInt8)} {i j : Nat} (hi : i < sh.length) (hj : j < sh[i].length) : at_ sh i j = sh[i][j] := by
  unfold at_; rw [← List.getElem_eq_getD (h := hi), PolyM.co_get _ _ hj]
theorem RetNew.later {w w1 w2 : World} {l : List UInt8} {e : Ending} (h : RetNew w1 l e w2) (hb : Below w.heap.size w w1) : RetNew w l e w2 := by
  obtain ⟨A, c, h1, h2, h3, h4, h5, h6⟩ := h; exact ⟨A, c, h1, h2, h3, h4, bstep hb h5, h6.mono hb.size⟩
set_option maxHeartbeats 1000000 in
theorem check_any (N T L W S R n t : Int) (w : World) (hp : (⟨N, T, L, W, S, R⟩ : P).In) :
    Calls Try.prog 9 #[.agg #[.int .i64 N, .int .i64 T, .int .i64 L, .int .i64 W, .int .i64 S, .int .i64 R], .int .i64 n, .int .i64 t] w fun e w' => e = .returned (.int .i64 (bcheck ⟨N, T, L, W, S, R⟩ n t)) ∧ Below w.heap.size w w' := by
  have HA := Lib.hid (PlanLies.new w N T L W S R)
  have hb0 := balloc w (.cells #[.int .i64 N, .int .i64 T, .int .i64 L, .int .i64 W, .int .i64 S, .int .i64 R] 23)
  obtain ⟨q, hq⟩ : ∃ q : P, q = ⟨N, T, L, W, S, R⟩ := ⟨_, rfl⟩
  rw [← hq] at hp ⊢
  have hv : q.val = .agg #[.int .i64 N, .int .i64 T, .int .i64 L, .int .i64 W, .int .i64 S, .int .i64 R] := by rw [hq]; rfl
  have K := fun V => R08.right_any q V hp
  have KI := fun V => R08.is_any q t V
  rw [hv] at K KI
  have hz : bcheck q n t = if q.right then (if n < 0 ∨ 240 < n then 2 else if q.is t then 0 else 2) else 1 := rfl
  rw [hz]
  generalize q.right = r at *
  generalize q.is t = i at *
  have HK := Lib.hid K; have HI := Lib.hid KI
  clear K KI hz hv hq hp
  go_enter Try.func9, Try.ntmps9
  go_wp2_with fail
  generalize w.alloc (.cells #[.int .i64 N, .int .i64 T, .int .i64 L, .int .i64 W, .int .i64 S, .int .i64 R] 23) = w0 at *
  refine (HK.out _).mono ?_
  rintro e w1 ⟨rfl, hb1⟩
  cases r
  · go_wp2
    go_ret
    exact ⟨rfl, bstep hb0 hb1⟩
  · by_cases h1 : n < 0
    · go_wp2
      go_ret
      exact ⟨by simp, bstep hb0 hb1⟩
    · by_cases h2 : 240 < n
      · go_wp2
        go_ret
        exact ⟨by simp, bstep hb0 hb1⟩
      · obtain ⟨c0, c1, c2, c3, c4, c5⟩ := six (HA.out.below hb1)
        go_wp2_with fail
        refine (HI.out _).mono ?_
        rintro e w2 ⟨rfl, hb2⟩
        clear c0 c1 c2 c3 c4 c5
        cases i
        · go_wp2
          go_ret
          exact ⟨by simp, bstep hb0 (bstep hb1 hb2)⟩
        · go_wp2
          go_ret
          exact ⟨by simp, bstep hb0 (bstep hb1 hb2)⟩

theorem width_any (N T L W S R : Int) (w : World) (hT : 0 ≤ T ∧ T ≤ 256) (hL : 0 ≤ L ∧ L ≤ 256) :
    Calls Try.prog 10 #[.agg #[.int .i64 N, .int .i64 T, .int .i64 L, .int .i64 W, .int .i64 S, .int .i64 R]] w fun e w' => e = .returned (.int .i64 (T + L - 1)) ∧ Below w.heap.size w w' := by
  have HA := Lib.hid (PlanLies.new w N T L W S R)
  have hb0 := balloc w (.cells #[.int .i64 N, .int .i64 T, .int .i64 L, .int .i64 W, .int .i64 S, .int .i64 R] 23)
  have i1 : IntKind.i64.wrap (T + L) = T + L := IntWalk.i64_in _ (by omega)
  have i2 : IntKind.i64.wrap (T + L - 1) = T + L - 1 := IntWalk.i64_in _ (by omega)
  go_enter Try.func10, Try.ntmps10
  go_wp2_with fail
  generalize w.alloc (.cells #[.int .i64 N, .int .i64 T, .int .i64 L, .int .i64 W, .int .i64 S, .int .i64 R] 23) = w0 at *
  go_ret
  exact ⟨rfl, hb0⟩

set_option maxHeartbeats 4000000 in
theorem polys_any (N T L W S R t : Int) (wd n : Nat) (A : Option Addr) (tape : List UInt8) (u2 : Nat) (w : World) (hM : (⟨N, T, L, W, S, R⟩ : P).May) (hwd : T + L - 1 = (wd : Int)) (h2 : BytesAt w A tape) (k2 : tape.length ≤ u2) (z2 : u2 ≤ maxLen)
    (hn : n ≤ 240) (hct : wd * n ≤ tape.length) :
    Calls Try.prog 12 #[.agg #[.int .i64 N, .int .i64 T, .int .i64 L, .int .i64 W, .int .i64 S, .int .i64 R], .int .i64 (n : Nat), .int .i64 t, .slice A tape.length u2] w (RetRows w (bpolysTo ⟨N, T, L, W, S, R⟩ t tape n)) := by
  have hM' := hM
  unfold P.May at hM'
  obtain ⟨m1, m2, m3, m4, m5, m6, m7, m8, m9⟩ := hM'
  simp only at m1 m2 m3 m4 m5 m6 m7 m8 m9
  have hwd1 : 1 ≤ wd ∧ wd ≤ 256 := by omega
  have hbig : wd * n ≤ 256 * 240 := Nat.mul_le_mul hwd1.2 hn
  unfold maxLen at z2
  obtain ⟨q, hq⟩ : ∃ q : P, q = ⟨N, T, L, W, S, R⟩ := ⟨_, rfl⟩
  have hw : (width q).toNat = wd := by rw [hq]; unfold width; simp only; omega
  rw [← hq]
  have KW := fun V => width_any N T L W S R V (by omega) (by omega)
  rw [hwd] at KW
  have KP := fun V => R08.point_any t V
  obtain ⟨pz, hpz⟩ : ∃ pz, pz = point t := ⟨_, rfl⟩
  rw [← hpz] at KP
  have KM := fun X d Y dY tt V (h1 : BytesAt V X [pz, 1]) (h2 : BytesAt V Y tt) (h3 : tt.length ≤ 1048576) => R02.mul_new X Y [pz, 1] tt d dY V h1 h2 (by simp) (by omega)
  have hzt := fun k => (show bpolysTo q t tape (k + 1) = bpolysTo q t tape k ++ [PolyM.pmul [pz, 1] (take_ wd tape k)] from by
    rw [bpolysTo_succ]; unfold bpoly; rw [hw, hpz])
  have hzl := fun k => bpolysTo_len q t tape k
  have hz0 : bpolysTo q t tape 0 = [] := rfl
  generalize bpolysTo q t tape = PT at *
  have HWW := Lib.hid KW; have HPZ := Lib.hid KP; have HMU := Lib.hid KM; have HZT := Lib.hid hzt; have HZL := Lib.hid hzl; have HZ0 := Lib.hid hz0
  have hb0 := balloc w (.cells #[.int .i64 N, .int .i64 T, .int .i64 L, .int .i64 W, .int .i64 S, .int .i64 R] 23)
  have B2 := Lib.hid h2
  obtain ⟨tl, htl⟩ : ∃ tl, tl = tape.length := ⟨_, rfl⟩
  have HTL := Lib.hid htl
  rw [← htl] at k2 hct ⊢
  clear KW KP KM hzt hzl hz0 h2 htl hq hM hpz hw hwd
  go_enter Try.func12, Try.ntmps12
  go_wp2_with fail
  generalize w.alloc (.cells #[.int .i64 N, .int .i64 T, .int .i64 L, .int .i64 W, .int .i64 S, .int .i64 R] 23) = w0 at *
  refine (HWW.out _).mono ?_
  rintro e w1 ⟨rfl, hb1⟩
  have HB1 := Lib.hid (bstep hb0 hb1)
  clear hb0 hb1
  go_wp2_with fail
  go_loopw [9, 11] (fun v j wr => ∃ (k : Nat) (v0 : Value), k ≤ n ∧ j = .int .i64 k ∧ v0 = v ∧ OwnM wr w1.heap.size v0 (PT k) ∧ Below w1.heap.size w1 wr)
    (fun _ j _ => n - (intOf j).toNat)
  case atStart => exact ⟨0, _, Nat.zero_le _, rfl, rfl, by rw [HZ0.out]; exact OwnM.nil _ _, Below.refl _ _⟩
  case round =>
    obtain ⟨k, v, hk, rfl, rfl, hown, hb3⟩ := hrel
    rename World => w3
    have HO := Lib.hid hown
    have hz := hb3.size
    have HB2 := Lib.hid (B2.out.below (bstep HB1.out hb3))
    have HB3 := Lib.hid hb3
    clear hown hb3
    by_cases hlt : k < n
    · obtain ⟨x, hx⟩ : ∃ x, x = k * wd := ⟨_, rfl⟩
      obtain ⟨y, hy⟩ : ∃ y, y = (k + 1) * wd := ⟨_, rfl⟩
      have hy2 : y ≤ wd * n := by rw [hy, Nat.mul_comm]; exact Nat.mul_le_mul (Nat.le_refl _) (by omega)
      have hxy : y = x + wd := by rw [hy, hx, Nat.add_mul, Nat.one_mul]
      obtain ⟨b2, o2, rfl, hcl0⟩ := HB2.out 0 (by rw [← HTL.out]; omega)
      clear hcl0
      have j1 : ((k : Int) * (wd : Int)) = (x : Int) := by rw [← Int.natCast_mul, ← hx]
      have i1 : IntKind.i64.wrap (x : Int) = (x : Int) := IntWalk.i64_in _ (by omega)
      have i2 : IntKind.i64.wrap ((k : Int) + 1) = (k : Int) + 1 := IntWalk.i64_in _ (by omega)
      have j3 : (((k : Int) + 1) * (wd : Int)) = (y : Int) := by rw [show ((k : Int) + 1) = ((k + 1 : Nat) : Int) from by omega, ← Int.natCast_mul, ← hy]
      have i3 : IntKind.i64.wrap (y : Int) = (y : Int) := IntWalk.i64_in _ (by omega)
      have b5' : ¬ (u2 = x) := by omega
      have b1' : (x : Int) ≤ (y : Int) := by omega
      have b2' : (y : Int) ≤ (u2 : Int) := by omega
      have tll : (take_ wd tape k).length = y - x := by rw [take_len _ _ _ (by rw [← hy, ← HTL.out]; omega)]; omega
      have hbt := (HB2.out.drop x).take wd
      have htk : (tape.drop x).take wd = take_ wd tape k := by unfold take_; rw [hx]
      rw [htk] at hbt
      have hpt := HZT.out k; have hpl := HZL.out k
      clear htk
      have hy3 : y - x ≤ 1048576 := by omega
      generalize take_ wd tape k = tp at hpt tll hbt
      have HTP := Lib.hid hbt
      obtain ⟨pm, hpm⟩ : ∃ pm, pm = PolyM.pmul [pz, 1] tp := ⟨_, rfl⟩
      rw [← hpm] at hpt
      have HM := Lib.hid (fun X d V (h1 : BytesAt V X [pz, 1]) (h2 : BytesAt V (some ⟨b2, o2 + x, none⟩) tp) => (show Calls Try.prog 30 #[.slice X 2 d, .slice (some ⟨b2, o2 + x, none⟩) (y - x) (u2 - x)] V (RetNew V pm) from by
        have C := HMU.out X d (some ⟨b2, o2 + x, none⟩) (u2 - x) tp V h1 h2 (by omega)
        rw [tll, ← hpm] at C
        exact C))
      have HPT1 := Lib.hid hpt; have HPL1 := Lib.hid hpl
      generalize PT k = PT0 at HPT1 HPL1 HO
      have HOL := Lib.hid HO.out.ownlt
      have b3' : x ≤ y := by omega
      have b4' : y ≤ u2 := by omega
      clear hpt hpl hbt tll hx hy hxy hpm
      go_wp2_with fail
      refine Drawn.wp_region_flowT 15 [Drawn.SP.is (v), Drawn.SP.is (.int .i64 t), Drawn.SP.is (.int .u8 (pz.toNat : Nat)), R12.SP.root [pz, 1] 2, Drawn.SP.is (.slice (some ⟨b2, o2, none⟩) tl u2), Drawn.SP.is (.int .i64 (k : Nat)), Drawn.SP.is (.int .i64 (wd : Nat)), Drawn.SP.is (.int .i64 (x : Nat)), Drawn.SP.is (.int .i64 (k : Nat)), Drawn.SP.is (.int .i64 ((k : Int) + 1)), Drawn.SP.is (.int .i64 (wd : Nat)), Drawn.SP.is (.int .i64 (y : Nat)), Drawn.SP.is (.slice (some ⟨b2, o2 + x, none⟩) (y - x) (u2 - x)), R12.SP.prod w3.heap.size pm pm.length, R12.SP.lit w3.heap.size pm pm.length] (by kernel_rfl) (by kernel_rfl) ?_ ?_
      · intro i hi a w4 hb hev hdep
        rcases (show i = 0 ∨ i = 1 ∨ i = 2 ∨ i = 3 ∨ i = 4 ∨ i = 5 ∨ i = 6 ∨ i = 7 ∨ i = 8 ∨ i = 9 ∨ i = 10 ∨ i = 11 ∨ i = 12 ∨ i = 13 ∨ i = 14 by omega) with rfl | rfl | rfl | rfl | rfl | rfl | rfl | rfl | rfl | rfl | rfl | rfl | rfl | rfl | rfl
        · have e9 : a.tmps[9]?.getD undef = v := hev 9 rfl
          refine Drawn.wpOp_flow 19 rfl rfl rfl ?_
          clear hev hdep hb
          go_simp
          exact ⟨_, rfl, rfl, Below.refl _ _⟩
        · have e2 : a.tmps[2]?.getD undef = .int .i64 t := hev 2 rfl
          refine Drawn.wpOp_flow 20 rfl rfl rfl ?_
          clear hev hdep hb
          go_simp
          exact ⟨_, rfl, rfl, Below.refl _ _⟩
        · have d1 : a.tmps[20]?.getD undef = .int .i64 t := hdep 1 rfl
          refine Drawn.wpOp_flow 21 rfl rfl rfl ?_
          clear hev hdep
          clear hb
          go_simp
          refine (HPZ.out w4).mono ?_
          rintro e w' ⟨rfl, rfl⟩
          exact ⟨_, rfl, rfl, Below.refl _ _⟩
        · have d2 : a.tmps[21]?.getD undef = .int .u8 (pz.toNat : Nat) := hdep 2 rfl
          refine Drawn.wpOp_flow 22 rfl rfl rfl ?_
          clear hev hdep
          clear hb
          go_simp
          exact ⟨_, rfl, ⟨_, _, rfl, (Row.new w4 [pz, 1]).bytes⟩, balloc _ _⟩
        · have e3 : a.tmps[3]?.getD undef = .slice (some ⟨b2, o2, none⟩) tl u2 := hev 3 rfl
          refine Drawn.wpOp_flow 23 rfl rfl rfl ?_
          clear hev hdep hb
          go_simp
          exact ⟨_, rfl, rfl, Below.refl _ _⟩
        · have e11 : a.tmps[11]?.getD undef = .int .i64 (k : Nat) := hev 11 rfl
          refine Drawn.wpOp_flow 24 rfl rfl rfl ?_
          clear hev hdep hb
          go_simp
          exact ⟨_, rfl, rfl, Below.refl _ _⟩
        · have e10 : a.tmps[10]?.getD undef = .int .i64 (wd : Nat) := hev 10 rfl
          refine Drawn.wpOp_flow 25 rfl rfl rfl ?_
          clear hev hdep hb
          go_simp
          exact ⟨_, rfl, rfl, Below.refl _ _⟩
        · have d5 : a.tmps[24]?.getD undef = .int .i64 (k : Nat) := hdep 5 rfl
          have d6 : a.tmps[25]?.getD undef = .int .i64 (wd : Nat) := hdep 6 rfl
          refine Drawn.wpOp_flow 26 rfl rfl rfl ?_
          clear hev hdep hb
          go_simp
          exact ⟨_, rfl, rfl, Below.refl _ _⟩
        · have e11 : a.tmps[11]?.getD undef = .int .i64 (k : Nat) := hev 11 rfl
          refine Drawn.wpOp_flow 27 rfl rfl rfl ?_
          clear hev hdep hb
          go_simp
          exact ⟨_, rfl, rfl, Below.refl _ _⟩
        · have d8 : a.tmps[27]?.getD undef = .int .i64 (k : Nat) := hdep 8 rfl
          refine Drawn.wpOp_flow 28 rfl rfl rfl ?_
          clear hev hdep hb
          go_simp
          exact ⟨_, rfl, rfl, Below.refl _ _⟩
        · have e10 : a.tmps[10]?.getD undef = .int .i64 (wd : Nat) := hev 10 rfl
          refine Drawn.wpOp_flow 29 rfl rfl rfl ?_
          clear hev hdep hb
          go_simp
          exact ⟨_, rfl, rfl, Below.refl _ _⟩
        · have d9 : a.tmps[28]?.getD undef = .int .i64 ((k : Int) + 1) := hdep 9 rfl
          have d10 : a.tmps[29]?.getD undef = .int .i64 (wd : Nat) := hdep 10 rfl
          refine Drawn.wpOp_flow 30 rfl rfl rfl ?_
          clear hev hdep hb
          go_simp
          exact ⟨_, rfl, rfl, Below.refl _ _⟩
        · have d4 : a.tmps[23]?.getD undef = .slice (some ⟨b2, o2, none⟩) tl u2 := hdep 4 rfl
          have d7 : a.tmps[26]?.getD undef = .int .i64 (x : Nat) := hdep 7 rfl
          have d11 : a.tmps[30]?.getD undef = .int .i64 (y : Nat) := hdep 11 rfl
          refine Drawn.wpOp_flow 31 rfl rfl rfl ?_
          clear hev hdep hb
          go_simp
          exact ⟨_, rfl, rfl, Below.refl _ _⟩
        · obtain ⟨Xr, dr, d3, s2⟩ : (R12.SP.root [pz, 1] 2).p (a.tmps[22]?.getD undef) w4 := hdep 3 rfl
          have d12 : a.tmps[31]?.getD undef = .slice (some ⟨b2, o2 + x, none⟩) (y - x) (u2 - x) := hdep 12 rfl
          refine Drawn.wpOp_flow 32 rfl rfl rfl ?_
          clear hev hdep
          have C := HM.out Xr dr w4 s2 (HTP.out.below hb)
          have hz4 := hb.size
          clear hb s2
          go_simp
          refine C.mono ?_
          rintro e w' ⟨X, d, rfl, g1, g2, hX, hb', hn'⟩
          exact ⟨_, rfl, ⟨X, d, rfl, g1, g2, hX, fun a e => Nat.le_trans hz4 (hn' a e)⟩, hb'⟩
        · obtain ⟨Xp, dp, d13, p1, p2, p3, p4⟩ : (R12.SP.prod w3.heap.size pm pm.length).p (a.tmps[32]?.getD undef) w4 := hdep 13 rfl
          refine Drawn.wpOp_flow 33 rfl rfl rfl ?_
          clear hev hdep
          clear hb
          have p3' := p3.alloc (.cells #[.slice Xp pm.length dp] 25)
          clear p3
          go_simp
          exact ⟨_, rfl, ⟨w4.heap.size, Xp, dp, rfl, by simp, p1, p2, p3', p4⟩, balloc _ _⟩
      · intro xq w4 hb hxq
        have vq0 : xq 0 = v := hxq 0 (by omega)
        have vq1 : xq 1 = .int .i64 t := hxq 1 (by omega)
        have vq2 : xq 2 = .int .u8 (pz.toNat : Nat) := hxq 2 (by omega)
        have vq4 : xq 4 = .slice (some ⟨b2, o2, none⟩) tl u2 := hxq 4 (by omega)
        have vq5 : xq 5 = .int .i64 (k : Nat) := hxq 5 (by omega)
        have vq6 : xq 6 = .int .i64 (wd : Nat) := hxq 6 (by omega)
        have vq7 : xq 7 = .int .i64 (x : Nat) := hxq 7 (by omega)
        have vq8 : xq 8 = .int .i64 (k : Nat) := hxq 8 (by omega)
        have vq9 : xq 9 = .int .i64 ((k : Int) + 1) := hxq 9 (by omega)
        have vq10 : xq 10 = .int .i64 (wd : Nat) := hxq 10 (by omega)
        have vq11 : xq 11 = .int .i64 (y : Nat) := hxq 11 (by omega)
        have vq12 : xq 12 = .slice (some ⟨b2, o2 + x, none⟩) (y - x) (u2 - x) := hxq 12 (by omega)
        obtain ⟨gl, Xp, dp, vq14, q0, q1, q2, q3, q4⟩ : (R12.SP.lit w3.heap.size pm pm.length).p (xq 14) w4 := hxq 14 (by omega)
        show wpList _ _ _ _ (Drawn.acts _ [(33, some (xq 14)), (32, some (xq 13)), (31, some (xq 12)), (30, some (xq 11)), (29, some (xq 10)), (28, some (xq 9)), (27, some (xq 8)), (26, some (xq 7)), (25, some (xq 6)), (24, some (xq 5)), (23, some (xq 4)), (22, some (xq 3)), (21, some (xq 2)), (20, some (xq 1)), (19, some (xq 0))]) _
        rw [vq0, vq1, vq2, vq4, vq5, vq6, vq7, vq8, vq9, vq10, vq11, vq12, vq14]
        clear hxq vq0 vq1 vq2 vq4 vq5 vq6 vq7 vq8 vq9 vq10 vq11 vq12 vq14
        generalize xq 3 = yq3
        generalize xq 13 = yq13
        clear xq
        simp only [Drawn.acts, List.drop_succ_cons, List.drop_zero]
        go_simp
        go_wp2_with (at_builtin; refine wpList_append_row rfl _ _ rfl w1.heap.size v PT0 rfl (HO.out.below hb) gl 1 pm Xp dp rfl q0 q1 q2 q3 (fun _ a e e' => by have h1 := (HOL.out _ e').2; have h2 := q4 a e; omega) (by have := HPL1.out; omega) (by have := hb.size; omega) ?_; intro v' w7 hown1 hb7)
        have HO1 := Lib.hid hown1; have HB7 := Lib.hid ((HB3.out.trans (hb.mono hz)).trans hb7)
        clear hown1 hb7 hb q0 q3 q4
        go_wp2
        go_roundw
        case rel => exact ⟨k + 1, _, by omega, by go_num, rfl, by rw [HPT1.out]; exact HO1.out, HB7.out⟩
        case measure => simp [intOf] <;> omega
    · obtain rfl : k = n := by omega
      go_wp2
      go_ret
      exact R12.RetRows.later (RetRows.of_own HO.out HB3.out) HB1.out

set_option maxHeartbeats 4000000 in
theorem among_any (N T L W S R n t : Int) (A1 A2 : Option Addr) (who : List Int) (sh : List (List UInt8)) (u1 u2 : Nat) (w : World) (hT : 0 ≤ T ∧ T ≤ 256) (hL : 0 ≤ L ∧ L ≤ 256) (h1 : IntsAt w A1 who) (h2 : RowsAt w A2 sh) (hw : who.length ≤ 1048576) (hl : sh.length ≤ 1048576) :
    Calls Try.prog 16 #[.agg #[.int .i64 N, .int .i64 T, .int .i64 L, .int .i64 W, .int .i64 S, .int .i64 R], .int .i64 n, .int .i64 t, .slice A1 who.length u1, .slice A2 sh.length u2] w fun e w' => e = .returned (.int .i64 (among ⟨N, T, L, W, S, R⟩ n t who sh)) ∧ Below w.heap.size w w' := by
  have HA := Lib.hid (PlanLies.new w N T L W S R)
  have hb0 := balloc w (.cells #[.int .i64 N, .int .i64 T, .int .i64 L, .int .i64 W, .int .i64 S, .int .i64 R] 23)
  obtain ⟨q, hq⟩ : ∃ q : P, q = ⟨N, T, L, W, S, R⟩ := ⟨_, rfl⟩
  have hv : q.val = .agg #[.int .i64 N, .int .i64 T, .int .i64 L, .int .i64 W, .int .i64 S, .int .i64 R] := by rw [hq]; rfl
  have KI := fun x V => R08.is_any q x V
  rw [hv] at KI
  have hres : among ⟨N, T, L, W, S, R⟩ n t who sh = if anyOff q t who then 2 else if unl (points who) then (if (who.length : Int) < T + L then 6 else if sh.length ≠ who.length then 3 else if allAre n sh then 0 else 3) else 5 := by rw [hq]; rfl
  obtain ⟨res, hrs⟩ : ∃ res, res = among ⟨N, T, L, W, S, R⟩ n t who sh := ⟨_, rfl⟩
  rw [← hrs]
  rw [hres] at hrs
  have r2 : anyOff q t who = true → res = 2 := fun h => by rw [hrs, if_pos h]
  have r5 : anyOff q t who = false → unl (points who) = false → res = 5 := fun h h2 => by rw [hrs, h, h2]; rfl
  have r6 : anyOff q t who = false → unl (points who) = true → (who.length : Int) < T + L → res = 6 := fun h h2 h3 => by rw [hrs, h, h2, if_neg (by simp), if_pos rfl, if_pos h3]
  have r3 : anyOff q t who = false → unl (points who) = true → ¬ (who.length : Int) < T + L → sh.length ≠ who.length → res = 3 := fun h h2 h3 h4 => by rw [hrs, h, h2, if_neg (by simp), if_pos rfl, if_neg h3, if_pos h4]
  have r3' : anyOff q t who = false → unl (points who) = true → ¬ (who.length : Int) < T + L → sh.length = who.length → allAre n sh = false → res = 3 := fun h h2 h3 h4 h5 => by rw [hrs, h, h2, h5, if_neg (by simp), if_pos rfl, if_neg h3, if_neg (by omega)]; rfl
  have r0 : anyOff q t who = false → unl (points who) = true → ¬ (who.length : Int) < T + L → sh.length = who.length → allAre n sh = true → res = 0 := fun h h2 h3 h4 h5 => by rw [hrs, h, h2, h5, if_neg (by simp), if_pos rfl, if_neg h3, if_neg (by omega)]; rfl
  have hyes := fun i (hi : i < who.length) => anyOff_yes (p := q) (t := t) hi
  have hno := anyOff_no (p := q) (t := t) (who := who)
  have KP := fun V (h : IntsAt V A1 who) => R08.points_any A1 who u1 V h (by omega)
  have hpl : (points who).length = who.length := points_len who
  have KU := fun X d V (h : BytesAt V X (points who)) => R03.unlike_any X (points who) d V h (by omega)
  rw [hpl] at KU
  have hano := fun i (hi : i < sh.length) => allAre_no (n := n) hi
  have hayes := allAre_yes (n := n) (sh := sh)
  have i1 : IntKind.i64.wrap (T + L) = T + L := IntWalk.i64_in _ (by omega)
  generalize anyOff q t who = ao at *
  generalize allAre n sh = aa at *
  generalize unl (points who) = un at *
  have H1 := Lib.hid h1; have H2 := Lib.hid h2; have HI := Lib.hid KI; have HY := Lib.hid hyes; have HN := Lib.hid hno; have HP := Lib.hid KP; have HU := Lib.hid KU; have HPL := Lib.hid hpl; have HAN := Lib.hid hano; have HAY := Lib.hid hayes
  have R2 := Lib.hid r2; have R5 := Lib.hid r5; have R6 := Lib.hid r6; have R3 := Lib.hid r3; have R3' := Lib.hid r3'; have R0 := Lib.hid r0
  clear r2 r5 r6 r3 r3' r0 hrs
  obtain ⟨wl, hwl⟩ : ∃ wl, wl = who.length := ⟨_, rfl⟩
  obtain ⟨sl, hsl⟩ : ∃ sl, sl = sh.length := ⟨_, rfl⟩
  have HWL := Lib.hid hwl; have HSL := Lib.hid hsl
  rw [← hwl] at hw HP HU HPL R6 R3 R3' R0 ⊢
  rw [← hsl] at hl R3 R3' R0 ⊢
  clear h1 h2 KI hyes hno KP KU hpl hano hayes hwl hsl hres hv hq
  go_enter Try.func16, Try.ntmps16
  go_wp2
  generalize w.alloc (.cells #[.int .i64 N, .int .i64 T, .int .i64 L, .int .i64 W, .int .i64 S, .int .i64 R] 23) = w0 at *
  go_loopw [11] (fun j wr => ∃ k : Nat, k ≤ wl ∧ j = .int .i64 k ∧ (∀ i, (hi : i < who.length) → i < k → (!(q.is who[i]) || who[i] == t) = false) ∧ Below w0.heap.size w0 wr)
    (fun j _ => wl - (intOf j).toNat)
  case atStart => exact ⟨0, Nat.zero_le _, rfl, fun i _ h => by omega, Below.refl _ _⟩
  case round =>
    obtain ⟨k, hk, rfl, hall, hbr⟩ := hrel
    rename World => wr
    have HL := Lib.hid hall; have HBR := Lib.hid hbr; have HAR := Lib.hid (HA.out.below hbr)
    clear hall hbr
    by_cases hlt : k < wl
    · have hkw : k < who.length := by rw [← HWL.out]; exact hlt
      obtain ⟨wb, wo, rfl, e1⟩ := (H1.out.below (bstep hb0 HBR.out)).at hkw
      have HNX := Lib.hid (fun (h : (!(q.is who[k]) || who[k] == t) = false) => (show ∀ i, (hi : i < who.length) → i < k + 1 → (!(q.is who[i]) || who[i] == t) = false from fun i hi h2 => by
        by_cases e : i = k
        · subst e; exact h
        · exact HL.out i hi (by omega)))
      have HYK := Lib.hid (HY.out k hkw)
      obtain ⟨x, hx⟩ : ∃ x, x = who[k] := ⟨_, rfl⟩
      rw [← hx] at e1 HNX HYK
      have E1 := Lib.hid e1
      have C := HI.out x
      clear e1 hx
      rcases his : q.is x with _ | _
      · rw [his] at C HYK
        have HIX := Lib.hid C
        have ha := HYK.out rfl
        have HAO := Lib.hid ha
        clear his C ha
        go_wp2_with fail
        refine Drawn.wp_region_flowL 15 [Drawn.SP.is (.agg #[.int .i64 N, .int .i64 T, .int .i64 L, .int .i64 W, .int .i64 S, .int .i64 R]), Drawn.SP.is (.slice (some ⟨wb, wo, none⟩) wl u1), Drawn.SP.is (.int .i64 (k : Nat)), Drawn.SP.is (.pointer (some ⟨wb, wo + k, none⟩)), Drawn.SP.is (.int .i64 x), Drawn.SP.is (.bool false), Drawn.SP.is (.bool true), Drawn.SP.is (.bool true), Drawn.SP.is (undef), Drawn.SP.is (undef), Drawn.SP.is (undef), Drawn.SP.is (undef), Drawn.SP.is (undef), Drawn.SP.is (undef), Drawn.SP.is (.bool true)] (by kernel_rfl) (by kernel_rfl) ?_ ?_
        · intro i hi a w4 hb hev hdep
          rcases (show i = 0 ∨ i = 1 ∨ i = 2 ∨ i = 3 ∨ i = 4 ∨ i = 5 ∨ i = 6 ∨ i = 7 ∨ i = 8 ∨ i = 9 ∨ i = 10 ∨ i = 11 ∨ i = 12 ∨ i = 13 ∨ i = 14 by omega) with rfl | rfl | rfl | rfl | rfl | rfl | rfl | rfl | rfl | rfl | rfl | rfl | rfl | rfl | rfl
          · have e5 : a.tmps[5]?.getD undef = .pointer (some ⟨w.heap.size, 0, none⟩) := hev 5 rfl
            refine Drawn.wpOp_flow 19 rfl rfl rfl ?_
            obtain ⟨c0, c1, c2, c3, c4, c5⟩ := six (HAR.out.below hb)
            have k1 := (hb.cell (p := ⟨wb, wo + k, none⟩) (cell_lt E1.out)).trans E1.out
            clear hev hdep hb
            go_simp
            exact ⟨_, rfl, rfl, Below.refl _ _⟩
          · have e3 : a.tmps[3]?.getD undef = .slice (some ⟨wb, wo, none⟩) wl u1 := hev 3 rfl
            refine Drawn.wpOp_flow 20 rfl rfl rfl ?_
            clear hev hdep hb
            go_simp
            exact ⟨_, rfl, rfl, Below.refl _ _⟩
          · have e11 : a.tmps[11]?.getD undef = .int .i64 (k : Nat) := hev 11 rfl
            refine Drawn.wpOp_flow 21 rfl rfl rfl ?_
            clear hev hdep hb
            go_simp
            exact ⟨_, rfl, rfl, Below.refl _ _⟩
          · have d1 : a.tmps[20]?.getD undef = .slice (some ⟨wb, wo, none⟩) wl u1 := hdep 1 rfl
            have d2 : a.tmps[21]?.getD undef = .int .i64 (k : Nat) := hdep 2 rfl
            refine Drawn.wpOp_flow 22 rfl rfl rfl ?_
            clear hev hdep hb
            go_simp
            exact ⟨_, rfl, rfl, Below.refl _ _⟩
          · have d3 : a.tmps[22]?.getD undef = .pointer (some ⟨wb, wo + k, none⟩) := hdep 3 rfl
            refine Drawn.wpOp_flow 23 rfl rfl rfl ?_
            obtain ⟨c0, c1, c2, c3, c4, c5⟩ := six (HAR.out.below hb)
            have k1 := (hb.cell (p := ⟨wb, wo + k, none⟩) (cell_lt E1.out)).trans E1.out
            clear hev hdep hb
            go_simp
            exact ⟨_, rfl, rfl, Below.refl _ _⟩
          · have d0 : a.tmps[19]?.getD undef = .agg #[.int .i64 N, .int .i64 T, .int .i64 L, .int .i64 W, .int .i64 S, .int .i64 R] := hdep 0 rfl
            have d4 : a.tmps[23]?.getD undef = .int .i64 x := hdep 4 rfl
            refine Drawn.wpOp_flow 24 rfl rfl rfl ?_
            clear hev hdep
            clear hb
            go_simp
            refine (HIX.out w4).mono ?_
            rintro e w' ⟨rfl, hb'⟩
            exact ⟨_, rfl, rfl, hb'⟩
          · have d5 : a.tmps[24]?.getD undef = .bool false := hdep 5 rfl
            refine Drawn.wpOp_flow 25 rfl rfl rfl ?_
            clear hev hdep hb
            go_simp
            exact ⟨_, rfl, rfl, Below.refl _ _⟩
          · have d6 : a.tmps[25]?.getD undef = .bool true := hdep 6 rfl
            refine Drawn.wpOp_flow 26 rfl rfl rfl ?_
            clear hev hdep hb
            go_simp
            exact ⟨_, rfl, rfl, Below.refl _ _⟩
          · have dg : a.tmps[26]?.getD undef = .bool true := hdep 7 rfl
            exact Drawn.wpOp_flow_skip 27 rfl (Drawn.unwanted_of rfl rfl rfl dg rfl) rfl rfl
          · have dg : a.tmps[26]?.getD undef = .bool true := hdep 7 rfl
            exact Drawn.wpOp_flow_skip 28 rfl (Drawn.unwanted_of rfl rfl rfl dg rfl) rfl rfl
          · have dg : a.tmps[26]?.getD undef = .bool true := hdep 7 rfl
            exact Drawn.wpOp_flow_skip 29 rfl (Drawn.unwanted_of rfl rfl rfl dg rfl) rfl rfl
          · have dg : a.tmps[26]?.getD undef = .bool true := hdep 7 rfl
            exact Drawn.wpOp_flow_skip 30 rfl (Drawn.unwanted_of rfl rfl rfl dg rfl) rfl rfl
          · have dg : a.tmps[26]?.getD undef = .bool true := hdep 7 rfl
            exact Drawn.wpOp_flow_skip 31 rfl (Drawn.unwanted_of rfl rfl rfl dg rfl) rfl rfl
          · have dg : a.tmps[26]?.getD undef = .bool true := hdep 7 rfl
            exact Drawn.wpOp_flow_skip 32 rfl (Drawn.unwanted_of rfl rfl rfl dg rfl) rfl rfl
          · have d7 : a.tmps[26]?.getD undef = .bool true := hdep 7 rfl
            have d13 : a.tmps[32]?.getD undef = undef := hdep 13 rfl
            refine Drawn.wpOp_flow 33 rfl rfl rfl ?_
            clear hev hdep hb
            go_simp
            exact ⟨_, rfl, rfl, Below.refl _ _⟩
        · intro xq w4 hb hxq
          have vq0 : xq 0 = .agg #[.int .i64 N, .int .i64 T, .int .i64 L, .int .i64 W, .int .i64 S, .int .i64 R] := hxq 0 (by omega)
          have vq1 : xq 1 = .slice (some ⟨wb, wo, none⟩) wl u1 := hxq 1 (by omega)
          have vq2 : xq 2 = .int .i64 (k : Nat) := hxq 2 (by omega)
          have vq3 : xq 3 = .pointer (some ⟨wb, wo + k, none⟩) := hxq 3 (by omega)
          have vq4 : xq 4 = .int .i64 x := hxq 4 (by omega)
          have vq5 : xq 5 = .bool false := hxq 5 (by omega)
          have vq6 : xq 6 = .bool true := hxq 6 (by omega)
          have vq7 : xq 7 = .bool true := hxq 7 (by omega)
          have vq8 : xq 8 = undef := hxq 8 (by omega)
          have vq9 : xq 9 = undef := hxq 9 (by omega)
          have vq10 : xq 10 = undef := hxq 10 (by omega)
          have vq11 : xq 11 = undef := hxq 11 (by omega)
          have vq12 : xq 12 = undef := hxq 12 (by omega)
          have vq13 : xq 13 = undef := hxq 13 (by omega)
          have vq14 : xq 14 = .bool true := hxq 14 (by omega)
          show Exit.then _ _ Exit.normal (Drawn.acts _ [(33, some (xq 14)), (32, some (xq 13)), (31, some (xq 12)), (30, some (xq 11)), (29, some (xq 10)), (28, some (xq 9)), (27, some (xq 8)), (26, some (xq 7)), (25, some (xq 6)), (24, some (xq 5)), (23, some (xq 4)), (22, some (xq 3)), (21, some (xq 2)), (20, some (xq 1)), (19, some (xq 0))]) _
          rw [vq0, vq1, vq2, vq3, vq4, vq5, vq6, vq7, vq8, vq9, vq10, vq11, vq12, vq13, vq14]
          clear hxq vq0 vq1 vq2 vq3 vq4 vq5 vq6 vq7 vq8 vq9 vq10 vq11 vq12 vq13 vq14
          clear xq
          simp only [Drawn.acts]
          go_simp
          go_wp2
          go_ret
          exact ⟨ret_int (R2.out HAO.out).symm, bstep hb0 (bstep HBR.out hb)⟩
      · by_cases hxt : x = t
        · have hxb : (x == t) = true := by rw [beq_iff_eq]; exact hxt
          rw [his, hxb] at HYK
          rw [his] at C
          have HIX := Lib.hid C
          have ha := HYK.out rfl
          have HAO := Lib.hid ha
          clear his C ha hxt
          go_wp2_with fail
          refine Drawn.wp_region_flowL 15 [Drawn.SP.is (.agg #[.int .i64 N, .int .i64 T, .int .i64 L, .int .i64 W, .int .i64 S, .int .i64 R]), Drawn.SP.is (.slice (some ⟨wb, wo, none⟩) wl u1), Drawn.SP.is (.int .i64 (k : Nat)), Drawn.SP.is (.pointer (some ⟨wb, wo + k, none⟩)), Drawn.SP.is (.int .i64 x), Drawn.SP.is (.bool true), Drawn.SP.is (.bool false), Drawn.SP.is (.bool false), Drawn.SP.is (.slice (some ⟨wb, wo, none⟩) wl u1), Drawn.SP.is (.int .i64 (k : Nat)), Drawn.SP.is (.pointer (some ⟨wb, wo + k, none⟩)), Drawn.SP.is (.int .i64 x), Drawn.SP.is (.int .i64 t), Drawn.SP.is (.bool true), Drawn.SP.is (.bool true)] (by kernel_rfl) (by kernel_rfl) ?_ ?_
          · intro i hi a w4 hb hev hdep
            rcases (show i = 0 ∨ i = 1 ∨ i = 2 ∨ i = 3 ∨ i = 4 ∨ i = 5 ∨ i = 6 ∨ i = 7 ∨ i = 8 ∨ i = 9 ∨ i = 10 ∨ i = 11 ∨ i = 12 ∨ i = 13 ∨ i = 14 by omega) with rfl | rfl | rfl | rfl | rfl | rfl | rfl | rfl | rfl | rfl | rfl | rfl | rfl | rfl | rfl
            · have e5 : a.tmps[5]?.getD undef = .pointer (some ⟨w.heap.size, 0, none⟩) := hev 5 rfl
              refine Drawn.wpOp_flow 19 rfl rfl rfl ?_
              obtain ⟨c0, c1, c2, c3, c4, c5⟩ := six (HAR.out.below hb)
              have k1 := (hb.cell (p := ⟨wb, wo + k, none⟩) (cell_lt E1.out)).trans E1.out
              clear hev hdep hb
              go_simp
              exact ⟨_, rfl, rfl, Below.refl _ _⟩
            · have e3 : a.tmps[3]?.getD undef = .slice (some ⟨wb, wo, none⟩) wl u1 := hev 3 rfl
              refine Drawn.wpOp_flow 20 rfl rfl rfl ?_
              clear hev hdep hb
              go_simp
              exact ⟨_, rfl, rfl, Below.refl _ _⟩
            · have e11 : a.tmps[11]?.getD undef = .int .i64 (k : Nat) := hev 11 rfl
              refine Drawn.wpOp_flow 21 rfl rfl rfl ?_
              clear hev hdep hb
              go_simp
              exact ⟨_, rfl, rfl, Below.refl _ _⟩
            · have d1 : a.tmps[20]?.getD undef = .slice (some ⟨wb, wo, none⟩) wl u1 := hdep 1 rfl
              have d2 : a.tmps[21]?.getD undef = .int .i64 (k : Nat) := hdep 2 rfl
              refine Drawn.wpOp_flow 22 rfl rfl rfl ?_
              clear hev hdep hb
              go_simp
              exact ⟨_, rfl, rfl, Below.refl _ _⟩
            · have d3 : a.tmps[22]?.getD undef = .pointer (some ⟨wb, wo + k, none⟩) := hdep 3 rfl
              refine Drawn.wpOp_flow 23 rfl rfl rfl ?_
              obtain ⟨c0, c1, c2, c3, c4, c5⟩ := six (HAR.out.below hb)
              have k1 := (hb.cell (p := ⟨wb, wo + k, none⟩) (cell_lt E1.out)).trans E1.out
              clear hev hdep hb
              go_simp
              exact ⟨_, rfl, rfl, Below.refl _ _⟩
            · have d0 : a.tmps[19]?.getD undef = .agg #[.int .i64 N, .int .i64 T, .int .i64 L, .int .i64 W, .int .i64 S, .int .i64 R] := hdep 0 rfl
              have d4 : a.tmps[23]?.getD undef = .int .i64 x := hdep 4 rfl
              refine Drawn.wpOp_flow 24 rfl rfl rfl ?_
              clear hev hdep
              clear hb
              go_simp
              refine (HIX.out w4).mono ?_
              rintro e w' ⟨rfl, hb'⟩
              exact ⟨_, rfl, rfl, hb'⟩
            · have d5 : a.tmps[24]?.getD undef = .bool true := hdep 5 rfl
              refine Drawn.wpOp_flow 25 rfl rfl rfl ?_
              clear hev hdep hb
              go_simp
              exact ⟨_, rfl, rfl, Below.refl _ _⟩
            · have d6 : a.tmps[25]?.getD undef = .bool false := hdep 6 rfl
              refine Drawn.wpOp_flow 26 rfl rfl rfl ?_
              clear hev hdep hb
              go_simp
              exact ⟨_, rfl, rfl, Below.refl _ _⟩
            · have e3 : a.tmps[3]?.getD undef = .slice (some ⟨wb, wo, none⟩) wl u1 := hev 3 rfl
              have dg : a.tmps[26]?.getD undef = .bool false := hdep 7 rfl
              refine Drawn.wpOp_flow 27 rfl (Drawn.wanted_of rfl rfl rfl dg) rfl ?_
              clear dg
              clear hev hdep hb
              go_simp
              exact ⟨_, rfl, rfl, Below.refl _ _⟩
            · have e11 : a.tmps[11]?.getD undef = .int .i64 (k : Nat) := hev 11 rfl
              have dg : a.tmps[26]?.getD undef = .bool false := hdep 7 rfl
              refine Drawn.wpOp_flow 28 rfl (Drawn.wanted_of rfl rfl rfl dg) rfl ?_
              clear dg
              clear hev hdep hb
              go_simp
              exact ⟨_, rfl, rfl, Below.refl _ _⟩
            · have d8 : a.tmps[27]?.getD undef = .slice (some ⟨wb, wo, none⟩) wl u1 := hdep 8 rfl
              have d9 : a.tmps[28]?.getD undef = .int .i64 (k : Nat) := hdep 9 rfl
              have dg : a.tmps[26]?.getD undef = .bool false := hdep 7 rfl
              refine Drawn.wpOp_flow 29 rfl (Drawn.wanted_of rfl rfl rfl dg) rfl ?_
              clear dg
              clear hev hdep hb
              go_simp
              exact ⟨_, rfl, rfl, Below.refl _ _⟩
            · have d10 : a.tmps[29]?.getD undef = .pointer (some ⟨wb, wo + k, none⟩) := hdep 10 rfl
              have dg : a.tmps[26]?.getD undef = .bool false := hdep 7 rfl
              refine Drawn.wpOp_flow 30 rfl (Drawn.wanted_of rfl rfl rfl dg) rfl ?_
              obtain ⟨c0, c1, c2, c3, c4, c5⟩ := six (HAR.out.below hb)
              have k1 := (hb.cell (p := ⟨wb, wo + k, none⟩) (cell_lt E1.out)).trans E1.out
              clear dg
              clear hev hdep hb
              go_simp
              exact ⟨_, rfl, rfl, Below.refl _ _⟩
            · have e2 : a.tmps[2]?.getD undef = .int .i64 t := hev 2 rfl
              have dg : a.tmps[26]?.getD undef = .bool false := hdep 7 rfl
              refine Drawn.wpOp_flow 31 rfl (Drawn.wanted_of rfl rfl rfl dg) rfl ?_
              clear dg
              clear hev hdep hb
              go_simp
              exact ⟨_, rfl, rfl, Below.refl _ _⟩
            · have d11 : a.tmps[30]?.getD undef = .int .i64 x := hdep 11 rfl
              have d12 : a.tmps[31]?.getD undef = .int .i64 t := hdep 12 rfl
              have dg : a.tmps[26]?.getD undef = .bool false := hdep 7 rfl
              refine Drawn.wpOp_flow 32 rfl (Drawn.wanted_of rfl rfl rfl dg) rfl ?_
              clear dg
              clear hev hdep hb
              go_simp
              exact ⟨_, rfl, rfl, Below.refl _ _⟩
            · have d7 : a.tmps[26]?.getD undef = .bool false := hdep 7 rfl
              have d13 : a.tmps[32]?.getD undef = .bool true := hdep 13 rfl
              refine Drawn.wpOp_flow 33 rfl rfl rfl ?_
              clear hev hdep hb
              go_simp
              exact ⟨_, rfl, rfl, Below.refl _ _⟩
          · intro xq w4 hb hxq
            have vq0 : xq 0 = .agg #[.int .i64 N, .int .i64 T, .int .i64 L, .int .i64 W, .int .i64 S, .int .i64 R] := hxq 0 (by omega)
            have vq1 : xq 1 = .slice (some ⟨wb, wo, none⟩) wl u1 := hxq 1 (by omega)
            have vq2 : xq 2 = .int .i64 (k : Nat) := hxq 2 (by omega)
            have vq3 : xq 3 = .pointer (some ⟨wb, wo + k, none⟩) := hxq 3 (by omega)
            have vq4 : xq 4 = .int .i64 x := hxq 4 (by omega)
            have vq5 : xq 5 = .bool true := hxq 5 (by omega)
            have vq6 : xq 6 = .bool false := hxq 6 (by omega)
            have vq7 : xq 7 = .bool false := hxq 7 (by omega)
            have vq8 : xq 8 = .slice (some ⟨wb, wo, none⟩) wl u1 := hxq 8 (by omega)
            have vq9 : xq 9 = .int .i64 (k : Nat) := hxq 9 (by omega)
            have vq10 : xq 10 = .pointer (some ⟨wb, wo + k, none⟩) := hxq 10 (by omega)
            have vq11 : xq 11 = .int .i64 x := hxq 11 (by omega)
            have vq12 : xq 12 = .int .i64 t := hxq 12 (by omega)
            have vq13 : xq 13 = .bool true := hxq 13 (by omega)
            have vq14 : xq 14 = .bool true := hxq 14 (by omega)
            show Exit.then _ _ Exit.normal (Drawn.acts _ [(33, some (xq 14)), (32, some (xq 13)), (31, some (xq 12)), (30, some (xq 11)), (29, some (xq 10)), (28, some (xq 9)), (27, some (xq 8)), (26, some (xq 7)), (25, some (xq 6)), (24, some (xq 5)), (23, some (xq 4)), (22, some (xq 3)), (21, some (xq 2)), (20, some (xq 1)), (19, some (xq 0))]) _
            rw [vq0, vq1, vq2, vq3, vq4, vq5, vq6, vq7, vq8, vq9, vq10, vq11, vq12, vq13, vq14]
            clear hxq vq0 vq1 vq2 vq3 vq4 vq5 vq6 vq7 vq8 vq9 vq10 vq11 vq12 vq13 vq14
            clear xq
            simp only [Drawn.acts]
            go_simp
            go_wp2
            go_ret
            exact ⟨ret_int (R2.out HAO.out).symm, bstep hb0 (bstep HBR.out hb)⟩
        · have hxb : (x == t) = false := by rw [beq_eq_false_iff_ne]; exact hxt
          rw [his, hxb] at HNX
          rw [his] at C
          have HIX := Lib.hid C
          have HN1 := Lib.hid (HNX.out rfl)
          clear his C hxt
          go_wp2_with fail
          refine Drawn.wp_region_flowL 15 [Drawn.SP.is (.agg #[.int .i64 N, .int .i64 T, .int .i64 L, .int .i64 W, .int .i64 S, .int .i64 R]), Drawn.SP.is (.slice (some ⟨wb, wo, none⟩) wl u1), Drawn.SP.is (.int .i64 (k : Nat)), Drawn.SP.is (.pointer (some ⟨wb, wo + k, none⟩)), Drawn.SP.is (.int .i64 x), Drawn.SP.is (.bool true), Drawn.SP.is (.bool false), Drawn.SP.is (.bool false), Drawn.SP.is (.slice (some ⟨wb, wo, none⟩) wl u1), Drawn.SP.is (.int .i64 (k : Nat)), Drawn.SP.is (.pointer (some ⟨wb, wo + k, none⟩)), Drawn.SP.is (.int .i64 x), Drawn.SP.is (.int .i64 t), Drawn.SP.is (.bool false), Drawn.SP.is (.bool false)] (by kernel_rfl) (by kernel_rfl) ?_ ?_
          · intro i hi a w4 hb hev hdep
            rcases (show i = 0 ∨ i = 1 ∨ i = 2 ∨ i = 3 ∨ i = 4 ∨ i = 5 ∨ i = 6 ∨ i = 7 ∨ i = 8 ∨ i = 9 ∨ i = 10 ∨ i = 11 ∨ i = 12 ∨ i = 13 ∨ i = 14 by omega) with rfl | rfl | rfl | rfl | rfl | rfl | rfl | rfl | rfl | rfl | rfl | rfl | rfl | rfl | rfl
            · have e5 : a.tmps[5]?.getD undef = .pointer (some ⟨w.heap.size, 0, none⟩) := hev 5 rfl
              refine Drawn.wpOp_flow 19 rfl rfl rfl ?_
              obtain ⟨c0, c1, c2, c3, c4, c5⟩ := six (HAR.out.below hb)
              have k1 := (hb.cell (p := ⟨wb, wo + k, none⟩) (cell_lt E1.out)).trans E1.out
              clear hev hdep hb
              go_simp
              exact ⟨_, rfl, rfl, Below.refl _ _⟩
            · have e3 : a.tmps[3]?.getD undef = .slice (some ⟨wb, wo, none⟩) wl u1 := hev 3 rfl
              refine Drawn.wpOp_flow 20 rfl rfl rfl ?_
              clear hev hdep hb
              go_simp
              exact ⟨_, rfl, rfl, Below.refl _ _⟩
            · have e11 : a.tmps[11]?.getD undef = .int .i64 (k : Nat) := hev 11 rfl
              refine Drawn.wpOp_flow 21 rfl rfl rfl ?_
              clear hev hdep hb
              go_simp
              exact ⟨_, rfl, rfl, Below.refl _ _⟩
            · have d1 : a.tmps[20]?.getD undef = .slice (some ⟨wb, wo, none⟩) wl u1 := hdep 1 rfl
              have d2 : a.tmps[21]?.getD undef = .int .i64 (k : Nat) := hdep 2 rfl
              refine Drawn.wpOp_flow 22 rfl rfl rfl ?_
              clear hev hdep hb
              go_simp
              exact ⟨_, rfl, rfl, Below.refl _ _⟩
            · have d3 : a.tmps[22]?.getD undef = .pointer (some ⟨wb, wo + k, none⟩) := hdep 3 rfl
              refine Drawn.wpOp_flow 23 rfl rfl rfl ?_
              obtain ⟨c0, c1, c2, c3, c4, c5⟩ := six (HAR.out.below hb)
              have k1 := (hb.cell (p := ⟨wb, wo + k, none⟩) (cell_lt E1.out)).trans E1.out
              clear hev hdep hb
              go_simp
              exact ⟨_, rfl, rfl, Below.refl _ _⟩
            · have d0 : a.tmps[19]?.getD undef = .agg #[.int .i64 N, .int .i64 T, .int .i64 L, .int .i64 W, .int .i64 S, .int .i64 R] := hdep 0 rfl
              have d4 : a.tmps[23]?.getD undef = .int .i64 x := hdep 4 rfl
              refine Drawn.wpOp_flow 24 rfl rfl rfl ?_
              clear hev hdep
              clear hb
              go_simp
              refine (HIX.out w4).mono ?_
              rintro e w' ⟨rfl, hb'⟩
              exact ⟨_, rfl, rfl, hb'⟩
            · have d5 : a.tmps[24]?.getD undef = .bool true := hdep 5 rfl
              refine Drawn.wpOp_flow 25 rfl rfl rfl ?_
              clear hev hdep hb
              go_simp
              exact ⟨_, rfl, rfl, Below.refl _ _⟩
            · have d6 : a.tmps[25]?.getD undef = .bool false := hdep 6 rfl
              refine Drawn.wpOp_flow 26 rfl rfl rfl ?_
              clear hev hdep hb
              go_simp
              exact ⟨_, rfl, rfl, Below.refl _ _⟩
            · have e3 : a.tmps[3]?.getD undef = .slice (some ⟨wb, wo, none⟩) wl u1 := hev 3 rfl
              have dg : a.tmps[26]?.getD undef = .bool false := hdep 7 rfl
              refine Drawn.wpOp_flow 27 rfl (Drawn.wanted_of rfl rfl rfl dg) rfl ?_
              clear dg
              clear hev hdep hb
              go_simp
              exact ⟨_, rfl, rfl, Below.refl _ _⟩
            · have e11 : a.tmps[11]?.getD undef = .int .i64 (k : Nat) := hev 11 rfl
              have dg : a.tmps[26]?.getD undef = .bool false := hdep 7 rfl
              refine Drawn.wpOp_flow 28 rfl (Drawn.wanted_of rfl rfl rfl dg) rfl ?_
              clear dg
              clear hev hdep hb
              go_simp
              exact ⟨_, rfl, rfl, Below.refl _ _⟩
            · have d8 : a.tmps[27]?.getD undef = .slice (some ⟨wb, wo, none⟩) wl u1 := hdep 8 rfl
              have d9 : a.tmps[28]?.getD undef = .int .i64 (k : Nat) := hdep 9 rfl
              have dg : a.tmps[26]?.getD undef = .bool false := hdep 7 rfl
              refine Drawn.wpOp_flow 29 rfl (Drawn.wanted_of rfl rfl rfl dg) rfl ?_
              clear dg
              clear hev hdep hb
              go_simp
              exact ⟨_, rfl, rfl, Below.refl _ _⟩
            · have d10 : a.tmps[29]?.getD undef = .pointer (some ⟨wb, wo + k, none⟩) := hdep 10 rfl
              have dg : a.tmps[26]?.getD undef = .bool false := hdep 7 rfl
              refine Drawn.wpOp_flow 30 rfl (Drawn.wanted_of rfl rfl rfl dg) rfl ?_
              obtain ⟨c0, c1, c2, c3, c4, c5⟩ := six (HAR.out.below hb)
              have k1 := (hb.cell (p := ⟨wb, wo + k, none⟩) (cell_lt E1.out)).trans E1.out
              clear dg
              clear hev hdep hb
              go_simp
              exact ⟨_, rfl, rfl, Below.refl _ _⟩
            · have e2 : a.tmps[2]?.getD undef = .int .i64 t := hev 2 rfl
              have dg : a.tmps[26]?.getD undef = .bool false := hdep 7 rfl
              refine Drawn.wpOp_flow 31 rfl (Drawn.wanted_of rfl rfl rfl dg) rfl ?_
              clear dg
              clear hev hdep hb
              go_simp
              exact ⟨_, rfl, rfl, Below.refl _ _⟩
            · have d11 : a.tmps[30]?.getD undef = .int .i64 x := hdep 11 rfl
              have d12 : a.tmps[31]?.getD undef = .int .i64 t := hdep 12 rfl
              have dg : a.tmps[26]?.getD undef = .bool false := hdep 7 rfl
              refine Drawn.wpOp_flow 32 rfl (Drawn.wanted_of rfl rfl rfl dg) rfl ?_
              clear dg
              clear hev hdep hb
              go_simp
              exact ⟨_, rfl, rfl, Below.refl _ _⟩
            · have d7 : a.tmps[26]?.getD undef = .bool false := hdep 7 rfl
              have d13 : a.tmps[32]?.getD undef = .bool false := hdep 13 rfl
              refine Drawn.wpOp_flow 33 rfl rfl rfl ?_
              clear hev hdep hb
              go_simp
              exact ⟨_, rfl, rfl, Below.refl _ _⟩
          · intro xq w4 hb hxq
            have vq0 : xq 0 = .agg #[.int .i64 N, .int .i64 T, .int .i64 L, .int .i64 W, .int .i64 S, .int .i64 R] := hxq 0 (by omega)
            have vq1 : xq 1 = .slice (some ⟨wb, wo, none⟩) wl u1 := hxq 1 (by omega)
            have vq2 : xq 2 = .int .i64 (k : Nat) := hxq 2 (by omega)
            have vq3 : xq 3 = .pointer (some ⟨wb, wo + k, none⟩) := hxq 3 (by omega)
            have vq4 : xq 4 = .int .i64 x := hxq 4 (by omega)
            have vq5 : xq 5 = .bool true := hxq 5 (by omega)
            have vq6 : xq 6 = .bool false := hxq 6 (by omega)
            have vq7 : xq 7 = .bool false := hxq 7 (by omega)
            have vq8 : xq 8 = .slice (some ⟨wb, wo, none⟩) wl u1 := hxq 8 (by omega)
            have vq9 : xq 9 = .int .i64 (k : Nat) := hxq 9 (by omega)
            have vq10 : xq 10 = .pointer (some ⟨wb, wo + k, none⟩) := hxq 10 (by omega)
            have vq11 : xq 11 = .int .i64 x := hxq 11 (by omega)
            have vq12 : xq 12 = .int .i64 t := hxq 12 (by omega)
            have vq13 : xq 13 = .bool false := hxq 13 (by omega)
            have vq14 : xq 14 = .bool false := hxq 14 (by omega)
            show Exit.then _ _ Exit.normal (Drawn.acts _ [(33, some (xq 14)), (32, some (xq 13)), (31, some (xq 12)), (30, some (xq 11)), (29, some (xq 10)), (28, some (xq 9)), (27, some (xq 8)), (26, some (xq 7)), (25, some (xq 6)), (24, some (xq 5)), (23, some (xq 4)), (22, some (xq 3)), (21, some (xq 2)), (20, some (xq 1)), (19, some (xq 0))]) _
            rw [vq0, vq1, vq2, vq3, vq4, vq5, vq6, vq7, vq8, vq9, vq10, vq11, vq12, vq13, vq14]
            clear hxq vq0 vq1 vq2 vq3 vq4 vq5 vq6 vq7 vq8 vq9 vq10 vq11 vq12 vq13 vq14
            clear xq
            simp only [Drawn.acts]
            go_simp
            go_wp2
            go_roundw
            case rel => exact ⟨k + 1, by omega, by go_num, HN1.out, bstep HBR.out hb⟩
            case measure => simp [intOf] <;> omega
    · obtain rfl : k = wl := by omega
      have hao : ao = false := HN.out fun i hi => HL.out i hi (by rw [HWL.out]; exact hi)
      have HAO := Lib.hid hao
      clear hao
      go_wp2_with fail
      refine (HP.out _ (H1.out.below (bstep hb0 HBR.out))).mono ?_
      rintro e w4 ⟨X, d, rfl, _, _, hX, hb4, _⟩
      rw [HPL.out]
      have C := HU.out X d w4 hX
      have HCU := Lib.hid C
      have HB4 := Lib.hid (bstep HBR.out hb4)
      clear hX hb4 C
      go_wp2_with fail
      refine HCU.out.mono ?_
      rintro e w5 ⟨rfl, hq5⟩
      have HB5 := Lib.hid (bstep HB4.out (bquiet hq5))
      clear hq5
      cases un
      · go_wp2
        go_ret
        exact ⟨ret_int (R5.out HAO.out (by trivial)).symm, bstep hb0 HB5.out⟩
      · obtain ⟨c0, c1, c2, c3, c4, c5⟩ := six (HA.out.below HB5.out)
        by_cases hfew : (k : Int) < T + L
        · go_wp2
          go_ret
          exact ⟨ret_int (R6.out HAO.out (by trivial) hfew).symm, bstep hb0 HB5.out⟩
        · by_cases hsm : sl = k
          · have HSM := Lib.hid hsm
            have hsb : ((sl : Int) != (k : Int)) = false := by rw [hsm]; simp
            have HFW := Lib.hid hfew
            clear hsm
            go_wp2
            clear c0 c1 c2 c3 c4 c5 hsb
            go_loopw [12] (fun j wr => ∃ m : Nat, m ≤ sl ∧ j = .int .i64 m ∧ (∀ i, (hi : i < sh.length) → i < m → (sh[i].length : Int) = n) ∧ Below w5.heap.size w5 wr)
              (fun j _ => sl - (intOf j).toNat)
            case atStart => exact ⟨0, Nat.zero_le _, rfl, fun i _ h => by omega, Below.refl _ _⟩
            case round =>
              obtain ⟨m, hm, rfl, hall2, hbr2⟩ := hrel
              rename World => wr2
              have HL2 := Lib.hid hall2
              clear hall2
              by_cases hlt2 : m < sl
              · have hms : m < sh.length := by rw [← HSL.out]; exact hlt2
                obtain ⟨sb, so, B, cr, rfl, e2, _, _, _⟩ := (H2.out.below (bstep hb0 (bstep HB5.out hbr2))).row hms
                have hanm := HAN.out m hms
                obtain ⟨rl, hrl⟩ : ∃ rl, rl = sh[m].length := ⟨_, rfl⟩
                rw [← hrl] at e2 hanm
                have HRL := Lib.hid hrl
                clear hrl
                by_cases hr : (rl : Int) = n
                · have hrb : ((rl : Int) != n) = false := by rw [hr]; simp
                  have HR := Lib.hid hr
                  clear hr hanm
                  go_wp2
                  go_roundw
                  case rel => exact ⟨m + 1, by omega, by go_num, fun i hi h => by
                    by_cases e : i = m
                    · subst e; rw [← HRL.out]; exact HR.out
                    · exact HL2.out i hi (by omega), hbr2⟩
                  case measure => simp [intOf] <;> omega
                · have hrb : ((rl : Int) != n) = true := by rw [bne_iff_ne]; exact hr
                  have HAA := Lib.hid (hanm hr)
                  clear hr hanm
                  go_wp2
                  go_ret
                  exact ⟨ret_int (R3'.out HAO.out (by trivial) HFW.out HSM.out HAA.out).symm, bstep hb0 (bstep HB5.out hbr2)⟩
              · obtain rfl : m = sl := by omega
                have HAA := Lib.hid (HAY.out fun i hi => HL2.out i hi (by rw [HSL.out]; exact hi))
                go_wp2
                go_ret
                exact ⟨ret_int (R0.out HAO.out (by trivial) HFW.out HSM.out HAA.out).symm, bstep hb0 (bstep HB5.out hbr2)⟩
          · have hsb : ((sl : Int) != (k : Int)) = true := by rw [bne_iff_ne]; omega
            go_wp2
            go_ret
            exact ⟨ret_int (R3.out HAO.out (by trivial) hfew hsm).symm, bstep hb0 HB5.out⟩
set_option maxHeartbeats 4000000 in
theorem find_any (N T L W S R t : Int) (A1 A2 : Option Addr) (who : List Int) (sh : List (List UInt8)) (u1 u2 n : Nat) (w : World) (hTL : 1 ≤ T + L ∧ T + L ≤ 256) (_hT : 0 ≤ T ∧ T ≤ 256) (hn : n ≤ 240) (h1 : IntsAt w A1 who) (h2 : RowsAt w A2 sh) (k1 : who.length ≤ u1) (_z1 : u1 ≤ maxLen)
    (hw : need ⟨N, T, L, W, S, R⟩ ≤ who.length) (hs : need ⟨N, T, L, W, S, R⟩ ≤ sh.length) (hrow : ∀ i, (hi : i < sh.length) → sh[i].length = n) :
    Calls Try.prog 17 #[.agg #[.int .i64 N, .int .i64 T, .int .i64 L, .int .i64 W, .int .i64 S, .int .i64 R], .int .i64 (n : Nat), .int .i64 t, .slice A1 who.length u1, .slice A2 sh.length u2] w (RetNew w (find ⟨N, T, L, W, S, R⟩ n t who sh)) := by
  have HA := Lib.hid (PlanLies.new w N T L W S R)
  have hb0 := Lib.hid (balloc w (.cells #[.int .i64 N, .int .i64 T, .int .i64 L, .int .i64 W, .int .i64 S, .int .i64 R] 23))
  obtain ⟨q, hq⟩ : ∃ q : P, q = ⟨N, T, L, W, S, R⟩ := ⟨_, rfl⟩
  rw [← hq] at hw hs ⊢
  obtain ⟨nd, hnd⟩ : ∃ nd, nd = need q := ⟨_, rfl⟩
  have hnT : T + L = (nd : Int) := by rw [hnd, hq]; unfold need; show T + L = (((T + L).toNat : Nat) : Int); omega
  rw [← hnd] at hw hs
  have i1 : IntKind.i64.wrap (T + L) = (nd : Int) := by rw [hnT]; exact IntWalk.i64_in _ (by omega)
  obtain ⟨wt, hwt⟩ : ∃ wt, wt = who.take nd := ⟨_, rfl⟩
  have hwl : wt.length = nd := by rw [hwt, List.length_take]; omega
  have hWT : IntsAt w A1 wt := by rw [hwt]; unfold IntsAt intV; rw [List.map_take]; exact CellsAt.take h1 nd
  obtain ⟨ac, hac⟩ : ∃ ac : Nat → List UInt8, ∀ j, ac j = rys q sh j := ⟨_, fun _ => rfl⟩
  have hacd : ∀ j, PolyM.tab nd (fun i => at_ sh i j) = ac j := fun j => by rw [hac, hnd]; rfl
  have hal : ∀ j, (ac j).length = nd := fun j => by rw [← hacd]; exact PolyM.tab_len _ _
  obtain ⟨fb, hfb⟩ : ∃ fb : Nat → UInt8, ∀ j, fb j = PolyM.ev (thr (points wt) (ac j)) (point t) := ⟨_, fun _ => rfl⟩
  have hfind : find q n t who sh = PolyM.tab n fb := by
    unfold find
    refine PolyM.tab_congr fun j _ => ?_
    rw [hfb, hac]; unfold fbyte rpoly; rw [hwt, hnd]
  rw [hfind]
  obtain ⟨pz, hpz⟩ : ∃ pz, pz = point t := ⟨_, rfl⟩
  have KPT := fun V => R08.point_any t V
  rw [← hpz] at KPT hfb
  have KPS := fun V (h : IntsAt V A1 wt) => R08.points_any A1 wt u1 V h (by omega)
  have hpl : (points wt).length = nd := by rw [points_len, hwl]
  rw [hwl] at KPS
  have KTH := fun j X Y d e V (h1 : BytesAt V X (points wt)) (h2 : BytesAt V Y (ac j)) => R03.through_any X Y (points wt) (ac j) d e V h1 h2 (by omega) (by rw [hpl, hal]; exact Nat.le_refl _)
  simp only [hpl, hal] at KTH
  have KEV := fun j X d V (h : BytesAt V X (thr (points wt) (ac j))) => R02.eval_any X (thr (points wt) (ac j)) d pz V h (by rw [thr_len, hpl]; omega)
  simp only [← hfb] at KEV
  have hrw : ∀ j, j < n → ∀ i, (hi : i < sh.length) → j < sh[i].length := fun j hj i hi => by rw [hrow i hi]; exact hj
  have hnd1 : 1 ≤ nd ∧ nd ≤ 256 := by omega
  obtain ⟨b1, o1, hA1⟩ : ∃ b o, A1 = some ⟨b, o, none⟩ := by
    obtain ⟨b, o, h, _⟩ := h1.at (i := 0) (by omega)
    exact ⟨b, o, h⟩
  subst hA1
  have HWT := Lib.hid hWT; have HWL := Lib.hid hwl; have HACD := Lib.hid hacd; have HAL := Lib.hid hal; have HPL := Lib.hid hpl; have HPT := Lib.hid KPT; have HPS := Lib.hid KPS; have HTH := Lib.hid KTH; have HEV := Lib.hid KEV; have HRW := Lib.hid hrw; have H2 := Lib.hid h2
  have HTN := Lib.hid (fun j => (show (thr (points wt) (ac j)).length = nd from by rw [thr_len, hpl]))
  obtain ⟨wl, hwl2⟩ : ∃ wl, wl = who.length := ⟨_, rfl⟩
  obtain ⟨sl, hsl⟩ : ∃ sl, sl = sh.length := ⟨_, rfl⟩
  have HSL := Lib.hid hsl
  rw [← hwl2] at hw k1 ⊢
  rw [← hsl] at hs ⊢
  unfold maxLen at _z1
  clear h1 h2 hWT hwl hacd hal hfb hfind KPT KPS KTH KEV hpl hrw hrow hac hwt hnd hq hnT hwl2 hsl hpz
  go_enter Try.func17, Try.ntmps17
  go_wp2
  generalize w.alloc (.cells #[.int .i64 N, .int .i64 T, .int .i64 L, .int .i64 W, .int .i64 S, .int .i64 R] 23) = w0 at *
  go_loopw [11, 13] (fun v j wr => ∃ (k : Nat) (v0 : Value), k ≤ n ∧ j = .int .i64 k ∧ v0 = v ∧ Own wr w0.heap.size v0 (PolyM.tab k fb) ∧ Below w0.heap.size w0 wr) (fun _ j _ => n - (intOf j).toNat)
  case atStart => exact ⟨0, _, Nat.zero_le _, rfl, rfl, Own.nil _ _, Below.refl _ _⟩
  case round =>
    obtain ⟨k, vo, hk, rfl, rfl, hown, hbr⟩ := hrel
    rename World => wr
    have HO := Lib.hid hown; have HBR := Lib.hid hbr
    clear hown hbr
    by_cases hlt : k < n
    · have htl : (PolyM.tab k fb).length ≤ 240 := by rw [PolyM.tab_len]; omega
      have hts : PolyM.tab (k + 1) fb = PolyM.tab k fb ++ [fb k] := PolyM.tab_succ k fb
      have HTS := Lib.hid hts
      generalize PolyM.tab k fb = tk at *
      clear hts
      go_wp2
      go_loopw [14, 15] (fun v j w2 => ∃ (i : Nat) (v0 : Value), i ≤ nd ∧ j = .int .i64 i ∧ v0 = v ∧ Own w2 wr.heap.size v0 (PolyM.tab i fun i => at_ sh i k) ∧ Below wr.heap.size wr w2) (fun _ j _ => nd - (intOf j).toNat)
      case atStart => exact ⟨0, _, Nat.zero_le _, rfl, rfl, Own.nil _ _, Below.refl _ _⟩
      case round =>
        obtain ⟨i, vi, hi, rfl, rfl, hown2, hb2⟩ := hrel
        rename World => w2
        have HO2 := Lib.hid hown2; have HB2 := Lib.hid hb2
        have hz2 := hb2.size
        clear hown2 hb2
        by_cases hlt2 : i < nd
        · have his : i < sh.length := by rw [← HSL.out]; omega
          obtain ⟨sb, so, B, d, rfl, e1, g1, g2, hB⟩ := (H2.out.below (bstep hb0.out (bstep HBR.out HB2.out))).row his
          have hkl := HRW.out k hlt i his
          obtain ⟨b3, o3, rfl, e2⟩ := hB k hkl
          have hat := at_get his hkl
          have hsu : PolyM.tab (i + 1) (fun i => at_ sh i k) = PolyM.tab i (fun i => at_ sh i k) ++ [sh[i][k]] := by rw [PolyM.tab_succ, hat]
          have HSU := Lib.hid hsu
          have hlen : (PolyM.tab i fun i => at_ sh i k).length = i := PolyM.tab_len _ _
          have HL := Lib.hid hlen
          generalize (PolyM.tab i fun i => at_ sh i k) = acc at *
          generalize sh[i][k] = y at *
          generalize sh[i].length = l at *
          clear hsu hat hB hlen
          go_wp2_with (at_builtin; refine wpList_append_u8 rfl _ _ rfl wr.heap.size _ acc rfl (HO2.out.alloc _) w2.heap.size 1 y rfl (by simp) (by have := HL.out; omega) (by simp; omega) ?_; intro v' w3 hown3 hb3)
          go_roundw
          case rel => exact ⟨i + 1, v', by omega, by go_num, rfl, by rw [HSU.out]; exact hown3, HB2.out.trans ((((Below.refl _ _).alloc hz2 _)).trans hb3)⟩
          case measure => simp [intOf] <;> omega
        · obtain rfl : i = nd := by omega
          have ho := HO2.out
          rw [HACD.out] at ho
          obtain ⟨X, c, hv, hc1, hc2, hX⟩ := ho.bytes
          rw [HAL.out] at hv
          have HX := Lib.hid hX
          have HBW := Lib.hid (bstep HBR.out HB2.out)
          clear hX ho HO2
          subst hv
          go_wp2_with fail
          refine (HPS.out w2 (HWT.out.below (bstep hb0.out HBW.out))).mono ?_
          rintro e w3 ⟨Y, d, rfl, _, _, hY, hb3, _⟩
          rw [HPL.out]
          have C := HTH.out k Y X d c w3 hY (HX.out.below hb3)
          have HC := Lib.hid C
          have HB3 := Lib.hid hb3
          clear hY hb3 C
          go_wp2_with fail
          refine HC.out.mono ?_
          rintro e w4 ⟨Z, dz, rfl, _, _, hZ, hb4⟩
          rw [HTN.out]
          have C := HEV.out k Z dz
          rw [HTN.out] at C
          have HZ := Lib.hid hZ; have HB4 := Lib.hid (bstep HB3.out hb4); have HCE := Lib.hid C
          clear hZ hb4 C HC
          go_wp2_with fail
          refine (HPT.out w4).mono ?_
          rintro e w5 ⟨rfl, rfl⟩
          go_wp2_with fail
          refine (HCE.out w4 HZ.out).mono ?_
          rintro e w6 ⟨rfl, rfl⟩
          have HB6 := HB4
          have hb26 := bstep HB2.out HB6.out
          have hz6 := hb26.size
          have hzr := HBR.out.size
          have HO6 := Lib.hid (HO.out.below hb26)
          have HB26 := Lib.hid hb26
          clear hb26
          generalize fb k = y at *
          go_wp2_with (at_builtin; refine wpList_append_u8 rfl _ _ rfl w0.heap.size _ tk rfl (HO6.out.alloc _) w4.heap.size 1 y rfl (by simp) (by omega) (by simp; omega) ?_; intro v' w7 hown7 hb7)
          go_roundw
          case rel => exact ⟨k + 1, v', by omega, by go_num, rfl, by rw [HTS.out]; exact hown7, HBR.out.trans ((HB26.out.mono hzr).trans ((((Below.refl _ _).alloc (by omega) _)).trans hb7))⟩
          case measure => simp [intOf] <;> omega
    · obtain rfl : k = n := by omega
      go_wp2
      go_ret
      exact RetNew.later (RetNew.of_own HO.out HBR.out) hb0.out
end Go.Proofs.Ytchcgiapjhmflaa.R13
