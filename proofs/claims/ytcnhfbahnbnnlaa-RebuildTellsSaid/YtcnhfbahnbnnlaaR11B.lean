/- the document's own answers of layer 11: the polynomials, the blob, whether all agree -/
import Derived.Test.YtcnhfbahnbnnlaaR11
set_option maxRecDepth 100000
namespace Go.Proofs.Ytcnhfbahnbnnlaa.R11
open Go.RowKit PlanM StripeM LagrM DealM RebM Law08

theorem rys_zero (sh : List (List UInt8)) (j : Nat) : PolyM.tab 0 (fun i => at_ sh i j) = [] := rfl
theorem at_get {sh : List (List UInt8)} {i j : Nat} (hi : i < sh.length) (hj : j < sh[i].length) : at_ sh i j = sh[i][j] := by
  unfold at_
  rw [← List.getElem_eq_getD (h := hi), PolyM.co_get _ _ hj]

set_option maxHeartbeats 2000000 in
theorem poly_any (N T L W S R : Int) (A1 A2 : Option Addr) (who : List Int) (sh : List (List UInt8)) (u1 u2 j : Nat) (w : World) (hTL : 0 ≤ T + L ∧ T + L ≤ 256) (h1 : IntsAt w A1 who) (h2 : RowsAt w A2 sh) (k1 : who.length ≤ u1) (z1 : u1 ≤ maxLen) (hw : need ⟨N, T, L, W, S, R⟩ ≤ who.length) (hs : need ⟨N, T, L, W, S, R⟩ ≤ sh.length)
    (hj : ∀ i, (hi : i < sh.length) → j < sh[i].length) (hj2 : j ≤ 1048576) :
    Calls Try.prog 37 #[.agg #[.int .i64 N, .int .i64 T, .int .i64 L, .int .i64 W, .int .i64 S, .int .i64 R], .slice A1 who.length u1, .slice A2 sh.length u2, .int .i64 (j : Nat)] w (RetBytes w (rpoly ⟨N, T, L, W, S, R⟩ who sh j)) := by
  have HA := Lib.hid (PlanLies.new w N T L W S R)
  have hb0 := Lib.hid (balloc w (.cells #[.int .i64 N, .int .i64 T, .int .i64 L, .int .i64 W, .int .i64 S, .int .i64 R] 23))
  obtain ⟨n, hn⟩ : ∃ n, n = need ⟨N, T, L, W, S, R⟩ := ⟨_, rfl⟩
  have hnT : T + L = (n : Int) := by rw [hn]; unfold need; show T + L = (((T + L).toNat : Nat) : Int); omega
  rw [← hn] at hw hs
  have i1 : IntKind.i64.wrap (T + L) = (n : Int) := by rw [hnT]; exact IntWalk.i64_in _ (by omega)
  have hres : rpoly ⟨N, T, L, W, S, R⟩ who sh j = thr (points (who.take n)) (PolyM.tab n fun i => at_ sh i j) := by rw [hn]; rfl
  rw [hres]
  obtain ⟨ac, hac⟩ : ∃ ac, ac = PolyM.tab n fun i => at_ sh i j := ⟨_, rfl⟩
  obtain ⟨wt, hwt⟩ : ∃ wt, wt = who.take n := ⟨_, rfl⟩
  rw [← hac, ← hwt]
  have hWT : IntsAt w A1 wt := by
    rw [hwt]
    intro i hi
    have hi' : i < who.length := by rw [intV_len, List.length_take] at hi; omega
    obtain ⟨b, o, e, hc⟩ := h1.at hi'
    exact ⟨b, o, e, by rw [hc, intV_get]; simp⟩
  have hwl : wt.length = n := by rw [hwt, List.length_take]; omega
  have hal : ac.length = n := by rw [hac]; exact PolyM.tab_len _ _
  have HWT := Lib.hid hWT; have HWL := Lib.hid hwl; have HAC := Lib.hid hac; have HAL := Lib.hid hal
  clear hWT hwl hac hwt hal
  have H1 := Lib.hid h1; have H2 := Lib.hid h2; have HJ := Lib.hid hj
  have hn256 : n ≤ 256 := by omega
  have hcap : n ≤ u1 := by omega
  have z1' := z1
  unfold maxLen at z1'
  clear h1 h2 hj hres hn hnT hTL
  go_enter Try.func37, Try.ntmps37
  go_wp2
  generalize w.alloc (.cells #[.int .i64 N, .int .i64 T, .int .i64 L, .int .i64 W, .int .i64 S, .int .i64 R] 23) = w0 at *
  go_loopw [9, 11] (fun v i wr => ∃ k : Nat, k ≤ n ∧ i = .int .i64 k ∧ Own wr w.heap.size v (PolyM.tab k fun i => at_ sh i j) ∧ Below w.heap.size w wr) (fun _ i _ => n - (intOf i).toNat)
  case atStart => exact ⟨0, Nat.zero_le _, rfl, Own.nil _ _, hb0.out⟩
  case round =>
    obtain ⟨k, hk, rfl, hown, hbr⟩ := hrel
    rename World => wr
    have HO := Lib.hid hown
    have hz := hbr.size
    clear hown
    by_cases hlt : k < n
    · have hks : k < sh.length := by omega
      obtain ⟨b, o, B, d, rfl, e1, _, _, hB⟩ := H2.out.row hks
      have hjl := HJ.out k hks
      obtain ⟨b2, o2, rfl, e2⟩ := hB j hjl
      have hat := at_get hks hjl
      have hsu : PolyM.tab (k + 1) (fun i => at_ sh i j) = PolyM.tab k (fun i => at_ sh i j) ++ [sh[k][j]] := by rw [PolyM.tab_succ, hat]
      have f1 := (hbr.cell (p := ⟨b, o + k, none⟩) (cell_lt e1)).trans e1
      have f2 := (hbr.cell (p := ⟨b2, o2 + j, none⟩) (cell_lt e2)).trans e2
      have HSU := Lib.hid hsu
      have hlen : (PolyM.tab k fun i => at_ sh i j).length = k := PolyM.tab_len _ _
      have HL := Lib.hid hlen
      generalize (PolyM.tab k fun i => at_ sh i j) = acc at *
      generalize sh[k][j] = y at *
      generalize sh[k].length = l at *
      clear hsu hat hB e1 e2 hlen
      go_wp2_with (at_builtin; refine wpList_append_u8 rfl _ _ rfl w.heap.size _ acc rfl (HO.out.alloc _) wr.heap.size 1 y rfl (by simp) (by have := HL.out; omega) (by simp; omega) ?_; intro v' w1 hown1 hb1)
      go_roundw
      case rel => exact ⟨k + 1, by omega, by go_num, by rw [HSU.out]; exact hown1, hbr.trans ((((Below.refl _ _).alloc hz _)).trans hb1)⟩
      case measure => simp [intOf] <;> omega
    · obtain rfl : k = n := by omega
      have ho := HO.out
      rw [← HAC.out] at ho
      obtain ⟨X, c, hv, hc1, hc2, hX⟩ := ho.bytes
      rw [HAL.out] at hv
      have HX := Lib.hid hX
      clear hX ho HO
      subst hv
      replace HWT := Lib.hid (HWT.out.below hbr)
      go_wp2_with fail
      have C := R08.points_any A1 wt u1 wr HWT.out (by rw [HWL.out]; omega)
      rw [HWL.out] at C
      refine C.mono ?_
      clear C
      rintro e w3 ⟨Y, d, rfl, _, _, hY, hb3, _⟩
      have HY := Lib.hid hY
      clear hY
      have hpl : (points wt).length = k := by rw [points_len, HWL.out]
      rw [hpl]
      go_wp2_with fail
      have C := R03.through_any Y X (points wt) ac d c w3 HY.out (HX.out.below hb3) (by omega) (by rw [hpl, HAL.out]; exact Nat.le_refl _)
      rw [hpl, HAL.out] at C
      refine C.mono ?_
      clear C
      rintro e w4 ⟨Z, dz, rfl, g1, g2, hZ, hb4⟩
      have HZ := Lib.hid hZ
      clear hZ hpl
      go_wp2
      go_ret
      exact ⟨Z, dz, rfl, g1, g2, HZ.out, bstep (bstep hbr hb3) hb4⟩

set_option maxHeartbeats 4000000 in
theorem blob_any (N T L W S R : Int) (A1 A2 : Option Addr) (who : List Int) (sh : List (List UInt8)) (u1 u2 n : Nat) (w : World) (hp : (⟨N, T, L, W, S, R⟩ : P).May) (h1 : IntsAt w A1 who) (h2 : RowsAt w A2 sh) (k1 : who.length ≤ u1) (z1 : u1 ≤ maxLen) (hw : need ⟨N, T, L, W, S, R⟩ ≤ who.length) (hs : need ⟨N, T, L, W, S, R⟩ ≤ sh.length)
    (hj : ∀ i, (hi : i < sh.length) → sh[i].length = P.stripes ⟨N, T, L, W, S, R⟩ n) (hn : n ≤ 240) :
    Calls Try.prog 13 #[.agg #[.int .i64 N, .int .i64 T, .int .i64 L, .int .i64 W, .int .i64 S, .int .i64 R], .int .i64 (n : Nat), .slice A1 who.length u1, .slice A2 sh.length u2] w (RetNew w (rblob ⟨N, T, L, W, S, R⟩ n who sh)) := by
  have HA := Lib.hid (PlanLies.new w N T L W S R)
  have hb0 := Lib.hid (balloc w (.cells #[.int .i64 N, .int .i64 T, .int .i64 L, .int .i64 W, .int .i64 S, .int .i64 R] 23))
  have hM := hp
  unfold P.May at hM
  obtain ⟨m1, m2, m3, m4, m5, _, _, _, _⟩ := hM
  simp only at m1 m2 m3 m4 m5
  have KS := fun w => R08.secrets_any ⟨N, T, L, W, S, R⟩ w (by show 0 ≤ N; omega) (by show 0 ≤ L; omega) (by show N + L ≤ 256; omega)
  simp only [P.val] at KS
  have KP := fun j V h1 h2 hj hj2 => poly_any N T L W S R A1 A2 who sh u1 u2 j V (by omega) h1 h2 k1 z1 hw hs hj hj2
  have hrb : ∀ k, rbyte ⟨N, T, L, W, S, R⟩ who sh k = PolyM.ev (rpoly ⟨N, T, L, W, S, R⟩ who sh (k / L.toNat)) (PolyM.co (P.secrets ⟨N, T, L, W, S, R⟩) (k % L.toNat)) := fun k => rfl
  have hrl : ∀ k, (rpoly ⟨N, T, L, W, S, R⟩ who sh k).length ≤ 1099511627 := fun k => by
    unfold rpoly
    rw [thr_len, points_len, List.length_take]
    unfold need
    show min (T + L).toNat _ ≤ _
    omega
  have hen := stripes_enough ⟨N, T, L, W, S, R⟩ n m2 hn
  have hst := stripes_le ⟨N, T, L, W, S, R⟩ n m2
  have hsl : (P.secrets ⟨N, T, L, W, S, R⟩).length = L.toNat := secrets_len _
  have hres : rblob ⟨N, T, L, W, S, R⟩ n who sh = PolyM.tab n (rbyte ⟨N, T, L, W, S, R⟩ who sh) := rfl
  obtain ⟨l, hl⟩ : ∃ l : Nat, L = l := ⟨L.toNat, by omega⟩
  have hlt' : L.toNat = l := by omega
  have hen' : n ≤ P.stripes ⟨N, T, L, W, S, R⟩ n * l := by rw [← hlt']; exact hen
  rw [hres]
  rw [hlt'] at hsl hrb
  generalize rbyte ⟨N, T, L, W, S, R⟩ who sh = rb at *
  generalize rpoly ⟨N, T, L, W, S, R⟩ who sh = rp at *
  generalize P.stripes ⟨N, T, L, W, S, R⟩ n = st at *
  generalize P.secrets ⟨N, T, L, W, S, R⟩ = sec at *
  obtain ⟨ac, hac⟩ : ∃ ac, ac = PolyM.tab n rb := ⟨_, rfl⟩
  rw [← hac]
  have hal : ac.length = n := by rw [hac]; exact PolyM.tab_len _ _
  have hl1 : 1 ≤ l := by omega
  have hl256 : l ≤ 256 := by omega
  have hL0 : ¬ L = 0 := by omega
  have HP0 := Lib.hid fun j W h1 h2 (hjs : j < st) => KP j W h1 h2 (fun i hi => by rw [hj i hi]; exact hjs) (by omega)
  have H1 := Lib.hid h1; have H2 := Lib.hid h2; have HS := Lib.hid KS; have HRB := Lib.hid hrb; have HRL := Lib.hid hrl; have HSL := Lib.hid hsl; have HAC := Lib.hid hac; have HAL := Lib.hid hal; have HLL := Lib.hid hl; have HEN := Lib.hid hen'
  clear h1 h2 KS KP hrb hrl hen hsl hres hac hal hj hl hlt' hen' hp m1 m3 m4 m5
  go_enter Try.func13, Try.ntmps13
  go_wp2_with fail
  generalize w.alloc (.cells #[.int .i64 N, .int .i64 T, .int .i64 L, .int .i64 W, .int .i64 S, .int .i64 R] 23) = w0 at *
  refine (HS.out w0).mono ?_
  rintro e w1 ⟨X, dX, rfl, _, _, hX, hb1, _⟩
  obtain ⟨xb, xo, rfl, _⟩ := hX 0 (by rw [HSL.out]; omega)
  rw [HSL.out]
  have HX := Lib.hid hX
  replace H1 := Lib.hid (H1.out.below (bstep hb0.out hb1))
  replace H2 := Lib.hid (H2.out.below (bstep hb0.out hb1))
  replace HA := Lib.hid (HA.out.below hb1)
  replace hb0 := Lib.hid (bstep hb0.out hb1)
  clear hX hb1 HS
  go_wp2
  go_loopw [9, 11] (fun v i wr => ∃ (k : Nat) (v0 : Value), k ≤ n ∧ i = .int .i64 k ∧ v0 = v ∧ Own wr w1.heap.size v0 (PolyM.tab k rb) ∧ Below w1.heap.size w1 wr) (fun _ i _ => n - (intOf i).toNat)
  case atStart => exact ⟨0, _, Nat.zero_le _, rfl, rfl, Own.nil _ _, Below.refl _ _⟩
  case round =>
    obtain ⟨k, v, hk, rfl, hvv, hown, hbr⟩ := hrel
    subst hvv
    rename World => wr
    have HO := Lib.hid hown
    have hz := hbr.size
    clear hown
    by_cases hlt : k < n
    · obtain ⟨j, hjq⟩ : ∃ j, j = k / l := ⟨_, rfl⟩
      obtain ⟨m, hmq⟩ : ∃ m, m = k % l := ⟨_, rfl⟩
      have hml : m < l := by rw [hmq]; exact Nat.mod_lt _ (by omega)
      have hjs : j < st := by rw [hjq, Nat.div_lt_iff_lt_mul (by omega)]; have := HEN.out; omega
      have q1 : (k : Int).tdiv L = (j : Int) := by rw [HLL.out, hjq, Int.tdiv_eq_ediv_of_nonneg (by omega)]; exact (Int.natCast_ediv k l).symm
      have q2 : (k : Int).tmod L = (m : Int) := by rw [HLL.out, hmq, Int.tmod_eq_emod_of_nonneg (by omega)]; exact (Int.natCast_emod k l).symm
      have q3 : IntKind.i64.wrap (j : Int) = (j : Int) := IntWalk.i64_in _ (by omega)
      have q4 : IntKind.i64.wrap (m : Int) = (m : Int) := IntWalk.i64_in _ (by omega)
      have hms : m < sec.length := by rw [HSL.out]; exact hml
      obtain ⟨xb2, xo2, exo, e1⟩ := HX.out m hms
      obtain ⟨rfl, rfl⟩ : xb = xb2 ∧ xo = xo2 := by injection exo with h; injection h with h1 h2; exact ⟨h1, h2⟩
      have E1 := Lib.hid ((hbr.cell (p := ⟨xb, xo + m, none⟩) (cell_lt e1)).trans e1)
      have hy := HRB.out k
      rw [← hjq, ← hmq, PolyM.co_get _ _ hms] at hy
      have hsu := PolyM.tab_succ k rb
      have hlen : (PolyM.tab k rb).length = k := PolyM.tab_len _ _
      have hpl := HRL.out j
      have HP := Lib.hid fun V h1 h2 => HP0.out j V h1 h2 hjs
      obtain ⟨pj, hpj⟩ : ∃ pj, pj = rp j := ⟨_, rfl⟩
      rw [← hpj] at hy hpl HP
      obtain ⟨x, hx⟩ : ∃ x, x = sec[m] := ⟨_, rfl⟩
      rw [← hx] at hy E1
      obtain ⟨y, hyy⟩ : ∃ y, y = rb k := ⟨_, rfl⟩
      rw [← hyy] at hy hsu
      have HE : Hid (∀ V Y dy, BytesAt V Y pj → Calls Try.prog 36 #[.slice Y pj.length dy, .int .u8 (x.toNat : Nat)] V fun e w' => e = .returned (.int .u8 (y.toNat : Nat)) ∧ V = w') := Lib.hid fun V Y dy h => by
        rw [hy]; exact R02.eval_any Y pj dy x V h (by omega)
      have HSU := Lib.hid hsu; have HLEN := Lib.hid hlen
      generalize PolyM.tab k rb = acc at *
      clear e1 exo hsu hlen hpl hpj hx hyy hy hms hjq hmq
      go_wp2_with fail
      refine Drawn.wp_region_flowT 18 [Drawn.SP.is (v), Drawn.SP.is (.agg #[.int .i64 N, .int .i64 T, .int .i64 L, .int .i64 W, .int .i64 S, .int .i64 R]), Drawn.SP.is (.slice A1 who.length u1), Drawn.SP.is (.slice A2 sh.length u2), Drawn.SP.is (.int .i64 (k : Nat)), Drawn.SP.is (.pointer (some ⟨w.heap.size, 2, none⟩)), Drawn.SP.is (.int .i64 L), Drawn.SP.is (.int .i64 (j : Nat)), Drawn.SP.bytes pj, Drawn.SP.is (.slice (some ⟨xb, xo, none⟩) l dX), Drawn.SP.is (.int .i64 (k : Nat)), Drawn.SP.is (.pointer (some ⟨w.heap.size, 2, none⟩)), Drawn.SP.is (.int .i64 L), Drawn.SP.is (.int .i64 (m : Nat)), Drawn.SP.is (.pointer (some ⟨xb, xo + m, none⟩)), Drawn.SP.is (.int .u8 (x.toNat : Nat)), Drawn.SP.is (.int .u8 (y.toNat : Nat)), Drawn.SP.one y] (by kernel_rfl) (by kernel_rfl) ?_ ?_
      · intro i hi a wq hb hev hdep
        rcases (show i = 0 ∨ i = 1 ∨ i = 2 ∨ i = 3 ∨ i = 4 ∨ i = 5 ∨ i = 6 ∨ i = 7 ∨ i = 8 ∨ i = 9 ∨ i = 10 ∨ i = 11 ∨ i = 12 ∨ i = 13 ∨ i = 14 ∨ i = 15 ∨ i = 16 ∨ i = 17 by omega) with rfl | rfl | rfl | rfl | rfl | rfl | rfl | rfl | rfl | rfl | rfl | rfl | rfl | rfl | rfl | rfl | rfl | rfl
        · have e9 : a.tmps[9]?.getD undef = v := hev 9 rfl
          refine Drawn.wpOp_flow 19 rfl rfl rfl ?_
          clear hev hdep hb
          go_simp
          exact ⟨_, rfl, rfl, Below.refl _ _⟩
        · have e4 : a.tmps[4]?.getD undef = .pointer (some ⟨w.heap.size, 0, none⟩) := hev 4 rfl
          refine Drawn.wpOp_flow 20 rfl rfl rfl ?_
          obtain ⟨c0, c1, c2, c3, c4, c5⟩ := six (HA.out.below (hbr.trans (hb.mono hbr.size)))
          have e1 := (hb.cell (p := ⟨xb, xo + m, none⟩) (cell_lt E1.out)).trans E1.out
          clear hev hdep hb
          go_simp
          exact ⟨_, rfl, rfl, Below.refl _ _⟩
        · have e2 : a.tmps[2]?.getD undef = .slice A1 who.length u1 := hev 2 rfl
          refine Drawn.wpOp_flow 21 rfl rfl rfl ?_
          clear hev hdep hb
          go_simp
          exact ⟨_, rfl, rfl, Below.refl _ _⟩
        · have e3 : a.tmps[3]?.getD undef = .slice A2 sh.length u2 := hev 3 rfl
          refine Drawn.wpOp_flow 22 rfl rfl rfl ?_
          clear hev hdep hb
          go_simp
          exact ⟨_, rfl, rfl, Below.refl _ _⟩
        · have e11 : a.tmps[11]?.getD undef = .int .i64 (k : Nat) := hev 11 rfl
          refine Drawn.wpOp_flow 23 rfl rfl rfl ?_
          clear hev hdep hb
          go_simp
          exact ⟨_, rfl, rfl, Below.refl _ _⟩
        · have e4 : a.tmps[4]?.getD undef = .pointer (some ⟨w.heap.size, 0, none⟩) := hev 4 rfl
          refine Drawn.wpOp_flow 24 rfl rfl rfl ?_
          clear hev hdep hb
          go_simp
          exact ⟨_, rfl, rfl, Below.refl _ _⟩
        · have d5 : a.tmps[24]?.getD undef = .pointer (some ⟨w.heap.size, 2, none⟩) := hdep 5 rfl
          refine Drawn.wpOp_flow 25 rfl rfl rfl ?_
          obtain ⟨c0, c1, c2, c3, c4, c5⟩ := six (HA.out.below (hbr.trans (hb.mono hbr.size)))
          have e1 := (hb.cell (p := ⟨xb, xo + m, none⟩) (cell_lt E1.out)).trans E1.out
          clear hev hdep hb
          go_simp
          exact ⟨_, rfl, rfl, Below.refl _ _⟩
        · have d4 : a.tmps[23]?.getD undef = .int .i64 (k : Nat) := hdep 4 rfl
          have d6 : a.tmps[25]?.getD undef = .int .i64 L := hdep 6 rfl
          refine Drawn.wpOp_flow 26 rfl rfl rfl ?_
          clear hev hdep hb
          go_simp
          exact ⟨_, rfl, rfl, Below.refl _ _⟩
        · have d1 : a.tmps[20]?.getD undef = .agg #[.int .i64 N, .int .i64 T, .int .i64 L, .int .i64 W, .int .i64 S, .int .i64 R] := hdep 1 rfl
          have d2 : a.tmps[21]?.getD undef = .slice A1 who.length u1 := hdep 2 rfl
          have d3 : a.tmps[22]?.getD undef = .slice A2 sh.length u2 := hdep 3 rfl
          have d7 : a.tmps[26]?.getD undef = .int .i64 (j : Nat) := hdep 7 rfl
          refine Drawn.wpOp_flow 27 rfl rfl rfl ?_
          clear hev hdep
          go_simp
          refine (HP.out wq (H1.out.below (hbr.trans (hb.mono hbr.size))) (H2.out.below (hbr.trans (hb.mono hbr.size)))).mono ?_
          rintro e w' ⟨X, f, rfl, g1, g2, g3, hb'⟩
          exact ⟨_, rfl, ⟨X, f, rfl, g1, g2, g3⟩, hb'⟩
        · have e10 : a.tmps[10]?.getD undef = .slice (some ⟨xb, xo, none⟩) l dX := hev 10 rfl
          refine Drawn.wpOp_flow 28 rfl rfl rfl ?_
          clear hev hdep hb
          go_simp
          exact ⟨_, rfl, rfl, Below.refl _ _⟩
        · have e11 : a.tmps[11]?.getD undef = .int .i64 (k : Nat) := hev 11 rfl
          refine Drawn.wpOp_flow 29 rfl rfl rfl ?_
          clear hev hdep hb
          go_simp
          exact ⟨_, rfl, rfl, Below.refl _ _⟩
        · have e4 : a.tmps[4]?.getD undef = .pointer (some ⟨w.heap.size, 0, none⟩) := hev 4 rfl
          refine Drawn.wpOp_flow 30 rfl rfl rfl ?_
          clear hev hdep hb
          go_simp
          exact ⟨_, rfl, rfl, Below.refl _ _⟩
        · have d11 : a.tmps[30]?.getD undef = .pointer (some ⟨w.heap.size, 2, none⟩) := hdep 11 rfl
          refine Drawn.wpOp_flow 31 rfl rfl rfl ?_
          obtain ⟨c0, c1, c2, c3, c4, c5⟩ := six (HA.out.below (hbr.trans (hb.mono hbr.size)))
          have e1 := (hb.cell (p := ⟨xb, xo + m, none⟩) (cell_lt E1.out)).trans E1.out
          clear hev hdep hb
          go_simp
          exact ⟨_, rfl, rfl, Below.refl _ _⟩
        · have d10 : a.tmps[29]?.getD undef = .int .i64 (k : Nat) := hdep 10 rfl
          have d12 : a.tmps[31]?.getD undef = .int .i64 L := hdep 12 rfl
          refine Drawn.wpOp_flow 32 rfl rfl rfl ?_
          clear hev hdep hb
          go_simp
          exact ⟨_, rfl, rfl, Below.refl _ _⟩
        · have d9 : a.tmps[28]?.getD undef = .slice (some ⟨xb, xo, none⟩) l dX := hdep 9 rfl
          have d13 : a.tmps[32]?.getD undef = .int .i64 (m : Nat) := hdep 13 rfl
          refine Drawn.wpOp_flow 33 rfl rfl rfl ?_
          clear hev hdep hb
          go_simp
          exact ⟨_, rfl, rfl, Below.refl _ _⟩
        · have d14 : a.tmps[33]?.getD undef = .pointer (some ⟨xb, xo + m, none⟩) := hdep 14 rfl
          refine Drawn.wpOp_flow 34 rfl rfl rfl ?_
          obtain ⟨c0, c1, c2, c3, c4, c5⟩ := six (HA.out.below (hbr.trans (hb.mono hbr.size)))
          have e1 := (hb.cell (p := ⟨xb, xo + m, none⟩) (cell_lt E1.out)).trans E1.out
          clear hev hdep hb
          go_simp
          exact ⟨_, rfl, rfl, Below.refl _ _⟩
        · obtain ⟨Y, dy, d8, g1, g2, hY⟩ : (Drawn.SP.bytes pj).p (a.tmps[27]?.getD undef) wq := hdep 8 rfl
          have d15 : a.tmps[34]?.getD undef = .int .u8 (x.toNat : Nat) := hdep 15 rfl
          refine Drawn.wpOp_flow 35 rfl rfl rfl ?_
          clear hev hdep
          have C := HE.out wq Y dy hY
          clear g1 g2 hY
          go_simp
          refine C.mono ?_
          rintro e w' ⟨rfl, rfl⟩
          exact ⟨_, rfl, rfl, Below.refl _ _⟩
        · have d16 : a.tmps[35]?.getD undef = .int .u8 (y.toNat : Nat) := hdep 16 rfl
          refine Drawn.wpOp_flow 36 rfl rfl rfl ?_
          clear hev hdep
          clear hb
          go_simp
          exact ⟨_, rfl, ⟨wq.heap.size, rfl, by simp⟩, balloc _ _⟩
      · intro xq wq hb hxq
        have vq0 : xq 0 = v := hxq 0 (by omega)
        have vq1 : xq 1 = .agg #[.int .i64 N, .int .i64 T, .int .i64 L, .int .i64 W, .int .i64 S, .int .i64 R] := hxq 1 (by omega)
        have vq2 : xq 2 = .slice A1 who.length u1 := hxq 2 (by omega)
        have vq3 : xq 3 = .slice A2 sh.length u2 := hxq 3 (by omega)
        have vq4 : xq 4 = .int .i64 (k : Nat) := hxq 4 (by omega)
        have vq5 : xq 5 = .pointer (some ⟨w.heap.size, 2, none⟩) := hxq 5 (by omega)
        have vq6 : xq 6 = .int .i64 L := hxq 6 (by omega)
        have vq7 : xq 7 = .int .i64 (j : Nat) := hxq 7 (by omega)
        have vq9 : xq 9 = .slice (some ⟨xb, xo, none⟩) l dX := hxq 9 (by omega)
        have vq10 : xq 10 = .int .i64 (k : Nat) := hxq 10 (by omega)
        have vq11 : xq 11 = .pointer (some ⟨w.heap.size, 2, none⟩) := hxq 11 (by omega)
        have vq12 : xq 12 = .int .i64 L := hxq 12 (by omega)
        have vq13 : xq 13 = .int .i64 (m : Nat) := hxq 13 (by omega)
        have vq14 : xq 14 = .pointer (some ⟨xb, xo + m, none⟩) := hxq 14 (by omega)
        have vq15 : xq 15 = .int .u8 (x.toNat : Nat) := hxq 15 (by omega)
        have vq16 : xq 16 = .int .u8 (y.toNat : Nat) := hxq 16 (by omega)
        obtain ⟨g, vq17, hg⟩ : (Drawn.SP.one y).p (xq 17) wq := hxq 17 (by omega)
        show wpList _ _ _ _ (Drawn.acts _ [(36, some (xq 17)), (35, some (xq 16)), (34, some (xq 15)), (33, some (xq 14)), (32, some (xq 13)), (31, some (xq 12)), (30, some (xq 11)), (29, some (xq 10)), (28, some (xq 9)), (27, some (xq 8)), (26, some (xq 7)), (25, some (xq 6)), (24, some (xq 5)), (23, some (xq 4)), (22, some (xq 3)), (21, some (xq 2)), (20, some (xq 1)), (19, some (xq 0))]) _
        rw [vq0, vq1, vq2, vq3, vq4, vq5, vq6, vq7, vq9, vq10, vq11, vq12, vq13, vq14, vq15, vq16, vq17]
        clear hxq vq0 vq1 vq2 vq3 vq4 vq5 vq6 vq7 vq9 vq10 vq11 vq12 vq13 vq14 vq15 vq16 vq17
        generalize xq 8 = yq8
        clear xq
        simp only [Drawn.acts, List.drop_succ_cons, List.drop_zero]
        go_simp
        have hz2 := hb.size
        go_wp2_with (at_builtin; refine wpList_append_u8 rfl _ _ rfl w1.heap.size _ acc rfl (HO.out.below hb) g 1 y rfl hg (by have := HLEN.out; omega) (by omega) ?_; intro v' w7 hown1 hb7)
        go_roundw
        case rel => exact ⟨k + 1, v', by omega, by go_num, rfl, by rw [HSU.out]; exact hown1, (hbr.trans (hb.mono hz)).trans hb7⟩
        case measure => simp [intOf] <;> omega
    · obtain rfl : k = n := by omega
      have ho := HO.out
      rw [← HAC.out] at ho
      have HO := Lib.hid ho
      clear ho
      go_wp2
      go_ret
      obtain ⟨Z, c, hv, hc1, hc2, hZ, hnz⟩ := HO.out.new
      subst hv
      exact ⟨Z, c, rfl, hc1, hc2, hZ, bstep hb0.out hbr, fun a e => Nat.le_trans hb0.out.size (hnz a e)⟩
end Go.Proofs.Ytcnhfbahnbnnlaa.R11
