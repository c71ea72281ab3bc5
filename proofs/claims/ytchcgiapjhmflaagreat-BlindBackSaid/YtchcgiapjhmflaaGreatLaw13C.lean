/- the walk of BlindBack: what it comes to -/
import Derived.Test.YtchcgiapjhmflaaGreatLaw13B
set_option maxRecDepth 100000
namespace Go.Proofs.YtchcgiapjhmflaaGreat.Law13
open Go.RowKit PlanM StripeM LagrM DealM RebM ZeroM Law08 Law10

theorem slice_same {a : Option Addr} {n n' c c' : Nat} (h : n = n') (k : c = c') : Value.slice a n c = .slice a n' c' := by rw [h, k]
set_option maxHeartbeats 8000000 in
theorem back_main (T L W S R : Int) (N0 : Nat) (A1 A2 A4 A3 : Option Addr) (b tp zz : List UInt8) (who : List Int) (u1 u2 u4 u3 : Nat) (w : World) (hp : (⟨N0, T, L, W, S, R⟩ : P).In) (h1 : BytesAt w A1 b) (k1 : b.length ≤ u1) (z1 : u1 ≤ maxLen) (h2 : BytesAt w A2 tp) (k2 : tp.length ≤ u2) (z2 : u2 ≤ maxLen) (h4 : BytesAt w A4 zz) (k4 : zz.length ≤ u4) (z4 : u4 ≤ maxLen) (h3 : IntsAt w A3 who) (k3 : who.length ≤ u3) (z3 : u3 ≤ maxLen) (hi : ∀ x ∈ who, In64 x) (hl : (N0 : Int) ≤ 12 ∧ L ≤ 12 ∧ T ≤ 12) (hr : (⟨N0, T, L, W, S, R⟩ : P).right = true) (hf : b.length ≤ 60) (hc : cost ⟨N0, T, L, W, S, R⟩ b.length ≤ tp.length) (hm : who.length ≤ 14) (hw : T + L + 1 ≤ (who.length : Int)) (hu : unl (points who) = true) :
    Calls Tryz.prog 3 #[.agg #[.int .i64 (N0 : Nat), .int .i64 T, .int .i64 L, .int .i64 W, .int .i64 S, .int .i64 R], .agg #[.slice A1 b.length u1, .slice A2 tp.length u2, .slice A4 zz.length u4], .slice A3 who.length u3] w fun e w' => e = .returned (.bool true) ∧ Below w.heap.size w w' := by
  have K0 := fun w => Law10.light_any N0 T L W S R w
  rw [decide_eq_true hl] at K0
  have H0 := Lib.hid K0
  clear K0 hl
  obtain ⟨q, hq⟩ : ∃ q : P, q = ⟨N0, T, L, W, S, R⟩ := ⟨_, rfl⟩
  have hpq := hp
  rw [← hq] at hpq
  have hv : q.val = .agg #[.int .i64 (N0 : Nat), .int .i64 T, .int .i64 L, .int .i64 W, .int .i64 S, .int .i64 R] := by rw [hq]; rfl
  have K3 := fun w => R08.right_any q w hpq
  rw [hq, hr, ← hq, hv] at K3
  have H3 := Lib.hid K3
  clear K3
  have hM : q.May := by rw [hq]; exact of_decide_eq_true hr
  have hMM := hM
  unfold P.May at hMM
  have eN : q.N = N0 := by rw [hq]
  have eT : q.T = T := by rw [hq]
  have eL : q.L = L := by rw [hq]
  obtain ⟨n, hn⟩ : ∃ n : Nat, cost q b.length = n := ⟨(cost q b.length).toNat, by
    have : 0 ≤ cost q b.length := Int.mul_nonneg (by omega) (by omega)
    omega⟩
  have K9 := fun w => R10.cost_any N0 T L W S R b.length w (by omega) (by omega)
  rw [← hq, hn] at K9
  have H9 := Lib.hid K9
  have i1 : IntKind.i64.wrap (T + L) = T + L := IntWalk.i64_in _ (by omega)
  have i1b : IntKind.i64.wrap (T + L + 1) = T + L + 1 := IntWalk.i64_in _ (by omega)
  clear K9
  have hc1 : n ≤ tp.length := by rw [← hq, hn] at hc; omega
  have hcost : cost ⟨N0, T, L, W, S, R⟩ b.length ≤ tp.length := hc
  have KS := fun V => R08.stripes_any q b.length V (by omega)
  rw [hv] at KS
  obtain ⟨st, hst⟩ : ∃ st, st = q.stripes b.length := ⟨_, rfl⟩
  have hst2 : st ≤ 240 := by rw [hst]; exact stripes_le q _ (by omega)
  rw [← hst] at KS
  have KW := fun V => R13.width_any N0 T L W S R V (by omega) (by omega)
  obtain ⟨wd, hwd⟩ : ∃ wd : Nat, T + L - 1 = wd := ⟨(T + L - 1).toNat, by omega⟩
  have hwq : (width q).toNat = wd := by unfold width; rw [eT, eL, hwd]; simp
  rw [hwd] at KW
  obtain ⟨x, hx⟩ : ∃ x, x = wd * st := ⟨_, rfl⟩
  have hxl : x ≤ 256 * 240 := by rw [hx]; exact Nat.mul_le_mul (by omega) hst2
  have e2 : (wd : Int) * (st : Int) = (x : Int) := by rw [hx, Int.natCast_mul]
  have e3 : IntKind.i64.wrap (x : Int) = (x : Int) := IntWalk.i64_in _ (by omega)
  have hst1 : st * q.T.toNat ≤ tp.length := by
    have h9 : cost q b.length = q.T * (q.stripes b.length : Nat) := rfl
    rw [h9, ← hst] at hn
    have h8 : ((st * q.T.toNat : Nat) : Int) = n := by rw [Int.natCast_mul, Int.toNat_of_nonneg (by omega), Int.mul_comm]; exact hn
    omega
  have eNn : q.N.toNat = N0 := by rw [eN]; simp
  have hN12 : N0 ≤ 256 := by omega
  obtain ⟨po, hpo⟩ : ∃ po, po = polys q b tp := ⟨_, rfl⟩
  have hpol : po.length = st := by rw [hpo, polys_len, hst]
  have KP := fun V (h1 : BytesAt V A1 b) (h2 : BytesAt V A2 tp) => R10.polys_wide N0 T.toNat L W S R A1 A2 b tp u1 u2 V (by rw [Int.toNat_of_nonneg (by omega), ← hq]; exact hM) h1 h2 k1 z1 k2 z2 (by omega) (by rw [Int.toNat_of_nonneg (by omega)]; exact hcost)
  rw [Int.toNat_of_nonneg (by omega), ← hq, ← hpo] at KP
  unfold RetRows at KP
  rw [hpol] at KP
  have KSH := fun X d i V (h : RowsAt V X po) => R10.share_any X po d i V h (by omega) (fun j hj => by
    subst hpo
    have h9 := poly_len hM (row q.L.toNat b j) (take_ q.T.toNat tp j) (take_len _ _ _ (by
      have h8 : (j + 1) * q.T.toNat ≤ st * q.T.toNat := Nat.mul_le_mul_right _ (by omega)
      omega))
    rw [polys_get]
    unfold need at h9
    omega)
  unfold RetNew at KSH
  have hshp : ∀ i, (share po i).length = st := fun i => by rw [share_len, hpol]
  simp only [hshp] at KSH
  rw [hpol] at KSH
  have h0w : 0 < who.length := by omega
  obtain ⟨t, ht0⟩ : ∃ t, t = who[0] := ⟨_, rfl⟩
  obtain ⟨hs, hhs⟩ : ∃ hs, hs = who.tail := ⟨_, rfl⟩
  obtain ⟨hl0, hhl⟩ : ∃ hl0, hl0 = hs.length := ⟨_, rfl⟩
  have hlw : who.length = hl0 + 1 := by rw [hhl, hhs, List.length_tail]; omega
  obtain ⟨c3', hc3⟩ : ∃ c3', u3 = c3' + 1 := ⟨u3 - 1, by omega⟩
  have hut : unl (points hs) = true := by rw [hhs]; exact unl_tail hu
  have hne : ∀ i, (h : i < hs.length) → hs[i] ≠ t := fun i h => by subst hhs; rw [ht0]; exact unl_head hu h0w i h
  have hsw : ∀ i, (h : i < hs.length) → (h2 : i + 1 < who.length) → hs[i] = who[i + 1] := fun i h h2 => by subst hhs; rw [List.getElem_tail]
  have hih : ∀ y ∈ hs, In64 y := fun y hy => hi y (by subst hhs; exact List.mem_of_mem_tail hy)
  have hit : In64 t := by rw [ht0]; exact hi _ (List.getElem_mem h0w)
  obtain ⟨pk, hpk⟩ : ∃ pk : Nat → Int → List UInt8, pk = ZeroM.part q b tp zz t st x := ⟨_, rfl⟩
  have hpk0 : ∀ i, pk 0 i = share po i := fun i => by rw [hpk, hpo]; rfl
  have hpkS : ∀ k i, pk (k + 1) i = addL [pk k i, share (bpolysTo q t (zz.drop (k * x)) st) i] := fun k i => by rw [hpk]; rfl
  have hpkl : ∀ k i, (pk k i).length = st := fun k i => by rw [hpk]; exact part_len hst k i
  have hbll : ∀ y i, (share (bpolysTo q t (zz.drop y) st) i).length = st := fun y i => by rw [share_len, bpolysTo_len]
  have hback : ∀ k, k * x ≤ zz.length → q.is t = true → (∀ i, (h : i < hs.length) → q.is hs[i] = true) → findE q st t hs (hs.map (pk k)) = 0 ∧ findA q st t hs (hs.map (pk k)) = share po t := fun k hk h1 h2 => by
    have := parts_ok (p := q) (b := b) (tp := tp) (z := zz) (t := t) (n := st) (c := x) hM (who := hs) hst hst2 hst1 (by rw [hwq]; exact hx) hk h1 (fun i hi => ⟨h2 i hi, hne i hi⟩) hut (by omega)
    unfold parts at this
    rw [← hpk] at this
    rw [hpo]
    exact this
  have hbe : ∀ y, y + x ≤ zz.length → q.is t = true → blindE q st t (zz.drop y) = 0 ∧ blindA q st t (zz.drop y) = shares q (bpolysTo q t (zz.drop y) st) := fun y hy h => by
    have h1 : blindE q st t (zz.drop y) = 0 := by
      have hbc : bcheck q st t = 0 := by unfold bcheck; rw [if_pos (P.right_yes hM), if_neg (by omega), if_pos h]
      unfold blindE
      rw [if_pos hbc, if_neg]
      rw [List.length_drop]
      have h9 : width q = wd := by unfold width; rw [eT, eL, hwd]
      rw [h9, e2]; omega
    refine ⟨h1, ?_⟩
    unfold blindA; rw [if_pos h1, Int.toNat_natCast]
  have KB := fun bf y X d V (hy : y + x ≤ zz.length) (hq1 : q.is t = true) (ht : Gf.Tab V bf) (h : BytesAt V X (zz.drop y)) (k : zz.length - y ≤ d) (z : d ≤ maxLen) => by
    have := Blind.blind_any bf q st t X (zz.drop y) d V hpq (by unfold In64; omega) hit ht h (by rw [List.length_drop]; exact k) z
    rw [(hbe y hy hq1).1, (hbe y hy hq1).2] at this
    unfold Stripe.RetRowsE at this
    rw [List.length_drop, shares_len, eNn, hv] at this
    exact this
  have hrb : ∀ y j, (hj : j < (shares q (bpolysTo q t (zz.drop y) st)).length) → (shares q (bpolysTo q t (zz.drop y) st))[j] = share (bpolysTo q t (zz.drop y) st) ((j : Int) + 1) := fun y j hj => by rw [shares_get]
  have hrl : ∀ y, (shares q (bpolysTo q t (zz.drop y) st)).length = N0 := fun y => by rw [shares_len, eNn]
  have KA2 := fun X V r1 r2 (h : RowsAt V X [r1, r2]) (g1 : r1.length = st) (g2 : r2.length = st) => Zero.add_any X [r1, r2] 2 V h (by simp) (by unfold maxLen; omega) (by simp) (by
    intro r hr; simp at hr; rcases hr with rfl | rfl <;> omega)
  have KF := fun bf A A' k V (hk : k * x ≤ zz.length) (hq1 : q.is t = true) (hq2 : ∀ i, (h : i < hs.length) → q.is hs[i] = true) (c : Nat) (ht : Gf.Tab V bf) (h3 : IntsAt V A hs) (hA : RowsAt V A' (hs.map (pk k))) (e1 : hl0 ≤ c) (e2 : c ≤ maxLen) => by
    have := Blind.find_any bf q st t A A' hs (hs.map (pk k)) c3' c V hpq (by unfold In64; omega) hit ht h3 (by omega) (by omega) hih hA (by rw [List.length_map, ← hhl]; exact e1) e2 (by omega) (by rw [List.length_map]; omega)
    rw [(hback k hk hq1 hq2).1, (hback k hk hq1 hq2).2, List.length_map, ← hhl, hv] at this
    unfold Stripe.RetBytesE at this
    rw [hshp] at this
    exact this
  have KI := fun x w => R08.is_any q x w
  rw [hv] at KI
  have hisr : ∀ x, q.is x = true → 1 ≤ x ∧ x ≤ (N0 : Int) := fun x h => by have := of_decide_eq_true h; omega
  have hmap : ∀ k, (hk : k < hs.length) → (hs.take (k + 1)).map (pk 0) = (hs.take k).map (pk 0) ++ [pk 0 hs[k]] := fun k hk => by rw [List.take_succ_eq_append_getElem hk, List.map_append]; rfl
  have hs3 : IntsAt w (match A3 with | some a => some ⟨a.block, a.off + 1, none⟩ | none => none) hs := fun i hi2 => by
    rw [intV_len] at hi2
    obtain ⟨bb, oo, e, hc9⟩ := h3 (i + 1) (by rw [intV_len]; omega)
    subst e
    refine ⟨bb, oo + 1, rfl, ?_⟩
    rw [show oo + 1 + i = oo + (i + 1) by omega, hc9, intV_get, intV_get, hsw i hi2 (by omega)]
  obtain ⟨wb, wo, rfl⟩ : ∃ wb wo, A3 = some ⟨wb, wo, none⟩ := by obtain ⟨wb, wo, e, _⟩ := h3.at h0w; exact ⟨wb, wo, e⟩
  simp only at hs3
  obtain ⟨bl, hble⟩ : ∃ bl, bl = fun y => share (bpolysTo q t (zz.drop y) st) := ⟨_, rfl⟩
  obtain ⟨sb, hsbe⟩ : ∃ sb, sb = fun y => shares q (bpolysTo q t (zz.drop y) st) := ⟨_, rfl⟩
  have hpkS2 : ∀ k i, addL [pk k i, bl (k * x) i] = pk (k + 1) i := fun k i => by rw [hpkS, hble]
  have hbll2 : ∀ y i, (bl y i).length = st := fun y i => by rw [hble]; exact hbll y i
  have hrb2 : ∀ y j, (hj : j < (sb y).length) → (sb y)[j] = bl y ((j : Int) + 1) := fun y j hj => by subst hble; subst hsbe; exact hrb y j hj
  have hrl2 : ∀ y, (sb y).length = N0 := fun y => by rw [hsbe]; exact hrl y
  have KB2 := fun bf y X d V hy hq1 ht h k z => by
    have := KB bf y X d V hy hq1 ht h k z
    rw [show shares q (bpolysTo q t (zz.drop y) st) = sb y from by rw [hsbe]] at this
    exact this
  have H5 := Lib.hid KS; have H11 := Lib.hid KW; have HP := Lib.hid KP; have HSH := Lib.hid KSH; have HSHP := Lib.hid hshp; have HIT := Lib.hid hit; have HIH := Lib.hid hih; have HPK0 := Lib.hid hpk0; have HPKS := Lib.hid hpkS2; have HPKL := Lib.hid hpkl; have HBLL := Lib.hid hbll2
  have HKB := Lib.hid KB2; have HRB := Lib.hid hrb2; have HRL := Lib.hid hrl2; have HA2 := Lib.hid KA2; have HKF := Lib.hid KF; have HI := Lib.hid KI; have HIS := Lib.hid hisr; have HMAP := Lib.hid hmap; have HHL := Lib.hid hhl; have HLW := Lib.hid hlw; have HC3 := Lib.hid hc3; have HSW := Lib.hid hsw; have HT0 := Lib.hid (fun (h : 0 < who.length) => (show t = who[0] from ht0)); have HH3 := Lib.hid hs3
  have H2W : Hid (2 ≤ who.length) := Lib.hid (by omega)
  have HML : Hid (b.length ≤ maxLen) := Lib.hid (by unfold maxLen; omega)
  have HST : Hid (st ≤ maxLen) := Lib.hid (by unfold maxLen; omega)
  have B1 := Lib.hid h1; have B2 := Lib.hid h2; have B4 := Lib.hid h4
  have hbig : hl0 ≤ 14 := by omega
  unfold maxLen at z4
  have K7 := fun V (h : IntsAt V (some ⟨wb, wo, none⟩) who) => R08.points_any (some ⟨wb, wo, none⟩) who u3 V h (by omega)
  have hpl : (points who).length = who.length := points_len who
  have K8 := fun X d V (h : BytesAt V X (points who)) => R03.unlike_any X (points who) d V h (by omega)
  rw [hu, hpl] at K8
  have H7 := Lib.hid K7; have H8 := Lib.hid K8; have HPL := Lib.hid hpl
  have B3 := Lib.hid h3
  clear K7 K8 hpl
  clear h3
  clear hc3 hu hc hcost KS hwq hwd hx hst1 eNn hpo hpol KP KSH hshp ht0 hhs hhl hut hne hsw hih hit hpk hpk0 hpkS hpkl hbll hbll2 hpkS2 hrb2 hrl2 KB2 hback hbe KB hrb hrl KA2 KF KI hisr hmap hs3 hble hsbe KW hlw h1 h2 h4 hst hi
  clear hq hr hp hpq hv hM hMM eN eT eL hn
  have HA := Lib.hid (LiesC.new w N0 T L W S R (.slice A1 b.length u1) (.slice A2 tp.length u2) (.slice A4 zz.length u4) 25)
  have HB0 := Lib.hid (show Below w.heap.size w ((w.alloc (.cells #[.int .i64 (N0 : Nat), .int .i64 T, .int .i64 L, .int .i64 W, .int .i64 S, .int .i64 R] 23)).alloc (.cells #[.slice A1 b.length u1, .slice A2 tp.length u2, .slice A4 zz.length u4] 25)) from bstep (balloc _ _) (balloc _ _))
  go_enter Tryz.func3, Tryz.ntmps3
  go_wp2_with fail
  generalize (w.alloc (.cells #[.int .i64 (N0 : Nat), .int .i64 T, .int .i64 L, .int .i64 W, .int .i64 S, .int .i64 R] 23)).alloc (.cells #[.slice A1 b.length u1, .slice A2 tp.length u2, .slice A4 zz.length u4] 25) = w0 at *
  replace B3 := Lib.hid (B3.out.below HB0.out)
  replace B1 := Lib.hid (B1.out.below HB0.out)
  replace B2 := Lib.hid (B2.out.below HB0.out)
  replace B4 := Lib.hid (B4.out.below HB0.out)
  replace HH3 := Lib.hid (HH3.out.below HB0.out)
  refine Drawn.wp_region_flowL 6 [Drawn.SP.is (.pointer (some ⟨w.heap.size + 1, 0, none⟩)), Drawn.SP.is (.slice A1 b.length u1), Drawn.SP.is (.pointer (some ⟨w.heap.size + 1, 1, none⟩)), Drawn.SP.is (.slice A2 tp.length u2), Drawn.SP.is (.slice A1 b.length u1), Drawn.SP.is (.slice A2 tp.length u2)] (by kernel_rfl) (by kernel_rfl) ?_ ?_
  · intro i hi a w1 hb hev hdep
    rcases (show i = 0 ∨ i = 1 ∨ i = 2 ∨ i = 3 ∨ i = 4 ∨ i = 5 by omega) with rfl | rfl | rfl | rfl | rfl | rfl
    · have e4 : a.tmps[4]?.getD undef = .pointer (some ⟨w.heap.size + 1, 0, none⟩) := hev 4 rfl
      refine Drawn.wpOp_flow 27 rfl rfl rfl ?_
      clear hev hdep hb
      go_simp
      exact ⟨_, rfl, rfl, Below.refl _ _⟩
    · have d0 : a.tmps[27]?.getD undef = .pointer (some ⟨w.heap.size + 1, 0, none⟩) := hdep 0 rfl
      refine Drawn.wpOp_flow 28 rfl rfl rfl ?_
      have a0 := (HA.out.below hb).a0
      have a1 := (HA.out.below hb).a1
      clear hev hdep hb
      go_simp
      exact ⟨_, rfl, rfl, Below.refl _ _⟩
    · have e4 : a.tmps[4]?.getD undef = .pointer (some ⟨w.heap.size + 1, 0, none⟩) := hev 4 rfl
      refine Drawn.wpOp_flow 29 rfl rfl rfl ?_
      clear hev hdep hb
      go_simp
      exact ⟨_, rfl, rfl, Below.refl _ _⟩
    · have d2 : a.tmps[29]?.getD undef = .pointer (some ⟨w.heap.size + 1, 1, none⟩) := hdep 2 rfl
      refine Drawn.wpOp_flow 30 rfl rfl rfl ?_
      have a0 := (HA.out.below hb).a0
      have a1 := (HA.out.below hb).a1
      clear hev hdep hb
      go_simp
      exact ⟨_, rfl, rfl, Below.refl _ _⟩
    · have d1 : a.tmps[28]?.getD undef = .slice A1 b.length u1 := hdep 1 rfl
      refine Drawn.wpOp_flow 7 rfl rfl rfl ?_
      clear hev hdep hb
      go_simp
      exact ⟨_, rfl, rfl, Below.refl _ _⟩
    · have d3 : a.tmps[30]?.getD undef = .slice A2 tp.length u2 := hdep 3 rfl
      refine Drawn.wpOp_flow 8 rfl rfl rfl ?_
      clear hev hdep hb
      go_simp
      exact ⟨_, rfl, rfl, Below.refl _ _⟩
  · intro xq w1 hb hxq
    have vq0 : xq 0 = .pointer (some ⟨w.heap.size + 1, 0, none⟩) := hxq 0 (by omega)
    have vq1 : xq 1 = .slice A1 b.length u1 := hxq 1 (by omega)
    have vq2 : xq 2 = .pointer (some ⟨w.heap.size + 1, 1, none⟩) := hxq 2 (by omega)
    have vq3 : xq 3 = .slice A2 tp.length u2 := hxq 3 (by omega)
    have vq4 : xq 4 = .slice A1 b.length u1 := hxq 4 (by omega)
    have vq5 : xq 5 = .slice A2 tp.length u2 := hxq 5 (by omega)
    show Exit.then _ _ Exit.normal (Drawn.acts _ [(8, some (xq 5)), (7, some (xq 4)), (30, some (xq 3)), (29, some (xq 2)), (28, some (xq 1)), (27, some (xq 0))]) _
    rw [vq0, vq1, vq2, vq3, vq4, vq5]
    clear hxq vq0 vq1 vq2 vq3 vq4 vq5
    clear xq
    simp only [Drawn.acts]
    go_simp
    have hb1 := hb
    clear hb
    obtain ⟨c0, c1, c2, c3, c4, c5⟩ := six (HA.out.below hb1).plan
    go_at_K
    go_wp2_with fail
    refine (H0.out _).mono ?_
    rintro e w2 ⟨rfl, hb2'⟩
    have hb2 := bstep hb1 hb2'
    clear c0 c1 c2 c3 c4 c5
    clear hb1 hb2'
    obtain ⟨c0, c1, c2, c3, c4, c5⟩ := six (HA.out.below hb2).plan
    go_wp2_with fail
    refine (H3.out _).mono ?_
    rintro e w3 ⟨rfl, hbx⟩
    have hb3 := bstep hb2 hbx
    clear c0 c1 c2 c3 c4 c5
    clear hb2 hbx
    obtain ⟨c0, c1, c2, c3, c4, c5⟩ := six (HA.out.below hb3).plan
    go_wp2_with fail
    refine (H9.out _).mono ?_
    rintro e w4 ⟨rfl, hbx⟩
    have hb4 := bstep hb3 hbx
    clear c0 c1 c2 c3 c4 c5
    clear hb3 hbx
    obtain ⟨c0, c1, c2, c3, c4, c5⟩ := six (HA.out.below hb4).plan
    go_wp2_with fail
    refine (H7.out _ (B3.out.below hb4)).mono ?_
    rintro e w5 ⟨X, d, rfl, _, _, hX, hbx, _⟩
    rw [HPL.out]
    have HX := Lib.hid hX
    have hb5 := bstep hb4 hbx
    clear c0 c1 c2 c3 c4 c5
    clear hb4 hbx hX
    obtain ⟨c0, c1, c2, c3, c4, c5⟩ := six (HA.out.below hb5).plan
    go_wp2_with fail
    refine (H8.out X d _ HX.out).mono ?_
    rintro e w6 ⟨rfl, hbx⟩
    have hb6 := bstep hb5 (bquiet hbx)
    clear c0 c1 c2 c3 c4 c5
    clear hb5 hbx HX
    obtain ⟨c0, c1, c2, c3, c4, c5⟩ := six (HA.out.below hb6).plan
    go_wp2_with fail
    refine (H5.out _).mono ?_
    rintro e w7 ⟨rfl, hbx⟩
    have hb7 := bstep hb6 hbx
    clear c0 c1 c2 c3 c4 c5
    clear hb6 hbx
    obtain ⟨c0, c1, c2, c3, c4, c5⟩ := six (HA.out.below hb7).plan
    go_wp2_with fail
    refine (H11.out _).mono ?_
    rintro e w8 ⟨rfl, hbx⟩
    have hb8 := bstep hb7 hbx
    clear c0 c1 c2 c3 c4 c5
    clear hb7 hbx
    obtain ⟨c0, c1, c2, c3, c4, c5⟩ := six (HA.out.below hb8).plan
    go_wp2_with fail
    refine (Gf.new_any w8).mono ?_
    rintro e w9 ⟨rfl, ht, hbx, _⟩
    have hb9 := bstep hb8 hbx
    clear c0 c1 c2 c3 c4 c5
    clear hb8 hbx
    generalize w8.heap.size = bf at *
    have HT := Lib.hid ht
    clear ht
    obtain ⟨c0, c1, c2, c3, c4, c5⟩ := six (HA.out.below hb9).plan
    go_wp2_with fail
    refine (HP.out w9 (B1.out.below hb9) (B2.out.below hb9)).mono ?_
    rintro e w10 ⟨Xp, dp, rfl, _, _, hXp, hbx, _⟩
    have hb10 := bstep hb9 hbx
    replace HT := Lib.hid (HT.out.below hbx)
    have HXP := Lib.hid hXp
    clear c0 c1 c2 c3 c4 c5
    clear hb9 hbx hXp
    have HW0 := Lib.hid (show w10.cell? ⟨wb, wo, none⟩ = some (.int .i64 t) from by
      obtain ⟨b9, o9, e9, hc9⟩ := (B3.out.below hb10).at (i := 0) (by rw [HLW.out]; omega)
      injection e9 with e9; injection e9 with e9 e9'; subst e9; subst e9'
      rw [Nat.add_zero] at hc9
      rw [hc9, HT0.out (by rw [HLW.out]; omega)])
    go_wp2_with fail
    refine Drawn.wp_region_flowL 7 [Drawn.SP.is (.slice (some ⟨wb, wo, none⟩) who.length u3), Drawn.SP.is (.pointer (some ⟨wb, wo, none⟩)), Drawn.SP.is (.int .i64 t), Drawn.SP.is (.slice (some ⟨wb, wo, none⟩) who.length u3), Drawn.SP.is (.slice (some ⟨wb, wo + 1, none⟩) hl0 c3'), Drawn.SP.is (.int .i64 t), Drawn.SP.is (.slice (some ⟨wb, wo + 1, none⟩) hl0 c3')] (by kernel_rfl) (by kernel_rfl) ?_ ?_
    · intro i hi a wy hb hev hdep
      rcases (show i = 0 ∨ i = 1 ∨ i = 2 ∨ i = 3 ∨ i = 4 ∨ i = 5 ∨ i = 6 by omega) with rfl | rfl | rfl | rfl | rfl | rfl | rfl
      · have e2 : a.tmps[2]?.getD undef = .slice (some ⟨wb, wo, none⟩) who.length u3 := hev 2 rfl
        refine Drawn.wpOp_flow 89 rfl rfl rfl ?_
        clear hev hdep hb
        go_simp
        exact ⟨_, rfl, rfl, Below.refl _ _⟩
      · have d0 : a.tmps[89]?.getD undef = .slice (some ⟨wb, wo, none⟩) who.length u3 := hdep 0 rfl
        refine Drawn.wpOp_flow 90 rfl rfl rfl ?_
        clear hev hdep hb
        go_simp
        exact ⟨_, rfl, rfl, Below.refl _ _⟩
      · have d1 : a.tmps[90]?.getD undef = .pointer (some ⟨wb, wo, none⟩) := hdep 1 rfl
        refine Drawn.wpOp_flow 91 rfl rfl rfl ?_
        have k1 := (hb.cell (p := ⟨wb, wo, none⟩) (cell_lt HW0.out)).trans HW0.out
        clear hev hdep hb
        go_simp
        exact ⟨_, rfl, rfl, Below.refl _ _⟩
      · have e2 : a.tmps[2]?.getD undef = .slice (some ⟨wb, wo, none⟩) who.length u3 := hev 2 rfl
        refine Drawn.wpOp_flow 92 rfl rfl rfl ?_
        clear hev hdep hb
        go_simp
        exact ⟨_, rfl, rfl, Below.refl _ _⟩
      · have d3 : a.tmps[92]?.getD undef = .slice (some ⟨wb, wo, none⟩) who.length u3 := hdep 3 rfl
        refine Drawn.wpOp_flow 93 rfl rfl rfl ?_
        clear hev hdep
        clear hb
        have h22 := H2W.out
        have h8 : 1 ≤ who.length := by omega
        have h8i : (1 : Int) ≤ (who.length : Int) := by omega
        have h9 : who.length ≤ u3 := by omega
        have h7 : ¬ u3 = 1 := by omega
        have h6 : 1 ≤ u3 := by omega
        clear h22
        go_simp
        exact ⟨_, rfl, slice_same (by rw [HLW.out]; rfl) (by rw [HC3.out]; rfl), Below.refl _ _⟩
      · have d2 : a.tmps[91]?.getD undef = .int .i64 t := hdep 2 rfl
        refine Drawn.wpOp_flow 13 rfl rfl rfl ?_
        clear hev hdep hb
        go_simp
        exact ⟨_, rfl, rfl, Below.refl _ _⟩
      · have d4 : a.tmps[93]?.getD undef = .slice (some ⟨wb, wo + 1, none⟩) hl0 c3' := hdep 4 rfl
        refine Drawn.wpOp_flow 14 rfl rfl rfl ?_
        clear hev hdep hb
        go_simp
        exact ⟨_, rfl, rfl, Below.refl _ _⟩
    · intro xq wy hb hxq
      have vq0 : xq 0 = .slice (some ⟨wb, wo, none⟩) who.length u3 := hxq 0 (by omega)
      have vq1 : xq 1 = .pointer (some ⟨wb, wo, none⟩) := hxq 1 (by omega)
      have vq2 : xq 2 = .int .i64 t := hxq 2 (by omega)
      have vq3 : xq 3 = .slice (some ⟨wb, wo, none⟩) who.length u3 := hxq 3 (by omega)
      have vq4 : xq 4 = .slice (some ⟨wb, wo + 1, none⟩) hl0 c3' := hxq 4 (by omega)
      have vq5 : xq 5 = .int .i64 t := hxq 5 (by omega)
      have vq6 : xq 6 = .slice (some ⟨wb, wo + 1, none⟩) hl0 c3' := hxq 6 (by omega)
      show Exit.then _ _ Exit.normal (Drawn.acts _ [(14, some (xq 6)), (13, some (xq 5)), (93, some (xq 4)), (92, some (xq 3)), (91, some (xq 2)), (90, some (xq 1)), (89, some (xq 0))]) _
      rw [vq0, vq1, vq2, vq3, vq4, vq5, vq6]
      clear hxq vq0 vq1 vq2 vq3 vq4 vq5 vq6
      clear xq
      simp only [Drawn.acts]
      go_simp
      go_at_K
      go_wp2_with fail
      have HAw := Lib.hid (HA.out.below (bstep hb10 hb))
      have B3w := Lib.hid (B3.out.below (bstep hb10 hb))
      have B4w := Lib.hid (B4.out.below (bstep hb10 hb))
      have BHw := Lib.hid (HH3.out.below (bstep hb10 hb))
      have HTw := Lib.hid (HT.out.below hb)
      have HXPw := Lib.hid (HXP.out.below hb)
      have HB0w := Lib.hid (bstep HB0.out (bstep hb10 hb))
      clear hb10 hb HT HXP HW0 HA B3 B4 HH3 HB0
      go_loopw [96] (fun i wr => ∃ k : Nat, k ≤ who.length ∧ i = .int .i64 k ∧ (∀ j, (hj : j < who.length) → j < k → q.is who[j] = true) ∧ Below wy.heap.size wy wr) (fun i _ => who.length - (intOf i).toNat)
      case atStart => exact ⟨0, Nat.zero_le _, rfl, fun j _ h => by omega, Below.refl _ _⟩
      case round =>
      obtain ⟨k, hk, rfl, hall, hbr⟩ := hrel
      rename World => wr
      have HL := Lib.hid hall
      clear hall
      by_cases hlt : k < who.length
      · obtain ⟨wb', wo', e9, e1⟩ := (B3w.out.below hbr).at hlt
        injection e9 with e9; injection e9 with e9 e9'; subst e9; subst e9'
        have HNX : Hid (q.is who[k] = true → ∀ j, (hj : j < who.length) → j < k + 1 → q.is who[j] = true) := Lib.hid fun h j hj hjk => by
          by_cases e : j = k
          · subst e; exact h
          · exact HL.out j hj (by omega)
        generalize who[k] = z at *
        obtain ⟨c0, c1, c2, c3, c4, c5⟩ := six (HAw.out.below hbr).plan
        have C := HI.out z wr
        rcases his : q.is z with _ | _
        · rw [his] at C
          clear his HNX
          go_wp2_with fail
          refine C.mono ?_
          clear C
          rintro e wx ⟨rfl, hbx⟩
          have hbz9 := bstep hbr hbx
          clear c0 c1 c2 c3 c4 c5
          clear hbx
          go_wp2_with fail
          refine (alive_any _).mono ?_
          rintro e wz ⟨rfl, hbz⟩
          go_wp2
          go_ret
          exact ⟨rfl, bstep HB0w.out (bstep hbz9 hbz)⟩
        · have HX1 := Lib.hid (HNX.out his)
          rw [his] at C
          clear his HNX
          go_wp2_with fail
          refine C.mono ?_
          clear C
          rintro e wx ⟨rfl, hbx⟩
          have HBX := Lib.hid (bstep hbr hbx)
          clear c0 c1 c2 c3 c4 c5
          clear hbx
          go_wp2
          go_roundw
          case rel => exact ⟨k + 1, by omega, by go_num, HX1.out, HBX.out⟩
          case measure => simp [intOf] <;> omega
      · obtain rfl : k = who.length := by omega
        have hall := HL.out
        have HQT : Hid (q.is t = true) := Lib.hid (by rw [HT0.out (by rw [HLW.out]; omega)]; exact hall 0 (by rw [HLW.out]; omega) (by rw [HLW.out]; omega))
        have HQS : Hid (∀ i, (h : i < hs.length) → q.is hs[i] = true) := Lib.hid fun i h => by
          have h9 : i + 1 < who.length := by rw [HLW.out, HHL.out]; omega
          rw [HSW.out i h h9]; exact hall _ h9 h9
        have HBR := Lib.hid hbr
        clear hall HL hbr hlt hk
        go_wp2_with fail
        go_loopw [15, 108] (fun v i wv => ∃ (k : Nat) (v0 : Value), k ≤ hl0 ∧ i = .int .i64 k ∧ v0 = v ∧ OwnM wv wy.heap.size v0 ((hs.take k).map (pk 0)) ∧ Below wy.heap.size wy wv) (fun _ i _ => hl0 - (intOf i).toNat)
        case atStart => exact ⟨0, _, Nat.zero_le _, rfl, rfl, OwnM.nil _ _, HBR.out⟩
        case round =>
        obtain ⟨k, v, hk, rfl, hvv, hown, hbr⟩ := hrel
        subst hvv
        rename World => wv
        have HO := Lib.hid hown
        clear hown
        by_cases hlt : k < hl0
        · have hks : k < hs.length := by rw [← HHL.out]; exact hlt
          obtain ⟨wb', wo', e9, e1⟩ := (BHw.out.below hbr).at hks
          injection e9 with e9; injection e9 with e9 e9'; subst e9; subst e9'
          have hsn := HMAP.out k hks
          generalize hs[k] = z at *
          have HS := Lib.hid hsn
          have C := HSH.out Xp dp z wv (HXPw.out.below hbr)
          have HP0 := Lib.hid (HPK0.out z)
          clear hsn hks
          go_wp2_with fail
          refine C.mono ?_
          clear C
          rintro e wx ⟨X, d, rfl, g1, g2, g3, hbx, gn⟩
          have HOX := Lib.hid (HO.out.below hbx); have HBX := Lib.hid (bstep hbr hbx); have HG3 := Lib.hid g3
          have HLT := Lib.hid HOX.out.ownlt
          have hge : ∀ a, X = some a → wv.heap.size ≤ a.block := gn
          have HGE := Lib.hid hge
          have HLT0 := Lib.hid HO.out.ownlt
          have hmlen : ((hs.take k).map (pk 0)).length < 1099511627776 := by rw [List.length_map, List.length_take]; omega
          have hzx := hbx.size
          have hwyr := hbr.size
          clear hbx g3 gn hge e1
          go_wp2_with (at_builtin; refine wpList_append_row rfl _ _ rfl wy.heap.size v ((hs.take k).map (pk 0)) rfl (HOX.out.alloc _) wx.heap.size 1 (share po z) X d rfl (by rw [HSHP.out]; simp) (by rw [HSHP.out]; exact g1) g2 (HG3.out.alloc _) (fun _ a e e' => by have h1 := (HLT0.out _ e').2; have h2 := HGE.out a e; omega) hmlen (by simp; omega) ?_; intro v' w7' hown1 hb7')
          have HO1 := Lib.hid hown1; have HB7 := Lib.hid ((HBX.out.alloc HBX.out.size (.cells #[.slice X st d] 24)).trans hb7')
          clear hown1 hb7'
          go_wp2
          go_roundw
          case rel => exact ⟨k + 1, v', by omega, by go_num, rfl, by rw [HS.out, HP0.out]; exact HO1.out, HB7.out⟩
          case measure => simp [intOf] <;> omega
        · obtain rfl : hl0 = k := by omega
          have ho := HO.out
          rw [HHL.out, List.take_length] at ho
          have hlp : 0 < hs.length := by have h8 := HLW.out; have h9 := H2W.out; rw [← HHL.out]; omega
          obtain ⟨g, cap, hv, hg1, hg2, hg3, hg4⟩ := ho.form (by rw [List.length_map]; exact hlp)
          rw [List.length_map, ← HHL.out] at hv hg3
          subst hv
          have HOW := Lib.hid ho; have HBR2 := Lib.hid hbr
          clear HO ho hbr hlt hk hlp HBR
          go_wp2_with fail
          go_loopw [20] (fun i wu => ∃ k : Nat, k ≤ 3 ∧ i = .int .i64 k ∧ k * x ≤ zz.length ∧ OwnM wu wy.heap.size (.slice (some ⟨g, 0, none⟩) hl0 cap) (hs.map (pk k)) ∧ Below wy.heap.size wy wu) (fun i _ => 3 - (intOf i).toNat)
          case atStart => exact ⟨0, by omega, rfl, by omega, HOW.out, HBR2.out⟩
          case round =>
          obtain ⟨k, hk, rfl, hkx, hown, hbr⟩ := hrel
          rename World => wr
          have HO := Lib.hid hown
          clear hown
          obtain ⟨y, hy⟩ : ∃ y, y = k * x := ⟨_, rfl⟩
          have j1 : (k : Int) * (x : Int) = (y : Int) := by rw [hy, Int.natCast_mul]
          rw [← hy] at hkx
          have hyl : y ≤ 3 * 61440 := by rw [hy]; exact Nat.mul_le_mul hk (by omega)
          have j2 : IntKind.i64.wrap (y : Int) = (y : Int) := IntWalk.i64_in _ (by omega)
          obtain ⟨r, hr9⟩ : ∃ r : Nat, r = zz.length - y := ⟨_, rfl⟩
          have j3 : (zz.length : Int) - (y : Int) = (r : Int) := by omega
          have j4 : IntKind.i64.wrap (r : Int) = (r : Int) := IntWalk.i64_in _ (by omega)
          have HY := Lib.hid hy
          have HR9 := Lib.hid hr9
          obtain ⟨c0, c1, c2, c3, c4, c5⟩ := six (HAw.out.below hbr).plan
          have a2 := (HAw.out.below hbr).a2
          by_cases hgo : k < 3 ∧ x ≤ r
          · obtain ⟨hgo1, hgo2⟩ := hgo
            have HKB2 := Lib.hid (fun X d V => HKB.out bf y X d V (by have := HR9.out; omega) HQT.out)
            have hyx : y + x ≤ zz.length := by omega
            have hy0 : x = 0 → y = 0 := fun h => by rw [hy, h, Nat.mul_zero]
            clear hy hr9
            go_wp2_with fail
            clear c0 c1 c2 c3 c4 c5
            clear a2
            refine Drawn.wp_region_flowL 16 [Drawn.SP.is (.pointer (some ⟨bf, 0, none⟩)), Drawn.SP.is (.agg #[.int .i64 (N0 : Nat), .int .i64 T, .int .i64 L, .int .i64 W, .int .i64 S, .int .i64 R]), Drawn.SP.is (.int .i64 (st : Nat)), Drawn.SP.is (.int .i64 t), Drawn.SP.is (.pointer (some ⟨w.heap.size + 1, 2, none⟩)), Drawn.SP.is (.slice A4 zz.length u4), Drawn.SP.is (.int .i64 (k : Nat)), Drawn.SP.is (.int .i64 (x : Nat)), Drawn.SP.is (.int .i64 (y : Nat)), SP.bl (zz.drop y) (zz.length - y), SP.rEn wr.heap.size (sb y) N0 0, SP.rEn wr.heap.size (sb y) N0 0, SP.rnn wr.heap.size (sb y) N0, Drawn.SP.is (.int .i64 0), SP.rnn wr.heap.size (sb y) N0, Drawn.SP.is (.int .i64 0)] (by kernel_rfl) (by kernel_rfl) ?_ ?_
            · intro i hi a wg hb hev hdep
              rcases (show i = 0 ∨ i = 1 ∨ i = 2 ∨ i = 3 ∨ i = 4 ∨ i = 5 ∨ i = 6 ∨ i = 7 ∨ i = 8 ∨ i = 9 ∨ i = 10 ∨ i = 11 ∨ i = 12 ∨ i = 13 ∨ i = 14 ∨ i = 15 by omega) with rfl | rfl | rfl | rfl | rfl | rfl | rfl | rfl | rfl | rfl | rfl | rfl | rfl | rfl | rfl | rfl
              · have e11 : a.tmps[11]?.getD undef = .pointer (some ⟨bf, 0, none⟩) := hev 11 rfl
                refine Drawn.wpOp_flow 135 rfl rfl rfl ?_
                clear hev hdep hb
                go_simp
                exact ⟨_, rfl, rfl, Below.refl _ _⟩
              · have e3 : a.tmps[3]?.getD undef = .pointer (some ⟨w.heap.size, 0, none⟩) := hev 3 rfl
                refine Drawn.wpOp_flow 136 rfl rfl rfl ?_
                obtain ⟨c0, c1, c2, c3, c4, c5⟩ := six (HAw.out.below (hbr.trans (hb.mono hbr.size))).plan
                have a2 := (HAw.out.below (hbr.trans (hb.mono hbr.size))).a2
                clear hev hdep hb
                go_simp
                exact ⟨_, rfl, rfl, Below.refl _ _⟩
              · have e9 : a.tmps[9]?.getD undef = .int .i64 (st : Nat) := hev 9 rfl
                refine Drawn.wpOp_flow 137 rfl rfl rfl ?_
                clear hev hdep hb
                go_simp
                exact ⟨_, rfl, rfl, Below.refl _ _⟩
              · have e13 : a.tmps[13]?.getD undef = .int .i64 t := hev 13 rfl
                refine Drawn.wpOp_flow 138 rfl rfl rfl ?_
                clear hev hdep hb
                go_simp
                exact ⟨_, rfl, rfl, Below.refl _ _⟩
              · have e4 : a.tmps[4]?.getD undef = .pointer (some ⟨w.heap.size + 1, 0, none⟩) := hev 4 rfl
                refine Drawn.wpOp_flow 139 rfl rfl rfl ?_
                clear hev hdep hb
                go_simp
                exact ⟨_, rfl, rfl, Below.refl _ _⟩
              · have d4 : a.tmps[139]?.getD undef = .pointer (some ⟨w.heap.size + 1, 2, none⟩) := hdep 4 rfl
                refine Drawn.wpOp_flow 140 rfl rfl rfl ?_
                obtain ⟨c0, c1, c2, c3, c4, c5⟩ := six (HAw.out.below (hbr.trans (hb.mono hbr.size))).plan
                have a2 := (HAw.out.below (hbr.trans (hb.mono hbr.size))).a2
                clear hev hdep hb
                go_simp
                exact ⟨_, rfl, rfl, Below.refl _ _⟩
              · have e20 : a.tmps[20]?.getD undef = .int .i64 (k : Nat) := hev 20 rfl
                refine Drawn.wpOp_flow 141 rfl rfl rfl ?_
                clear hev hdep hb
                go_simp
                exact ⟨_, rfl, rfl, Below.refl _ _⟩
              · have e10 : a.tmps[10]?.getD undef = .int .i64 (x : Nat) := hev 10 rfl
                refine Drawn.wpOp_flow 142 rfl rfl rfl ?_
                clear hev hdep hb
                go_simp
                exact ⟨_, rfl, rfl, Below.refl _ _⟩
              · have d6 : a.tmps[141]?.getD undef = .int .i64 (k : Nat) := hdep 6 rfl
                have d7 : a.tmps[142]?.getD undef = .int .i64 (x : Nat) := hdep 7 rfl
                refine Drawn.wpOp_flow 143 rfl rfl rfl ?_
                clear hev hdep hb
                go_simp
                exact ⟨_, rfl, rfl, Below.refl _ _⟩
              · have d5 : a.tmps[140]?.getD undef = .slice A4 zz.length u4 := hdep 5 rfl
                have d8 : a.tmps[143]?.getD undef = .int .i64 (y : Nat) := hdep 8 rfl
                refine Drawn.wpOp_flow 144 rfl rfl rfl ?_
                clear hev hdep
                have B4x := B4w.out.below (hbr.trans (hb.mono hbr.size))
                clear hb
                by_cases h0 : zz.length = 0
                · have hx0 : y = 0 := by omega
                  have HBZ := Lib.hid (fun X => (show BytesAt wg X (zz.drop y) from by rw [List.eq_nil_of_length_eq_zero h0, List.drop_nil]; exact BytesAt.nil _ _))
                  have HBZ2 := Lib.hid (fun X => (show BytesAt wg X zz from by rw [List.eq_nil_of_length_eq_zero h0]; exact BytesAt.nil _ _))
                  have hsx : zz.length - y = 0 := by omega
                  have hxle : y ≤ zz.length := by omega
                  clear B4x
                  go_simp
                  exact ⟨_, rfl, ⟨_, _, by first | rfl | (congr 1; omega), by omega, by unfold maxLen; omega, (by first | exact HBZ.out _ | exact HBZ2.out _)⟩, Below.refl _ _⟩
                · obtain ⟨b4, o4, hA4⟩ : ∃ b o, A4 = some ⟨b, o, none⟩ := by
                    obtain ⟨b4, o4, h, _⟩ := B4x 0 (by omega)
                    exact ⟨b4, o4, h⟩
                  subst hA4
                  have hg : ¬ u4 = y := by omega
                  have hxle : y ≤ zz.length := by omega
                  have HB := Lib.hid (BytesAt.drop B4x y)
                  clear B4x h0
                  go_simp
                  exact ⟨_, rfl, ⟨_, _, rfl, by omega, by unfold maxLen; omega, HB.out⟩, Below.refl _ _⟩
              · have d0 : a.tmps[135]?.getD undef = .pointer (some ⟨bf, 0, none⟩) := hdep 0 rfl
                have d1 : a.tmps[136]?.getD undef = .agg #[.int .i64 (N0 : Nat), .int .i64 T, .int .i64 L, .int .i64 W, .int .i64 S, .int .i64 R] := hdep 1 rfl
                have d2 : a.tmps[137]?.getD undef = .int .i64 (st : Nat) := hdep 2 rfl
                have d3 : a.tmps[138]?.getD undef = .int .i64 t := hdep 3 rfl
                obtain ⟨Xz, dz, d9, y1, y2, y3⟩ : (SP.bl (zz.drop y) (zz.length - y)).p (a.tmps[144]?.getD undef) wg := hdep 9 rfl
                refine Drawn.wpOp_flow 145 rfl rfl rfl ?_
                clear hev hdep
                have C := HKB2.out Xz dz wg (HTw.out.below (hbr.trans (hb.mono hbr.size))) y3 y1 y2
                have hz := hb.size
                clear hb y3
                go_simp
                refine C.mono ?_
                rintro e w' ⟨X, f, rfl, g1, g2, g3, hb', hn'⟩
                exact ⟨_, rfl, ⟨X, f, rfl, g1, g2, g3, fun a e => Nat.le_trans hz (hn' a e)⟩, hb'⟩
              · have d10 := hdep 10 rfl
                refine Drawn.wpOp_flow 134 rfl rfl rfl ?_
                clear hev hdep hb
                go_simp
                exact ⟨_, rfl, d10, Below.refl _ _⟩
              · obtain ⟨Xb, db, d11, q1, q2, q3, q4⟩ : (SP.rEn wr.heap.size (sb y) N0 0).p (a.tmps[134]?.getD undef) wg := hdep 11 rfl
                refine Drawn.wpOp_flow 146 rfl rfl rfl ?_
                clear hev hdep
                clear hb
                go_simp
                exact ⟨_, rfl, ⟨Xb, db, rfl, q1, q2, q3, q4⟩, Below.refl _ _⟩
              · obtain ⟨Xb, db, d11, q1, q2, q3, q4⟩ : (SP.rEn wr.heap.size (sb y) N0 0).p (a.tmps[134]?.getD undef) wg := hdep 11 rfl
                refine Drawn.wpOp_flow 147 rfl rfl rfl ?_
                clear hev hdep hb
                go_simp
                exact ⟨_, rfl, rfl, Below.refl _ _⟩
              · have d12 := hdep 12 rfl
                refine Drawn.wpOp_flow 21 rfl rfl rfl ?_
                clear hev hdep hb
                go_simp
                exact ⟨_, rfl, d12, Below.refl _ _⟩
              · have d13 : a.tmps[147]?.getD undef = .int .i64 0 := hdep 13 rfl
                refine Drawn.wpOp_flow 22 rfl rfl rfl ?_
                clear hev hdep hb
                go_simp
                exact ⟨_, rfl, rfl, Below.refl _ _⟩
            · intro xq wg hb hxq
              have vq0 : xq 0 = .pointer (some ⟨bf, 0, none⟩) := hxq 0 (by omega)
              have vq1 : xq 1 = .agg #[.int .i64 (N0 : Nat), .int .i64 T, .int .i64 L, .int .i64 W, .int .i64 S, .int .i64 R] := hxq 1 (by omega)
              have vq2 : xq 2 = .int .i64 (st : Nat) := hxq 2 (by omega)
              have vq3 : xq 3 = .int .i64 t := hxq 3 (by omega)
              have vq4 : xq 4 = .pointer (some ⟨w.heap.size + 1, 2, none⟩) := hxq 4 (by omega)
              have vq5 : xq 5 = .slice A4 zz.length u4 := hxq 5 (by omega)
              have vq6 : xq 6 = .int .i64 (k : Nat) := hxq 6 (by omega)
              have vq7 : xq 7 = .int .i64 (x : Nat) := hxq 7 (by omega)
              have vq8 : xq 8 = .int .i64 (y : Nat) := hxq 8 (by omega)
              have vq13 : xq 13 = .int .i64 0 := hxq 13 (by omega)
              obtain ⟨Xb, db, vq14, q1, q2, q3, q4⟩ : (SP.rnn wr.heap.size (sb y) N0).p (xq 14) wg := hxq 14 (by omega)
              have vq15 : xq 15 = .int .i64 0 := hxq 15 (by omega)
              show Exit.then _ _ Exit.normal (Drawn.acts _ [(22, some (xq 15)), (21, some (xq 14)), (147, some (xq 13)), (146, some (xq 12)), (134, some (xq 11)), (145, some (xq 10)), (144, some (xq 9)), (143, some (xq 8)), (142, some (xq 7)), (141, some (xq 6)), (140, some (xq 5)), (139, some (xq 4)), (138, some (xq 3)), (137, some (xq 2)), (136, some (xq 1)), (135, some (xq 0))]) _
              rw [vq0, vq1, vq2, vq3, vq4, vq5, vq6, vq7, vq8, vq13, vq14, vq15]
              clear hxq vq0 vq1 vq2 vq3 vq4 vq5 vq6 vq7 vq8 vq13 vq14 vq15
              generalize xq 9 = yq9
              generalize xq 10 = yq10
              generalize xq 11 = yq11
              generalize xq 12 = yq12
              clear xq
              simp only [Drawn.acts]
              go_simp
              go_at_K
              obtain ⟨c0, c1, c2, c3, c4, c5⟩ := six (HAw.out.below (hbr.trans (hb.mono hbr.size))).plan
              have hbw := hbr.trans (hb.mono hbr.size)
              have HO2 := Lib.hid (HO.out.below hb)
              have hgr := HO.out.ownlt g rfl
              have HROW := Lib.hid q3; have HQ4 := Lib.hid (fun a e => Nat.lt_of_lt_of_le hgr.2 (q4 a e))
              clear hb q3 q4 j1 j2 j3 j4 hgr
              go_wp2_with fail
              clear c0 c1 c2 c3 c4 c5
              go_loopw [159] (fun i wi => ∃ j : Nat, j ≤ hl0 ∧ i = .int .i64 j ∧ OwnM wi wy.heap.size (.slice (some ⟨g, 0, none⟩) hl0 cap) (mixf (pk k) (pk (k + 1)) hs j) ∧ RowsAt wi Xb (sb y) ∧ Below wy.heap.size wy wi) (fun i _ => hl0 - (intOf i).toNat)
              case atStart => exact ⟨0, Nat.zero_le _, rfl, by rw [mixf_zero]; exact HO2.out, HROW.out, hbw⟩
              case round =>
              obtain ⟨j, hj, rfl, hown, hrow, hbr2⟩ := hrel
              rename World => wr2
              have HO3 := Lib.hid hown; have HRW := Lib.hid hrow
              clear hown hrow
              by_cases hlt : j < hl0
              · have hjs : j < hs.length := by rw [← HHL.out]; exact hlt
                obtain ⟨wb', wo', e9, e1⟩ := (BHw.out.below hbr2).at hjs
                injection e9 with e9; injection e9 with e9 e9'; subst e9; subst e9'
                have hml := mixf_len (pk k) (pk (k + 1)) hs (Nat.le_of_lt hjs)
                have hget := mixf_get (pk k) (pk (k + 1)) hs hjs (by rw [hml]; exact hjs)
                have hset := mixf_set (pk k) (pk (k + 1)) hs hjs
                obtain ⟨A9, c9, hv9, _, _, hR9, _⟩ := HO3.out.rows
                obtain rfl : some ⟨g, 0, none⟩ = A9 := by injection hv9
                obtain ⟨ab, ao, B1x, e1x, hXe, f1, g1a, g2a, hBA⟩ := hR9.row (i := j) (by rw [hml]; exact hjs)
                injection hXe with hXe; injection hXe with hXe hXe'; subst hXe; subst hXe'
                rw [Nat.zero_add] at f1
                simp only [hget] at f1 g1a hBA
                rw [HPKL.out] at f1 g1a
                have hqz := HQS.out j hjs
                generalize hs[j] = z at *
                obtain ⟨hz1, hz2⟩ := HIS.out z hqz
                obtain ⟨i, hi9⟩ : ∃ i : Nat, z - 1 = i := ⟨(z - 1).toNat, by omega⟩
                have hin : i < N0 := by omega
                obtain ⟨xb, xo, B2x, e2x, hXe, f2, g1b, g2b, hBB⟩ := HRW.out.row (i := i) (by rw [HRL.out]; exact hin)
                subst hXe
                have hrb := HRB.out y i (by rw [HRL.out]; exact hin)
                rw [show (i : Int) + 1 = z by omega] at hrb
                simp only [hrb] at f2 g1b hBB
                rw [HBLL.out] at f2 g1b
                have j5 : IntKind.i64.wrap (z - 1) = (i : Int) := by rw [hi9]; exact IntWalk.i64_in _ (by omega)
                have F1 := Lib.hid f1; have F2 := Lib.hid f2; have HBA := Lib.hid hBA; have HBB := Lib.hid hBB; have HSET := Lib.hid hset; have HML2 := Lib.hid hml
                have HSTP := Lib.hid (show addL [pk k z, bl y z] = pk (k + 1) z from by rw [HY.out]; exact HPKS.out k z)
                clear hqz hz1 hz2 hi9 hR9 hv9 hml hget hset f1 f2 hBA hBB hrb hjs
                go_wp2_with fail
                clear e1
                refine Drawn.wp_region_flowT 14 [Drawn.SP.is (.slice (some ⟨g, 0, none⟩) hl0 cap), Drawn.SP.is (.int .i64 (j : Nat)), Drawn.SP.is (.slice (some ⟨g, 0, none⟩) hl0 cap), Drawn.SP.is (.int .i64 (j : Nat)), Drawn.SP.is (.pointer (some ⟨g, j, none⟩)), Drawn.SP.is (.slice B1x st e1x), Drawn.SP.is (.slice (some ⟨xb, xo, none⟩) N0 db), Drawn.SP.is (.int .i64 z), Drawn.SP.is (.int .i64 (i : Nat)), Drawn.SP.is (.pointer (some ⟨xb, xo + i, none⟩)), Drawn.SP.is (.slice B2x st e2x), SP.lit2 [pk k z, bl y z], SP.bln wr2.heap.size (pk (k + 1) z) st, Drawn.SP.is (.pointer (some ⟨g, j, none⟩))] (by kernel_rfl) (by kernel_rfl) ?_ ?_
                · intro i hi a wh hb hev hdep
                  rcases (show i = 0 ∨ i = 1 ∨ i = 2 ∨ i = 3 ∨ i = 4 ∨ i = 5 ∨ i = 6 ∨ i = 7 ∨ i = 8 ∨ i = 9 ∨ i = 10 ∨ i = 11 ∨ i = 12 ∨ i = 13 by omega) with rfl | rfl | rfl | rfl | rfl | rfl | rfl | rfl | rfl | rfl | rfl | rfl | rfl | rfl
                  · have e15 : a.tmps[15]?.getD undef = .slice (some ⟨g, 0, none⟩) hl0 cap := hev 15 rfl
                    refine Drawn.wpOp_flow 164 rfl rfl rfl ?_
                    clear hev hdep hb
                    go_simp
                    exact ⟨_, rfl, rfl, Below.refl _ _⟩
                  · have e23 : a.tmps[23]?.getD undef = .int .i64 (j : Nat) := hev 23 rfl
                    refine Drawn.wpOp_flow 165 rfl rfl rfl ?_
                    clear hev hdep hb
                    go_simp
                    exact ⟨_, rfl, rfl, Below.refl _ _⟩
                  · have e15 : a.tmps[15]?.getD undef = .slice (some ⟨g, 0, none⟩) hl0 cap := hev 15 rfl
                    refine Drawn.wpOp_flow 166 rfl rfl rfl ?_
                    clear hev hdep hb
                    go_simp
                    exact ⟨_, rfl, rfl, Below.refl _ _⟩
                  · have e23 : a.tmps[23]?.getD undef = .int .i64 (j : Nat) := hev 23 rfl
                    refine Drawn.wpOp_flow 167 rfl rfl rfl ?_
                    clear hev hdep hb
                    go_simp
                    exact ⟨_, rfl, rfl, Below.refl _ _⟩
                  · have d2 : a.tmps[166]?.getD undef = .slice (some ⟨g, 0, none⟩) hl0 cap := hdep 2 rfl
                    have d3 : a.tmps[167]?.getD undef = .int .i64 (j : Nat) := hdep 3 rfl
                    refine Drawn.wpOp_flow 168 rfl rfl rfl ?_
                    clear hev hdep hb
                    go_simp
                    exact ⟨_, rfl, rfl, Below.refl _ _⟩
                  · have d4 : a.tmps[168]?.getD undef = .pointer (some ⟨g, j, none⟩) := hdep 4 rfl
                    refine Drawn.wpOp_flow 169 rfl rfl rfl ?_
                    have k1 := (hb.cell (p := ⟨g, j, none⟩) (cell_lt F1.out)).trans F1.out
                    have k2 := (hb.cell (p := ⟨xb, xo + i, none⟩) (cell_lt F2.out)).trans F2.out
                    clear hev hdep hb
                    go_simp
                    exact ⟨_, rfl, rfl, Below.refl _ _⟩
                  · have e21 : a.tmps[21]?.getD undef = .slice (some ⟨xb, xo, none⟩) N0 db := hev 21 rfl
                    refine Drawn.wpOp_flow 170 rfl rfl rfl ?_
                    clear hev hdep hb
                    go_simp
                    exact ⟨_, rfl, rfl, Below.refl _ _⟩
                  · have e24 : a.tmps[24]?.getD undef = .int .i64 z := hev 24 rfl
                    refine Drawn.wpOp_flow 171 rfl rfl rfl ?_
                    clear hev hdep hb
                    go_simp
                    exact ⟨_, rfl, rfl, Below.refl _ _⟩
                  · have d7 : a.tmps[171]?.getD undef = .int .i64 z := hdep 7 rfl
                    refine Drawn.wpOp_flow 172 rfl rfl rfl ?_
                    clear hev hdep hb
                    go_simp
                    exact ⟨_, rfl, rfl, Below.refl _ _⟩
                  · have d6 : a.tmps[170]?.getD undef = .slice (some ⟨xb, xo, none⟩) N0 db := hdep 6 rfl
                    have d8 : a.tmps[172]?.getD undef = .int .i64 (i : Nat) := hdep 8 rfl
                    refine Drawn.wpOp_flow 173 rfl rfl rfl ?_
                    clear hev hdep hb
                    go_simp
                    exact ⟨_, rfl, rfl, Below.refl _ _⟩
                  · have d9 : a.tmps[173]?.getD undef = .pointer (some ⟨xb, xo + i, none⟩) := hdep 9 rfl
                    refine Drawn.wpOp_flow 174 rfl rfl rfl ?_
                    have k1 := (hb.cell (p := ⟨g, j, none⟩) (cell_lt F1.out)).trans F1.out
                    have k2 := (hb.cell (p := ⟨xb, xo + i, none⟩) (cell_lt F2.out)).trans F2.out
                    clear hev hdep hb
                    go_simp
                    exact ⟨_, rfl, rfl, Below.refl _ _⟩
                  · have d5 : a.tmps[169]?.getD undef = .slice B1x st e1x := hdep 5 rfl
                    have d10 : a.tmps[174]?.getD undef = .slice B2x st e2x := hdep 10 rfl
                    refine Drawn.wpOp_flow 175 rfl rfl rfl ?_
                    clear hev hdep
                    have R2 := rows_lit2 (l := pk k z) (m := bl y z) (HBA.out.below hb) (by rw [HPKL.out]; exact g1a) g2a (HBB.out.below hb) (by rw [HBLL.out]; exact g1b) g2b
                    rw [HPKL.out, HBLL.out] at R2
                    clear hb
                    go_simp
                    exact ⟨_, rfl, ⟨_, rfl, R2⟩, balloc _ _⟩
                  · obtain ⟨X3, d11, t3⟩ : (SP.lit2 [pk k z, bl y z]).p (a.tmps[175]?.getD undef) wh := hdep 11 rfl
                    refine Drawn.wpOp_flow 176 rfl rfl rfl ?_
                    clear hev hdep
                    have C := HA2.out X3 wh _ _ t3 (HPKL.out k z) (HBLL.out y z)
                    rw [HSTP.out] at C
                    have hz := hb.size
                    clear hb t3
                    go_simp
                    refine C.mono ?_
                    rintro e w' ⟨X, d, rfl, g1, g2, g3, hb', hn'⟩
                    rw [HPKL.out] at g1
                    exact ⟨_, rfl, ⟨X, d, by rw [HPKL.out], g1, g2, g3, fun a e => Nat.le_trans hz (hn' a e)⟩, hb'⟩
                  · have d0 : a.tmps[164]?.getD undef = .slice (some ⟨g, 0, none⟩) hl0 cap := hdep 0 rfl
                    have d1 : a.tmps[165]?.getD undef = .int .i64 (j : Nat) := hdep 1 rfl
                    refine Drawn.wpOp_flow 177 rfl rfl rfl ?_
                    clear hev hdep hb
                    go_simp
                    exact ⟨_, rfl, rfl, Below.refl _ _⟩
                · intro xq wh hb hxq
                  have vq0 : xq 0 = .slice (some ⟨g, 0, none⟩) hl0 cap := hxq 0 (by omega)
                  have vq1 : xq 1 = .int .i64 (j : Nat) := hxq 1 (by omega)
                  have vq2 : xq 2 = .slice (some ⟨g, 0, none⟩) hl0 cap := hxq 2 (by omega)
                  have vq3 : xq 3 = .int .i64 (j : Nat) := hxq 3 (by omega)
                  have vq4 : xq 4 = .pointer (some ⟨g, j, none⟩) := hxq 4 (by omega)
                  have vq5 : xq 5 = .slice B1x st e1x := hxq 5 (by omega)
                  have vq6 : xq 6 = .slice (some ⟨xb, xo, none⟩) N0 db := hxq 6 (by omega)
                  have vq7 : xq 7 = .int .i64 z := hxq 7 (by omega)
                  have vq8 : xq 8 = .int .i64 (i : Nat) := hxq 8 (by omega)
                  have vq9 : xq 9 = .pointer (some ⟨xb, xo + i, none⟩) := hxq 9 (by omega)
                  have vq10 : xq 10 = .slice B2x st e2x := hxq 10 (by omega)
                  obtain ⟨Xm, dm, vq12, p1, p2, p3, p4⟩ : (SP.bln wr2.heap.size (pk (k + 1) z) st).p (xq 12) wh := hxq 12 (by omega)
                  have vq13 : xq 13 = .pointer (some ⟨g, j, none⟩) := hxq 13 (by omega)
                  show wpList _ _ _ _ (Drawn.acts _ [(177, some (xq 13)), (176, some (xq 12)), (175, some (xq 11)), (174, some (xq 10)), (173, some (xq 9)), (172, some (xq 8)), (171, some (xq 7)), (170, some (xq 6)), (169, some (xq 5)), (168, some (xq 4)), (167, some (xq 3)), (166, some (xq 2)), (165, some (xq 1)), (164, some (xq 0))]) _
                  rw [vq0, vq1, vq2, vq3, vq4, vq5, vq6, vq7, vq8, vq9, vq10, vq12, vq13]
                  clear hxq vq0 vq1 vq2 vq3 vq4 vq5 vq6 vq7 vq8 vq9 vq10 vq12 vq13
                  generalize xq 11 = yq11
                  clear xq
                  simp only [Drawn.acts, List.drop_succ_cons, List.drop_zero]
                  go_simp
                  have hzz := hb.size
                  have F1h := (hb.cell (p := ⟨g, j, none⟩) (cell_lt F1.out)).trans F1.out
                  have hgl := (HO3.out.ownlt g rfl).2
                  obtain ⟨g', cap', hv', _, _, fu, ho'⟩ := OwnM.store (HO3.out.below hb) (i := j) (by rw [HML2.out, ← HHL.out]; exact hlt) (HPKL.out (k + 1) z) p3 (by rw [HPKL.out]; exact p1) p2 (fun a e => by
                    simp only [Value.ownBlock]
                    intro h; injection h with h; have h2 := p4 a e; omega)
                  obtain rfl : g = g' := by injection hv' with h; injection h with h; injection h
                  rw [HSET.out] at ho'
                  have HO' := Lib.hid ho'
                  have HRW' := Lib.hid (rows_off (HRW.out.below hb) F1h HQ4.out (.slice Xm st dm))
                  have HBF := Lib.hid (show Below wy.heap.size wy (wh.setCell ⟨g, j, none⟩ (.slice Xm st dm)) from (hbr2.trans (hb.mono hbr2.size)).setCell hg1 _)
                  clear ho' hv' p3 hb
                  go_wp2
                  go_roundw
                  case rel => exact ⟨j + 1, by omega, by go_num, HO'.out, HRW'.out, HBF.out⟩
                  case measure => simp [intOf] <;> omega
              · obtain rfl : hl0 = j := by omega
                have ho := HO3.out
                rw [HHL.out, mixf_done, ← HHL.out] at ho
                have HO4 := Lib.hid ho
                have hkx2 : (k + 1) * x ≤ zz.length := by rw [Nat.succ_mul, ← HY.out]; exact hyx
                have HBF := Lib.hid hbr2
                clear ho HO3 HRW hlt hbr2
                go_wp2
                go_roundw
                case rel => exact ⟨k + 1, by omega, by go_num, hkx2, HO4.out, HBF.out⟩
                case measure => simp [intOf] <;> omega
          · have hR0 : RowsAt wr (some ⟨g, 0, none⟩) (hs.map (pk k)) := by
              obtain ⟨A9, c9, hv9, _, _, hR9, _⟩ := HO.out.rows
              injection hv9 with hv9
              rw [hv9]; exact hR9
            have C1 := HKF.out bf (some ⟨wb, wo + 1, none⟩) (some ⟨g, 0, none⟩) k wr (by rw [← HY.out]; exact hkx) HQT.out HQS.out cap (HTw.out.below hbr) (BHw.out.below hbr) hR0 hg3 hg4
            clear hR0
            have HC1 := Lib.hid C1
            clear C1 hy hr9
            rcases (show ¬ k < 3 ∨ (k < 3 ∧ ¬ x ≤ r) by omega) with h9 | ⟨h9, h10⟩
            all_goals
              go_wp2_with fail
              refine HC1.out.mono ?_
              rintro e wx ⟨Y, dy, rfl, _, _, hY, hbx, _⟩
              have HYY := Lib.hid hY; have HBX := Lib.hid (bstep hbr hbx)
              clear c0 c1 c2 c3 c4 c5
              clear hY hbx a2
              go_wp2_with fail
              refine (HSH.out Xp dp t wx (HXPw.out.below HBX.out)).mono ?_
              rintro e wx2 ⟨Z, dz, rfl, _, _, hZ, hbx2, _⟩
              have HZ := Lib.hid hZ; have HBX2 := Lib.hid (bstep HBX.out hbx2); have HY2 := Lib.hid (HYY.out.below hbx2)
              clear hZ hbx2
              go_wp2_with fail
              have C := R01.same_any Y Z (share po t) (share po t) dy dz wx2 HY2.out HZ.out (by rw [HSHP.out]; exact HST.out) (by rw [HSHP.out]; exact HST.out)
              rw [same_self, HSHP.out] at C
              refine C.mono ?_
              clear C
              rintro e wy2 ⟨rfl, hq9⟩
              have HBX3 := Lib.hid (bstep HBX2.out (bquiet hq9))
              clear hq9
              go_wp2_with fail
              refine (alive_any _).mono ?_
              rintro e wz ⟨rfl, hbz⟩
              go_wp2
              go_ret
              exact ⟨rfl, bstep HB0w.out (bstep HBX3.out hbz)⟩

theorem back_law (q : P) (A1 : Option Addr) (b : List UInt8) (u1 : Nat) (A2 : Option Addr) (tp : List UInt8) (u2 : Nat) (A4 : Option Addr) (zz : List UInt8) (u4 : Nat) (A3 : Option Addr) (who : List Int) (u3 : Nat) (w : World) (hp : q.In) (h1 : BytesAt w A1 b) (k1 : b.length ≤ u1) (z1 : u1 ≤ maxLen) (h2 : BytesAt w A2 tp) (k2 : tp.length ≤ u2) (z2 : u2 ≤ maxLen) (h4 : BytesAt w A4 zz) (k4 : zz.length ≤ u4) (z4 : u4 ≤ maxLen) (h3 : IntsAt w A3 who) (k3 : who.length ≤ u3) (z3 : u3 ≤ maxLen) (hi : ∀ x ∈ who, In64 x) :
    Calls Tryz.prog 3 #[q.val, .agg #[.slice A1 b.length u1, .slice A2 tp.length u2, .slice A4 zz.length u4], .slice A3 who.length u3] w fun e w' => e = .returned (.bool true) ∧ Below w.heap.size w w' := by
  obtain ⟨N, T, L, W, S, R⟩ := q
  by_cases hl : N ≤ 12 ∧ L ≤ 12 ∧ T ≤ 12
  · rcases hr : (⟨N, T, L, W, S, R⟩ : P).right with _ | _
    · exact back_arg N T L W S R A1 A2 A4 A3 b tp zz who u1 u2 u4 u3 w hp hl hr
    · by_cases hf : 60 < b.length
      · exact back_long N T L W S R A1 A2 A4 A3 b tp zz who u1 u2 u4 u3 w hp hl hr hf
      · by_cases hc : (tp.length : Int) < cost ⟨N, T, L, W, S, R⟩ b.length
        · exact back_short N T L W S R A1 A2 A4 A3 b tp zz who u1 u2 u4 u3 w hp hl hr (by omega) hc
        · by_cases hm : 14 < who.length
          · exact back_many N T L W S R A1 A2 A4 A3 b tp zz who u1 u2 u4 u3 w hp hl hr (by omega) (by omega) hm
          · by_cases hw : (who.length : Int) < T + L + 1
            · exact back_few N T L W S R A1 A2 A4 A3 b tp zz who u1 u2 u4 u3 w hp hl hr (by omega) (by omega) (by omega) hw
            · rcases hu : unl (points who) with _ | _
              · exact back_twice N T L W S R A1 A2 A4 A3 b tp zz who u1 u2 u4 u3 w hp h3 hl hr (by omega) (by omega) (by omega) (by omega) hu
              · have hM : P.May ⟨N, T, L, W, S, R⟩ := of_decide_eq_true hr
                unfold P.May at hM
                simp only at hM
                obtain ⟨N0, rfl⟩ : ∃ a : Nat, N = a := ⟨N.toNat, by omega⟩
                exact back_main T L W S R N0 A1 A2 A4 A3 b tp zz who u1 u2 u4 u3 w hp h1 k1 z1 h2 k2 z2 h4 k4 z4 h3 k3 z3 hi hl hr (by omega) (by omega) (by omega) (by omega) hu
  · exact back_heavy N T L W S R A1 A2 A4 A3 b tp zz who u1 u2 u4 u3 w hp hl

end Go.Proofs.YtchcgiapjhmflaaGreat.Law13
