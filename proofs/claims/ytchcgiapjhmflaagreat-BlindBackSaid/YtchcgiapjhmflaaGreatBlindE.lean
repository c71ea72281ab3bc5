/- package blind: the share that is found -/
import Derived.Test.YtchcgiapjhmflaaGreatBlindD
set_option maxRecDepth 100000
namespace Go.Proofs.YtchcgiapjhmflaaGreat.Blind
open Go.RowKit PlanM StripeM DealM RebM ZeroM Plan Rebuild SortM PolyM LagrM GfM Stripe

/-- what has been found behind k parts -/
def accTo (wts : List UInt8) (sh : List (List UInt8)) (n : Nat) : Nat → List UInt8
  | 0 => List.replicate n 0
  | k + 1 => padd (accTo wts sh n k) (scale (co wts k) (sh.getD k []))
theorem acc_len {wts : List UInt8} {sh : List (List UInt8)} {n : Nat} (h : ∀ i, (hi : i < sh.length) → (sh[i].length : Int) = n) : ∀ k, k ≤ sh.length → (accTo wts sh n k).length = n
  | 0, _ => List.length_replicate
  | k + 1, hk => by
    show (padd _ _).length = n
    rw [padd_len, scale_len, acc_len h k (by omega), ← List.getElem_eq_getD (h := hk)]
    have := h k hk
    omega
theorem co_acc (wts : List UInt8) (sh : List (List UInt8)) (n j : Nat) : ∀ k, co (accTo wts sh n k) j = xsum (fun i => mul (co wts i) (at_ sh i j)) k
  | 0 => by
    show co (List.replicate n 0) j = 0
    unfold co
    rw [List.getD_eq_getElem?_getD, List.getElem?_replicate]
    split <;> rfl
  | k + 1 => by
    show co (padd _ _) j = add _ _
    rw [co_padd, co_scale, co_acc wts sh n j k]
    rfl
theorem acc_find {p : P} {n : Nat} {t : Int} {who : List Int} {sh : List (List UInt8)} (h : FOk p n t who sh) : accTo (wgts (points (who.take (need p))) (point t)) sh n (need p) = find p n t who sh := by
  have hen := h.enough
  have hM := h.may
  unfold P.May at hM
  have hne : need p ≤ who.length := by unfold need; omega
  have hnd : (points (who.take (need p))).Nodup := by rw [points_take]; exact nodup_take h.nd _
  have hpl : (points (who.take (need p))).length = need p := by rw [points_len, List.length_take]; omega
  have hl := acc_len (wts := wgts (points (who.take (need p))) (point t)) h.row (need p) (by rw [h.same]; exact hne)
  unfold find
  rw [← tab_of (accTo _ _ _ _), hl]
  refine tab_congr fun j hj => ?_
  unfold fbyte rpoly
  rw [co_acc, ← dot_wgts hnd (rys p sh j) (by rw [hpl]; unfold rys; rw [tab_len]) (point t), dot_sum, wgts_len, hpl]
  unfold rys
  rw [tab_len, Nat.min_self]
  exact xsum_congr _ fun i hi => by rw [co_tab, if_pos hi]
theorem find_len (p : P) (n : Nat) (t : Int) (who : List Int) (sh : List (List UInt8)) : (find p n t who sh).length = n := tab_len _ _

theorem find_wrong (b0 : Nat) (p : P) (n t : Int) (A1 A2 : Option Addr) (who : List Int) (sh : List (List UInt8)) (u1 u2 : Nat) (w : World) (hp : p.In) (ht : In64 t) (h1 : IntsAt w A1 who) (hi : ∀ x ∈ who, In64 x) (h2 : RowsAt w A2 sh)
    (hw : who.length ≤ 1048576) (hl : sh.length ≤ 1048576) (hz : findE p n t who sh ≠ 0) :
    Calls Tryz.prog 18 #[.pointer (some ⟨b0, 0, none⟩), p.val, .int .i64 n, .int .i64 t, .slice A1 who.length u1, .slice A2 sh.length u2] w (RetBytesE w [] (findE p n t who sh)) := by
  have HS := Lib.hid (Six.new w p)
  have hb0 := Lib.hid (balloc w (.cells #[.int .i64 p.N, .int .i64 p.T, .int .i64 p.L, .int .i64 p.W, .int .i64 p.S, .int .i64 p.R] 23))
  have hC := fun V (h1 : IntsAt V A1 who) (h2 : RowsAt V A2 sh) => parts_any p n t A1 A2 who sh u1 u2 V hp ht h1 hi h2 hw hl
  have H1 := Lib.hid h1; have H2 := Lib.hid h2
  generalize findE p n t who sh = e0 at *
  have hne : (e0 != 0) = true := by simpa using hz
  obtain ⟨wl, hwl⟩ : ∃ wl, wl = who.length := ⟨_, rfl⟩
  obtain ⟨sl, hsl⟩ : ∃ sl, sl = sh.length := ⟨_, rfl⟩
  rw [← hwl, ← hsl] at hC ⊢
  clear hz hp ht h1 h2 hi hwl hsl hw hl
  obtain ⟨pN, pT, pL, pW, pS, pR⟩ := p
  unfold P.val at hC ⊢
  simp only at HS hb0 hC ⊢
  have HC := Lib.hid hC
  clear hC
  go_enter Tryz.func18, Tryz.ntmps18
  go_wp2_with fail
  generalize w.alloc (.cells #[.int .i64 pN, .int .i64 pT, .int .i64 pL, .int .i64 pW, .int .i64 pS, .int .i64 pR] 23) = w0 at *
  have s0 := HS.out
  have c0 := s0.c0; have c1 := s0.c1; have c2 := s0.c2; have c3 := s0.c3; have c4 := s0.c4; have c5 := s0.c5
  simp only at c0 c1 c2 c3 c4 c5
  clear s0
  go_wp2_with fail
  refine (HC.out _ (H1.out.below hb0.out) (H2.out.below hb0.out)).mono ?_
  rintro e w1 ⟨rfl, hb1⟩
  clear c0 c1 c2 c3 c4 c5
  go_wp2
  go_ret2
  exact ⟨none, 0, rfl, Nat.le_refl _, Nat.zero_le _, BytesAt.nil _ _, bstep hb0.out hb1, New.none w⟩

set_option maxHeartbeats 4000000 in
theorem find_yes (b0 : Nat) (p : P) (n : Nat) (t : Int) (A1 A2 : Option Addr) (who : List Int) (sh : List (List UInt8)) (u1 u2 : Nat) (w : World) (hp : p.In) (ht : In64 t) (hT : Gf.Tab w b0) (h1 : IntsAt w A1 who) (k1 : who.length ≤ u1) (z1 : u1 ≤ maxLen) (hi : ∀ x ∈ who, In64 x) (h2 : RowsAt w A2 sh) (_k2 : sh.length ≤ u2)
    (hw : who.length ≤ 1048576) (hl : sh.length ≤ 1048576) (hz : findE p n t who sh = 0) :
    Calls Tryz.prog 18 #[.pointer (some ⟨b0, 0, none⟩), p.val, .int .i64 n, .int .i64 t, .slice A1 who.length u1, .slice A2 sh.length u2] w (RetBytesE w (find p n t who sh) 0) := by
  have ok := find_ok hz
  have hM := ok.may
  have hM' := hM
  unfold P.May at hM'
  have HS := Lib.hid (Six.new w p)
  have hb0 := Lib.hid (balloc w (.cells #[.int .i64 p.N, .int .i64 p.T, .int .i64 p.L, .int .i64 p.W, .int .i64 p.S, .int .i64 p.R] 23))
  have hC := fun V (h1 : IntsAt V A1 who) (h2 : RowsAt V A2 sh) => parts_any p n t A1 A2 who sh u1 u2 V hp ht h1 hi h2 hw hl
  rw [hz] at hC
  have hN := fun V => Plan.need_any p V hp
  rw [show p.needA = ((need p : Nat) : Int) from by unfold P.needA need; rw [P.right_yes hM, if_pos rfl]; omega] at hN
  have hne : need p ≤ who.length := by have := ok.enough; unfold need; omega
  have hns : need p ≤ sh.length := by rw [ok.same]; exact hne
  have htk : (who.take (need p)).length = need p := by rw [List.length_take]; omega
  have hP := fun V (h : IntsAt V A1 (who.take (need p))) => (Plan.points_any A1 (who.take (need p)) u1 V h (by omega) (by omega) z1 (fun x hx => hi x (List.mem_of_mem_take hx))).mono fun _ _ h => h.new
  have hpl : (points (who.take (need p))).length = need p := by rw [points_len, htk]
  have hnd : (points (who.take (need p))).Nodup := by rw [points_take]; exact nodup_take ok.nd _
  have hX := fun V => point_any t V ht
  have hG := fun V B c (hT : Gf.Tab V b0) (h : BytesAt V B (points (who.take (need p)))) => Lagr.weights_yes b0 B (points (who.take (need p))) c (point t) V hT h (by omega) ((unl_iff _).2 hnd)
  unfold RetNew at hP
  rw [hpl] at hP hG
  rw [htk] at hP
  have hF := acc_find ok
  have hFL := find_len p n t who sh
  have hlen := acc_len (wts := wgts (points (who.take (need p))) (point t)) ok.row
  have hwl : (wgts (points (who.take (need p))) (point t)).length = need p := by rw [wgts_len, hpl]
  rw [hwl] at hG
  have hrow := ok.row
  have hn1 := ok.n1
  have h1t : IntsAt w A1 (who.take (need p)) := fun i hi => by
    have hi2 : i < who.length := by rw [intV_len, List.length_take] at hi; omega
    obtain ⟨b, o, e, hc⟩ := h1 i (by rw [intV_len]; exact hi2)
    refine ⟨b, o, e, ?_⟩
    rw [hc, intV_get, intV_get, List.getElem_take]
  have H1 := Lib.hid h1; have H1T := Lib.hid h1t; have H2 := Lib.hid h2; have HTB := Lib.hid hT
  generalize points (who.take (need p)) = pts at *
  generalize wgts pts (point t) = wts at *
  generalize find p n t who sh = out at *
  generalize who.take (need p) = whot at *
  generalize need p = nd at *
  generalize point t = pt at *
  obtain ⟨wl, hwl2⟩ : ∃ wl, wl = who.length := ⟨_, rfl⟩
  obtain ⟨sl, hsl⟩ : ∃ sl, sl = sh.length := ⟨_, rfl⟩
  have hacc0 : accTo wts sh n 0 = List.replicate n 0 := rfl
  have haccS : ∀ k, (hk : k < sh.length) → accTo wts sh n (k + 1) = padd (accTo wts sh n k) (scale (co wts k) sh[k]) := fun k hk => by
    show padd _ (scale _ (sh.getD k [])) = _
    rw [← List.getElem_eq_getD (h := hk)]
  have HF := Lib.hid hF; have HFL := Lib.hid hFL; have HLEN := Lib.hid hlen; have HROW := Lib.hid hrow; have HWL := Lib.hid hwl; have HSL := Lib.hid hsl; have HA0 := Lib.hid hacc0; have HAS := Lib.hid haccS
  rw [← hwl2] at hC hne k1 hw ⊢
  rw [← hsl] at hC hns hl ⊢
  have hmk := fun W => make_u8 n (by omega) W
  have HMK := Lib.hid hmk
  generalize accTo wts sh n = acc at *
  clear ok hM hM' hp ht h1 h1t h2 hi hz hT htk hpl hnd hF hFL hlen hwl hrow hwl2 hsl hacc0 haccS hmk
  obtain ⟨pN, pT, pL, pW, pS, pR⟩ := p
  unfold P.val at hC hN ⊢
  simp only at HS hb0 hC hN ⊢
  have HC := Lib.hid hC; have HN := Lib.hid hN; have HP := Lib.hid hP; have HX := Lib.hid hX; have HG := Lib.hid hG
  clear hC hN hP hX hG
  go_enter Tryz.func18, Tryz.ntmps18
  go_wp2_with fail
  generalize w.alloc (.cells #[.int .i64 pN, .int .i64 pT, .int .i64 pL, .int .i64 pW, .int .i64 pS, .int .i64 pR] 23) = w0 at *
  have s0 := HS.out
  have c0 := s0.c0; have c1 := s0.c1; have c2 := s0.c2; have c3 := s0.c3; have c4 := s0.c4; have c5 := s0.c5
  simp only at c0 c1 c2 c3 c4 c5
  clear s0
  go_wp2_with fail
  refine (HC.out _ (H1.out.below hb0.out) (H2.out.below hb0.out)).mono ?_
  rintro e w1 ⟨rfl, hb1⟩
  clear c0 c1 c2 c3 c4 c5
  have HB1 := Lib.hid (bstep hb0.out hb1)
  have s0 := HS.out.below hb1
  have c0 := s0.c0; have c1 := s0.c1; have c2 := s0.c2; have c3 := s0.c3; have c4 := s0.c4; have c5 := s0.c5
  simp only at c0 c1 c2 c3 c4 c5
  clear s0 hb0 hb1 HS HC
  go_wp2_with fail
  refine (HN.out _).mono ?_
  rintro e w2 ⟨rfl, hb2⟩
  clear c0 c1 c2 c3 c4 c5
  have HB2 := Lib.hid (bstep HB1.out hb2)
  clear hb2
  go_wp2_with fail
  refine (HP.out _ (H1T.out.below HB2.out)).mono ?_
  rintro e w3 ⟨B, dB, rfl, x1, x2, hB, hb3, _⟩
  have HB3 := Lib.hid (bstep HB2.out hb3); have HPT := Lib.hid hB
  clear hb3 hB
  go_wp2_with fail
  refine (HX.out _).mono ?_
  rintro e w4 ⟨rfl, hb4⟩
  have HB4 := Lib.hid (bstep HB3.out hb4); have HPT4 := Lib.hid (HPT.out.below hb4)
  clear hb4
  go_wp2_with fail
  refine (HG.out _ _ _ (HTB.out.below HB4.out) HPT4.out).mono ?_
  rintro e w5 ⟨G, dG, rfl, hG, hb5, _, y1, y2⟩
  have HB5 := Lib.hid (bstep HB4.out hb5); have HGW := Lib.hid hG
  clear hb5 hG
  have hmk5 := HMK.out w5
  go_wp2_with fail
  clear hmk5
  go_loopw [18, 47] (fun v i wr => ∃ k : Nat, k ≤ nd ∧ i = .int .i64 k ∧ (∃ S d, v = .slice S n d ∧ n ≤ d ∧ d ≤ maxLen ∧ BytesAt wr S (acc k) ∧ New w S) ∧ Below w5.heap.size w5 wr)
    (fun _ i _ => nd - (intOf i).toNat)
  case atStart =>
    exact ⟨0, Nat.zero_le _, rfl, ⟨_, _, rfl, Nat.le_refl _, by unfold maxLen; omega, by rw [HA0.out]; exact (Row.new w5 _).bytes, fun a e => by cases e; exact HB5.out.size⟩, balloc _ _⟩
  case round =>
    obtain ⟨k, hk, rfl, ⟨S, dS, rfl, q1, q2, hS, hnS⟩, hb⟩ := hrel
    rename World => wr
    have HSB := Lib.hid hS; have HNS := Lib.hid hnS; have HBW := Lib.hid (bstep HB5.out hb); have HBR := Lib.hid hb
    clear hS hnS hb
    by_cases hlt : k < nd
    · have hks : k < sh.length := by rw [← HSL.out]; omega
      have hkw : k < wts.length := by rw [HWL.out]; exact hlt
      obtain ⟨gb, go, rfl, hcw⟩ := (HGW.out.below HBR.out) k hkw
      obtain ⟨b, o, B2, d2, hA2, hcr, hd1, hd2, hBr⟩ := (H2.out.below HBW.out).row hks
      subst hA2
      have hrl := HROW.out k hks
      have hstep := HAS.out k hks
      have hl1 := HLEN.out k (by omega)
      have hl2 := HLEN.out (k + 1) (by omega)
      have hco : co wts k = wts[k] := co_get _ _ hkw
      rw [hco] at hstep
      generalize wts[k] = g at *
      generalize sh[k] = r at *
      have hrl2 : r.length = n := by omega
      rw [hrl2] at hcr hd1
      have hsc := fun V (hT : Gf.Tab V b0) (h : BytesAt V B2 r) => Poly.scale_new b0 B2 r d2 g V hT h (by omega)
      unfold RetNew at hsc
      rw [scale_len, hrl2] at hsc
      have hsum := fun V X c (h1 : BytesAt V S (acc k)) (h2 : BytesAt V X (scale g r)) => Poly.sum_new S X (acc k) (scale g r) dS c V h1 h2 (by omega) (by rw [scale_len]; omega)
      unfold RetNew at hsum
      rw [← hstep, hl1, hl2, scale_len, hrl2] at hsum
      have HSC := Lib.hid hsc; have HSU := Lib.hid hsum; have HBRR := Lib.hid hBr
      clear hrl hrl2 hstep hl1 hl2 hco hsc hsum hBr
      generalize scale g r = sc at *
      go_wp2_with fail
      refine (HSC.out _ (HTB.out.below HBW.out) HBRR.out).mono ?_
      rintro e w6 ⟨X, dX, rfl, e1, e2, hX, hb6, _⟩
      have HX6 := Lib.hid hX; have HB6 := Lib.hid hb6
      clear hX hb6 hcw hcr
      go_wp2_with fail
      refine (HSU.out _ _ _ (HSB.out.below HB6.out) HX6.out).mono ?_
      rintro e w7 ⟨Y, dY, rfl, f1, f2, hY, hb7, hnY⟩
      have HY7 := Lib.hid hY; have HB7 := Lib.hid hb7; have HNY := Lib.hid hnY
      clear hY hb7 hnY
      go_wp2
      go_roundw
      case rel =>
        refine ⟨k + 1, by omega, by go_num, ⟨Y, dY, rfl, f1, f2, HY7.out, fun a e => ?_⟩, bstep HBR.out (bstep HB6.out HB7.out)⟩
        have h1 := HNY.out a e
        have h2 := HBW.out.size
        have h3 := HB6.out.size
        omega
      case measure => simp [intOf] <;> omega
    · obtain rfl : k = nd := by omega
      have hS := HSB.out
      rw [HF.out] at hS
      have HS2 := Lib.hid hS
      clear hS
      go_wp2
      go_ret2
      exact ⟨S, dS, by rw [HFL.out]; rfl, by rw [HFL.out]; exact q1, q2, HS2.out, HBW.out, HNS.out⟩

theorem find_any (b0 : Nat) (p : P) (n t : Int) (A1 A2 : Option Addr) (who : List Int) (sh : List (List UInt8)) (u1 u2 : Nat) (w : World) (hp : p.In) (_hn : In64 n) (ht0 : In64 t) (ht : Gf.Tab w b0) (h1 : IntsAt w A1 who) (k1 : who.length ≤ u1) (z1 : u1 ≤ maxLen) (hi : ∀ x ∈ who, In64 x) (h2 : RowsAt w A2 sh) (k2 : sh.length ≤ u2) (_z2 : u2 ≤ maxLen)
    (hw : who.length ≤ 1048576) (hl : sh.length ≤ 1048576) :
    Calls Tryz.prog 18 #[.pointer (some ⟨b0, 0, none⟩), p.val, .int .i64 n, .int .i64 t, .slice A1 who.length u1, .slice A2 sh.length u2] w (RetBytesE w (findA p n t who sh) (findE p n t who sh)) := by
  by_cases hz : findE p n t who sh = 0
  · have e2 : findA p n t who sh = find p n.toNat t who sh := by unfold findA; rw [if_pos hz]
    rw [e2, hz]
    obtain ⟨m, rfl⟩ : ∃ m : Nat, n = (m : Int) := ⟨n.toNat, by have := (find_ok hz).n0; omega⟩
    rw [Int.toNat_natCast]
    exact find_yes b0 p m t A1 A2 who sh u1 u2 w hp ht0 ht h1 k1 z1 hi h2 k2 hw hl hz
  · have e2 : findA p n t who sh = [] := by unfold findA; rw [if_neg hz]
    rw [e2]
    exact find_wrong b0 p n t A1 A2 who sh u1 u2 w hp ht0 h1 hi h2 hw hl hz
end Go.Proofs.YtchcgiapjhmflaaGreat.Blind
