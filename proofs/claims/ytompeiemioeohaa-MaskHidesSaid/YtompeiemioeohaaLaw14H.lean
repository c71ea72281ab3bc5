/- the walk of MaskHides: the main case -/
import Derived.Test.YtompeiemioeohaaLaw14G
import Derived.Test.YtompeiemioeohaaOpenB
set_option maxRecDepth 100000
namespace Go.Proofs.Ytompeiemioeohaa.Law14
open Go.RowKit PlanM StripeM LagrM DealM RebM ZeroM MaskM Law08 Law10

set_option maxHeartbeats 16000000 in
theorem hides_main (W S R : Int) (n0 t0 l0 : Nat) (A1 A2 A3 A4 : Option Addr) (ba bb tape : List UInt8) (z : List Int) (c1 c2 c3 c4 : Nat) (w : World) (hp : P.In ⟨n0, t0, l0, W, S, R⟩) (h1 : BytesAt w A1 ba) (k1 : ba.length ≤ c1) (x1 : c1 ≤ maxLen) (h2 : BytesAt w A2 bb) (k2 : bb.length ≤ c2) (x2 : c2 ≤ maxLen)
    (h3 : BytesAt w A3 tape) (k3 : tape.length ≤ c3) (x3 : c3 ≤ maxLen) (hrc : tape.length ≤ 140737488351232) (h4 : IntsAt w A4 z) (hi : ∀ x ∈ z, In64 x) (hl : (n0 : Int) ≤ 12 ∧ (l0 : Int) ≤ 12 ∧ (t0 : Int) ≤ 12) (hM : P.May ⟨n0, t0, l0, W, S, R⟩) (h60 : ba.length ≤ 60) (hab : ba.length = bb.length) (hco : ¬ (tape.length : Int) < cost ⟨n0, t0, l0, W, S, R⟩ ba.length) (he : mcheck ⟨n0, t0, l0, W, S, R⟩ (List.replicate l0 0) z = 0) :
    Calls Try.prog 5 #[.agg #[.int .i64 (n0 : Nat), .int .i64 (t0 : Nat), .int .i64 (l0 : Nat), .int .i64 W, .int .i64 S, .int .i64 R], .agg #[.slice A1 ba.length c1, .slice A2 bb.length c2, .slice A3 tape.length c3], .slice A4 z.length c4] w fun e w' => e = .returned (.bool true) ∧ Below w.heap.size w w' := by
  have ok := mcheck_ok he
  have hM' := hM
  unfold P.May at hM'
  simp only at hM'
  have hnd := ok.nd; have his := ok.is; have hfew := ok.few
  have hzl : z.length ≤ 12 := by simp only [Int.toNat_natCast] at hfew; omega
  have K0 := fun w => Law10.light_any n0 t0 l0 W S R w
  rw [decide_eq_true hl] at K0
  have KR := fun V => R08.right_any ⟨n0, t0, l0, W, S, R⟩ V hp
  rw [P.right_yes hM] at KR
  have KCO := fun V => R10.cost_any n0 t0 l0 W S R (ba.length : Int) V (by omega) (by omega)
  have KCK := fun X d V h => check_all n0 t0 l0 W S R X A4 (List.replicate l0 0) z d c4 V hp h hl.2.2
  rw [he, List.length_replicate] at KCK
  have KCX := fun V h => R09.cut_any n0 t0 l0 W S R A1 ba c1 V (by omega) h k1 x1 (by omega)
  have KCY := fun V h => R09.cut_any n0 t0 l0 W S R A2 bb c2 V (by omega) h k2 x2 (by omega)
  obtain ⟨n, hn⟩ : ∃ n, n = P.stripes ⟨n0, t0, l0, W, S, R⟩ ba.length := ⟨_, rfl⟩
  have hn240 : n ≤ 240 := by rw [hn]; exact stripes_le _ _ (by show (1 : Int) ≤ l0; omega)
  have hcl : (cut ⟨n0, t0, l0, W, S, R⟩ ba).length = n := by unfold cut; rw [cutTo_len, hn]
  have hcl2 : (cut ⟨n0, t0, l0, W, S, R⟩ bb).length = n := by unfold cut; rw [cutTo_len, hn, hab]
  have hcost : n * t0 ≤ tape.length := by
    unfold cost at hco
    rw [← hn] at hco
    have e : (t0 : Int) * (n : Int) = ((n * t0 : Nat) : Int) := by rw [Int.natCast_mul]; exact Int.mul_comm _ _
    simp only at hco
    omega
  obtain ⟨da, hda⟩ : ∃ da : Nat → List UInt8, da = fun j => xorL (row l0 ba j) (row l0 bb j) := ⟨_, rfl⟩
  have hdl : ∀ j, (da j).length = l0 := fun j => by rw [hda]; show (xorL _ _).length = _; rw [xorL_len, row_len]
  have okj : ∀ j, MOk ⟨n0, t0, l0, W, S, R⟩ (da j) z := fun j => ⟨hM, by rw [hdl]; exact (Int.toNat_natCast _).symm, hfew, his, hnd⟩
  obtain ⟨sf, hsf⟩ : ∃ sf : Nat → List UInt8, sf = fun j => shift ⟨n0, t0, l0, W, S, R⟩ (da j) z := ⟨_, rfl⟩
  obtain ⟨mf, hmf⟩ : ∃ mf : Nat → List UInt8, mf = fun j => mdeal ⟨n0, t0, l0, W, S, R⟩ (da j) (shift ⟨n0, t0, l0, W, S, R⟩ (da j) z) := ⟨_, rfl⟩
  have hsl : ∀ j, (sf j).length = l0 + t0 := fun j => by rw [hsf]; show (shift _ _ _).length = _; rw [shift_len (okj j)]; rfl
  have hml : ∀ j, (mf j).length = t0 := fun j => by rw [hmf]; exact sized_len _ _
  have hcr : ∀ j (h : j < (cut ⟨n0, t0, l0, W, S, R⟩ ba).length), (cut ⟨n0, t0, l0, W, S, R⟩ ba)[j] = row l0 ba j := fun j h => by unfold cut at h ⊢; rw [cutTo_get]; rfl
  have hcr2 : ∀ j (h : j < (cut ⟨n0, t0, l0, W, S, R⟩ bb).length), (cut ⟨n0, t0, l0, W, S, R⟩ bb)[j] = row l0 bb j := fun j h => by unfold cut at h ⊢; rw [cutTo_get]; rfl
  have KXO := fun j X d Y f V (g1 : BytesAt V X (row l0 ba j)) (g2 : BytesAt V Y (row l0 bb j)) => R10.xor_any X Y (row l0 ba j) (row l0 bb j) d f V g1 g2 (by rw [row_len]; omega) (by rw [row_len]; omega)
  have KXO2 := fun j X d Y f V g1 g2 => (show Calls Try.prog 29 #[.slice X l0 d, .slice Y l0 f] V fun e w' => ∃ Z g, e = .returned (.slice Z l0 g) ∧ BytesAt w' Z (da j) ∧ Below V.heap.size V w' from by
    have C := KXO j X d Y f V g1 g2
    rw [row_len, row_len] at C
    refine C.mono fun e w' ⟨Z, g, q1, _, _, q2, q3, _⟩ => ⟨Z, g, ?_, by rw [hda]; exact q2, q3⟩
    rw [q1, xorL_len, row_len])
  have KSH := fun j bf X d V (ht : Gf.Tab V bf) (g1 : BytesAt V X (da j)) (g4 : IntsAt V A4 z) => (show Calls Try.prog 10 #[.pointer (some ⟨bf, 0, none⟩), .agg #[.int .i64 (n0 : Nat), .int .i64 (t0 : Nat), .int .i64 (l0 : Nat), .int .i64 W, .int .i64 S, .int .i64 R], .slice X l0 d, .slice A4 z.length c4] V fun e w' => ∃ Y f, e = .returned (.tuple #[.slice Y (l0 + t0) f, .int .i64 0]) ∧ BytesAt w' Y (sf j) ∧ Below V.heap.size V w' from by
    have C := Mask.shift_any bf ⟨n0, t0, l0, W, S, R⟩ X A4 (da j) d z c4 V hp ht g1 g4 (by omega) hi
    have es : Mask.shiftA ⟨n0, t0, l0, W, S, R⟩ (da j) z = sf j := by unfold Mask.shiftA; rw [if_pos (mcheck_of (okj j)), hsf]
    rw [es, mcheck_of (okj j), hdl] at C
    refine C.mono fun e w' ⟨Y, f, q1, q2, q3⟩ => ⟨Y, f, ?_, q2, q3⟩
    rw [q1, hsl])
  have KDL := fun j bf X d Y f V (ht : Gf.Tab V bf) (g1 : BytesAt V X (da j)) (g2 : BytesAt V Y (sf j)) => (show Calls Try.prog 18 #[.pointer (some ⟨bf, 0, none⟩), .agg #[.int .i64 (n0 : Nat), .int .i64 (t0 : Nat), .int .i64 (l0 : Nat), .int .i64 W, .int .i64 S, .int .i64 R], .slice X l0 d, .slice Y (l0 + t0) f] V fun e w' => ∃ Z g, e = .returned (.slice Z t0 g) ∧ BytesAt w' Z (mf j) ∧ Below V.heap.size V w' from by
    have C := Mask.deal_any bf ⟨n0, t0, l0, W, S, R⟩ X Y (da j) (sf j) d f V hp ht g1 g2 (by rw [hsl]; omega)
    have es : Mask.dealA ⟨n0, t0, l0, W, S, R⟩ (da j) (sf j) = mf j := by unfold Mask.dealA; rw [P.right_yes hM, if_pos rfl, hmf, hsf]
    rw [es, hdl, hsl] at C
    refine C.mono fun e w' ⟨Z, g, q1, q2, q3⟩ => ⟨Z, g, ?_, q2, q3⟩
    rw [q1, hml])
  have KAP := fun (tp : List UInt8) (htp : tp.length = tape.length) j Z d X f V (g1 : BytesAt V Z (othTo t0 tp mf j)) (g2 : BytesAt V X (mf j)) (hj : j ≤ 240) => (show Calls Try.prog 21 #[.slice Z tape.length d, .int .i64 ((j * t0 : Nat) : Int), .slice X t0 f] V fun e w' => ∃ Y g, e = .returned (.slice Y tape.length g) ∧ tape.length ≤ g ∧ g ≤ maxLen ∧ BytesAt w' Y (othTo t0 tp mf (j + 1)) ∧ Below V.heap.size V w' from by
    have hlo : (othTo t0 tp mf j).length = tape.length := by rw [othTo_len, htp]
    have hj2 : j * t0 ≤ 240 * 12 := Nat.mul_le_mul hj (by omega)
    have C := Mask.apply_big Z X (othTo t0 tp mf j) (mf j) ((j * t0 : Nat) : Int) d f V g1 g2 (by omega) (by rw [hml]; omega) (by unfold In64; omega)
    rw [hlo, hml] at C
    refine C.mono fun e w' ⟨Y, g, q1, q2, q3, q4, q5, _⟩ => ⟨Y, g, ?_, ?_, q3, q4, q5⟩
    · rw [q1, apply_len, hlo]
    · rw [apply_len, hlo] at q2; exact q2)
  have hback : othTo t0 (othTo t0 tape mf n) mf n = tape := oth_back (by omega) fun j _ => hml j
  have hol : (othTo t0 tape mf n).length = tape.length := othTo_len _ _ _ _
  have hde : dealE ⟨n0, t0, l0, W, S, R⟩ ba tape = 0 := by
    unfold dealE
    rw [P.right_yes hM, if_pos rfl, if_neg (by omega), if_neg hco]
  have hde2 : dealE ⟨n0, t0, l0, W, S, R⟩ bb (othTo t0 tape mf n) = 0 := by
    unfold dealE
    rw [P.right_yes hM, if_pos rfl, if_neg (by omega), hol, ← hab, if_neg hco]
  have KD1 := fun bf V ht g1 g3 => Deal.deal_any bf ⟨n0, t0, l0, W, S, R⟩ A1 A3 ba tape c1 c3 V hp ht g1 k1 x1 g3 k3 x3 (by omega)
  have KD2 := fun bf X d V ht g2 g3 (q1 : tape.length ≤ d) q2 => Deal.deal_any bf ⟨n0, t0, l0, W, S, R⟩ A2 X bb (othTo t0 tape mf n) c2 d V hp ht g2 k2 x2 g3 (by rw [hol]; exact q1) q2 (by omega)
  rw [hde] at KD1
  rw [hde2] at KD2
  have ed1 : dealA ⟨n0, t0, l0, W, S, R⟩ ba tape = shares ⟨n0, t0, l0, W, S, R⟩ (polys ⟨n0, t0, l0, W, S, R⟩ ba tape) := by unfold dealA; rw [if_pos hde]
  have ed2 : dealA ⟨n0, t0, l0, W, S, R⟩ bb (othTo t0 tape mf n) = shares ⟨n0, t0, l0, W, S, R⟩ (polys ⟨n0, t0, l0, W, S, R⟩ bb (othTo t0 tape mf n)) := by unfold dealA; rw [if_pos hde2]
  rw [ed1] at KD1
  rw [ed2, hol] at KD2
  have lsh1 := shares_len ⟨n0, t0, l0, W, S, R⟩ (polys ⟨n0, t0, l0, W, S, R⟩ ba tape)
  have lsh2 := shares_len ⟨n0, t0, l0, W, S, R⟩ (polys ⟨n0, t0, l0, W, S, R⟩ bb (othTo t0 tape mf n))
  have hh : ∀ x ∈ z, share (polys ⟨n0, t0, l0, W, S, R⟩ bb (othTo t0 tape mf n)) x = share (polys ⟨n0, t0, l0, W, S, R⟩ ba tape) x := fun x hx =>
    hides hM hn hab (by show n * (t0 : Int).toNat ≤ _; rw [Int.toNat_natCast]; exact hcost) hnd his hfew hx (d := da) (fun j => by rw [hda]; rfl) (m := mf) (fun j => by rw [hmf])
  have lsh : (share (polys ⟨n0, t0, l0, W, S, R⟩ ba tape) 0).length ≤ 240 := by rw [share_len]; exact polys_le _ _ _ (by show (1 : Int) ≤ l0; omega)
  have HROW : Hid (∀ x ∈ z, ∃ kk : Nat, x = (kk : Int) + 1 ∧ kk < n0 ∧ ∃ (g1 : kk < (shares ⟨n0, t0, l0, W, S, R⟩ (polys ⟨n0, t0, l0, W, S, R⟩ ba tape)).length) (g2 : kk < (shares ⟨n0, t0, l0, W, S, R⟩ (polys ⟨n0, t0, l0, W, S, R⟩ bb (othTo t0 tape mf n))).length), (shares ⟨n0, t0, l0, W, S, R⟩ (polys ⟨n0, t0, l0, W, S, R⟩ ba tape))[kk] = (shares ⟨n0, t0, l0, W, S, R⟩ (polys ⟨n0, t0, l0, W, S, R⟩ bb (othTo t0 tape mf n)))[kk] ∧ (shares ⟨n0, t0, l0, W, S, R⟩ (polys ⟨n0, t0, l0, W, S, R⟩ ba tape))[kk].length ≤ maxLen) := Lib.hid (fun x hx => by
    have h := of_decide_eq_true (his x hx)
    simp only at h
    have ex : x = ((x - 1).toNat : Int) + 1 := by omega
    have hlt : (x - 1).toNat < n0 := by omega
    refine ⟨(x - 1).toNat, ex, hlt, by rw [lsh1]; show _ < (n0 : Int).toNat; omega, by rw [lsh2]; show _ < (n0 : Int).toNat; omega, ?_, ?_⟩
    · rw [shares_get, shares_get, ← ex]; exact (hh x hx).symm
    · rw [shares_get, share_len]; have := polys_le ⟨n0, t0, l0, W, S, R⟩ ba tape (by show (1 : Int) ≤ l0; omega); unfold maxLen; omega)
  have hot0 : othTo t0 tape mf 0 = tape := rfl
  have hbk0 : othTo t0 (othTo t0 tape mf n) mf 0 = othTo t0 tape mf n := rfl
  have KA1 := KAP tape rfl
  have KA2 := KAP (othTo t0 tape mf n) hol
  unfold RetRows at KCX KCY
  unfold Stripe.RetRowsE at KD1 KD2
  simp only [P.val] at KR KD1 KD2
  rw [hcl] at KCX
  rw [hcl2] at KCY
  rw [lsh1] at KD1
  rw [lsh2] at KD2
  have lsn : (P.N ⟨n0, t0, l0, W, S, R⟩).toNat = n0 := Int.toNat_natCast _
  rw [lsn] at KD1 KD2 lsh1 lsh2
  clear hda hsf hmf hsl hml okj hdl hh lsh KAP KXO hde hde2 ed1 ed2 hol hcost his hfew hnd
  generalize othTo t0 (othTo t0 tape mf n) mf = bk at *
  generalize shares ⟨n0, t0, l0, W, S, R⟩ (polys ⟨n0, t0, l0, W, S, R⟩ bb (othTo t0 tape mf n)) = sb at *
  generalize shares ⟨n0, t0, l0, W, S, R⟩ (polys ⟨n0, t0, l0, W, S, R⟩ ba tape) = sa at *
  generalize othTo t0 tape mf = ot at *
  generalize cut ⟨n0, t0, l0, W, S, R⟩ ba = cx at *
  generalize cut ⟨n0, t0, l0, W, S, R⟩ bb = cy at *
  generalize cost ⟨n0, t0, l0, W, S, R⟩ (ba.length : Int) = co at *
  rw [← hab] at KCY KD2 ⊢
  have HCRX := Lib.hid hcr; have HCRY := Lib.hid hcr2; have HLX := Lib.hid hcl; have HLY := Lib.hid hcl2
  obtain ⟨an, han⟩ : ∃ an, an = ba.length := ⟨_, rfl⟩
  obtain ⟨tn, htn⟩ : ∃ tn, tn = tape.length := ⟨_, rfl⟩
  obtain ⟨zn, hzn⟩ : ∃ zn, zn = z.length := ⟨_, rfl⟩
  rw [← han] at KCO KCX KCY KD1 KD2 h60
  rw [← htn] at KD1 KD2 KA1 KA2 hco k3 hrc
  rw [← hzn] at KCK KSH
  rw [← han, ← htn, ← hzn]
  have HZN := Lib.hid hzn; have HTN := Lib.hid htn; have HOT0 := Lib.hid hot0; have HBK0 := Lib.hid hbk0; have HBACK := Lib.hid hback
  have HLA := Lib.hid lsh1; have HLB := Lib.hid lsh2
  have hzn12 : zn ≤ 12 := by omega
  have HMT : Hid (tn ≤ maxLen) := Lib.hid (by unfold maxLen; omega)
  have HL0 : Hid (l0 ≤ 1099511627776) := Lib.hid (by omega)
  have H0 := Lib.hid K0; have HR := Lib.hid KR; have HCO := Lib.hid KCO; have HCK := Lib.hid KCK; have HCX := Lib.hid KCX; have HCY := Lib.hid KCY; have HXO := Lib.hid KXO2; have HSH := Lib.hid KSH; have HDL := Lib.hid KDL
  have HAP1 := Lib.hid KA1; have HAP2 := Lib.hid KA2; have HD1 := Lib.hid KD1; have HD2 := Lib.hid KD2
  have BA := Lib.hid h1; have BB := Lib.hid h2; have TP := Lib.hid h3; have ZS := Lib.hid h4; have HK3 := Lib.hid k3; have HX3 := Lib.hid x3
  have hn12 : n0 ≤ 12 := by omega
  have ht12 : t0 ≤ 12 := by omega
  clear K0 KR KCO KCK KCX KCY KXO2 KSH KDL KA1 KA2 KD1 KD2 h1 h2 h3 h4 hi hl hM hM' hab hcr hcr2 hcl hcl2 han htn hzn hot0 hbk0 hback lsh1 lsh2 lsn hp ok he hzl k1 x1 k2 x2 k3 x3 hrc hn
  have HA := Lib.hid (LiesH.new w n0 t0 l0 W S R (.slice A1 an c1) (.slice A2 an c2) (.slice A3 tn c3) 40)
  have HB0 := Lib.hid (show Below w.heap.size w (((w.alloc (.cells #[.int .i64 (n0 : Nat), .int .i64 (t0 : Nat), .int .i64 (l0 : Nat), .int .i64 W, .int .i64 S, .int .i64 R] 23)).alloc (.cells #[.slice A1 an c1, .slice A2 an c2, .slice A3 tn c3] 40))) from bstep (balloc _ _) (balloc _ _))
  go_enter Try.func5, Try.ntmps5
  go_wp2_with fail
  generalize ((w.alloc (.cells #[.int .i64 (n0 : Nat), .int .i64 (t0 : Nat), .int .i64 (l0 : Nat), .int .i64 W, .int .i64 S, .int .i64 R] 23)).alloc (.cells #[.slice A1 an c1, .slice A2 an c2, .slice A3 tn c3] 40)) = w0 at *
  refine Drawn.wp_region_flowL 9 [Drawn.SP.is (.pointer (some ⟨w.heap.size + 1, 0, none⟩)), Drawn.SP.is (.slice A1 an c1), Drawn.SP.is (.pointer (some ⟨w.heap.size + 1, 1, none⟩)), Drawn.SP.is (.slice A2 an c2), Drawn.SP.is (.pointer (some ⟨w.heap.size + 1, 2, none⟩)), Drawn.SP.is (.slice A3 tn c3), Drawn.SP.is (.slice A1 an c1), Drawn.SP.is (.slice A2 an c2), Drawn.SP.is (.slice A3 tn c3)] (by kernel_rfl) (by kernel_rfl) ?_ ?_
  · intro i hi a w1 hb hev hdep
    rcases (show i = 0 ∨ i = 1 ∨ i = 2 ∨ i = 3 ∨ i = 4 ∨ i = 5 ∨ i = 6 ∨ i = 7 ∨ i = 8 by omega) with rfl | rfl | rfl | rfl | rfl | rfl | rfl | rfl | rfl
    · have e4 : a.tmps[4]?.getD undef = .pointer (some ⟨w.heap.size + 1, 0, none⟩) := hev 4 rfl
      refine Drawn.wpOp_flow 30 rfl rfl rfl ?_
      clear hev hdep hb
      go_simp
      exact ⟨_, rfl, rfl, Below.refl _ _⟩
    · have d0 : a.tmps[30]?.getD undef = .pointer (some ⟨w.heap.size + 1, 0, none⟩) := hdep 0 rfl
      refine Drawn.wpOp_flow 31 rfl rfl rfl ?_
      have a0 := (HA.out.below hb).a0; have a1 := (HA.out.below hb).a1; have a2 := (HA.out.below hb).a2
      clear hev hdep hb
      go_simp
      exact ⟨_, rfl, rfl, Below.refl _ _⟩
    · have e4 : a.tmps[4]?.getD undef = .pointer (some ⟨w.heap.size + 1, 0, none⟩) := hev 4 rfl
      refine Drawn.wpOp_flow 32 rfl rfl rfl ?_
      clear hev hdep hb
      go_simp
      exact ⟨_, rfl, rfl, Below.refl _ _⟩
    · have d2 : a.tmps[32]?.getD undef = .pointer (some ⟨w.heap.size + 1, 1, none⟩) := hdep 2 rfl
      refine Drawn.wpOp_flow 33 rfl rfl rfl ?_
      have a0 := (HA.out.below hb).a0; have a1 := (HA.out.below hb).a1; have a2 := (HA.out.below hb).a2
      clear hev hdep hb
      go_simp
      exact ⟨_, rfl, rfl, Below.refl _ _⟩
    · have e4 : a.tmps[4]?.getD undef = .pointer (some ⟨w.heap.size + 1, 0, none⟩) := hev 4 rfl
      refine Drawn.wpOp_flow 34 rfl rfl rfl ?_
      clear hev hdep hb
      go_simp
      exact ⟨_, rfl, rfl, Below.refl _ _⟩
    · have d4 : a.tmps[34]?.getD undef = .pointer (some ⟨w.heap.size + 1, 2, none⟩) := hdep 4 rfl
      refine Drawn.wpOp_flow 35 rfl rfl rfl ?_
      have a0 := (HA.out.below hb).a0; have a1 := (HA.out.below hb).a1; have a2 := (HA.out.below hb).a2
      clear hev hdep hb
      go_simp
      exact ⟨_, rfl, rfl, Below.refl _ _⟩
    · have d1 : a.tmps[31]?.getD undef = .slice A1 an c1 := hdep 1 rfl
      refine Drawn.wpOp_flow 7 rfl rfl rfl ?_
      clear hev hdep hb
      go_simp
      exact ⟨_, rfl, rfl, Below.refl _ _⟩
    · have d3 : a.tmps[33]?.getD undef = .slice A2 an c2 := hdep 3 rfl
      refine Drawn.wpOp_flow 8 rfl rfl rfl ?_
      clear hev hdep hb
      go_simp
      exact ⟨_, rfl, rfl, Below.refl _ _⟩
    · have d5 : a.tmps[35]?.getD undef = .slice A3 tn c3 := hdep 5 rfl
      refine Drawn.wpOp_flow 9 rfl rfl rfl ?_
      clear hev hdep hb
      go_simp
      exact ⟨_, rfl, rfl, Below.refl _ _⟩
  · intro xq w1 hb hxq
    have vq0 : xq 0 = .pointer (some ⟨w.heap.size + 1, 0, none⟩) := hxq 0 (by omega)
    have vq1 : xq 1 = .slice A1 an c1 := hxq 1 (by omega)
    have vq2 : xq 2 = .pointer (some ⟨w.heap.size + 1, 1, none⟩) := hxq 2 (by omega)
    have vq3 : xq 3 = .slice A2 an c2 := hxq 3 (by omega)
    have vq4 : xq 4 = .pointer (some ⟨w.heap.size + 1, 2, none⟩) := hxq 4 (by omega)
    have vq5 : xq 5 = .slice A3 tn c3 := hxq 5 (by omega)
    have vq6 : xq 6 = .slice A1 an c1 := hxq 6 (by omega)
    have vq7 : xq 7 = .slice A2 an c2 := hxq 7 (by omega)
    have vq8 : xq 8 = .slice A3 tn c3 := hxq 8 (by omega)
    show Exit.then _ _ Exit.normal (Drawn.acts _ [(9, some (xq 8)), (8, some (xq 7)), (7, some (xq 6)), (35, some (xq 5)), (34, some (xq 4)), (33, some (xq 3)), (32, some (xq 2)), (31, some (xq 1)), (30, some (xq 0))]) _
    rw [vq0, vq1, vq2, vq3, vq4, vq5, vq6, vq7, vq8]
    clear hxq vq0 vq1 vq2 vq3 vq4 vq5 vq6 vq7 vq8
    clear xq
    simp only [Drawn.acts]
    go_simp
    have HB1 := Lib.hid (bstep HB0.out hb)
    have HA1 := Lib.hid (HA.out.below hb)
    clear hb HA
    go_at_K
    go_wp2_with fail
    refine Drawn.wp_region_flowL 38 [Drawn.SP.is (.agg #[.int .i64 (n0 : Nat), .int .i64 (t0 : Nat), .int .i64 (l0 : Nat), .int .i64 W, .int .i64 S, .int .i64 R]), Drawn.SP.is (.bool true), Drawn.SP.is (.bool false), Drawn.SP.is (.bool false), Drawn.SP.is (.agg #[.int .i64 (n0 : Nat), .int .i64 (t0 : Nat), .int .i64 (l0 : Nat), .int .i64 W, .int .i64 S, .int .i64 R]), Drawn.SP.is (.bool true), Drawn.SP.is (.bool false), Drawn.SP.is (.bool false), Drawn.SP.is (.bool false), Drawn.SP.is (.slice A1 an c1), Drawn.SP.is (.int .i64 (an : Nat)), Drawn.SP.is (.bool false), Drawn.SP.is (.bool false), Drawn.SP.is (.bool false), Drawn.SP.is (.slice A1 an c1), Drawn.SP.is (.int .i64 (an : Nat)), Drawn.SP.is (.slice A2 an c2), Drawn.SP.is (.int .i64 (an : Nat)), Drawn.SP.is (.bool false), Drawn.SP.is (.bool false), Drawn.SP.is (.bool false), Drawn.SP.is (.slice A3 tn c3), Drawn.SP.is (.int .i64 (tn : Nat)), Drawn.SP.is (.agg #[.int .i64 (n0 : Nat), .int .i64 (t0 : Nat), .int .i64 (l0 : Nat), .int .i64 W, .int .i64 S, .int .i64 R]), Drawn.SP.is (.slice A1 an c1), Drawn.SP.is (.int .i64 (an : Nat)), Drawn.SP.is (.int .i64 co), Drawn.SP.is (.bool false), Drawn.SP.is (.bool false), Drawn.SP.is (.bool false), Drawn.SP.is (.agg #[.int .i64 (n0 : Nat), .int .i64 (t0 : Nat), .int .i64 (l0 : Nat), .int .i64 W, .int .i64 S, .int .i64 R]), Drawn.SP.is (.pointer (some ⟨w.heap.size, 2, none⟩)), Drawn.SP.is (.int .i64 (l0 : Nat)), SP.bN (List.replicate l0 0) l0, Drawn.SP.is (.slice A4 zn c4), Drawn.SP.is (.int .i64 0), Drawn.SP.is (.bool false), Drawn.SP.is (.bool false)] (by kernel_rfl) (by kernel_rfl) ?_ ?_
    · intro i hi a wq hb hev hdep
      rcases (show i = 0 ∨ i = 1 ∨ i = 2 ∨ i = 3 ∨ i = 4 ∨ i = 5 ∨ i = 6 ∨ i = 7 ∨ i = 8 ∨ i = 9 ∨ i = 10 ∨ i = 11 ∨ i = 12 ∨ i = 13 ∨ i = 14 ∨ i = 15 ∨ i = 16 ∨ i = 17 ∨ i = 18 ∨ i = 19 ∨ i = 20 ∨ i = 21 ∨ i = 22 ∨ i = 23 ∨ i = 24 ∨ i = 25 ∨ i = 26 ∨ i = 27 ∨ i = 28 ∨ i = 29 ∨ i = 30 ∨ i = 31 ∨ i = 32 ∨ i = 33 ∨ i = 34 ∨ i = 35 ∨ i = 36 ∨ i = 37 by omega) with rfl | rfl | rfl | rfl | rfl | rfl | rfl | rfl | rfl | rfl | rfl | rfl | rfl | rfl | rfl | rfl | rfl | rfl | rfl | rfl | rfl | rfl | rfl | rfl | rfl | rfl | rfl | rfl | rfl | rfl | rfl | rfl | rfl | rfl | rfl | rfl | rfl | rfl
      · have e3 : a.tmps[3]?.getD undef = .pointer (some ⟨w.heap.size, 0, none⟩) := hev 3 rfl
        refine Drawn.wpOp_flow 36 rfl rfl rfl ?_
        obtain ⟨p0, p1, p2, p3, p4, p5⟩ := six (HA1.out.below hb).plan
        clear hev hdep hb
        go_simp
        exact ⟨_, rfl, rfl, Below.refl _ _⟩
      · have d0 : a.tmps[36]?.getD undef = .agg #[.int .i64 (n0 : Nat), .int .i64 (t0 : Nat), .int .i64 (l0 : Nat), .int .i64 W, .int .i64 S, .int .i64 R] := hdep 0 rfl
        refine Drawn.wpOp_flow 37 rfl rfl rfl ?_
        clear hev hdep
        have C := H0.out wq
        clear hb
        go_simp
        refine C.mono ?_
        rintro e w' ⟨rfl, hb'⟩
        exact ⟨_, rfl, rfl, hb'⟩
      · have d1 : a.tmps[37]?.getD undef = .bool true := hdep 1 rfl
        refine Drawn.wpOp_flow 38 rfl rfl rfl ?_
        clear hev hdep hb
        go_simp
        exact ⟨_, rfl, rfl, Below.refl _ _⟩
      · have d2 : a.tmps[38]?.getD undef = .bool false := hdep 2 rfl
        refine Drawn.wpOp_flow 39 rfl rfl rfl ?_
        clear hev hdep hb
        go_simp
        exact ⟨_, rfl, rfl, Below.refl _ _⟩
      · have e3 : a.tmps[3]?.getD undef = .pointer (some ⟨w.heap.size, 0, none⟩) := hev 3 rfl
        have dg : a.tmps[39]?.getD undef = .bool false := hdep 3 rfl
        refine Drawn.wpOp_flow 40 rfl (Drawn.wanted_of rfl rfl rfl dg) rfl ?_
        obtain ⟨p0, p1, p2, p3, p4, p5⟩ := six (HA1.out.below hb).plan
        clear dg
        clear hev hdep hb
        go_simp
        exact ⟨_, rfl, rfl, Below.refl _ _⟩
      · have d4 : a.tmps[40]?.getD undef = .agg #[.int .i64 (n0 : Nat), .int .i64 (t0 : Nat), .int .i64 (l0 : Nat), .int .i64 W, .int .i64 S, .int .i64 R] := hdep 4 rfl
        have dg : a.tmps[39]?.getD undef = .bool false := hdep 3 rfl
        refine Drawn.wpOp_flow 41 rfl (Drawn.wanted_of rfl rfl rfl dg) rfl ?_
        clear hev hdep
        clear dg
        have C := HR.out wq
        clear hb
        go_simp
        refine C.mono ?_
        rintro e w' ⟨rfl, hb'⟩
        exact ⟨_, rfl, rfl, hb'⟩
      · have d5 : a.tmps[41]?.getD undef = .bool true := hdep 5 rfl
        have dg : a.tmps[39]?.getD undef = .bool false := hdep 3 rfl
        refine Drawn.wpOp_flow 42 rfl (Drawn.wanted_of rfl rfl rfl dg) rfl ?_
        clear dg
        clear hev hdep hb
        go_simp
        exact ⟨_, rfl, rfl, Below.refl _ _⟩
      · have d3 : a.tmps[39]?.getD undef = .bool false := hdep 3 rfl
        have d6 : a.tmps[42]?.getD undef = .bool false := hdep 6 rfl
        refine Drawn.wpOp_flow 43 rfl rfl rfl ?_
        clear hev hdep hb
        go_simp
        exact ⟨_, rfl, rfl, Below.refl _ _⟩
      · have d7 : a.tmps[43]?.getD undef = .bool false := hdep 7 rfl
        refine Drawn.wpOp_flow 44 rfl rfl rfl ?_
        clear hev hdep hb
        go_simp
        exact ⟨_, rfl, rfl, Below.refl _ _⟩
      · have e7 : a.tmps[7]?.getD undef = .slice A1 an c1 := hev 7 rfl
        have dg : a.tmps[44]?.getD undef = .bool false := hdep 8 rfl
        refine Drawn.wpOp_flow 45 rfl (Drawn.wanted_of rfl rfl rfl dg) rfl ?_
        clear dg
        clear hev hdep hb
        go_simp
        exact ⟨_, rfl, rfl, Below.refl _ _⟩
      · have d9 : a.tmps[45]?.getD undef = .slice A1 an c1 := hdep 9 rfl
        have dg : a.tmps[44]?.getD undef = .bool false := hdep 8 rfl
        refine Drawn.wpOp_flow 46 rfl (Drawn.wanted_of rfl rfl rfl dg) rfl ?_
        clear dg
        clear hev hdep hb
        go_simp
        exact ⟨_, rfl, rfl, Below.refl _ _⟩
      · have d10 : a.tmps[46]?.getD undef = .int .i64 (an : Nat) := hdep 10 rfl
        have dg : a.tmps[44]?.getD undef = .bool false := hdep 8 rfl
        refine Drawn.wpOp_flow 47 rfl (Drawn.wanted_of rfl rfl rfl dg) rfl ?_
        clear hev hdep
        clear dg hb
        go_simp
        exact ⟨_, rfl, (by first | rfl | (show Value.bool _ = Value.bool _; congr 1; first | (simp; done) | (simp; omega))), Below.refl _ _⟩
      · have d8 : a.tmps[44]?.getD undef = .bool false := hdep 8 rfl
        have d11 : a.tmps[47]?.getD undef = .bool false := hdep 11 rfl
        refine Drawn.wpOp_flow 48 rfl rfl rfl ?_
        clear hev hdep hb
        go_simp
        exact ⟨_, rfl, rfl, Below.refl _ _⟩
      · have d12 : a.tmps[48]?.getD undef = .bool false := hdep 12 rfl
        refine Drawn.wpOp_flow 49 rfl rfl rfl ?_
        clear hev hdep hb
        go_simp
        exact ⟨_, rfl, rfl, Below.refl _ _⟩
      · have e7 : a.tmps[7]?.getD undef = .slice A1 an c1 := hev 7 rfl
        have dg : a.tmps[49]?.getD undef = .bool false := hdep 13 rfl
        refine Drawn.wpOp_flow 50 rfl (Drawn.wanted_of rfl rfl rfl dg) rfl ?_
        clear dg
        clear hev hdep hb
        go_simp
        exact ⟨_, rfl, rfl, Below.refl _ _⟩
      · have d14 : a.tmps[50]?.getD undef = .slice A1 an c1 := hdep 14 rfl
        have dg : a.tmps[49]?.getD undef = .bool false := hdep 13 rfl
        refine Drawn.wpOp_flow 51 rfl (Drawn.wanted_of rfl rfl rfl dg) rfl ?_
        clear dg
        clear hev hdep hb
        go_simp
        exact ⟨_, rfl, rfl, Below.refl _ _⟩
      · have e8 : a.tmps[8]?.getD undef = .slice A2 an c2 := hev 8 rfl
        have dg : a.tmps[49]?.getD undef = .bool false := hdep 13 rfl
        refine Drawn.wpOp_flow 52 rfl (Drawn.wanted_of rfl rfl rfl dg) rfl ?_
        clear dg
        clear hev hdep hb
        go_simp
        exact ⟨_, rfl, rfl, Below.refl _ _⟩
      · have d16 : a.tmps[52]?.getD undef = .slice A2 an c2 := hdep 16 rfl
        have dg : a.tmps[49]?.getD undef = .bool false := hdep 13 rfl
        refine Drawn.wpOp_flow 53 rfl (Drawn.wanted_of rfl rfl rfl dg) rfl ?_
        clear dg
        clear hev hdep hb
        go_simp
        exact ⟨_, rfl, rfl, Below.refl _ _⟩
      · have d15 : a.tmps[51]?.getD undef = .int .i64 (an : Nat) := hdep 15 rfl
        have d17 : a.tmps[53]?.getD undef = .int .i64 (an : Nat) := hdep 17 rfl
        have dg : a.tmps[49]?.getD undef = .bool false := hdep 13 rfl
        refine Drawn.wpOp_flow 54 rfl (Drawn.wanted_of rfl rfl rfl dg) rfl ?_
        clear hev hdep
        clear dg hb
        go_simp
        exact ⟨_, rfl, (by first | rfl | (show Value.bool _ = Value.bool _; congr 1; first | (simp; done) | (simp; omega))), Below.refl _ _⟩
      · have d13 : a.tmps[49]?.getD undef = .bool false := hdep 13 rfl
        have d18 : a.tmps[54]?.getD undef = .bool false := hdep 18 rfl
        refine Drawn.wpOp_flow 55 rfl rfl rfl ?_
        clear hev hdep hb
        go_simp
        exact ⟨_, rfl, rfl, Below.refl _ _⟩
      · have d19 : a.tmps[55]?.getD undef = .bool false := hdep 19 rfl
        refine Drawn.wpOp_flow 56 rfl rfl rfl ?_
        clear hev hdep hb
        go_simp
        exact ⟨_, rfl, rfl, Below.refl _ _⟩
      · have e9 : a.tmps[9]?.getD undef = .slice A3 tn c3 := hev 9 rfl
        have dg : a.tmps[56]?.getD undef = .bool false := hdep 20 rfl
        refine Drawn.wpOp_flow 57 rfl (Drawn.wanted_of rfl rfl rfl dg) rfl ?_
        clear dg
        clear hev hdep hb
        go_simp
        exact ⟨_, rfl, rfl, Below.refl _ _⟩
      · have d21 : a.tmps[57]?.getD undef = .slice A3 tn c3 := hdep 21 rfl
        have dg : a.tmps[56]?.getD undef = .bool false := hdep 20 rfl
        refine Drawn.wpOp_flow 58 rfl (Drawn.wanted_of rfl rfl rfl dg) rfl ?_
        clear dg
        clear hev hdep hb
        go_simp
        exact ⟨_, rfl, rfl, Below.refl _ _⟩
      · have e3 : a.tmps[3]?.getD undef = .pointer (some ⟨w.heap.size, 0, none⟩) := hev 3 rfl
        have dg : a.tmps[56]?.getD undef = .bool false := hdep 20 rfl
        refine Drawn.wpOp_flow 59 rfl (Drawn.wanted_of rfl rfl rfl dg) rfl ?_
        obtain ⟨p0, p1, p2, p3, p4, p5⟩ := six (HA1.out.below hb).plan
        clear dg
        clear hev hdep hb
        go_simp
        exact ⟨_, rfl, rfl, Below.refl _ _⟩
      · have e7 : a.tmps[7]?.getD undef = .slice A1 an c1 := hev 7 rfl
        have dg : a.tmps[56]?.getD undef = .bool false := hdep 20 rfl
        refine Drawn.wpOp_flow 60 rfl (Drawn.wanted_of rfl rfl rfl dg) rfl ?_
        clear dg
        clear hev hdep hb
        go_simp
        exact ⟨_, rfl, rfl, Below.refl _ _⟩
      · have d24 : a.tmps[60]?.getD undef = .slice A1 an c1 := hdep 24 rfl
        have dg : a.tmps[56]?.getD undef = .bool false := hdep 20 rfl
        refine Drawn.wpOp_flow 61 rfl (Drawn.wanted_of rfl rfl rfl dg) rfl ?_
        clear dg
        clear hev hdep hb
        go_simp
        exact ⟨_, rfl, rfl, Below.refl _ _⟩
      · have d23 : a.tmps[59]?.getD undef = .agg #[.int .i64 (n0 : Nat), .int .i64 (t0 : Nat), .int .i64 (l0 : Nat), .int .i64 W, .int .i64 S, .int .i64 R] := hdep 23 rfl
        have d25 : a.tmps[61]?.getD undef = .int .i64 (an : Nat) := hdep 25 rfl
        have dg : a.tmps[56]?.getD undef = .bool false := hdep 20 rfl
        refine Drawn.wpOp_flow 62 rfl (Drawn.wanted_of rfl rfl rfl dg) rfl ?_
        clear hev hdep
        clear dg
        have C := HCO.out wq
        clear hb
        go_simp
        refine C.mono ?_
        rintro e w' ⟨rfl, hb'⟩
        exact ⟨_, rfl, rfl, hb'⟩
      · have d22 : a.tmps[58]?.getD undef = .int .i64 (tn : Nat) := hdep 22 rfl
        have d26 : a.tmps[62]?.getD undef = .int .i64 co := hdep 26 rfl
        have dg : a.tmps[56]?.getD undef = .bool false := hdep 20 rfl
        refine Drawn.wpOp_flow 63 rfl (Drawn.wanted_of rfl rfl rfl dg) rfl ?_
        clear hev hdep
        clear dg hb
        go_simp
        exact ⟨_, rfl, (by first | rfl | (show Value.bool _ = Value.bool _; congr 1; first | (simp; done) | (simp; omega))), Below.refl _ _⟩
      · have d20 : a.tmps[56]?.getD undef = .bool false := hdep 20 rfl
        have d27 : a.tmps[63]?.getD undef = .bool false := hdep 27 rfl
        refine Drawn.wpOp_flow 64 rfl rfl rfl ?_
        clear hev hdep hb
        go_simp
        exact ⟨_, rfl, rfl, Below.refl _ _⟩
      · have d28 : a.tmps[64]?.getD undef = .bool false := hdep 28 rfl
        refine Drawn.wpOp_flow 65 rfl rfl rfl ?_
        clear hev hdep hb
        go_simp
        exact ⟨_, rfl, rfl, Below.refl _ _⟩
      · have e3 : a.tmps[3]?.getD undef = .pointer (some ⟨w.heap.size, 0, none⟩) := hev 3 rfl
        have dg : a.tmps[65]?.getD undef = .bool false := hdep 29 rfl
        refine Drawn.wpOp_flow 66 rfl (Drawn.wanted_of rfl rfl rfl dg) rfl ?_
        obtain ⟨p0, p1, p2, p3, p4, p5⟩ := six (HA1.out.below hb).plan
        clear dg
        clear hev hdep hb
        go_simp
        exact ⟨_, rfl, rfl, Below.refl _ _⟩
      · have e3 : a.tmps[3]?.getD undef = .pointer (some ⟨w.heap.size, 0, none⟩) := hev 3 rfl
        have dg : a.tmps[65]?.getD undef = .bool false := hdep 29 rfl
        refine Drawn.wpOp_flow 67 rfl (Drawn.wanted_of rfl rfl rfl dg) rfl ?_
        clear dg
        clear hev hdep hb
        go_simp
        exact ⟨_, rfl, rfl, Below.refl _ _⟩
      · have d31 : a.tmps[67]?.getD undef = .pointer (some ⟨w.heap.size, 2, none⟩) := hdep 31 rfl
        have dg : a.tmps[65]?.getD undef = .bool false := hdep 29 rfl
        refine Drawn.wpOp_flow 68 rfl (Drawn.wanted_of rfl rfl rfl dg) rfl ?_
        obtain ⟨p0, p1, p2, p3, p4, p5⟩ := six (HA1.out.below hb).plan
        clear dg
        clear hev hdep hb
        go_simp
        exact ⟨_, rfl, rfl, Below.refl _ _⟩
      · have d32 : a.tmps[68]?.getD undef = .int .i64 (l0 : Nat) := hdep 32 rfl
        have dg : a.tmps[65]?.getD undef = .bool false := hdep 29 rfl
        refine Drawn.wpOp_flow 69 rfl (Drawn.wanted_of rfl rfl rfl dg) rfl ?_
        clear hev hdep
        clear dg hb
        have hmk := make_u8 l0 HL0.out wq
        go_simp
        exact ⟨_, rfl, ⟨_, _, rfl, (Row.new wq (List.replicate l0 0)).bytes⟩, balloc _ _⟩
      · have e2 : a.tmps[2]?.getD undef = .slice A4 zn c4 := hev 2 rfl
        have dg : a.tmps[65]?.getD undef = .bool false := hdep 29 rfl
        refine Drawn.wpOp_flow 70 rfl (Drawn.wanted_of rfl rfl rfl dg) rfl ?_
        clear dg
        clear hev hdep hb
        go_simp
        exact ⟨_, rfl, rfl, Below.refl _ _⟩
      · have d30 : a.tmps[66]?.getD undef = .agg #[.int .i64 (n0 : Nat), .int .i64 (t0 : Nat), .int .i64 (l0 : Nat), .int .i64 W, .int .i64 S, .int .i64 R] := hdep 30 rfl
        obtain ⟨Xm, dm, d33, xm⟩ : (SP.bN (List.replicate l0 0) l0).p (a.tmps[69]?.getD undef) wq := hdep 33 rfl
        have d34 : a.tmps[70]?.getD undef = .slice A4 zn c4 := hdep 34 rfl
        have dg : a.tmps[65]?.getD undef = .bool false := hdep 29 rfl
        refine Drawn.wpOp_flow 71 rfl (Drawn.wanted_of rfl rfl rfl dg) rfl ?_
        clear hev hdep
        have C := HCK.out Xm dm wq (ZS.out.below (bstep HB1.out hb))
        clear dg hb xm
        go_simp
        refine C.mono ?_
        rintro e w' ⟨rfl, hb'⟩
        exact ⟨_, rfl, rfl, hb'⟩
      · have d35 : a.tmps[71]?.getD undef = .int .i64 0 := hdep 35 rfl
        have dg : a.tmps[65]?.getD undef = .bool false := hdep 29 rfl
        refine Drawn.wpOp_flow 72 rfl (Drawn.wanted_of rfl rfl rfl dg) rfl ?_
        clear dg
        clear hev hdep hb
        go_simp
        exact ⟨_, rfl, rfl, Below.refl _ _⟩
      · have d29 : a.tmps[65]?.getD undef = .bool false := hdep 29 rfl
        have d36 : a.tmps[72]?.getD undef = .bool false := hdep 36 rfl
        refine Drawn.wpOp_flow 73 rfl rfl rfl ?_
        clear hev hdep hb
        go_simp
        exact ⟨_, rfl, rfl, Below.refl _ _⟩
    · intro xq wq hb hxq
      have vq0 : xq 0 = .agg #[.int .i64 (n0 : Nat), .int .i64 (t0 : Nat), .int .i64 (l0 : Nat), .int .i64 W, .int .i64 S, .int .i64 R] := hxq 0 (by omega)
      have vq1 : xq 1 = .bool true := hxq 1 (by omega)
      have vq2 : xq 2 = .bool false := hxq 2 (by omega)
      have vq3 : xq 3 = .bool false := hxq 3 (by omega)
      have vq4 : xq 4 = .agg #[.int .i64 (n0 : Nat), .int .i64 (t0 : Nat), .int .i64 (l0 : Nat), .int .i64 W, .int .i64 S, .int .i64 R] := hxq 4 (by omega)
      have vq5 : xq 5 = .bool true := hxq 5 (by omega)
      have vq6 : xq 6 = .bool false := hxq 6 (by omega)
      have vq7 : xq 7 = .bool false := hxq 7 (by omega)
      have vq8 : xq 8 = .bool false := hxq 8 (by omega)
      have vq9 : xq 9 = .slice A1 an c1 := hxq 9 (by omega)
      have vq10 : xq 10 = .int .i64 (an : Nat) := hxq 10 (by omega)
      have vq11 : xq 11 = .bool false := hxq 11 (by omega)
      have vq12 : xq 12 = .bool false := hxq 12 (by omega)
      have vq13 : xq 13 = .bool false := hxq 13 (by omega)
      have vq14 : xq 14 = .slice A1 an c1 := hxq 14 (by omega)
      have vq15 : xq 15 = .int .i64 (an : Nat) := hxq 15 (by omega)
      have vq16 : xq 16 = .slice A2 an c2 := hxq 16 (by omega)
      have vq17 : xq 17 = .int .i64 (an : Nat) := hxq 17 (by omega)
      have vq18 : xq 18 = .bool false := hxq 18 (by omega)
      have vq19 : xq 19 = .bool false := hxq 19 (by omega)
      have vq20 : xq 20 = .bool false := hxq 20 (by omega)
      have vq21 : xq 21 = .slice A3 tn c3 := hxq 21 (by omega)
      have vq22 : xq 22 = .int .i64 (tn : Nat) := hxq 22 (by omega)
      have vq23 : xq 23 = .agg #[.int .i64 (n0 : Nat), .int .i64 (t0 : Nat), .int .i64 (l0 : Nat), .int .i64 W, .int .i64 S, .int .i64 R] := hxq 23 (by omega)
      have vq24 : xq 24 = .slice A1 an c1 := hxq 24 (by omega)
      have vq25 : xq 25 = .int .i64 (an : Nat) := hxq 25 (by omega)
      have vq26 : xq 26 = .int .i64 co := hxq 26 (by omega)
      have vq27 : xq 27 = .bool false := hxq 27 (by omega)
      have vq28 : xq 28 = .bool false := hxq 28 (by omega)
      have vq29 : xq 29 = .bool false := hxq 29 (by omega)
      have vq30 : xq 30 = .agg #[.int .i64 (n0 : Nat), .int .i64 (t0 : Nat), .int .i64 (l0 : Nat), .int .i64 W, .int .i64 S, .int .i64 R] := hxq 30 (by omega)
      have vq31 : xq 31 = .pointer (some ⟨w.heap.size, 2, none⟩) := hxq 31 (by omega)
      have vq32 : xq 32 = .int .i64 (l0 : Nat) := hxq 32 (by omega)
      have vq34 : xq 34 = .slice A4 zn c4 := hxq 34 (by omega)
      have vq35 : xq 35 = .int .i64 0 := hxq 35 (by omega)
      have vq36 : xq 36 = .bool false := hxq 36 (by omega)
      have vq37 : xq 37 = .bool false := hxq 37 (by omega)
      show Exit.then _ _ Exit.normal (Drawn.acts _ [(73, some (xq 37)), (72, some (xq 36)), (71, some (xq 35)), (70, some (xq 34)), (69, some (xq 33)), (68, some (xq 32)), (67, some (xq 31)), (66, some (xq 30)), (65, some (xq 29)), (64, some (xq 28)), (63, some (xq 27)), (62, some (xq 26)), (61, some (xq 25)), (60, some (xq 24)), (59, some (xq 23)), (58, some (xq 22)), (57, some (xq 21)), (56, some (xq 20)), (55, some (xq 19)), (54, some (xq 18)), (53, some (xq 17)), (52, some (xq 16)), (51, some (xq 15)), (50, some (xq 14)), (49, some (xq 13)), (48, some (xq 12)), (47, some (xq 11)), (46, some (xq 10)), (45, some (xq 9)), (44, some (xq 8)), (43, some (xq 7)), (42, some (xq 6)), (41, some (xq 5)), (40, some (xq 4)), (39, some (xq 3)), (38, some (xq 2)), (37, some (xq 1)), (36, some (xq 0))]) _
      rw [vq0, vq1, vq2, vq3, vq4, vq5, vq6, vq7, vq8, vq9, vq10, vq11, vq12, vq13, vq14, vq15, vq16, vq17, vq18, vq19, vq20, vq21, vq22, vq23, vq24, vq25, vq26, vq27, vq28, vq29, vq30, vq31, vq32, vq34, vq35, vq36, vq37]
      clear hxq vq0 vq1 vq2 vq3 vq4 vq5 vq6 vq7 vq8 vq9 vq10 vq11 vq12 vq13 vq14 vq15 vq16 vq17 vq18 vq19 vq20 vq21 vq22 vq23 vq24 vq25 vq26 vq27 vq28 vq29 vq30 vq31 vq32 vq34 vq35 vq36 vq37
      generalize xq 33 = yq33
      clear xq
      simp only [Drawn.acts]
      go_simp
      have HB2 := Lib.hid (bstep HB1.out hb)
      have HA2 := Lib.hid (HA1.out.below hb).plan
      clear hb HA1
      go_at_K
      go_wp2_with fail
      refine (Gf.new_any _).mono ?_
      rintro e w3 ⟨rfl, ht, hb3, _⟩
      have HT := Lib.hid ht
      clear ht
      have HB3 := Lib.hid (bstep HB2.out hb3)
      have HA3 := Lib.hid (HA2.out.below hb3)
      clear hb3
      go_wp2_with fail
      refine Drawn.wp_region_flowL 8 [Drawn.SP.is (.agg #[.int .i64 (n0 : Nat), .int .i64 (t0 : Nat), .int .i64 (l0 : Nat), .int .i64 W, .int .i64 S, .int .i64 R]), Drawn.SP.is (.slice A1 an c1), SP.rn cx n, Drawn.SP.is (.agg #[.int .i64 (n0 : Nat), .int .i64 (t0 : Nat), .int .i64 (l0 : Nat), .int .i64 W, .int .i64 S, .int .i64 R]), Drawn.SP.is (.slice A2 an c2), SP.rn cy n, SP.rn cx n, SP.rn cy n] (by kernel_rfl) (by kernel_rfl) ?_ ?_
      · intro i hi a w4 hb hev hdep
        rcases (show i = 0 ∨ i = 1 ∨ i = 2 ∨ i = 3 ∨ i = 4 ∨ i = 5 ∨ i = 6 ∨ i = 7 by omega) with rfl | rfl | rfl | rfl | rfl | rfl | rfl | rfl
        · have e3 : a.tmps[3]?.getD undef = .pointer (some ⟨w.heap.size, 0, none⟩) := hev 3 rfl
          refine Drawn.wpOp_flow 76 rfl rfl rfl ?_
          obtain ⟨p0, p1, p2, p3, p4, p5⟩ := six (HA3.out.below hb)
          clear hev hdep hb
          go_simp
          exact ⟨_, rfl, rfl, Below.refl _ _⟩
        · have e7 : a.tmps[7]?.getD undef = .slice A1 an c1 := hev 7 rfl
          refine Drawn.wpOp_flow 77 rfl rfl rfl ?_
          clear hev hdep hb
          go_simp
          exact ⟨_, rfl, rfl, Below.refl _ _⟩
        · have d0 : a.tmps[76]?.getD undef = .agg #[.int .i64 (n0 : Nat), .int .i64 (t0 : Nat), .int .i64 (l0 : Nat), .int .i64 W, .int .i64 S, .int .i64 R] := hdep 0 rfl
          have d1 : a.tmps[77]?.getD undef = .slice A1 an c1 := hdep 1 rfl
          refine Drawn.wpOp_flow 78 rfl rfl rfl ?_
          clear hev hdep
          have C := HCX.out w4 (BA.out.below (bstep HB3.out hb))
          clear hb
          go_simp
          refine C.mono ?_
          rintro e w' ⟨X, d, rfl, _, _, g3, hb', _⟩
          exact ⟨_, rfl, ⟨X, d, rfl, g3⟩, hb'⟩
        · have e3 : a.tmps[3]?.getD undef = .pointer (some ⟨w.heap.size, 0, none⟩) := hev 3 rfl
          refine Drawn.wpOp_flow 79 rfl rfl rfl ?_
          obtain ⟨p0, p1, p2, p3, p4, p5⟩ := six (HA3.out.below hb)
          clear hev hdep hb
          go_simp
          exact ⟨_, rfl, rfl, Below.refl _ _⟩
        · have e8 : a.tmps[8]?.getD undef = .slice A2 an c2 := hev 8 rfl
          refine Drawn.wpOp_flow 80 rfl rfl rfl ?_
          clear hev hdep hb
          go_simp
          exact ⟨_, rfl, rfl, Below.refl _ _⟩
        · have d3 : a.tmps[79]?.getD undef = .agg #[.int .i64 (n0 : Nat), .int .i64 (t0 : Nat), .int .i64 (l0 : Nat), .int .i64 W, .int .i64 S, .int .i64 R] := hdep 3 rfl
          have d4 : a.tmps[80]?.getD undef = .slice A2 an c2 := hdep 4 rfl
          refine Drawn.wpOp_flow 81 rfl rfl rfl ?_
          clear hev hdep
          have C := HCY.out w4 (BB.out.below (bstep HB3.out hb))
          clear hb
          go_simp
          refine C.mono ?_
          rintro e w' ⟨X, d, rfl, _, _, g3, hb', _⟩
          exact ⟨_, rfl, ⟨X, d, rfl, g3⟩, hb'⟩
        · have d2 := hdep 2 rfl
          refine Drawn.wpOp_flow 11 rfl rfl rfl ?_
          clear hev hdep hb
          go_simp
          exact ⟨_, rfl, d2, Below.refl _ _⟩
        · have d5 := hdep 5 rfl
          refine Drawn.wpOp_flow 12 rfl rfl rfl ?_
          clear hev hdep hb
          go_simp
          exact ⟨_, rfl, d5, Below.refl _ _⟩
      · intro xq w4 hb hxq
        have vq0 : xq 0 = .agg #[.int .i64 (n0 : Nat), .int .i64 (t0 : Nat), .int .i64 (l0 : Nat), .int .i64 W, .int .i64 S, .int .i64 R] := hxq 0 (by omega)
        have vq1 : xq 1 = .slice A1 an c1 := hxq 1 (by omega)
        have vq3 : xq 3 = .agg #[.int .i64 (n0 : Nat), .int .i64 (t0 : Nat), .int .i64 (l0 : Nat), .int .i64 W, .int .i64 S, .int .i64 R] := hxq 3 (by omega)
        have vq4 : xq 4 = .slice A2 an c2 := hxq 4 (by omega)
        obtain ⟨Xx, dx, vq6, hx⟩ : (SP.rn cx n).p (xq 6) w4 := hxq 6 (by omega)
        obtain ⟨Xy, dy, vq7, hy⟩ : (SP.rn cy n).p (xq 7) w4 := hxq 7 (by omega)
        show Exit.then _ _ Exit.normal (Drawn.acts _ [(12, some (xq 7)), (11, some (xq 6)), (81, some (xq 5)), (80, some (xq 4)), (79, some (xq 3)), (78, some (xq 2)), (77, some (xq 1)), (76, some (xq 0))]) _
        rw [vq0, vq1, vq3, vq4, vq6, vq7]
        clear hxq vq0 vq1 vq3 vq4 vq6 vq7
        generalize xq 2 = yq2
        generalize xq 5 = yq5
        clear xq
        simp only [Drawn.acts]
        go_simp
        have HB4 := Lib.hid (bstep HB3.out hb)
        have HA4 := Lib.hid (HA3.out.below hb)
        replace HT := Lib.hid (HT.out.below hb)
        have HXX := Lib.hid hx; have HXY := Lib.hid hy
        clear hx hy hb HA2 HA3
        go_at_K
        go_wp2
        go_loopw [13, 85] (fun v i wr => ∃ j : Nat, j ≤ n ∧ i = .int .i64 j ∧ (∃ Z d, v = .slice Z tn d ∧ tn ≤ d ∧ d ≤ maxLen ∧ BytesAt wr Z (ot j)) ∧ Below w4.heap.size w4 wr) (fun _ i _ => n - (intOf i).toNat)
        case atStart => exact ⟨0, Nat.zero_le _, rfl, ⟨A3, c3, rfl, HK3.out, HX3.out, by rw [HOT0.out]; exact TP.out.below HB4.out⟩, Below.refl _ _⟩
        case round =>
          obtain ⟨j, hj, rfl, ⟨Z, d, rfl, hd1, hd2, hZ⟩, hbr⟩ := hrel
          rename World => wr
          have HB5 := Lib.hid (bstep HB4.out hbr)
          have HA5 := Lib.hid (HA4.out.below hbr)
          have HTJ := Lib.hid (HT.out.below hbr)
          have HZ := Lib.hid hZ
          clear hZ
          by_cases hlt : j < n
          · obtain ⟨bx, ox, Bx, rx, rfl, fX, _, _, hRX⟩ := (HXX.out.below hbr).row (i := j) (by have := HLX.out; omega)
            obtain ⟨b2, oy, By, ry, rfl, fY, _, _, hRY⟩ := (HXY.out.below hbr).row (i := j) (by have := HLY.out; omega)
            rw [HCRX.out j _] at fX hRX
            rw [HCRY.out j _] at fY hRY
            rw [row_len] at fX fY
            have HRX := Lib.hid hRX; have HRY := Lib.hid hRY
            obtain ⟨x, hxe⟩ : ∃ x, x = j * t0 := ⟨_, rfl⟩
            have j1 : (j : Int) * (t0 : Int) = (x : Int) := by rw [← Int.natCast_mul, ← hxe]
            have hx12 : x ≤ 240 * 12 := by rw [hxe]; exact Nat.mul_le_mul (by omega) ht12
            have i1 : IntKind.i64.wrap (x : Int) = (x : Int) := IntWalk.i64_in _ (by omega)
            have hap := fun Z d X f V g1 g2 => HAP1.out j Z d X f V g1 g2 (by omega)
            rw [← hxe] at hap
            have HAPJ := Lib.hid hap
            clear hRX hRY hxe hap
            go_wp2_with fail
            refine Drawn.wp_region_flowL 10 [Drawn.SP.is (.slice (some ⟨bx, ox, none⟩) n dx), Drawn.SP.is (.int .i64 (j : Nat)), Drawn.SP.is (.pointer (some ⟨bx, ox + j, none⟩)), Drawn.SP.is (.slice Bx l0 rx), Drawn.SP.is (.slice (some ⟨b2, oy, none⟩) n dy), Drawn.SP.is (.int .i64 (j : Nat)), Drawn.SP.is (.pointer (some ⟨b2, oy + j, none⟩)), Drawn.SP.is (.slice By l0 ry), SP.bN (da j) l0, SP.bN (da j) l0] (by kernel_rfl) (by kernel_rfl) ?_ ?_
            · intro i hi a w5 hb hev hdep
              rcases (show i = 0 ∨ i = 1 ∨ i = 2 ∨ i = 3 ∨ i = 4 ∨ i = 5 ∨ i = 6 ∨ i = 7 ∨ i = 8 ∨ i = 9 by omega) with rfl | rfl | rfl | rfl | rfl | rfl | rfl | rfl | rfl | rfl
              · have e11 : a.tmps[11]?.getD undef = .slice (some ⟨bx, ox, none⟩) n dx := hev 11 rfl
                refine Drawn.wpOp_flow 88 rfl rfl rfl ?_
                clear hev hdep hb
                go_simp
                exact ⟨_, rfl, rfl, Below.refl _ _⟩
              · have e14 : a.tmps[14]?.getD undef = .int .i64 (j : Nat) := hev 14 rfl
                refine Drawn.wpOp_flow 89 rfl rfl rfl ?_
                clear hev hdep hb
                go_simp
                exact ⟨_, rfl, rfl, Below.refl _ _⟩
              · have d0 : a.tmps[88]?.getD undef = .slice (some ⟨bx, ox, none⟩) n dx := hdep 0 rfl
                have d1 : a.tmps[89]?.getD undef = .int .i64 (j : Nat) := hdep 1 rfl
                refine Drawn.wpOp_flow 90 rfl rfl rfl ?_
                clear hev hdep hb
                go_simp
                exact ⟨_, rfl, rfl, Below.refl _ _⟩
              · have d2 : a.tmps[90]?.getD undef = .pointer (some ⟨bx, ox + j, none⟩) := hdep 2 rfl
                refine Drawn.wpOp_flow 91 rfl rfl rfl ?_
                have fx := (hb.cell (p := ⟨bx, ox + j, none⟩) (cell_lt fX)).trans fX
                have fy := (hb.cell (p := ⟨b2, oy + j, none⟩) (cell_lt fY)).trans fY
                clear hev hdep hb
                go_simp
                exact ⟨_, rfl, rfl, Below.refl _ _⟩
              · have e12 : a.tmps[12]?.getD undef = .slice (some ⟨b2, oy, none⟩) n dy := hev 12 rfl
                refine Drawn.wpOp_flow 92 rfl rfl rfl ?_
                clear hev hdep hb
                go_simp
                exact ⟨_, rfl, rfl, Below.refl _ _⟩
              · have e14 : a.tmps[14]?.getD undef = .int .i64 (j : Nat) := hev 14 rfl
                refine Drawn.wpOp_flow 93 rfl rfl rfl ?_
                clear hev hdep hb
                go_simp
                exact ⟨_, rfl, rfl, Below.refl _ _⟩
              · have d4 : a.tmps[92]?.getD undef = .slice (some ⟨b2, oy, none⟩) n dy := hdep 4 rfl
                have d5 : a.tmps[93]?.getD undef = .int .i64 (j : Nat) := hdep 5 rfl
                refine Drawn.wpOp_flow 94 rfl rfl rfl ?_
                clear hev hdep hb
                go_simp
                exact ⟨_, rfl, rfl, Below.refl _ _⟩
              · have d6 : a.tmps[94]?.getD undef = .pointer (some ⟨b2, oy + j, none⟩) := hdep 6 rfl
                refine Drawn.wpOp_flow 95 rfl rfl rfl ?_
                have fx := (hb.cell (p := ⟨bx, ox + j, none⟩) (cell_lt fX)).trans fX
                have fy := (hb.cell (p := ⟨b2, oy + j, none⟩) (cell_lt fY)).trans fY
                clear hev hdep hb
                go_simp
                exact ⟨_, rfl, rfl, Below.refl _ _⟩
              · have d3 : a.tmps[91]?.getD undef = .slice Bx l0 rx := hdep 3 rfl
                have d7 : a.tmps[95]?.getD undef = .slice By l0 ry := hdep 7 rfl
                refine Drawn.wpOp_flow 96 rfl rfl rfl ?_
                clear hev hdep
                have C := HXO.out j Bx rx By ry w5 (HRX.out.below hb) (HRY.out.below hb)
                clear hb
                go_simp
                refine C.mono ?_
                rintro e w' ⟨X, d, rfl, g3, hb'⟩
                exact ⟨_, rfl, ⟨X, d, rfl, g3⟩, hb'⟩
              · have d8 := hdep 8 rfl
                refine Drawn.wpOp_flow 15 rfl rfl rfl ?_
                clear hev hdep hb
                go_simp
                exact ⟨_, rfl, d8, Below.refl _ _⟩
            · intro xq w5 hb hxq
              have vq0 : xq 0 = .slice (some ⟨bx, ox, none⟩) n dx := hxq 0 (by omega)
              have vq1 : xq 1 = .int .i64 (j : Nat) := hxq 1 (by omega)
              have vq2 : xq 2 = .pointer (some ⟨bx, ox + j, none⟩) := hxq 2 (by omega)
              have vq3 : xq 3 = .slice Bx l0 rx := hxq 3 (by omega)
              have vq4 : xq 4 = .slice (some ⟨b2, oy, none⟩) n dy := hxq 4 (by omega)
              have vq5 : xq 5 = .int .i64 (j : Nat) := hxq 5 (by omega)
              have vq6 : xq 6 = .pointer (some ⟨b2, oy + j, none⟩) := hxq 6 (by omega)
              have vq7 : xq 7 = .slice By l0 ry := hxq 7 (by omega)
              obtain ⟨Xd, dd, vq9, xd⟩ : (SP.bN (da j) l0).p (xq 9) w5 := hxq 9 (by omega)
              show Exit.then _ _ Exit.normal (Drawn.acts _ [(15, some (xq 9)), (96, some (xq 8)), (95, some (xq 7)), (94, some (xq 6)), (93, some (xq 5)), (92, some (xq 4)), (91, some (xq 3)), (90, some (xq 2)), (89, some (xq 1)), (88, some (xq 0))]) _
              rw [vq0, vq1, vq2, vq3, vq4, vq5, vq6, vq7, vq9]
              clear hxq vq0 vq1 vq2 vq3 vq4 vq5 vq6 vq7 vq9
              generalize xq 8 = yq8
              clear xq
              simp only [Drawn.acts]
              go_simp
              have HB6 := Lib.hid (bstep HB5.out hb)
              have HA6 := Lib.hid (HA5.out.below hb)
              have HBJ := Lib.hid (bstep hbr hb)
              replace HTJ := Lib.hid (HTJ.out.below hb); replace HZ := Lib.hid (HZ.out.below hb)
              have HXD := Lib.hid xd
              clear xd hb hbr fX fY HRX HRY
              go_at_K
              obtain ⟨p0, p1, p2, p3, p4, p5⟩ := six HA6.out
              go_wp2_with fail
              refine (HSH.out j _ _ _ _ HTJ.out HXD.out (ZS.out.below HB6.out)).mono ?_
              rintro e w7 ⟨Ys, fs, rfl, hx, hb7⟩
              clear p0 p1 p2 p3 p4 p5
              have HXS := Lib.hid hx
              clear hx
              replace HBJ := Lib.hid (bstep HBJ.out hb7)
              have HB7 := Lib.hid (bstep HB6.out hb7)
              have HA7 := Lib.hid (HA6.out.below hb7)
              replace HTJ := Lib.hid (HTJ.out.below hb7)
              replace HZ := Lib.hid (HZ.out.below hb7)
              replace HXD := Lib.hid (HXD.out.below hb7)
              clear hb7
              obtain ⟨p0, p1, p2, p3, p4, p5⟩ := six HA7.out
              go_wp2_with fail
              refine (HDL.out j _ _ _ _ _ _ HTJ.out HXD.out HXS.out).mono ?_
              rintro e w8 ⟨Ym, fm, rfl, hx, hb8⟩
              clear p0 p1 p2 p3 p4 p5
              have HXM := Lib.hid hx
              clear hx
              replace HBJ := Lib.hid (bstep HBJ.out hb8)
              have HB8 := Lib.hid (bstep HB7.out hb8)
              have HA8 := Lib.hid (HA7.out.below hb8)
              replace HTJ := Lib.hid (HTJ.out.below hb8)
              replace HZ := Lib.hid (HZ.out.below hb8)
              clear hb8
              obtain ⟨p0, p1, p2, p3, p4, p5⟩ := six HA8.out
              go_wp2_with fail
              refine (HAPJ.out _ _ _ _ _ HZ.out HXM.out).mono ?_
              rintro e w9 ⟨Z2, d2, rfl, g1, g2, hx, hb9⟩
              clear p0 p1 p2 p3 p4 p5
              have HZ2 := Lib.hid hx
              clear hx
              replace HBJ := Lib.hid (bstep HBJ.out hb9)
              have HB9 := Lib.hid (bstep HB8.out hb9)
              have HA9 := Lib.hid (HA8.out.below hb9)
              clear hb9
              go_wp2
              go_roundw
              case rel => exact ⟨j + 1, by omega, by go_num, ⟨Z2, d2, rfl, g1, g2, HZ2.out⟩, HBJ.out⟩
              case measure => simp [intOf] <;> omega
          · obtain rfl : n = j := by omega
            have HDO1 := Lib.hid hd1; have HDO2 := Lib.hid hd2
            have HXX2 := Lib.hid (HXX.out.below hbr); have HXY2 := Lib.hid (HXY.out.below hbr)
            have HZO := HZ
            clear hd1 hd2 hbr HXX HXY HA4
            have HXX := HXX2; have HXY := HXY2
            clear HXX2 HXY2
            go_wp2
            go_loopw [19, 130] (fun v i w2 => ∃ j : Nat, j ≤ n ∧ i = .int .i64 j ∧ (∃ Z d, v = .slice Z tn d ∧ tn ≤ d ∧ d ≤ maxLen ∧ BytesAt w2 Z (bk j)) ∧ Below wr.heap.size wr w2) (fun _ i _ => n - (intOf i).toNat)
            case atStart => exact ⟨0, Nat.zero_le _, rfl, ⟨Z, d, rfl, HDO1.out, HDO2.out, by rw [HBK0.out]; exact HZO.out⟩, Below.refl _ _⟩
            case round =>
              obtain ⟨j, hj, rfl, ⟨Zb, db, rfl, hd1, hd2, hZ⟩, hbr⟩ := hrel
              rename World => w2
              have HB6 := Lib.hid (bstep HB5.out hbr)
              have HA6 := Lib.hid (HA5.out.below hbr)
              have HTK := Lib.hid (HTJ.out.below hbr)
              have HZB := Lib.hid hZ
              clear hZ
              by_cases hlt : j < n
              · obtain ⟨bx, ox, Bx, rx, rfl, fX, _, _, hRX⟩ := (HXX.out.below hbr).row (i := j) (by have := HLX.out; omega)
                obtain ⟨b2, oy, By, ry, rfl, fY, _, _, hRY⟩ := (HXY.out.below hbr).row (i := j) (by have := HLY.out; omega)
                rw [HCRX.out j _] at fX hRX
                rw [HCRY.out j _] at fY hRY
                rw [row_len] at fX fY
                have HRX := Lib.hid hRX; have HRY := Lib.hid hRY
                obtain ⟨x, hxe⟩ : ∃ x, x = j * t0 := ⟨_, rfl⟩
                have j1 : (j : Int) * (t0 : Int) = (x : Int) := by rw [← Int.natCast_mul, ← hxe]
                have hx12 : x ≤ 240 * 12 := by rw [hxe]; exact Nat.mul_le_mul (by omega) ht12
                have i1 : IntKind.i64.wrap (x : Int) = (x : Int) := IntWalk.i64_in _ (by omega)
                have hap := fun Z d X f V g1 g2 => HAP2.out j Z d X f V g1 g2 (by omega)
                rw [← hxe] at hap
                have HAPJ := Lib.hid hap
                clear hRX hRY hxe hap
                go_wp2_with fail
                refine Drawn.wp_region_flowL 10 [Drawn.SP.is (.slice (some ⟨bx, ox, none⟩) n dx), Drawn.SP.is (.int .i64 (j : Nat)), Drawn.SP.is (.pointer (some ⟨bx, ox + j, none⟩)), Drawn.SP.is (.slice Bx l0 rx), Drawn.SP.is (.slice (some ⟨b2, oy, none⟩) n dy), Drawn.SP.is (.int .i64 (j : Nat)), Drawn.SP.is (.pointer (some ⟨b2, oy + j, none⟩)), Drawn.SP.is (.slice By l0 ry), SP.bN (da j) l0, SP.bN (da j) l0] (by kernel_rfl) (by kernel_rfl) ?_ ?_
                · intro i hi a w5 hb hev hdep
                  rcases (show i = 0 ∨ i = 1 ∨ i = 2 ∨ i = 3 ∨ i = 4 ∨ i = 5 ∨ i = 6 ∨ i = 7 ∨ i = 8 ∨ i = 9 by omega) with rfl | rfl | rfl | rfl | rfl | rfl | rfl | rfl | rfl | rfl
                  · have e11 : a.tmps[11]?.getD undef = .slice (some ⟨bx, ox, none⟩) n dx := hev 11 rfl
                    refine Drawn.wpOp_flow 133 rfl rfl rfl ?_
                    clear hev hdep hb
                    go_simp
                    exact ⟨_, rfl, rfl, Below.refl _ _⟩
                  · have e20 : a.tmps[20]?.getD undef = .int .i64 (j : Nat) := hev 20 rfl
                    refine Drawn.wpOp_flow 134 rfl rfl rfl ?_
                    clear hev hdep hb
                    go_simp
                    exact ⟨_, rfl, rfl, Below.refl _ _⟩
                  · have d0 : a.tmps[133]?.getD undef = .slice (some ⟨bx, ox, none⟩) n dx := hdep 0 rfl
                    have d1 : a.tmps[134]?.getD undef = .int .i64 (j : Nat) := hdep 1 rfl
                    refine Drawn.wpOp_flow 135 rfl rfl rfl ?_
                    clear hev hdep hb
                    go_simp
                    exact ⟨_, rfl, rfl, Below.refl _ _⟩
                  · have d2 : a.tmps[135]?.getD undef = .pointer (some ⟨bx, ox + j, none⟩) := hdep 2 rfl
                    refine Drawn.wpOp_flow 136 rfl rfl rfl ?_
                    have fx := (hb.cell (p := ⟨bx, ox + j, none⟩) (cell_lt fX)).trans fX
                    have fy := (hb.cell (p := ⟨b2, oy + j, none⟩) (cell_lt fY)).trans fY
                    clear hev hdep hb
                    go_simp
                    exact ⟨_, rfl, rfl, Below.refl _ _⟩
                  · have e12 : a.tmps[12]?.getD undef = .slice (some ⟨b2, oy, none⟩) n dy := hev 12 rfl
                    refine Drawn.wpOp_flow 137 rfl rfl rfl ?_
                    clear hev hdep hb
                    go_simp
                    exact ⟨_, rfl, rfl, Below.refl _ _⟩
                  · have e20 : a.tmps[20]?.getD undef = .int .i64 (j : Nat) := hev 20 rfl
                    refine Drawn.wpOp_flow 138 rfl rfl rfl ?_
                    clear hev hdep hb
                    go_simp
                    exact ⟨_, rfl, rfl, Below.refl _ _⟩
                  · have d4 : a.tmps[137]?.getD undef = .slice (some ⟨b2, oy, none⟩) n dy := hdep 4 rfl
                    have d5 : a.tmps[138]?.getD undef = .int .i64 (j : Nat) := hdep 5 rfl
                    refine Drawn.wpOp_flow 139 rfl rfl rfl ?_
                    clear hev hdep hb
                    go_simp
                    exact ⟨_, rfl, rfl, Below.refl _ _⟩
                  · have d6 : a.tmps[139]?.getD undef = .pointer (some ⟨b2, oy + j, none⟩) := hdep 6 rfl
                    refine Drawn.wpOp_flow 140 rfl rfl rfl ?_
                    have fx := (hb.cell (p := ⟨bx, ox + j, none⟩) (cell_lt fX)).trans fX
                    have fy := (hb.cell (p := ⟨b2, oy + j, none⟩) (cell_lt fY)).trans fY
                    clear hev hdep hb
                    go_simp
                    exact ⟨_, rfl, rfl, Below.refl _ _⟩
                  · have d3 : a.tmps[136]?.getD undef = .slice Bx l0 rx := hdep 3 rfl
                    have d7 : a.tmps[140]?.getD undef = .slice By l0 ry := hdep 7 rfl
                    refine Drawn.wpOp_flow 141 rfl rfl rfl ?_
                    clear hev hdep
                    have C := HXO.out j Bx rx By ry w5 (HRX.out.below hb) (HRY.out.below hb)
                    clear hb
                    go_simp
                    refine C.mono ?_
                    rintro e w' ⟨X, d, rfl, g3, hb'⟩
                    exact ⟨_, rfl, ⟨X, d, rfl, g3⟩, hb'⟩
                  · have d8 := hdep 8 rfl
                    refine Drawn.wpOp_flow 21 rfl rfl rfl ?_
                    clear hev hdep hb
                    go_simp
                    exact ⟨_, rfl, d8, Below.refl _ _⟩
                · intro xq w5 hb hxq
                  have vq0 : xq 0 = .slice (some ⟨bx, ox, none⟩) n dx := hxq 0 (by omega)
                  have vq1 : xq 1 = .int .i64 (j : Nat) := hxq 1 (by omega)
                  have vq2 : xq 2 = .pointer (some ⟨bx, ox + j, none⟩) := hxq 2 (by omega)
                  have vq3 : xq 3 = .slice Bx l0 rx := hxq 3 (by omega)
                  have vq4 : xq 4 = .slice (some ⟨b2, oy, none⟩) n dy := hxq 4 (by omega)
                  have vq5 : xq 5 = .int .i64 (j : Nat) := hxq 5 (by omega)
                  have vq6 : xq 6 = .pointer (some ⟨b2, oy + j, none⟩) := hxq 6 (by omega)
                  have vq7 : xq 7 = .slice By l0 ry := hxq 7 (by omega)
                  obtain ⟨Xd, dd, vq9, xd⟩ : (SP.bN (da j) l0).p (xq 9) w5 := hxq 9 (by omega)
                  show Exit.then _ _ Exit.normal (Drawn.acts _ [(21, some (xq 9)), (141, some (xq 8)), (140, some (xq 7)), (139, some (xq 6)), (138, some (xq 5)), (137, some (xq 4)), (136, some (xq 3)), (135, some (xq 2)), (134, some (xq 1)), (133, some (xq 0))]) _
                  rw [vq0, vq1, vq2, vq3, vq4, vq5, vq6, vq7, vq9]
                  clear hxq vq0 vq1 vq2 vq3 vq4 vq5 vq6 vq7 vq9
                  generalize xq 8 = yq8
                  clear xq
                  simp only [Drawn.acts]
                  go_simp
                  have HB7 := Lib.hid (bstep HB6.out hb)
                  have HA7 := Lib.hid (HA6.out.below hb)
                  have HBJ := Lib.hid (bstep hbr hb)
                  replace HTK := Lib.hid (HTK.out.below hb); replace HZB := Lib.hid (HZB.out.below hb)
                  have HXD := Lib.hid xd
                  clear xd hb hbr fX fY HRX HRY
                  go_at_K
                  obtain ⟨p0, p1, p2, p3, p4, p5⟩ := six HA7.out
                  go_wp2_with fail
                  refine (HSH.out j _ _ _ _ HTK.out HXD.out (ZS.out.below HB7.out)).mono ?_
                  rintro e w8 ⟨Ys, fs, rfl, hx, hb8⟩
                  clear p0 p1 p2 p3 p4 p5
                  have HXS := Lib.hid hx
                  clear hx
                  replace HBJ := Lib.hid (bstep HBJ.out hb8)
                  have HB8 := Lib.hid (bstep HB7.out hb8)
                  have HA8 := Lib.hid (HA7.out.below hb8)
                  replace HTK := Lib.hid (HTK.out.below hb8)
                  replace HZB := Lib.hid (HZB.out.below hb8)
                  replace HXD := Lib.hid (HXD.out.below hb8)
                  clear hb8
                  go_wp2_with fail
                  refine Drawn.wp_region_flowT 11 [Drawn.SP.is (.slice Zb tn db), Drawn.SP.is (.int .i64 (j : Nat)), Drawn.SP.is (.pointer (some ⟨w.heap.size, 1, none⟩)), Drawn.SP.is (.int .i64 (t0 : Nat)), Drawn.SP.is (.int .i64 (x : Nat)), Drawn.SP.is (.pointer (some ⟨wq.heap.size, 0, none⟩)), Drawn.SP.is (.agg #[.int .i64 (n0 : Nat), .int .i64 (t0 : Nat), .int .i64 (l0 : Nat), .int .i64 W, .int .i64 S, .int .i64 R]), Drawn.SP.is (.slice Xd l0 dd), Drawn.SP.is (.slice Ys (l0 + t0) fs), SP.bN (mf j) t0, SP.bt (bk (j + 1)) tn] (by kernel_rfl) (by kernel_rfl) ?_ ?_
                  · intro i hi a w9 hb hev hdep
                    rcases (show i = 0 ∨ i = 1 ∨ i = 2 ∨ i = 3 ∨ i = 4 ∨ i = 5 ∨ i = 6 ∨ i = 7 ∨ i = 8 ∨ i = 9 ∨ i = 10 by omega) with rfl | rfl | rfl | rfl | rfl | rfl | rfl | rfl | rfl | rfl | rfl
                    · have e19 : a.tmps[19]?.getD undef = .slice Zb tn db := hev 19 rfl
                      refine Drawn.wpOp_flow 150 rfl rfl rfl ?_
                      clear hev hdep hb
                      go_simp
                      exact ⟨_, rfl, rfl, Below.refl _ _⟩
                    · have e20 : a.tmps[20]?.getD undef = .int .i64 (j : Nat) := hev 20 rfl
                      refine Drawn.wpOp_flow 151 rfl rfl rfl ?_
                      clear hev hdep hb
                      go_simp
                      exact ⟨_, rfl, rfl, Below.refl _ _⟩
                    · have e3 : a.tmps[3]?.getD undef = .pointer (some ⟨w.heap.size, 0, none⟩) := hev 3 rfl
                      refine Drawn.wpOp_flow 152 rfl rfl rfl ?_
                      clear hev hdep hb
                      go_simp
                      exact ⟨_, rfl, rfl, Below.refl _ _⟩
                    · have d2 : a.tmps[152]?.getD undef = .pointer (some ⟨w.heap.size, 1, none⟩) := hdep 2 rfl
                      refine Drawn.wpOp_flow 153 rfl rfl rfl ?_
                      obtain ⟨p0, p1, p2, p3, p4, p5⟩ := six (HA8.out.below hb)
                      clear hev hdep hb
                      go_simp
                      exact ⟨_, rfl, rfl, Below.refl _ _⟩
                    · have d1 : a.tmps[151]?.getD undef = .int .i64 (j : Nat) := hdep 1 rfl
                      have d3 : a.tmps[153]?.getD undef = .int .i64 (t0 : Nat) := hdep 3 rfl
                      refine Drawn.wpOp_flow 154 rfl rfl rfl ?_
                      clear hev hdep hb
                      go_simp
                      exact ⟨_, rfl, rfl, Below.refl _ _⟩
                    · have e10 : a.tmps[10]?.getD undef = .pointer (some ⟨wq.heap.size, 0, none⟩) := hev 10 rfl
                      refine Drawn.wpOp_flow 155 rfl rfl rfl ?_
                      clear hev hdep hb
                      go_simp
                      exact ⟨_, rfl, rfl, Below.refl _ _⟩
                    · have e3 : a.tmps[3]?.getD undef = .pointer (some ⟨w.heap.size, 0, none⟩) := hev 3 rfl
                      refine Drawn.wpOp_flow 156 rfl rfl rfl ?_
                      obtain ⟨p0, p1, p2, p3, p4, p5⟩ := six (HA8.out.below hb)
                      clear hev hdep hb
                      go_simp
                      exact ⟨_, rfl, rfl, Below.refl _ _⟩
                    · have e21 : a.tmps[21]?.getD undef = .slice Xd l0 dd := hev 21 rfl
                      refine Drawn.wpOp_flow 157 rfl rfl rfl ?_
                      clear hev hdep hb
                      go_simp
                      exact ⟨_, rfl, rfl, Below.refl _ _⟩
                    · have e22 : a.tmps[22]?.getD undef = .slice Ys (l0 + t0) fs := hev 22 rfl
                      refine Drawn.wpOp_flow 158 rfl rfl rfl ?_
                      clear hev hdep hb
                      go_simp
                      exact ⟨_, rfl, rfl, Below.refl _ _⟩
                    · have d5 : a.tmps[155]?.getD undef = .pointer (some ⟨wq.heap.size, 0, none⟩) := hdep 5 rfl
                      have d6 : a.tmps[156]?.getD undef = .agg #[.int .i64 (n0 : Nat), .int .i64 (t0 : Nat), .int .i64 (l0 : Nat), .int .i64 W, .int .i64 S, .int .i64 R] := hdep 6 rfl
                      have d7 : a.tmps[157]?.getD undef = .slice Xd l0 dd := hdep 7 rfl
                      have d8 : a.tmps[158]?.getD undef = .slice Ys (l0 + t0) fs := hdep 8 rfl
                      refine Drawn.wpOp_flow 159 rfl rfl rfl ?_
                      clear hev hdep
                      have C := HDL.out j wq.heap.size Xd dd Ys fs w9 (HTK.out.below hb) (HXD.out.below hb) (HXS.out.below hb)
                      clear hb
                      go_simp
                      refine C.mono ?_
                      rintro e w' ⟨X, d, rfl, g3, hb'⟩
                      exact ⟨_, rfl, ⟨X, d, rfl, g3⟩, hb'⟩
                    · have d0 : a.tmps[150]?.getD undef = .slice Zb tn db := hdep 0 rfl
                      have d4 : a.tmps[154]?.getD undef = .int .i64 (x : Nat) := hdep 4 rfl
                      obtain ⟨Xm, dm, d9, xm⟩ : (SP.bN (mf j) t0).p (a.tmps[159]?.getD undef) w9 := hdep 9 rfl
                      refine Drawn.wpOp_flow 160 rfl rfl rfl ?_
                      clear hev hdep
                      have C := HAPJ.out Zb db Xm dm w9 (HZB.out.below hb) xm
                      clear xm
                      clear hb
                      go_simp
                      refine C.mono ?_
                      rintro e w' ⟨X, d, rfl, g1, g2, g3, hb'⟩
                      exact ⟨_, rfl, ⟨X, d, rfl, g1, g2, g3⟩, hb'⟩
                  · intro xq w9 hb hxq
                    have vq0 : xq 0 = .slice Zb tn db := hxq 0 (by omega)
                    have vq1 : xq 1 = .int .i64 (j : Nat) := hxq 1 (by omega)
                    have vq2 : xq 2 = .pointer (some ⟨w.heap.size, 1, none⟩) := hxq 2 (by omega)
                    have vq3 : xq 3 = .int .i64 (t0 : Nat) := hxq 3 (by omega)
                    have vq4 : xq 4 = .int .i64 (x : Nat) := hxq 4 (by omega)
                    have vq5 : xq 5 = .pointer (some ⟨wq.heap.size, 0, none⟩) := hxq 5 (by omega)
                    have vq6 : xq 6 = .agg #[.int .i64 (n0 : Nat), .int .i64 (t0 : Nat), .int .i64 (l0 : Nat), .int .i64 W, .int .i64 S, .int .i64 R] := hxq 6 (by omega)
                    have vq7 : xq 7 = .slice Xd l0 dd := hxq 7 (by omega)
                    have vq8 : xq 8 = .slice Ys (l0 + t0) fs := hxq 8 (by omega)
                    obtain ⟨Xt, dt, vq10, xt1, xt2, xt⟩ : (SP.bt (bk (j + 1)) tn).p (xq 10) w9 := hxq 10 (by omega)
                    show wpList _ _ _ _ (Drawn.acts _ [(160, some (xq 10)), (159, some (xq 9)), (158, some (xq 8)), (157, some (xq 7)), (156, some (xq 6)), (155, some (xq 5)), (154, some (xq 4)), (153, some (xq 3)), (152, some (xq 2)), (151, some (xq 1)), (150, some (xq 0))]) _
                    rw [vq0, vq1, vq2, vq3, vq4, vq5, vq6, vq7, vq8, vq10]
                    clear hxq vq0 vq1 vq2 vq3 vq4 vq5 vq6 vq7 vq8 vq10
                    generalize xq 9 = yq9
                    clear xq
                    simp only [Drawn.acts, List.drop_succ_cons, List.drop_zero]
                    go_simp
                    have HBK := Lib.hid (bstep HBJ.out hb)
                    have HXT := Lib.hid xt
                    clear xt hb
                    go_wp2
                    go_roundw
                    case rel => exact ⟨j + 1, by omega, by go_num, ⟨Xt, dt, rfl, xt1, xt2, HXT.out⟩, HBK.out⟩
                    case measure => simp [intOf] <;> omega
              · obtain rfl : n = j := by omega
                rw [HBACK.out] at HZB
                have HZO2 := Lib.hid (HZO.out.below hbr)
                clear hd1 hd2 hbr HA5
                obtain ⟨p0, p1, p2, p3, p4, p5⟩ := six HA6.out
                go_wp2_with fail
                refine (HD1.out _ _ HTK.out (BA.out.below HB6.out) (TP.out.below HB6.out)).mono ?_
                rintro e w7 ⟨Xl, dl, rfl, _, _, hx, hb7, _⟩
                clear p0 p1 p2 p3 p4 p5
                have HXL := Lib.hid hx
                clear hx
                have HB7 := Lib.hid (bstep HB6.out hb7)
                have HA7 := Lib.hid (HA6.out.below hb7)
                replace HTK := Lib.hid (HTK.out.below hb7)
                replace HZB := Lib.hid (HZB.out.below hb7)
                replace HZO2 := Lib.hid (HZO2.out.below hb7)
                clear hb7
                obtain ⟨p0, p1, p2, p3, p4, p5⟩ := six HA7.out
                go_wp2_with fail
                refine (HD2.out _ _ _ _ HTK.out (BB.out.below HB7.out) HZO2.out HDO1.out HDO2.out).mono ?_
                rintro e w8 ⟨Xr, dr, rfl, _, _, hx, hb8, _⟩
                clear p0 p1 p2 p3 p4 p5
                have HXR := Lib.hid hx
                clear hx
                have HB8 := Lib.hid (bstep HB7.out hb8)
                have HA8 := Lib.hid (HA7.out.below hb8)
                replace HZB := Lib.hid (HZB.out.below hb8)
                replace HXL := Lib.hid (HXL.out.below hb8)
                clear hb8
                obtain ⟨p0, p1, p2, p3, p4, p5⟩ := six HA8.out
                go_wp2_with fail
                refine (same_yes Zb A3 tape tn HTN.out db c3 _ HZB.out (TP.out.below HB8.out) HMT.out).mono ?_
                rintro e w9 ⟨rfl, hb9⟩
                clear p0 p1 p2 p3 p4 p5
                have HB9 := Lib.hid (bstep HB8.out hb9)
                have HA9 := Lib.hid (HA8.out.below hb9)
                replace HXL := Lib.hid (HXL.out.below hb9)
                replace HXR := Lib.hid (HXR.out.below hb9)
                clear hb9
                go_wp2
                go_loopw [213] (fun i w10 => ∃ j : Nat, j ≤ zn ∧ i = .int .i64 j ∧ Below w9.heap.size w9 w10) (fun i _ => zn - (intOf i).toNat)
                case atStart => exact ⟨0, Nat.zero_le _, rfl, Below.refl _ _⟩
                case round =>
                  obtain ⟨j, hj, rfl, hbr⟩ := hrel
                  rename World => w10
                  by_cases hlt : j < zn
                  · have hjz : j < z.length := by have := HZN.out; omega
                    obtain ⟨b3, o3, rfl, f3⟩ := (ZS.out.below (bstep HB9.out hbr)).at hjz
                    obtain ⟨kk, ek, hkk, g1, g2, erow, hrl⟩ := HROW.out z[j] (List.getElem_mem hjz)
                    rw [ek] at f3
                    obtain ⟨bl, ol, Rl, cl, rfl, fl, -, -, hL⟩ := (HXL.out.below hbr).row g1
                    obtain ⟨br, or_, Rr, cr, rfl, fr, -, -, hR⟩ := (HXR.out.below hbr).row g2
                    rw [← erow] at fr hR
                    generalize sa[kk] = rw_ at *
                    obtain ⟨rn, hrn⟩ : ∃ rn, rn = rw_.length := ⟨_, rfl⟩
                    rw [← hrn] at fl fr hrl
                    have HRN := Lib.hid hrn; have HL := Lib.hid hL; have HRR := Lib.hid hR
                    have i1 : IntKind.i64.wrap (kk : Int) = (kk : Int) := IntWalk.i64_in _ (by omega)
                    have HRL := Lib.hid hrl
                    clear hrn hL hR erow g1 g2 ek hrl
                    go_wp2_with fail
                    refine Drawn.wp_region_flowL 12 [Drawn.SP.is (.slice (some ⟨bl, ol, none⟩) n0 dl), Drawn.SP.is (.int .i64 ((kk : Int) + 1)), Drawn.SP.is (.int .i64 (kk : Nat)), Drawn.SP.is (.pointer (some ⟨bl, ol + kk, none⟩)), Drawn.SP.is (.slice Rl rn cl), Drawn.SP.is (.slice (some ⟨br, or_, none⟩) n0 dr), Drawn.SP.is (.int .i64 ((kk : Int) + 1)), Drawn.SP.is (.int .i64 (kk : Nat)), Drawn.SP.is (.pointer (some ⟨br, or_ + kk, none⟩)), Drawn.SP.is (.slice Rr rn cr), Drawn.SP.is (.bool true), Drawn.SP.is (.bool false)] (by kernel_rfl) (by kernel_rfl) ?_ ?_
                    · intro i hi a wv hb hev hdep
                      rcases (show i = 0 ∨ i = 1 ∨ i = 2 ∨ i = 3 ∨ i = 4 ∨ i = 5 ∨ i = 6 ∨ i = 7 ∨ i = 8 ∨ i = 9 ∨ i = 10 ∨ i = 11 by omega) with rfl | rfl | rfl | rfl | rfl | rfl | rfl | rfl | rfl | rfl | rfl | rfl
                      · have e24 : a.tmps[24]?.getD undef = .slice (some ⟨bl, ol, none⟩) n0 dl := hev 24 rfl
                        refine Drawn.wpOp_flow 217 rfl rfl rfl ?_
                        clear hev hdep hb
                        go_simp
                        exact ⟨_, rfl, rfl, Below.refl _ _⟩
                      · have e29 : a.tmps[29]?.getD undef = .int .i64 ((kk : Int) + 1) := hev 29 rfl
                        refine Drawn.wpOp_flow 218 rfl rfl rfl ?_
                        clear hev hdep hb
                        go_simp
                        exact ⟨_, rfl, rfl, Below.refl _ _⟩
                      · have d1 : a.tmps[218]?.getD undef = .int .i64 ((kk : Int) + 1) := hdep 1 rfl
                        refine Drawn.wpOp_flow 219 rfl rfl rfl ?_
                        clear hev hdep hb
                        go_simp
                        exact ⟨_, rfl, rfl, Below.refl _ _⟩
                      · have d0 : a.tmps[217]?.getD undef = .slice (some ⟨bl, ol, none⟩) n0 dl := hdep 0 rfl
                        have d2 : a.tmps[219]?.getD undef = .int .i64 (kk : Nat) := hdep 2 rfl
                        refine Drawn.wpOp_flow 220 rfl rfl rfl ?_
                        clear hev hdep hb
                        go_simp
                        exact ⟨_, rfl, rfl, Below.refl _ _⟩
                      · have d3 : a.tmps[220]?.getD undef = .pointer (some ⟨bl, ol + kk, none⟩) := hdep 3 rfl
                        refine Drawn.wpOp_flow 221 rfl rfl rfl ?_
                        have fx := (hb.cell (p := ⟨bl, ol + kk, none⟩) (cell_lt fl)).trans fl
                        have fy := (hb.cell (p := ⟨br, or_ + kk, none⟩) (cell_lt fr)).trans fr
                        clear hev hdep hb
                        go_simp
                        exact ⟨_, rfl, rfl, Below.refl _ _⟩
                      · have e26 : a.tmps[26]?.getD undef = .slice (some ⟨br, or_, none⟩) n0 dr := hev 26 rfl
                        refine Drawn.wpOp_flow 222 rfl rfl rfl ?_
                        clear hev hdep hb
                        go_simp
                        exact ⟨_, rfl, rfl, Below.refl _ _⟩
                      · have e29 : a.tmps[29]?.getD undef = .int .i64 ((kk : Int) + 1) := hev 29 rfl
                        refine Drawn.wpOp_flow 223 rfl rfl rfl ?_
                        clear hev hdep hb
                        go_simp
                        exact ⟨_, rfl, rfl, Below.refl _ _⟩
                      · have d6 : a.tmps[223]?.getD undef = .int .i64 ((kk : Int) + 1) := hdep 6 rfl
                        refine Drawn.wpOp_flow 224 rfl rfl rfl ?_
                        clear hev hdep hb
                        go_simp
                        exact ⟨_, rfl, rfl, Below.refl _ _⟩
                      · have d5 : a.tmps[222]?.getD undef = .slice (some ⟨br, or_, none⟩) n0 dr := hdep 5 rfl
                        have d7 : a.tmps[224]?.getD undef = .int .i64 (kk : Nat) := hdep 7 rfl
                        refine Drawn.wpOp_flow 225 rfl rfl rfl ?_
                        clear hev hdep hb
                        go_simp
                        exact ⟨_, rfl, rfl, Below.refl _ _⟩
                      · have d8 : a.tmps[225]?.getD undef = .pointer (some ⟨br, or_ + kk, none⟩) := hdep 8 rfl
                        refine Drawn.wpOp_flow 226 rfl rfl rfl ?_
                        have fx := (hb.cell (p := ⟨bl, ol + kk, none⟩) (cell_lt fl)).trans fl
                        have fy := (hb.cell (p := ⟨br, or_ + kk, none⟩) (cell_lt fr)).trans fr
                        clear hev hdep hb
                        go_simp
                        exact ⟨_, rfl, rfl, Below.refl _ _⟩
                      · have d4 : a.tmps[221]?.getD undef = .slice Rl rn cl := hdep 4 rfl
                        have d9 : a.tmps[226]?.getD undef = .slice Rr rn cr := hdep 9 rfl
                        refine Drawn.wpOp_flow 227 rfl rfl rfl ?_
                        clear hev hdep
                        have C := same_yes Rl Rr rw_ rn HRN.out cl cr wv (HL.out.below hb) (HRR.out.below hb) HRL.out
                        clear hb
                        go_simp
                        refine C.mono ?_
                        rintro e w' ⟨rfl, hb'⟩
                        exact ⟨_, rfl, rfl, hb'⟩
                      · have d10 : a.tmps[227]?.getD undef = .bool true := hdep 10 rfl
                        refine Drawn.wpOp_flow 228 rfl rfl rfl ?_
                        clear hev hdep hb
                        go_simp
                        exact ⟨_, rfl, rfl, Below.refl _ _⟩
                    · intro xq wv hb hxq
                      have vq0 : xq 0 = .slice (some ⟨bl, ol, none⟩) n0 dl := hxq 0 (by omega)
                      have vq1 : xq 1 = .int .i64 ((kk : Int) + 1) := hxq 1 (by omega)
                      have vq2 : xq 2 = .int .i64 (kk : Nat) := hxq 2 (by omega)
                      have vq3 : xq 3 = .pointer (some ⟨bl, ol + kk, none⟩) := hxq 3 (by omega)
                      have vq4 : xq 4 = .slice Rl rn cl := hxq 4 (by omega)
                      have vq5 : xq 5 = .slice (some ⟨br, or_, none⟩) n0 dr := hxq 5 (by omega)
                      have vq6 : xq 6 = .int .i64 ((kk : Int) + 1) := hxq 6 (by omega)
                      have vq7 : xq 7 = .int .i64 (kk : Nat) := hxq 7 (by omega)
                      have vq8 : xq 8 = .pointer (some ⟨br, or_ + kk, none⟩) := hxq 8 (by omega)
                      have vq9 : xq 9 = .slice Rr rn cr := hxq 9 (by omega)
                      have vq10 : xq 10 = .bool true := hxq 10 (by omega)
                      have vq11 : xq 11 = .bool false := hxq 11 (by omega)
                      show Exit.then _ _ Exit.normal (Drawn.acts _ [(228, some (xq 11)), (227, some (xq 10)), (226, some (xq 9)), (225, some (xq 8)), (224, some (xq 7)), (223, some (xq 6)), (222, some (xq 5)), (221, some (xq 4)), (220, some (xq 3)), (219, some (xq 2)), (218, some (xq 1)), (217, some (xq 0))]) _
                      rw [vq0, vq1, vq2, vq3, vq4, vq5, vq6, vq7, vq8, vq9, vq10, vq11]
                      clear hxq vq0 vq1 vq2 vq3 vq4 vq5 vq6 vq7 vq8 vq9 vq10 vq11
                      clear xq
                      simp only [Drawn.acts]
                      go_simp
                      have HBR := Lib.hid (bstep hbr hb)
                      clear hb
                      go_at_K
                      go_wp2
                      go_roundw
                      case rel => exact ⟨j + 1, by omega, by go_num, HBR.out⟩
                      case measure => simp [intOf] <;> omega
                  · obtain rfl : j = zn := by omega
                    have HBE := Lib.hid (bstep HB9.out hbr)
                    clear hbr
                    go_wp2_with fail
                    refine (alive_any _).mono ?_
                    rintro e wz ⟨rfl, hbz⟩
                    go_wp2
                    go_ret
                    exact ⟨rfl, bstep HBE.out hbz⟩
end Go.Proofs.Ytompeiemioeohaa.Law14
