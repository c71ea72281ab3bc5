/- the walk of JournalCrash -/
import Derived.Test.YtapgpibindhlfaaMLJ
import Derived.Test.YtapgpibindhlfaaMRJ
set_option maxRecDepth 100000
namespace Go.Proofs.Ytapgpibindhlfaa.Law19
open Go.RowKit EntM DiskM JourM Disk Jour
open Law16 (Fine)
open Entry (SP.bytesN)

theorem doS_right {n : Nat} {m : Dk} {l : List Ch} (hr : Right n l) (hb : m.b.length = 64 * n) (hc : clean m.b) : doS n m l = ((runW m (writes l)).1, if (runW m (writes l)).2 = true then 0 else 15) := by
  by_cases h : l = []
  · subst h
    unfold doS
    rw [if_neg (by rw [(checkV_may []).2 hr.may]; decide), if_neg (fun k => k hr.there), if_pos rfl]
    rfl
  · exact doS_of h hr hb hc
set_option maxHeartbeats 8000000 in
theorem crash_any (A : Option Addr) (l : List Ch) (cl : Nat) (PA : Option Addr) (pl : List UInt8) (cp : Nat) (w : World) (h : ChsAt w A l) (hlc : l.length ≤ cl) (hcm : cl ≤ maxLen) (hP : BytesAt w PA pl) (hpc : pl.length ≤ cp) (hpm : cp ≤ maxLen) :
    Calls Try.prog 3 #[.slice A l.length cl, .slice PA pl.length cp] w fun e w' => e = .returned (.bool true) ∧ Below w.heap.size w w' := by
  have hll : l.length ≤ 9223372036854775807 := by unfold maxLen at hcm; omega
  have hpl : pl.length ≤ 9223372036854775807 := by unfold maxLen at hpm; omega
  have HLi := Lib.hid (few_any A l cl w h hll)
  obtain ⟨pn, hpn⟩ : ∃ pn, pn = pl.length := ⟨_, rfl⟩
  have HPN := Lib.hid hpn
  rw [← hpn] at hpc hpl ⊢
  have HPB := Lib.hid hP
  have HLL : Hid (0 < l.length → ∀ a, A = some a → a.block < w.heap.size) := Lib.hid (R19.chs_block h)
  rcases hfew : fewB l with _ | _
  · rw [hfew] at HLi
    clear h hP hpn
    go_enter Try.func3, Try.ntmps3
    go_wp2_with fail
    refine HLi.out.mono ?_
    rintro e w1 ⟨rfl, hb1⟩
    go_wp2_with fail
    refine (alive_any w1).mono ?_
    rintro e w2 ⟨rfl, hb2⟩
    go_wp2
    go_ret
    exact ⟨rfl, bstep hb1 hb2⟩
  rw [hfew] at HLi
  by_cases hp12 : 12 < pn
  · have hq : decide ((12 : Int) < (pn : Int)) = true := decide_eq_true (by omega)
    clear h hP hpn hfew
    go_enter Try.func3, Try.ntmps3
    go_wp2_with fail
    refine HLi.out.mono ?_
    rintro e w1 ⟨rfl, hb1⟩
    go_wp2_with fail
    refine (alive_any w1).mono ?_
    rintro e w2 ⟨rfl, hb2⟩
    go_wp2
    go_ret
    exact ⟨rfl, bstep hb1 hb2⟩
  have hq12 : decide ((12 : Int) < (pn : Int)) = false := decide_eq_false (by omega)
  obtain ⟨hl100, hl20⟩ := (fewB_iff l).1 hfew
  have CCK := Lib.hid (fun W (hC : ChsAt W A l) => R19.chk_any 50 A l cl W (by omega) hC (by omega))
  have CS := Lib.hid (fun W A c (hA : BytesAt W A [2, 7, 1, 8]) => some_any 50 A [2, 7, 1, 8] c W (by omega) hA (by simp) (by simp))
  rw [show size ((50 : Nat) : Int) = 50 from rfl] at CS
  have HLC := Lib.hid h
  obtain ⟨ln, hln⟩ : ∃ ln, ln = l.length := ⟨_, rfl⟩
  have HLN := Lib.hid hln
  have hl20' : ln ≤ 20 := by omega
  rw [← hln] at HLi CCK hlc ⊢
  clear h hP hpn hfew hl100 hl20 hll hln
  go_enter Try.func3, Try.ntmps3
  go_wp2_with fail
  refine HLi.out.mono ?_
  rintro e w1 ⟨rfl, hb1⟩
  have HB1 := Lib.hid hb1
  clear hb1 HLi
  go_wp2_with fail
  refine (Crc.new_any _).mono ?_
  rintro e w2 ⟨tb, rfl, ht, hb2⟩
  have hb3 := balloc w2 (.cells #[.int .u8 2, .int .u8 7, .int .u8 1, .int .u8 8] 5)
  have HT3 := Lib.hid (ht.below hb3)
  have HB3 := Lib.hid (bstep (bstep HB1.out hb2) hb3)
  have htl : tb < w2.heap.size := cell_lt (a := ⟨tb, 0, none⟩) (ht 0 (by decide))
  have hlit : BytesAt (w2.alloc (.cells #[.int .u8 2, .int .u8 7, .int .u8 1, .int .u8 8] 5)) (some ⟨w2.heap.size, 0, none⟩) [2, 7, 1, 8] := bytes_mark w2 [2, 7, 1, 8] (0, 0) w2.heap.size rfl
  have C3 := Lib.hid (CS.out _ _ 4 hlit)
  have hz3 : (w2.alloc (.cells #[.int .u8 2, .int .u8 7, .int .u8 1, .int .u8 8] 5)).heap.size = w2.heap.size + 1 := by simp
  clear ht hb2 hb3 hlit CS HB1
  go_wp2_with fail
  refine C3.out.mono ?_
  rintro e w4 ⟨p1, g1, c1, p2, g2, c2, b0, rfl, hpr, hbl0, hcl0⟩
  have hwz := HB3.out.size
  have hn1 := hpr.n1; have hn2 := hpr.n2
  have HTB : Hid (tb ≠ p1 ∧ tb ≠ g1) := Lib.hid (by omega)
  have HT4 := Lib.hid (HT3.out.below hpr.below)
  have HP4 : Hid (Pair w p1 g1 c1 p2 g2 c2 ⟨b0, -1, false⟩ ⟨b0, -1, false⟩ w4) := Lib.hid ⟨hpr.d1, hpr.d2, ⟨by omega, by omega⟩, ⟨by omega, by omega⟩, hpr.apart, bstep HB3.out hpr.below⟩
  have HB0 := Lib.hid hbl0
  have HCL : Hid (clean b0) := Lib.hid fun i h1 h2 => hcl0 i h1 h2 (by omega)
  have C4 := Lib.hid (CCK.out w4 (HLC.out.below HP4.out.below))
  clear hpr hbl0 hcl0 hwz hn1 hn2 hz3 htl HT3 HB3 C3 CCK
  by_cases hck : R19.chkV 50 l = 0
  case neg =>
    have hq : (R19.chkV 50 l != 0) = true := by rw [bne_iff_ne]; exact hck
    generalize R19.chkV 50 l = ck at *
    go_wp2_with fail
    refine C4.out.mono ?_
    rintro e w5 ⟨rfl, hb5⟩
    have HB5 := Lib.hid (bstep HP4.out.below hb5)
    clear hb5 C4
    go_wp2_with fail
    refine (alive_any w5).mono ?_
    rintro e w6 ⟨rfl, hb6⟩
    have HB6 := Lib.hid (bstep HB5.out hb6)
    clear hb6
    go_wp2
    go_ret
    exact ⟨rfl, HB6.out⟩
  rw [hck] at C4
  have hright : Right 50 l := by
    unfold R19.chkV at hck
    by_cases hv : checkV l = 0
    · rw [if_neg (by simpa using hv)] at hck
      by_cases hth : there 50 l
      · exact ⟨(checkV_may l).1 hv, hth⟩
      · rw [if_neg hth] at hck; cases hck
    · rw [if_pos hv] at hck; exact absurd hck hv
  have HR := Lib.hid hright
  obtain ⟨AF, hAF⟩ : ∃ AF, AF = apply b0 l := ⟨_, rfl⟩
  have hwith : (runW ⟨b0, -1, false⟩ l).1.b = AF := by rw [runW_ever (n := 50) (m := ⟨b0, -1, false⟩) hright.fits HB0.out (by show (-1 : Int) < 0; omega) rfl, hAF]
  have HAFL : Hid (AF.length ≤ maxLen) := Lib.hid (by rw [hAF, apply_len hright.fits HB0.out]; unfold maxLen; omega)
  have HB0L : Hid (b0.length ≤ maxLen) := Lib.hid (by rw [HB0.out]; unfold maxLen; omega)
  have HAFE := Lib.hid hAF
  clear hck hright
  go_wp2_with fail
  refine C4.out.mono ?_
  rintro e w5a ⟨rfl, hb5⟩
  have HP5 := Lib.hid (HP4.out.step hb5)
  have HT5 := Lib.hid (HT4.out.below hb5)
  clear hb5 C4 HP4 HT4
  have CWI : Hid (∀ W, Below w5a.heap.size w5a W → Calls Try.prog 10 #[.slice (some ⟨g2, 0, none⟩) b0.length c2, .slice A ln cl] W (RetNew W AF)) := Lib.hid fun W hb => by
    have C := R19.with_any (some ⟨g2, 0, none⟩) b0 c2 A l cl W (HP5.out.d2.bytes.below hb) (by rw [HB0.out]; omega) (by rw [HB0.out]; omega) (HLC.out.below (bstep HP5.out.below hb)) (by rw [← HLN.out]; omega)
    rw [hwith, ← HLN.out] at C
    exact C
  have EB : Hid (w5a.cell? ⟨p2, 0, none⟩ = some (.slice (some ⟨g2, 0, none⟩) b0.length c2)) := Lib.hid HP5.out.d2.c0
  clear hwith hAF
  go_wp2_with fail
  refine Drawn.wp_region_flowL 12 [Drawn.SP.is (.pointer (some ⟨p2, 0, none⟩)), Drawn.SP.is (.pointer (some ⟨p2, 0, none⟩)), Drawn.SP.is (.pointer (some ⟨p2, 0, none⟩)), Drawn.SP.is (.slice (some ⟨g2, 0, none⟩) b0.length c2), Drawn.SP.is (.pointer (some ⟨p2, 0, none⟩)), Drawn.SP.is (.pointer (some ⟨p2, 0, none⟩)), Drawn.SP.is (.pointer (some ⟨p2, 0, none⟩)), Drawn.SP.is (.slice (some ⟨g2, 0, none⟩) b0.length c2), Drawn.SP.is (.slice A ln cl), SP.bytesN w5a.heap.size AF, Drawn.SP.is (.slice (some ⟨g2, 0, none⟩) b0.length c2), SP.bytesN w5a.heap.size AF] (by kernel_rfl) (by kernel_rfl) ?_ ?_
  · intro i hi a w5 hb hev hdep
    rcases (show i = 0 ∨ i = 1 ∨ i = 2 ∨ i = 3 ∨ i = 4 ∨ i = 5 ∨ i = 6 ∨ i = 7 ∨ i = 8 ∨ i = 9 ∨ i = 10 ∨ i = 11 by omega) with rfl | rfl | rfl | rfl | rfl | rfl | rfl | rfl | rfl | rfl | rfl | rfl
    · have e7 : a.tmps[7]?.getD undef = .pointer (some ⟨p2, 0, none⟩) := hev 7 rfl
      refine Drawn.wpOp_flow 32 rfl rfl rfl ?_
      clear hev hdep hb
      go_simp
      exact ⟨_, rfl, rfl, Below.refl _ _⟩
    · have d0 : a.tmps[32]?.getD undef = .pointer (some ⟨p2, 0, none⟩) := hdep 0 rfl
      refine Drawn.wpOp_flow 33 rfl rfl rfl ?_
      clear hev hdep hb
      go_simp
      exact ⟨_, rfl, rfl, Below.refl _ _⟩
    · have d1 : a.tmps[33]?.getD undef = .pointer (some ⟨p2, 0, none⟩) := hdep 1 rfl
      refine Drawn.wpOp_flow 34 rfl rfl rfl ?_
      clear hev hdep hb
      go_simp
      exact ⟨_, rfl, rfl, Below.refl _ _⟩
    · have d2 : a.tmps[34]?.getD undef = .pointer (some ⟨p2, 0, none⟩) := hdep 2 rfl
      refine Drawn.wpOp_flow 35 rfl rfl rfl ?_
      have k1 := (hb.cell (p := ⟨p2, 0, none⟩) (cell_lt EB.out)).trans EB.out
      clear hev hdep hb
      go_simp
      exact ⟨_, rfl, rfl, Below.refl _ _⟩
    · have e7 : a.tmps[7]?.getD undef = .pointer (some ⟨p2, 0, none⟩) := hev 7 rfl
      refine Drawn.wpOp_flow 36 rfl rfl rfl ?_
      clear hev hdep hb
      go_simp
      exact ⟨_, rfl, rfl, Below.refl _ _⟩
    · have d4 : a.tmps[36]?.getD undef = .pointer (some ⟨p2, 0, none⟩) := hdep 4 rfl
      refine Drawn.wpOp_flow 37 rfl rfl rfl ?_
      clear hev hdep hb
      go_simp
      exact ⟨_, rfl, rfl, Below.refl _ _⟩
    · have d5 : a.tmps[37]?.getD undef = .pointer (some ⟨p2, 0, none⟩) := hdep 5 rfl
      refine Drawn.wpOp_flow 38 rfl rfl rfl ?_
      clear hev hdep hb
      go_simp
      exact ⟨_, rfl, rfl, Below.refl _ _⟩
    · have d6 : a.tmps[38]?.getD undef = .pointer (some ⟨p2, 0, none⟩) := hdep 6 rfl
      refine Drawn.wpOp_flow 39 rfl rfl rfl ?_
      have k1 := (hb.cell (p := ⟨p2, 0, none⟩) (cell_lt EB.out)).trans EB.out
      clear hev hdep hb
      go_simp
      exact ⟨_, rfl, rfl, Below.refl _ _⟩
    · have e0 : a.tmps[0]?.getD undef = .slice A ln cl := hev 0 rfl
      refine Drawn.wpOp_flow 40 rfl rfl rfl ?_
      clear hev hdep hb
      go_simp
      exact ⟨_, rfl, rfl, Below.refl _ _⟩
    · have d7 : a.tmps[39]?.getD undef = .slice (some ⟨g2, 0, none⟩) b0.length c2 := hdep 7 rfl
      have d8 : a.tmps[40]?.getD undef = .slice A ln cl := hdep 8 rfl
      refine Drawn.wpOp_flow 41 rfl rfl rfl ?_
      clear hev hdep
      have C := CWI.out w5 hb
      have hz := hb.size
      clear hb
      go_simp
      refine C.mono ?_
      rintro e w' ⟨X, d, rfl, q1, q2, q3, hb', hn'⟩
      exact ⟨_, rfl, ⟨X, d, rfl, q1, q2, q3, fun a e => Nat.le_trans hz (hn' a e)⟩, hb'⟩
    · have d3 : a.tmps[35]?.getD undef = .slice (some ⟨g2, 0, none⟩) b0.length c2 := hdep 3 rfl
      refine Drawn.wpOp_flow 8 rfl rfl rfl ?_
      clear hev hdep hb
      go_simp
      exact ⟨_, rfl, rfl, Below.refl _ _⟩
    · have d9 := hdep 9 rfl
      refine Drawn.wpOp_flow 9 rfl rfl rfl ?_
      clear hev hdep hb
      go_simp
      exact ⟨_, rfl, d9, Below.refl _ _⟩
  · intro xq w5 hb hxq
    have vq0 : xq 0 = .pointer (some ⟨p2, 0, none⟩) := hxq 0 (by omega)
    have vq1 : xq 1 = .pointer (some ⟨p2, 0, none⟩) := hxq 1 (by omega)
    have vq2 : xq 2 = .pointer (some ⟨p2, 0, none⟩) := hxq 2 (by omega)
    have vq3 : xq 3 = .slice (some ⟨g2, 0, none⟩) b0.length c2 := hxq 3 (by omega)
    have vq4 : xq 4 = .pointer (some ⟨p2, 0, none⟩) := hxq 4 (by omega)
    have vq5 : xq 5 = .pointer (some ⟨p2, 0, none⟩) := hxq 5 (by omega)
    have vq6 : xq 6 = .pointer (some ⟨p2, 0, none⟩) := hxq 6 (by omega)
    have vq7 : xq 7 = .slice (some ⟨g2, 0, none⟩) b0.length c2 := hxq 7 (by omega)
    have vq8 : xq 8 = .slice A ln cl := hxq 8 (by omega)
    have vq10 : xq 10 = .slice (some ⟨g2, 0, none⟩) b0.length c2 := hxq 10 (by omega)
    obtain ⟨Xvq11, dvq11, vq11, hvq11, kvq11, qvq11, nvq11⟩ : (SP.bytesN w5a.heap.size AF).p (xq 11) w5 := hxq 11 (by omega)
    show Exit.then _ _ Exit.normal (Drawn.acts _ [(9, some (xq 11)), (8, some (xq 10)), (41, some (xq 9)), (40, some (xq 8)), (39, some (xq 7)), (38, some (xq 6)), (37, some (xq 5)), (36, some (xq 4)), (35, some (xq 3)), (34, some (xq 2)), (33, some (xq 1)), (32, some (xq 0))]) _
    rw [vq0, vq1, vq2, vq3, vq4, vq5, vq6, vq7, vq8, vq10, vq11]
    clear hxq vq0 vq1 vq2 vq3 vq4 vq5 vq6 vq7 vq8 vq10 vq11
    generalize xq 9 = yq9
    clear xq
    simp only [Drawn.acts]
    go_simp
    have HP6 := Lib.hid (HP5.out.step hb)
    have HT6 := Lib.hid (HT5.out.below hb)
    have hlt5 := HP5.out.lt
    obtain ⟨XA, dA, hXA⟩ : ∃ XA dA, XA = Xvq11 ∧ dA = dvq11 := ⟨_, _, rfl, rfl⟩
    rw [← hXA.1, ← hXA.2]
    have HAB : Hid (∀ a, XA = some a → Off p1 g1 a.block) := Lib.hid fun a e => by
      rw [hXA.1] at e
      have := nvq11 a e
      exact ⟨by omega, by omega⟩
    have HX6 : Hid (Crc.Tab w5 tb ∧ BytesAt w5 XA AF) := Lib.hid ⟨HT6.out, by rw [hXA.1]; exact qvq11⟩
    have HXK : Hid (∀ W W', (Crc.Tab W tb ∧ BytesAt W XA AF) → Keeps (PG p1 g1) W W' → (Crc.Tab W' tb ∧ BytesAt W' XA AF)) := Lib.hid fun W W' hT q => ⟨fun i hi => q.cell (hT.1 i hi) (Off.not ⟨HTB.out.1, HTB.out.2⟩), q.bytes hT.2 fun a e => (HAB.out a e).not⟩
    have HXB : Hid (∀ W W', (Crc.Tab W tb ∧ BytesAt W XA AF) → Below W.heap.size W W' → (Crc.Tab W' tb ∧ BytesAt W' XA AF)) := Lib.hid fun W W' hT q => ⟨hT.1.below q, hT.2.below q⟩
    have HCP : Hid (∀ W, Below w.heap.size w W → ChsP (Off p1 g1) W A l) := Lib.hid fun W hb => ((ChsP.of HLC.out).mono (Q := Off p1 g1) fun k _ hk => by have := HP6.out.n1; exact ⟨by omega, by omega⟩).below hb
    clear  hXA hb HP5 HT5 HT6 CWI EB hlt5
    have CDO := Lib.hid (fun W z (hT : Crc.Tab W tb) (hd : DAt W p1 g1 c1 ⟨b0, z, false⟩) (hz : -9223372036854775808 ≤ z ∧ z ≤ 9223372036854775807) hC => do_any tb p1 g1 c1 50 ⟨b0, z, false⟩ A l cl W hT hd HB0.out (by omega) ⟨(fun e => nomatch e), hz⟩ hC (by rw [← HLN.out]; omega))
    rw [← HLN.out] at CDO
    have HDI : Hid (∀ z : Int, (doS 50 ⟨b0, z, false⟩ l).1.b.length = 64 * 50 ∧ Inv 50 l b0 (doS 50 ⟨b0, z, false⟩ l).1.b ∧ ((doS 50 ⟨b0, z, false⟩ l).2 = 0 → JourM.A 50 (apply b0 l) (doS 50 ⟨b0, z, false⟩ l).1.b)) := Lib.hid fun z => by
      rw [doS_right (n := 50) (m := ⟨b0, z, false⟩) HR.out HB0.out HCL.out]
      obtain ⟨k1, k2⟩ := do_inv (n := 50) (m := ⟨b0, z, false⟩) HR.out HB0.out HCL.out
      refine ⟨by rw [runW_len]; exact HB0.out, k1, fun e => k2 ?_⟩
      rcases hok : (runW ⟨b0, z, false⟩ (writes l)).2 with _ | _
      · rw [hok] at e; cases e
      · rfl
    by_cases hp0 : pn = 0
    · subst hp0
      have hqp : decide ((0 : Int) < ((0 : Nat) : Int)) = false := rfl
      have C7 := CDO.out w5 (-1) HX6.out.1 HP6.out.d1 (by omega) (HCP.out w5 HP6.out.below)
      have hdi := HDI.out (-1)
      generalize doS 50 ⟨b0, -1, false⟩ l = st at *
      obtain ⟨m1, E⟩ := st
      simp only at C7 hdi
      have C7H := Lib.hid C7
      have HI1 := Lib.hid hdi
      clear C7 hdi CDO HDI
      go_wp2_with fail
      refine C7H.out.mono ?_
      rintro e w7 ⟨rfl, hd7, hk7⟩
      have HP7 := Lib.hid (HP6.out.step1 hd7 hk7)
      have HX7 := Lib.hid (HXK.out w5 w7 HX6.out hk7)
      clear hd7 hk7 C7H HP6 HX6
      go_wp2
      go_loopw [11] (fun iv wr => ∃ (i : Nat) (m : Dk), (i ≤ 0 ∨ i = 1) ∧ 1 ≤ i ∧ iv = .int .i64 (i : Nat) ∧ Pair w p1 g1 c1 p2 g2 c2 m ⟨b0, -1, false⟩ wr ∧ m.b.length = 64 * 50 ∧ Inv 50 l b0 m.b ∧ (E = 0 → JourM.A 50 (apply b0 l) m.b) ∧ (Crc.Tab wr tb ∧ BytesAt wr XA AF))
        (fun iv _ => 0 - (intOf iv).toNat)
      case atStart => exact ⟨1, m1, by omega, by omega, rfl, HP7.out, HI1.out.1, HI1.out.2.1, HI1.out.2.2, HX7.out⟩
      case round =>
        obtain ⟨i, m, hi, hi1, rfl, hpr, hml, hinv, hea, hx⟩ := hrel
        rename World => w8
        have HP8 := Lib.hid hpr; have HML := Lib.hid hml; have HINV := Lib.hid hinv; have HEA := Lib.hid hea; have HX8 := Lib.hid hx
        clear hpr hml hinv hea hx
        by_cases hlt : i < 0
        · exact absurd hlt (Nat.not_lt_zero _)
        · have CP := Lib.hid (power_any p1 g1 c1 m (-1) w8 HP8.out.d1)
          go_wp2_with fail
          refine CP.out.mono ?_
          rintro e w9 ⟨rfl, hd9, hk9⟩
          have HK9 : Hid (Keeps (PG p1 g1) w8 w9) := Lib.hid (hk9.mono fun _ _ h => .inl h)
          have HP9 := Lib.hid (HP8.out.step1 hd9 HK9.out)
          have HX9 := Lib.hid (HXK.out w8 w9 HX8.out HK9.out)
          have hml : (⟨m.b, -1, false⟩ : Dk).b.length = 64 * 50 := HML.out
          have hrl : (recD 50 ⟨m.b, -1, false⟩).1.b.length = 64 * 50 := by unfold recD; rw [runW_len]; exact hml
          have hend := rec_end (m := ⟨m.b, -1, false⟩) HR.out HB0.out HCL.out hml HINV.out (by show (-1 : Int) < 0; omega) rfl
          have hev := rec_ever (n := 50) (m := ⟨m.b, -1, false⟩) hml (by show (-1 : Int) < 0; omega) rfl
          have CR := recover_any tb p1 g1 c1 50 ⟨m.b, -1, false⟩ w9 HX9.out.1 HP9.out.d1 hml (by omega) ⟨(fun e => nomatch e), by show _ ≤ (-1 : Int); omega, by show (-1 : Int) ≤ _; omega⟩
          rw [hev] at hend CR hrl
          generalize apply m.b (againN 50 m.b) = b9 at *
          simp only [if_true] at CR hend hrl
          obtain ⟨-, hor, hcn, hall⟩ := hend
          have hcv : cleanV 50 b9 = true := cleanV_iff.2 fun i h1 h2 _ => by rw [hcn i h1 h2]; decide +kernel
          have CRH := Lib.hid CR
          have HOR : Hid (b9 = b0 ∨ b9 = AF) := Lib.hid (by rw [HAFE.out]; exact hor); have HCN := Lib.hid hcn; have HRL := Lib.hid hrl
          have HALL : Hid (E = 0 → b9 = AF) := Lib.hid fun h => by rw [HAFE.out]; exact hall (HEA.out h)
          have CCL := Lib.hid (fun W (hd : DAt W p1 g1 c1 ⟨b9, -1, false⟩) => clean_any p1 g1 c1 50 ⟨b9, -1, false⟩ W hd hrl (by omega))
          rw [hcv] at CCL
          have CIM := Lib.hid (fun W z d (hd : DAt W p1 g1 c1 ⟨b9, z, d⟩) => image_any p1 g1 c1 ⟨b9, z, d⟩ W hd (by show b9.length ≤ _; omega))
          have CPZ := Lib.hid (fun W (hd : DAt W p1 g1 c1 ⟨b9, -1, false⟩) => power_any p1 g1 c1 ⟨b9, -1, false⟩ 0 W hd)
          have CRZ := Lib.hid (fun W (hT : Crc.Tab W tb) (hd : DAt W p1 g1 c1 ⟨b9, 0, false⟩) => recover_any tb p1 g1 c1 50 ⟨b9, 0, false⟩ W hT hd hrl (by omega) ⟨(fun e => nomatch e), by show _ ≤ (0 : Int); omega, by show (0 : Int) ≤ _; omega⟩)
          rw [rec_clean (n := 50) (m := ⟨b9, 0, false⟩) (by omega) hcn] at CRZ
          simp only [if_true] at CRZ
          have CDD := Lib.hid (fun W (hd : DAt W p1 g1 c1 ⟨b9, 0, false⟩) => dead_any p1 g1 c1 ⟨b9, 0, false⟩ W hd)
          have CSX := Lib.hid (fun W X Y (l1 l2 : List UInt8) d1 d2 (h1 : BytesAt W X l1) (h2 : BytesAt W Y l2) (k1 : l1.length ≤ maxLen) (k2 : l2.length ≤ maxLen) => R01.same_any X Y l1 l2 d1 d2 W h1 h2 k1 k2)
          clear hd9 hk9 CP CR hml hrl hev hor hcn hall hcv HINV HEA HB0 HCL HR HML HP8 HX8 HK9
          go_wp2_with fail
          refine CRH.out.mono ?_
          rintro e w10 ⟨rfl, hd10, hk10⟩
          have HP10 := Lib.hid (HP9.out.step1 hd10 hk10)
          have HX10 := Lib.hid (HXK.out w9 w10 HX9.out hk10)
          have CC10 := Lib.hid (CCL.out w10 hd10)
          clear hd10 hk10 CRH HP9 HX9 CCL
          go_wp2_with fail
          refine CC10.out.mono ?_
          rintro e w11 ⟨rfl, hb11⟩
          have HP11 := Lib.hid (HP10.out.step hb11)
          have HX11 := Lib.hid (HXB.out w10 w11 HX10.out hb11)
          have C11 := Lib.hid (CIM.out w11 (-1) false HP11.out.d1)
          have hlt11 := HP11.out.lt
          clear hb11 CC10 HP10 HX10
          go_wp2_with fail
          refine C11.out.mono ?_
          rintro e w12 ⟨v, rfl, ho, hb12⟩
          obtain ⟨Xn, dn, hv, n1, n2, hXn⟩ := ho.bytes
          have hown := ho.lt
          subst hv
          have HNB : Hid (∀ a, Xn = some a → Off p1 g1 a.block) := Lib.hid fun a e => by
            have := (hown a.block (by rw [e]; rfl)).1
            exact ⟨by omega, by omega⟩
          have HN12 := Lib.hid hXn
          have HP12 := Lib.hid (HP11.out.step hb12)
          have HX12 := Lib.hid (HXB.out w11 w12 HX11.out hb12)
          have HB12 := Lib.hid HP12.out.d2.bytes
          have hbl9 : b9.length ≤ maxLen := Nat.le_trans n1 n2
          clear ho hXn hown hb12 C11 HP11 HX11 hlt11
          by_cases haf : b9 = AF
          · have hsame : same b9 AF = true := by rw [haf]; exact same_self _
            have HAFD := Lib.hid haf
            clear haf
            by_cases hE0 : E = 0
            · have qe : (E == 0) = true := by rw [hE0]; rfl
              have CS1 := CSX.out w12 Xn XA b9 AF dn dA HN12.out HX12.out.2 hbl9 (by exact HAFL.out)
              rw [show same b9 AF = true from hsame] at CS1
              have CSH1 := Lib.hid CS1
              clear CS1
              go_wp2_with fail
              refine CSH1.out.mono ?_
              rintro e w13 ⟨rfl, hq1⟩
              have HBQ1 := Lib.hid (bquiet hq1)
              have HP13 := Lib.hid (HP12.out.step HBQ1.out)
              have HX13 := Lib.hid (HXB.out w12 w13 HX12.out HBQ1.out)
              have HN13 := Lib.hid (HN12.out.below HBQ1.out)
              have HB13 := Lib.hid (HB12.out.below HBQ1.out)
              clear hq1 CSH1
              have CS2 := CSX.out w13 Xn XA b9 AF dn dA HN13.out HX13.out.2 hbl9 (by exact HAFL.out)
              rw [show same b9 AF = true from hsame] at CS2
              have CSH2 := Lib.hid CS2
              clear CS2
              go_wp2_with fail
              refine CSH2.out.mono ?_
              rintro e w14 ⟨rfl, hq2⟩
              have HBQ2 := Lib.hid (bquiet hq2)
              have HP14 := Lib.hid (HP13.out.step HBQ2.out)
              have HX14 := Lib.hid (HXB.out w13 w14 HX13.out HBQ2.out)
              have HN14 := Lib.hid (HN13.out.below HBQ2.out)
              have HB14 := Lib.hid (HB13.out.below HBQ2.out)
              clear hq2 CSH2
              have CP0 := Lib.hid (CPZ.out w14 (HP14.out.d1))
              go_wp2_with fail
              refine CP0.out.mono ?_
              rintro e y1 ⟨rfl, hd1, hk1⟩
              have HK1 : Hid (Keeps (PG p1 g1) w14 y1) := Lib.hid (hk1.mono fun _ _ h => .inl h)
              have HQ1 := Lib.hid (HP14.out.step1 hd1 HK1.out)
              have HT1 := Lib.hid (HXK.out w14 y1 HX14.out HK1.out)
              have HM1 := Lib.hid (HK1.out.bytes HN14.out fun a e => (HNB.out a e).not)
              have CR1 := Lib.hid (CRZ.out y1 HT1.out.1 hd1)
              clear hd1 hk1 CP0 CPZ CRZ
              go_wp2_with fail
              refine CR1.out.mono ?_
              rintro e y2 ⟨rfl, hd2, hk2⟩
              have HQ2 := Lib.hid (HQ1.out.step1 hd2 hk2)
              have HM2 := Lib.hid (hk2.bytes HM1.out fun a e => (HNB.out a e).not)
              have CD2 := Lib.hid (CDD.out y2 hd2)
              clear hd2 hk2 CR1 CDD HQ1 HT1 HM1 HK1
              go_wp2_with fail
              refine CD2.out.mono ?_
              rintro e y3 ⟨rfl, rfl⟩
              have CI2 := Lib.hid (CIM.out y2 0 false HQ2.out.d1)
              clear CD2 CIM
              go_wp2_with fail
              refine CI2.out.mono ?_
              rintro e y4 ⟨v4, rfl, ho4, hb4⟩
              obtain ⟨X4, d4, hv4, z1, z2, hX4⟩ := ho4.bytes
              subst hv4
              have HB4 := Lib.hid (bstep HQ2.out.below hb4)
              have CS4 := CSX.out y4 X4 Xn b9 b9 d4 dn hX4 (HM2.out.below hb4) hbl9 hbl9
              rw [show same b9 b9 = true from same_self b9] at CS4
              have CS5 := Lib.hid CS4
              clear ho4 hb4 hX4 CI2 CS4 CSX HM2 HQ2
              go_wp2_with fail
              refine CS5.out.mono ?_
              rintro e y5 ⟨rfl, hq5⟩
              have HB5 := Lib.hid (bstep HB4.out (bquiet hq5))
              clear hq5 CS5 HB4
              go_wp2_with fail
              refine (alive_any y5).mono ?_
              rintro e y6 ⟨rfl, hb6⟩
              have HB6 := Lib.hid (bstep HB5.out hb6)
              clear hb6
              go_wp2
              go_ret
              exact ⟨rfl, HB6.out⟩
            · have qe : (E == 0) = false := by rw [beq_eq_false_iff_ne]; exact hE0
              have CS1 := CSX.out w12 Xn XA b9 AF dn dA HN12.out HX12.out.2 hbl9 (by exact HAFL.out)
              rw [show same b9 AF = true from hsame] at CS1
              have CSH1 := Lib.hid CS1
              clear CS1
              go_wp2_with fail
              refine CSH1.out.mono ?_
              rintro e w13 ⟨rfl, hq1⟩
              have HBQ1 := Lib.hid (bquiet hq1)
              have HP13 := Lib.hid (HP12.out.step HBQ1.out)
              have HX13 := Lib.hid (HXB.out w12 w13 HX12.out HBQ1.out)
              have HN13 := Lib.hid (HN12.out.below HBQ1.out)
              have HB13 := Lib.hid (HB12.out.below HBQ1.out)
              clear hq1 CSH1
              have CP0 := Lib.hid (CPZ.out w13 (HP13.out.d1))
              go_wp2_with fail
              refine CP0.out.mono ?_
              rintro e y1 ⟨rfl, hd1, hk1⟩
              have HK1 : Hid (Keeps (PG p1 g1) w13 y1) := Lib.hid (hk1.mono fun _ _ h => .inl h)
              have HQ1 := Lib.hid (HP13.out.step1 hd1 HK1.out)
              have HT1 := Lib.hid (HXK.out w13 y1 HX13.out HK1.out)
              have HM1 := Lib.hid (HK1.out.bytes HN13.out fun a e => (HNB.out a e).not)
              have CR1 := Lib.hid (CRZ.out y1 HT1.out.1 hd1)
              clear hd1 hk1 CP0 CPZ CRZ
              go_wp2_with fail
              refine CR1.out.mono ?_
              rintro e y2 ⟨rfl, hd2, hk2⟩
              have HQ2 := Lib.hid (HQ1.out.step1 hd2 hk2)
              have HM2 := Lib.hid (hk2.bytes HM1.out fun a e => (HNB.out a e).not)
              have CD2 := Lib.hid (CDD.out y2 hd2)
              clear hd2 hk2 CR1 CDD HQ1 HT1 HM1 HK1
              go_wp2_with fail
              refine CD2.out.mono ?_
              rintro e y3 ⟨rfl, rfl⟩
              have CI2 := Lib.hid (CIM.out y2 0 false HQ2.out.d1)
              clear CD2 CIM
              go_wp2_with fail
              refine CI2.out.mono ?_
              rintro e y4 ⟨v4, rfl, ho4, hb4⟩
              obtain ⟨X4, d4, hv4, z1, z2, hX4⟩ := ho4.bytes
              subst hv4
              have HB4 := Lib.hid (bstep HQ2.out.below hb4)
              have CS4 := CSX.out y4 X4 Xn b9 b9 d4 dn hX4 (HM2.out.below hb4) hbl9 hbl9
              rw [show same b9 b9 = true from same_self b9] at CS4
              have CS5 := Lib.hid CS4
              clear ho4 hb4 hX4 CI2 CS4 CSX HM2 HQ2
              go_wp2_with fail
              refine CS5.out.mono ?_
              rintro e y5 ⟨rfl, hq5⟩
              have HB5 := Lib.hid (bstep HB4.out (bquiet hq5))
              clear hq5 CS5 HB4
              go_wp2_with fail
              refine (alive_any y5).mono ?_
              rintro e y6 ⟨rfl, hb6⟩
              have HB6 := Lib.hid (bstep HB5.out hb6)
              clear hb6
              go_wp2
              go_ret
              exact ⟨rfl, HB6.out⟩
          · have hb90 : b9 = b0 := by
              rcases HOR.out with h | h
              · exact h
              · exact absurd h haf
            have hE0 : ¬ E = 0 := fun h => haf (HALL.out h)
            have hdiff : same b9 AF = false := decide_eq_false haf
            have hsame : same b9 b0 = true := by rw [hb90]; exact same_self _
            have qe : (E == 0) = false := by rw [beq_eq_false_iff_ne]; exact hE0
            clear haf hb90 hE0
            have CS1 := CSX.out w12 Xn XA b9 AF dn dA HN12.out HX12.out.2 hbl9 (by exact HAFL.out)
            rw [show same b9 AF = false from hdiff] at CS1
            have CSH1 := Lib.hid CS1
            clear CS1
            go_wp2_with fail
            refine CSH1.out.mono ?_
            rintro e w13 ⟨rfl, hq1⟩
            have HBQ1 := Lib.hid (bquiet hq1)
            have HP13 := Lib.hid (HP12.out.step HBQ1.out)
            have HX13 := Lib.hid (HXB.out w12 w13 HX12.out HBQ1.out)
            have HN13 := Lib.hid (HN12.out.below HBQ1.out)
            have HB13 := Lib.hid (HB12.out.below HBQ1.out)
            clear hq1 CSH1
            have CS2 := CSX.out w13 Xn (some ⟨g2, 0, none⟩) b9 b0 dn c2 HN13.out HB13.out hbl9 (by exact HB0L.out)
            rw [show same b9 b0 = true from hsame] at CS2
            have CSH2 := Lib.hid CS2
            clear CS2
            go_wp2_with fail
            refine CSH2.out.mono ?_
            rintro e w14 ⟨rfl, hq2⟩
            have HBQ2 := Lib.hid (bquiet hq2)
            have HP14 := Lib.hid (HP13.out.step HBQ2.out)
            have HX14 := Lib.hid (HXB.out w13 w14 HX13.out HBQ2.out)
            have HN14 := Lib.hid (HN13.out.below HBQ2.out)
            have HB14 := Lib.hid (HB13.out.below HBQ2.out)
            clear hq2 CSH2
            have CP0 := Lib.hid (CPZ.out w14 (HP14.out.d1))
            go_wp2_with fail
            refine CP0.out.mono ?_
            rintro e y1 ⟨rfl, hd1, hk1⟩
            have HK1 : Hid (Keeps (PG p1 g1) w14 y1) := Lib.hid (hk1.mono fun _ _ h => .inl h)
            have HQ1 := Lib.hid (HP14.out.step1 hd1 HK1.out)
            have HT1 := Lib.hid (HXK.out w14 y1 HX14.out HK1.out)
            have HM1 := Lib.hid (HK1.out.bytes HN14.out fun a e => (HNB.out a e).not)
            have CR1 := Lib.hid (CRZ.out y1 HT1.out.1 hd1)
            clear hd1 hk1 CP0 CPZ CRZ
            go_wp2_with fail
            refine CR1.out.mono ?_
            rintro e y2 ⟨rfl, hd2, hk2⟩
            have HQ2 := Lib.hid (HQ1.out.step1 hd2 hk2)
            have HM2 := Lib.hid (hk2.bytes HM1.out fun a e => (HNB.out a e).not)
            have CD2 := Lib.hid (CDD.out y2 hd2)
            clear hd2 hk2 CR1 CDD HQ1 HT1 HM1 HK1
            go_wp2_with fail
            refine CD2.out.mono ?_
            rintro e y3 ⟨rfl, rfl⟩
            have CI2 := Lib.hid (CIM.out y2 0 false HQ2.out.d1)
            clear CD2 CIM
            go_wp2_with fail
            refine CI2.out.mono ?_
            rintro e y4 ⟨v4, rfl, ho4, hb4⟩
            obtain ⟨X4, d4, hv4, z1, z2, hX4⟩ := ho4.bytes
            subst hv4
            have HB4 := Lib.hid (bstep HQ2.out.below hb4)
            have CS4 := CSX.out y4 X4 Xn b9 b9 d4 dn hX4 (HM2.out.below hb4) hbl9 hbl9
            rw [show same b9 b9 = true from same_self b9] at CS4
            have CS5 := Lib.hid CS4
            clear ho4 hb4 hX4 CI2 CS4 CSX HM2 HQ2
            go_wp2_with fail
            refine CS5.out.mono ?_
            rintro e y5 ⟨rfl, hq5⟩
            have HB5 := Lib.hid (bstep HB4.out (bquiet hq5))
            clear hq5 CS5 HB4
            go_wp2_with fail
            refine (alive_any y5).mono ?_
            rintro e y6 ⟨rfl, hb6⟩
            have HB6 := Lib.hid (bstep HB5.out hb6)
            clear hb6
            go_wp2
            go_ret
            exact ⟨rfl, HB6.out⟩
    · have hp1 : 0 < pl.length := by rw [← HPN.out]; omega
      have hqp : decide ((0 : Int) < (pn : Int)) = true := decide_eq_true (by omega)
      obtain ⟨bb0, oo0, hAe0, hc0⟩ := HPB.out 0 hp1
      have e10 := (HP6.out.below.cell (p := ⟨bb0, oo0 + 0, none⟩) (cell_lt hc0)).trans hc0
      rw [Nat.add_zero] at e10
      subst hAe0
      obtain ⟨u0, hu0⟩ : ∃ u0, u0 = pl[0] := ⟨_, rfl⟩
      rw [← hu0] at e10
      have hul0 := u0.toNat_lt
      have i30 : IntKind.i64.wrap ((u0.toNat : Nat) : Int) = ((u0.toNat : Nat) : Int) := IntWalk.i64_in _ (by omega)
      have CP0 := Lib.hid (power_any p1 g1 c1 ⟨b0, -1, false⟩ ((u0.toNat : Nat) : Int) w5 HP6.out.d1)
      have hp1' : 1 ≤ pn := by omega
      clear hc0 hu0 hp1
      go_wp2_with fail
      refine CP0.out.mono ?_
      rintro e w6 ⟨rfl, hd6, hk6⟩
      have HK6 : Hid (Keeps (PG p1 g1) w5 w6) := Lib.hid (hk6.mono fun _ _ h => .inl h)
      have HP6b := Lib.hid (HP6.out.step1 hd6 HK6.out)
      have HX6b := Lib.hid (HXK.out w5 w6 HX6.out HK6.out)
      have C7 := CDO.out w6 ((u0.toNat : Nat) : Int) HX6b.out.1 hd6 (by omega) (HCP.out w6 HP6b.out.below)
      have hdi := HDI.out ((u0.toNat : Nat) : Int)
      generalize doS 50 ⟨b0, ((u0.toNat : Nat) : Int), false⟩ l = st at *
      obtain ⟨m1, E⟩ := st
      simp only at C7 hdi
      have C7H := Lib.hid C7
      have HI1 := Lib.hid hdi
      clear C7 hdi CDO HDI hd6 hk6 CP0 HP6 HX6 HK6 e10
      go_wp2_with fail
      refine C7H.out.mono ?_
      rintro e w7 ⟨rfl, hd7, hk7⟩
      have HP7 := Lib.hid (HP6b.out.step1 hd7 hk7)
      have HX7 := Lib.hid (HXK.out w6 w7 HX6b.out hk7)
      clear hd7 hk7 C7H HP6b HX6b
      go_wp2
      go_loopw [11] (fun iv wr => ∃ (i : Nat) (m : Dk), (i ≤ pn ∨ i = 1) ∧ 1 ≤ i ∧ iv = .int .i64 (i : Nat) ∧ Pair w p1 g1 c1 p2 g2 c2 m ⟨b0, -1, false⟩ wr ∧ m.b.length = 64 * 50 ∧ Inv 50 l b0 m.b ∧ (E = 0 → JourM.A 50 (apply b0 l) m.b) ∧ (Crc.Tab wr tb ∧ BytesAt wr XA AF))
        (fun iv _ => pn - (intOf iv).toNat)
      case atStart => exact ⟨1, m1, by omega, by omega, rfl, HP7.out, HI1.out.1, HI1.out.2.1, HI1.out.2.2, HX7.out⟩
      case round =>
        obtain ⟨i, m, hi, hi1, rfl, hpr, hml, hinv, hea, hx⟩ := hrel
        rename World => w8
        have HP8 := Lib.hid hpr; have HML := Lib.hid hml; have HINV := Lib.hid hinv; have HEA := Lib.hid hea; have HX8 := Lib.hid hx
        clear hpr hml hinv hea hx
        by_cases hlt : i < pn
        · have hi2 : i < pl.length := by rw [← HPN.out]; exact hlt
          obtain ⟨bb, oo, hAe, hc⟩ := HPB.out i hi2
          have e1 := (HP8.out.below.cell (p := ⟨bb, oo + i, none⟩) (cell_lt hc)).trans hc
          injection hAe with hAe
          injection hAe with hA1 hA2
          subst hA1; subst hA2
          obtain ⟨u, hu⟩ : ∃ u, u = pl[i] := ⟨_, rfl⟩
          rw [← hu] at e1
          have hu1 := u.toNat_lt
          have i3 : IntKind.i64.wrap ((u.toNat : Nat) : Int) = ((u.toNat : Nat) : Int) := IntWalk.i64_in _ (by omega)
          have CP := Lib.hid (power_any p1 g1 c1 m ((u.toNat : Nat) : Int) w8 HP8.out.d1)
          have CRC := Lib.hid (fun W (hT : Crc.Tab W tb) (hd : DAt W p1 g1 c1 ⟨m.b, ((u.toNat : Nat) : Int), false⟩) => recover_any tb p1 g1 c1 50 ⟨m.b, ((u.toNat : Nat) : Int), false⟩ W hT hd HML.out (by omega) ⟨(fun e => nomatch e), by show _ ≤ ((u.toNat : Nat) : Int); omega, by show ((u.toNat : Nat) : Int) ≤ _; omega⟩)
          have HML2 : Hid ((recD 50 ⟨m.b, ((u.toNat : Nat) : Int), false⟩).1.b.length = 64 * 50) := Lib.hid (by unfold recD; rw [runW_len]; exact HML.out)
          have HINV2 := Lib.hid (rec_inv (n := 50) (m := ⟨m.b, ((u.toNat : Nat) : Int), false⟩) HR.out HB0.out HINV.out)
          have HEA2 : Hid (E = 0 → JourM.A 50 (apply b0 l) (recD 50 ⟨m.b, ((u.toNat : Nat) : Int), false⟩).1.b) := Lib.hid fun h => rec_A (n := 50) (m := ⟨m.b, ((u.toNat : Nat) : Int), false⟩) (by omega) (HEA.out h)
          generalize recD 50 ⟨m.b, ((u.toNat : Nat) : Int), false⟩ = st at *
          obtain ⟨m2, ok⟩ := st
          simp only at CRC HML2 HINV2 HEA2
          generalize (if ok = true then (0 : Int) else 15) = E2 at *
          clear hc hu
          go_wp2_with fail
          refine CP.out.mono ?_
          rintro e y1 ⟨rfl, hd1, hk1⟩
          have HK1 : Hid (Keeps (PG p1 g1) w8 y1) := Lib.hid (hk1.mono fun _ _ h => .inl h)
          have HQ1 := Lib.hid (HP8.out.step1 hd1 HK1.out)
          have HY1 := Lib.hid (HXK.out w8 y1 HX8.out HK1.out)
          have CR1 := Lib.hid (CRC.out y1 HY1.out.1 hd1)
          clear hd1 hk1 CP CRC
          go_wp2_with fail
          refine CR1.out.mono ?_
          rintro e y2 ⟨rfl, hd2, hk2⟩
          have HQ2 := Lib.hid (HQ1.out.step1 hd2 hk2)
          have HY2 := Lib.hid (HXK.out y1 y2 HY1.out hk2)
          clear hd2 hk2 CR1
          go_wp2
          go_roundw
          case rel => exact ⟨i + 1, m2, by omega, by omega, by go_num, HQ2.out, HML2.out, HINV2.out, HEA2.out, HY2.out⟩
          case measure => simp [intOf] <;> omega
        · have CP := Lib.hid (power_any p1 g1 c1 m (-1) w8 HP8.out.d1)
          go_wp2_with fail
          refine CP.out.mono ?_
          rintro e w9 ⟨rfl, hd9, hk9⟩
          have HK9 : Hid (Keeps (PG p1 g1) w8 w9) := Lib.hid (hk9.mono fun _ _ h => .inl h)
          have HP9 := Lib.hid (HP8.out.step1 hd9 HK9.out)
          have HX9 := Lib.hid (HXK.out w8 w9 HX8.out HK9.out)
          have hml : (⟨m.b, -1, false⟩ : Dk).b.length = 64 * 50 := HML.out
          have hrl : (recD 50 ⟨m.b, -1, false⟩).1.b.length = 64 * 50 := by unfold recD; rw [runW_len]; exact hml
          have hend := rec_end (m := ⟨m.b, -1, false⟩) HR.out HB0.out HCL.out hml HINV.out (by show (-1 : Int) < 0; omega) rfl
          have hev := rec_ever (n := 50) (m := ⟨m.b, -1, false⟩) hml (by show (-1 : Int) < 0; omega) rfl
          have CR := recover_any tb p1 g1 c1 50 ⟨m.b, -1, false⟩ w9 HX9.out.1 HP9.out.d1 hml (by omega) ⟨(fun e => nomatch e), by show _ ≤ (-1 : Int); omega, by show (-1 : Int) ≤ _; omega⟩
          rw [hev] at hend CR hrl
          generalize apply m.b (againN 50 m.b) = b9 at *
          simp only [if_true] at CR hend hrl
          obtain ⟨-, hor, hcn, hall⟩ := hend
          have hcv : cleanV 50 b9 = true := cleanV_iff.2 fun i h1 h2 _ => by rw [hcn i h1 h2]; decide +kernel
          have CRH := Lib.hid CR
          have HOR : Hid (b9 = b0 ∨ b9 = AF) := Lib.hid (by rw [HAFE.out]; exact hor); have HCN := Lib.hid hcn; have HRL := Lib.hid hrl
          have HALL : Hid (E = 0 → b9 = AF) := Lib.hid fun h => by rw [HAFE.out]; exact hall (HEA.out h)
          have CCL := Lib.hid (fun W (hd : DAt W p1 g1 c1 ⟨b9, -1, false⟩) => clean_any p1 g1 c1 50 ⟨b9, -1, false⟩ W hd hrl (by omega))
          rw [hcv] at CCL
          have CIM := Lib.hid (fun W z d (hd : DAt W p1 g1 c1 ⟨b9, z, d⟩) => image_any p1 g1 c1 ⟨b9, z, d⟩ W hd (by show b9.length ≤ _; omega))
          have CPZ := Lib.hid (fun W (hd : DAt W p1 g1 c1 ⟨b9, -1, false⟩) => power_any p1 g1 c1 ⟨b9, -1, false⟩ 0 W hd)
          have CRZ := Lib.hid (fun W (hT : Crc.Tab W tb) (hd : DAt W p1 g1 c1 ⟨b9, 0, false⟩) => recover_any tb p1 g1 c1 50 ⟨b9, 0, false⟩ W hT hd hrl (by omega) ⟨(fun e => nomatch e), by show _ ≤ (0 : Int); omega, by show (0 : Int) ≤ _; omega⟩)
          rw [rec_clean (n := 50) (m := ⟨b9, 0, false⟩) (by omega) hcn] at CRZ
          simp only [if_true] at CRZ
          have CDD := Lib.hid (fun W (hd : DAt W p1 g1 c1 ⟨b9, 0, false⟩) => dead_any p1 g1 c1 ⟨b9, 0, false⟩ W hd)
          have CSX := Lib.hid (fun W X Y (l1 l2 : List UInt8) d1 d2 (h1 : BytesAt W X l1) (h2 : BytesAt W Y l2) (k1 : l1.length ≤ maxLen) (k2 : l2.length ≤ maxLen) => R01.same_any X Y l1 l2 d1 d2 W h1 h2 k1 k2)
          clear hd9 hk9 CP CR hml hrl hev hor hcn hall hcv HINV HEA HB0 HCL HR HML HP8 HX8 HK9
          go_wp2_with fail
          refine CRH.out.mono ?_
          rintro e w10 ⟨rfl, hd10, hk10⟩
          have HP10 := Lib.hid (HP9.out.step1 hd10 hk10)
          have HX10 := Lib.hid (HXK.out w9 w10 HX9.out hk10)
          have CC10 := Lib.hid (CCL.out w10 hd10)
          clear hd10 hk10 CRH HP9 HX9 CCL
          go_wp2_with fail
          refine CC10.out.mono ?_
          rintro e w11 ⟨rfl, hb11⟩
          have HP11 := Lib.hid (HP10.out.step hb11)
          have HX11 := Lib.hid (HXB.out w10 w11 HX10.out hb11)
          have C11 := Lib.hid (CIM.out w11 (-1) false HP11.out.d1)
          have hlt11 := HP11.out.lt
          clear hb11 CC10 HP10 HX10
          go_wp2_with fail
          refine C11.out.mono ?_
          rintro e w12 ⟨v, rfl, ho, hb12⟩
          obtain ⟨Xn, dn, hv, n1, n2, hXn⟩ := ho.bytes
          have hown := ho.lt
          subst hv
          have HNB : Hid (∀ a, Xn = some a → Off p1 g1 a.block) := Lib.hid fun a e => by
            have := (hown a.block (by rw [e]; rfl)).1
            exact ⟨by omega, by omega⟩
          have HN12 := Lib.hid hXn
          have HP12 := Lib.hid (HP11.out.step hb12)
          have HX12 := Lib.hid (HXB.out w11 w12 HX11.out hb12)
          have HB12 := Lib.hid HP12.out.d2.bytes
          have hbl9 : b9.length ≤ maxLen := Nat.le_trans n1 n2
          clear ho hXn hown hb12 C11 HP11 HX11 hlt11
          by_cases haf : b9 = AF
          · have hsame : same b9 AF = true := by rw [haf]; exact same_self _
            have HAFD := Lib.hid haf
            clear haf
            by_cases hE0 : E = 0
            · have qe : (E == 0) = true := by rw [hE0]; rfl
              have CS1 := CSX.out w12 Xn XA b9 AF dn dA HN12.out HX12.out.2 hbl9 (by exact HAFL.out)
              rw [show same b9 AF = true from hsame] at CS1
              have CSH1 := Lib.hid CS1
              clear CS1
              go_wp2_with fail
              refine CSH1.out.mono ?_
              rintro e w13 ⟨rfl, hq1⟩
              have HBQ1 := Lib.hid (bquiet hq1)
              have HP13 := Lib.hid (HP12.out.step HBQ1.out)
              have HX13 := Lib.hid (HXB.out w12 w13 HX12.out HBQ1.out)
              have HN13 := Lib.hid (HN12.out.below HBQ1.out)
              have HB13 := Lib.hid (HB12.out.below HBQ1.out)
              clear hq1 CSH1
              have CS2 := CSX.out w13 Xn XA b9 AF dn dA HN13.out HX13.out.2 hbl9 (by exact HAFL.out)
              rw [show same b9 AF = true from hsame] at CS2
              have CSH2 := Lib.hid CS2
              clear CS2
              go_wp2_with fail
              refine CSH2.out.mono ?_
              rintro e w14 ⟨rfl, hq2⟩
              have HBQ2 := Lib.hid (bquiet hq2)
              have HP14 := Lib.hid (HP13.out.step HBQ2.out)
              have HX14 := Lib.hid (HXB.out w13 w14 HX13.out HBQ2.out)
              have HN14 := Lib.hid (HN13.out.below HBQ2.out)
              have HB14 := Lib.hid (HB13.out.below HBQ2.out)
              clear hq2 CSH2
              have CP0 := Lib.hid (CPZ.out w14 (HP14.out.d1))
              go_wp2_with fail
              refine CP0.out.mono ?_
              rintro e y1 ⟨rfl, hd1, hk1⟩
              have HK1 : Hid (Keeps (PG p1 g1) w14 y1) := Lib.hid (hk1.mono fun _ _ h => .inl h)
              have HQ1 := Lib.hid (HP14.out.step1 hd1 HK1.out)
              have HT1 := Lib.hid (HXK.out w14 y1 HX14.out HK1.out)
              have HM1 := Lib.hid (HK1.out.bytes HN14.out fun a e => (HNB.out a e).not)
              have CR1 := Lib.hid (CRZ.out y1 HT1.out.1 hd1)
              clear hd1 hk1 CP0 CPZ CRZ
              go_wp2_with fail
              refine CR1.out.mono ?_
              rintro e y2 ⟨rfl, hd2, hk2⟩
              have HQ2 := Lib.hid (HQ1.out.step1 hd2 hk2)
              have HM2 := Lib.hid (hk2.bytes HM1.out fun a e => (HNB.out a e).not)
              have CD2 := Lib.hid (CDD.out y2 hd2)
              clear hd2 hk2 CR1 CDD HQ1 HT1 HM1 HK1
              go_wp2_with fail
              refine CD2.out.mono ?_
              rintro e y3 ⟨rfl, rfl⟩
              have CI2 := Lib.hid (CIM.out y2 0 false HQ2.out.d1)
              clear CD2 CIM
              go_wp2_with fail
              refine CI2.out.mono ?_
              rintro e y4 ⟨v4, rfl, ho4, hb4⟩
              obtain ⟨X4, d4, hv4, z1, z2, hX4⟩ := ho4.bytes
              subst hv4
              have HB4 := Lib.hid (bstep HQ2.out.below hb4)
              have CS4 := CSX.out y4 X4 Xn b9 b9 d4 dn hX4 (HM2.out.below hb4) hbl9 hbl9
              rw [show same b9 b9 = true from same_self b9] at CS4
              have CS5 := Lib.hid CS4
              clear ho4 hb4 hX4 CI2 CS4 CSX HM2 HQ2
              go_wp2_with fail
              refine CS5.out.mono ?_
              rintro e y5 ⟨rfl, hq5⟩
              have HB5 := Lib.hid (bstep HB4.out (bquiet hq5))
              clear hq5 CS5 HB4
              go_wp2_with fail
              refine (alive_any y5).mono ?_
              rintro e y6 ⟨rfl, hb6⟩
              have HB6 := Lib.hid (bstep HB5.out hb6)
              clear hb6
              go_wp2
              go_ret
              exact ⟨rfl, HB6.out⟩
            · have qe : (E == 0) = false := by rw [beq_eq_false_iff_ne]; exact hE0
              have CS1 := CSX.out w12 Xn XA b9 AF dn dA HN12.out HX12.out.2 hbl9 (by exact HAFL.out)
              rw [show same b9 AF = true from hsame] at CS1
              have CSH1 := Lib.hid CS1
              clear CS1
              go_wp2_with fail
              refine CSH1.out.mono ?_
              rintro e w13 ⟨rfl, hq1⟩
              have HBQ1 := Lib.hid (bquiet hq1)
              have HP13 := Lib.hid (HP12.out.step HBQ1.out)
              have HX13 := Lib.hid (HXB.out w12 w13 HX12.out HBQ1.out)
              have HN13 := Lib.hid (HN12.out.below HBQ1.out)
              have HB13 := Lib.hid (HB12.out.below HBQ1.out)
              clear hq1 CSH1
              have CP0 := Lib.hid (CPZ.out w13 (HP13.out.d1))
              go_wp2_with fail
              refine CP0.out.mono ?_
              rintro e y1 ⟨rfl, hd1, hk1⟩
              have HK1 : Hid (Keeps (PG p1 g1) w13 y1) := Lib.hid (hk1.mono fun _ _ h => .inl h)
              have HQ1 := Lib.hid (HP13.out.step1 hd1 HK1.out)
              have HT1 := Lib.hid (HXK.out w13 y1 HX13.out HK1.out)
              have HM1 := Lib.hid (HK1.out.bytes HN13.out fun a e => (HNB.out a e).not)
              have CR1 := Lib.hid (CRZ.out y1 HT1.out.1 hd1)
              clear hd1 hk1 CP0 CPZ CRZ
              go_wp2_with fail
              refine CR1.out.mono ?_
              rintro e y2 ⟨rfl, hd2, hk2⟩
              have HQ2 := Lib.hid (HQ1.out.step1 hd2 hk2)
              have HM2 := Lib.hid (hk2.bytes HM1.out fun a e => (HNB.out a e).not)
              have CD2 := Lib.hid (CDD.out y2 hd2)
              clear hd2 hk2 CR1 CDD HQ1 HT1 HM1 HK1
              go_wp2_with fail
              refine CD2.out.mono ?_
              rintro e y3 ⟨rfl, rfl⟩
              have CI2 := Lib.hid (CIM.out y2 0 false HQ2.out.d1)
              clear CD2 CIM
              go_wp2_with fail
              refine CI2.out.mono ?_
              rintro e y4 ⟨v4, rfl, ho4, hb4⟩
              obtain ⟨X4, d4, hv4, z1, z2, hX4⟩ := ho4.bytes
              subst hv4
              have HB4 := Lib.hid (bstep HQ2.out.below hb4)
              have CS4 := CSX.out y4 X4 Xn b9 b9 d4 dn hX4 (HM2.out.below hb4) hbl9 hbl9
              rw [show same b9 b9 = true from same_self b9] at CS4
              have CS5 := Lib.hid CS4
              clear ho4 hb4 hX4 CI2 CS4 CSX HM2 HQ2
              go_wp2_with fail
              refine CS5.out.mono ?_
              rintro e y5 ⟨rfl, hq5⟩
              have HB5 := Lib.hid (bstep HB4.out (bquiet hq5))
              clear hq5 CS5 HB4
              go_wp2_with fail
              refine (alive_any y5).mono ?_
              rintro e y6 ⟨rfl, hb6⟩
              have HB6 := Lib.hid (bstep HB5.out hb6)
              clear hb6
              go_wp2
              go_ret
              exact ⟨rfl, HB6.out⟩
          · have hb90 : b9 = b0 := by
              rcases HOR.out with h | h
              · exact h
              · exact absurd h haf
            have hE0 : ¬ E = 0 := fun h => haf (HALL.out h)
            have hdiff : same b9 AF = false := decide_eq_false haf
            have hsame : same b9 b0 = true := by rw [hb90]; exact same_self _
            have qe : (E == 0) = false := by rw [beq_eq_false_iff_ne]; exact hE0
            clear haf hb90 hE0
            have CS1 := CSX.out w12 Xn XA b9 AF dn dA HN12.out HX12.out.2 hbl9 (by exact HAFL.out)
            rw [show same b9 AF = false from hdiff] at CS1
            have CSH1 := Lib.hid CS1
            clear CS1
            go_wp2_with fail
            refine CSH1.out.mono ?_
            rintro e w13 ⟨rfl, hq1⟩
            have HBQ1 := Lib.hid (bquiet hq1)
            have HP13 := Lib.hid (HP12.out.step HBQ1.out)
            have HX13 := Lib.hid (HXB.out w12 w13 HX12.out HBQ1.out)
            have HN13 := Lib.hid (HN12.out.below HBQ1.out)
            have HB13 := Lib.hid (HB12.out.below HBQ1.out)
            clear hq1 CSH1
            have CS2 := CSX.out w13 Xn (some ⟨g2, 0, none⟩) b9 b0 dn c2 HN13.out HB13.out hbl9 (by exact HB0L.out)
            rw [show same b9 b0 = true from hsame] at CS2
            have CSH2 := Lib.hid CS2
            clear CS2
            go_wp2_with fail
            refine CSH2.out.mono ?_
            rintro e w14 ⟨rfl, hq2⟩
            have HBQ2 := Lib.hid (bquiet hq2)
            have HP14 := Lib.hid (HP13.out.step HBQ2.out)
            have HX14 := Lib.hid (HXB.out w13 w14 HX13.out HBQ2.out)
            have HN14 := Lib.hid (HN13.out.below HBQ2.out)
            have HB14 := Lib.hid (HB13.out.below HBQ2.out)
            clear hq2 CSH2
            have CP0 := Lib.hid (CPZ.out w14 (HP14.out.d1))
            go_wp2_with fail
            refine CP0.out.mono ?_
            rintro e y1 ⟨rfl, hd1, hk1⟩
            have HK1 : Hid (Keeps (PG p1 g1) w14 y1) := Lib.hid (hk1.mono fun _ _ h => .inl h)
            have HQ1 := Lib.hid (HP14.out.step1 hd1 HK1.out)
            have HT1 := Lib.hid (HXK.out w14 y1 HX14.out HK1.out)
            have HM1 := Lib.hid (HK1.out.bytes HN14.out fun a e => (HNB.out a e).not)
            have CR1 := Lib.hid (CRZ.out y1 HT1.out.1 hd1)
            clear hd1 hk1 CP0 CPZ CRZ
            go_wp2_with fail
            refine CR1.out.mono ?_
            rintro e y2 ⟨rfl, hd2, hk2⟩
            have HQ2 := Lib.hid (HQ1.out.step1 hd2 hk2)
            have HM2 := Lib.hid (hk2.bytes HM1.out fun a e => (HNB.out a e).not)
            have CD2 := Lib.hid (CDD.out y2 hd2)
            clear hd2 hk2 CR1 CDD HQ1 HT1 HM1 HK1
            go_wp2_with fail
            refine CD2.out.mono ?_
            rintro e y3 ⟨rfl, rfl⟩
            have CI2 := Lib.hid (CIM.out y2 0 false HQ2.out.d1)
            clear CD2 CIM
            go_wp2_with fail
            refine CI2.out.mono ?_
            rintro e y4 ⟨v4, rfl, ho4, hb4⟩
            obtain ⟨X4, d4, hv4, z1, z2, hX4⟩ := ho4.bytes
            subst hv4
            have HB4 := Lib.hid (bstep HQ2.out.below hb4)
            have CS4 := CSX.out y4 X4 Xn b9 b9 d4 dn hX4 (HM2.out.below hb4) hbl9 hbl9
            rw [show same b9 b9 = true from same_self b9] at CS4
            have CS5 := Lib.hid CS4
            clear ho4 hb4 hX4 CI2 CS4 CSX HM2 HQ2
            go_wp2_with fail
            refine CS5.out.mono ?_
            rintro e y5 ⟨rfl, hq5⟩
            have HB5 := Lib.hid (bstep HB4.out (bquiet hq5))
            clear hq5 CS5 HB4
            go_wp2_with fail
            refine (alive_any y5).mono ?_
            rintro e y6 ⟨rfl, hb6⟩
            have HB6 := Lib.hid (bstep HB5.out hb6)
            clear hb6
            go_wp2
            go_ret
            exact ⟨rfl, HB6.out⟩
end Go.Proofs.Ytapgpibindhlfaa.Law19
