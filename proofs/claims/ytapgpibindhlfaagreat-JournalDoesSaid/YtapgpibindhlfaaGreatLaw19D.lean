/- the walk of JournalDoes -/
import Derived.Test.YtapgpibindhlfaaGreatLaw19B
import Derived.Test.YtapgpibindhlfaaGreatMRJ
import Derived.Test.YtapgpibindhlfaaGreatSkip
set_option maxRecDepth 100000
namespace Go.Proofs.YtapgpibindhlfaaGreat.Law19
open Go.RowKit EntM DiskM JourM Disk Jour
open Law16 (Fine nrm nrm_write)

theorem doS_right {n : Nat} {m : Dk} {l : List Ch} (hr : Right n l) (hb : m.b.length = 64 * n) (hc : clean m.b) : doS n m l = ((runW m (writes l)).1, if (runW m (writes l)).2 = true then 0 else 15) := by
  by_cases h : l = []
  · subst h
    unfold doS
    rw [if_neg (by rw [(checkV_may []).2 hr.may]; decide), if_neg (fun k => k hr.there), if_pos rfl]
    rfl
  · exact doS_of h hr hb hc
theorem again_few (z : Nat) (b : List UInt8) : (againN z b).length ≤ 1000000 := by
  unfold againN
  rw [List.length_append]
  have h1 := (said_may z b).1.few
  have h2 : (clearsN z b).length ≤ 33 := by rw [← R19.clearsTo_all]; exact R19.clearsTo_len _ _ _
  omega
theorem writes_few {l : List Ch} (h : May l) (hl : l.length ≤ 20) : (writes l).length ≤ 1000000 := by
  have hb := JourM.bodies_le h
  unfold writes
  split
  · simp
  · simp; omega
set_option maxHeartbeats 16000000 in
theorem does_any (n : UInt8) (A : Option Addr) (l : List Ch) (cl : Nat) (x0 x1 : Int) (w : World) (h : ChsAt w A l) (hlc : l.length ≤ cl) (hcm : cl ≤ maxLen) (hx0 : -9223372036854775808 ≤ x0 ∧ x0 ≤ 9223372036854775807) (hx1 : -9223372036854775808 ≤ x1 ∧ x1 ≤ 9223372036854775807) :
    Calls Tryz.prog 3 #[.int .u8 (n.toNat : Nat), .slice A l.length cl, .agg #[.int .i64 x0, .int .i64 x1]] w fun e w' => e = .returned (.bool true) ∧ Below w.heap.size w w' := by
  have hll : l.length ≤ 9223372036854775807 := by unfold maxLen at hcm; omega
  have hbx := balloc w (.cells #[.int .i64 x0, .int .i64 x1] 23)
  have HLi := Lib.hid (few_any A l cl _ (h.below hbx) hll)
  have HLL : Hid (0 < l.length → ∀ a, A = some a → a.block < w.heap.size) := Lib.hid (R19.chs_block h)
  rcases hfew : fewB l with _ | _
  · rw [hfew] at HLi
    clear h
    go_enter Tryz.func3, Tryz.ntmps3
    go_wp2_with fail
    refine HLi.out.mono ?_
    rintro e w1 ⟨rfl, hb1⟩
    go_wp2_with fail
    refine (alive_any w1).mono ?_
    rintro e w2 ⟨rfl, hb2⟩
    go_wp2
    go_ret
    exact ⟨rfl, bstep (bstep hbx hb1) hb2⟩
  rw [hfew] at HLi
  obtain ⟨hl100, hl20⟩ := (fewB_iff l).1 hfew
  obtain ⟨y, hy⟩ : ∃ y, y = n.toNat % 60 := ⟨_, rfl⟩
  have hy60 : y < 60 := by rw [hy]; exact Nat.mod_lt _ (by omega)
  have i1 : (((n.toNat : Nat) : Int)).tmod 60 = ((y : Nat) : Int) := by rw [hy]; rfl
  have i2 : (((n.toNat : Nat) : Int)) % 60 = ((y : Nat) : Int) := by rw [hy]; rfl
  have i3 : IntKind.i64.wrap ((y : Nat) : Int) = ((y : Nat) : Int) := IntWalk.i64_in _ (by omega)
  have CS := Lib.hid (fun W A c (hA : BytesAt W A [3, 1, 4]) => some_any y A [3, 1, 4] c W (by omega) hA (by simp) (by simp))
  obtain ⟨z, hz⟩ : ∃ z, z = size (y : Int) := ⟨_, rfl⟩
  have hsz := size_range (y : Int)
  have hz60 := (size_small (n := y) (by omega)).1
  rw [← hz] at CS hsz hz60
  have HSZ := Lib.hid hsz; have HZ60 := Lib.hid hz60
  have HLC := Lib.hid h
  have HL20 := Lib.hid hl20
  have CCK := Lib.hid (fun W (hC : ChsAt W A l) => R19.chk_any z A l cl W (by omega) hC (by omega))
  have HX0R : Hid (-9223372036854775808 ≤ x0 ∧ x0 ≤ 9223372036854775807) := Lib.hid hx0
  have HX1R : Hid (-9223372036854775808 ≤ x1 ∧ x1 ≤ 9223372036854775807) := Lib.hid hx1
  obtain ⟨ln, hln⟩ : ∃ ln, ln = l.length := ⟨_, rfl⟩
  have HLN := Lib.hid hln
  rw [← hln] at HLi CCK hlc ⊢
  have hc0 : (w.alloc (.cells #[.int .i64 x0, .int .i64 x1] 23)).cell? ⟨w.heap.size, 0, none⟩ = some (.int .i64 x0) := by simp
  have hc1 : (w.alloc (.cells #[.int .i64 x0, .int .i64 x1] 23)).cell? ⟨w.heap.size, 1, none⟩ = some (.int .i64 x1) := by simp
  have HC0 := Lib.hid hc0; have HC1 := Lib.hid hc1
  have HBX := Lib.hid hbx
  clear h hfew hl100 hl20 hll hln hy hz hsz hz60 hx0 hx1 hc0 hc1 hbx
  go_enter Tryz.func3, Tryz.ntmps3
  go_wp2_with fail
  obtain ⟨q, hq⟩ : ∃ q, q = w.heap.size := ⟨_, rfl⟩
  rw [← hq] at HC0 HC1 ⊢
  have hqs : q < (w.alloc (.cells #[.int .i64 x0, .int .i64 x1] 23)).heap.size := by rw [hq]; simp
  generalize w.alloc (.cells #[.int .i64 x0, .int .i64 x1] 23) = w0 at *
  have HQ := Lib.hid hq
  clear hq
  refine HLi.out.mono ?_
  rintro e w1 ⟨rfl, hb1⟩
  have HB1 := Lib.hid hb1
  clear hb1 HLi
  go_wp2_with fail
  refine (Crc.new_any _).mono ?_
  rintro e w2 ⟨tb, rfl, ht, hb2⟩
  have hb3 := balloc w2 (.cells #[.int .u8 3, .int .u8 1, .int .u8 4] 5)
  have HT3 := Lib.hid (ht.below hb3)
  have HB03 := Lib.hid (bstep (bstep HB1.out hb2) hb3)
  have htl : tb < w2.heap.size := cell_lt (a := ⟨tb, 0, none⟩) (ht 0 (by decide))
  have hlit : BytesAt (w2.alloc (.cells #[.int .u8 3, .int .u8 1, .int .u8 4] 5)) (some ⟨w2.heap.size, 0, none⟩) [3, 1, 4] := bytes_mark w2 [3, 1, 4] (0, 0) w2.heap.size rfl
  have C3 := Lib.hid (CS.out _ _ 3 hlit)
  have hz3 : (w2.alloc (.cells #[.int .u8 3, .int .u8 1, .int .u8 4] 5)).heap.size = w2.heap.size + 1 := by simp
  clear ht hb2 hb3 hlit CS HB1
  go_wp2_with fail
  refine C3.out.mono ?_
  rintro e w4 ⟨p1, g1, c1, p2, g2, c2, b0, rfl, hpr, hbl0, hcl0⟩
  have hw03 := HB03.out.size
  have hwx := HBX.out.size
  have hn1 := hpr.n1; have hn2 := hpr.n2
  have HTB : Hid ((tb ≠ p1 ∧ tb ≠ g1 ∧ tb ≠ p2 ∧ tb ≠ g2) ∧ q ≠ p1 ∧ q ≠ g1 ∧ q ≠ p2 ∧ q ≠ g2) := Lib.hid (by omega)
  have HTK : Hid (∀ W W', (Crc.Tab W tb ∧ W.cell? ⟨q, 1, none⟩ = some (.int .i64 x1)) → Keeps (fun k => PG p1 g1 k ∨ PG p2 g2 k) W W' → (Crc.Tab W' tb ∧ W'.cell? ⟨q, 1, none⟩ = some (.int .i64 x1))) := Lib.hid fun W W' hT qk => ⟨fun i hi => qk.cell (hT.1 i hi) (fun e => by
    have := HTB.out.1
    rcases e with (e | e) | (e | e) <;> (simp only at e; omega)), qk.cell hT.2 (fun e => by
    have := HTB.out.2
    rcases e with (e | e) | (e | e) <;> (simp only at e; omega))⟩
  have HTBL : Hid (∀ W W', (Crc.Tab W tb ∧ W.cell? ⟨q, 1, none⟩ = some (.int .i64 x1)) → Below W.heap.size W W' → (Crc.Tab W' tb ∧ W'.cell? ⟨q, 1, none⟩ = some (.int .i64 x1))) := Lib.hid fun W W' hT hb => ⟨hT.1.below hb, (hb.cell (p := ⟨q, 1, none⟩) (cell_lt hT.2)).trans hT.2⟩
  have HT4 : Hid (Crc.Tab w4 tb ∧ w4.cell? ⟨q, 1, none⟩ = some (.int .i64 x1)) := Lib.hid (HTBL.out _ _ ⟨HT3.out, (HB03.out.cell (p := ⟨q, 1, none⟩) (cell_lt HC1.out)).trans HC1.out⟩ hpr.below)
  have e00 : w4.cell? ⟨q, 0, none⟩ = some (.int .i64 x0) := ((bstep HB03.out hpr.below).cell (p := ⟨q, 0, none⟩) (cell_lt HC0.out)).trans HC0.out
  have HP4 : Hid (Pair w p1 g1 c1 p2 g2 c2 ⟨b0, -1, false⟩ ⟨b0, -1, false⟩ w4) := Lib.hid ⟨hpr.d1, hpr.d2, ⟨by omega, by omega⟩, ⟨by omega, by omega⟩, hpr.apart, bstep (bstep HBX.out HB03.out) hpr.below⟩
  have HB0 := Lib.hid hbl0
  have HCL : Hid (34 ≤ z → clean b0) := Lib.hid fun hz i h1 h2 => hcl0 i h1 h2 (by omega)
  clear hpr hbl0 hcl0 hw03 hwx hn1 hn2 hz3 htl HT3 HB03 C3 HC0 HC1 HBX hqs
  have CP1 := Lib.hid (power_any p1 g1 c1 ⟨b0, -1, false⟩ x0 w4 HP4.out.d1)
  have CP2 := Lib.hid (fun W (hd : DAt W p2 g2 c2 ⟨b0, -1, false⟩) => R16.power_any p2 g2 c2 ⟨b0, -1, false⟩ x0 W hd)
  rw [show (⟨b0, -1, false⟩ : Dk).power x0 = nrm ⟨b0, x0, false⟩ from rfl] at CP2
  go_wp2_with fail
  refine CP1.out.mono ?_
  rintro e w5 ⟨rfl, hd5, hk5⟩
  have HP5 := Lib.hid (HP4.out.step1 hd5 (hk5.mono (G := PG p1 g1) fun _ _ h => .inl h))
  have HK5 : Hid (Keeps (fun k => PG p1 g1 k ∨ PG p2 g2 k) w4 w5) := Lib.hid (hk5.mono fun _ _ h => .inl (.inl h))
  have HT5 := Lib.hid (HTK.out w4 w5 HT4.out HK5.out)
  have e05 := HK5.out.cell e00 (fun e => by
    have := HTB.out.2
    rcases e with (e | e) | (e | e) <;> (simp only at e; omega))
  have CP3 := Lib.hid (CP2.out w5 HP5.out.d2)
  clear hd5 hk5 CP1 CP2 HP4 HT4 HK5 e00
  go_wp2_with fail
  refine CP3.out.mono ?_
  rintro e w6 ⟨rfl, hd6, hk6⟩
  have HP6 := Lib.hid (HP5.out.step2 hd6 (hk6.mono (G := PG p2 g2) fun _ _ h => .inl h))
  have HT6 := Lib.hid (HTK.out w5 w6 HT5.out (hk6.mono fun _ _ h => .inr (.inl h)))
  clear hd6 hk6 CP3 e05 HP5 HT5
  have hF0 : Fine ⟨b0, x0, false⟩ := ⟨(fun e => nomatch e), HX0R.out⟩
  have HF0 := Lib.hid hF0
  have hcp : ChsP (Off p1 g1) w6 A l := ((ChsP.of HLC.out).mono (Q := Off p1 g1) fun k _ hk => by have := HP6.out.n1; exact ⟨by omega, by omega⟩).below HP6.out.below
  have CDO := do_any tb p1 g1 c1 z ⟨b0, x0, false⟩ A l cl w6 HT6.out.1 HP6.out.d1 HB0.out (by have := HSZ.out; omega) hF0 hcp (by have := HL20.out; omega)
  rw [← HLN.out] at CDO
  have hdl : (doS z ⟨b0, x0, false⟩ l).1.b.length = 64 * z ∧ Fine (doS z ⟨b0, x0, false⟩ l).1 := by
    unfold doS
    split
    · exact ⟨HB0.out, HF0.out⟩
    · split
      · exact ⟨HB0.out, HF0.out⟩
      · split
        · exact ⟨HB0.out, HF0.out⟩
        · exact ⟨by rw [runS_len]; exact HB0.out, Fine.runS HF0.out _⟩
  have hck0 : R19.chkV z l = 0 → May l ∧ doS z ⟨b0, x0, false⟩ l = ((runW ⟨b0, x0, false⟩ (writes l)).1, if (runW ⟨b0, x0, false⟩ (writes l)).2 = true then 0 else 15) := fun hck => by
    have hright : Right z l := by
      unfold R19.chkV at hck
      by_cases hv : checkV l = 0
      · rw [if_neg (by simpa using hv)] at hck
        by_cases hth : there z l
        · exact ⟨(checkV_may l).1 hv, hth⟩
        · rw [if_neg hth] at hck; cases hck
      · rw [if_pos hv] at hck; exact absurd hck hv
    exact ⟨hright.may, doS_right (n := z) (m := ⟨b0, x0, false⟩) hright HB0.out (HCL.out hright.there.1)⟩
  have hck1 : R19.chkV z l ≠ 0 → doS z ⟨b0, x0, false⟩ l = (⟨b0, x0, false⟩, R19.chkV z l) := fun hck => by
    by_cases hv : checkV l = 0
    · have hv2 : ¬ checkV l ≠ 0 := fun h => h hv
      by_cases hth : there z l
      · exact absurd (by unfold R19.chkV; rw [if_neg hv2, if_pos hth]) hck
      · have e1 : R19.chkV z l = 2 := by unfold R19.chkV; rw [if_neg hv2, if_neg hth]
        have e2 : doS z ⟨b0, x0, false⟩ l = (⟨b0, x0, false⟩, 2) := by unfold doS; rw [if_neg hv2, if_pos hth]
        rw [e1, e2]
    · have e1 : R19.chkV z l = checkV l := if_pos hv
      have e2 : doS z ⟨b0, x0, false⟩ l = (⟨b0, x0, false⟩, checkV l) := if_pos hv
      rw [e1, e2]
  have HCK0 := Lib.hid hck0; have HCK1 := Lib.hid hck1
  have hfacts := hdl
  generalize hdo : doS z ⟨b0, x0, false⟩ l = st at *
  obtain ⟨m1, E⟩ := st
  simp only at CDO hdl
  have HL1 := Lib.hid hdl.1; have HF1 := Lib.hid hdl.2
  have CD := Lib.hid CDO
  clear hcp hF0 CDO hdl hfacts hck0 hck1 hdo
  go_wp2_with fail
  refine CD.out.mono ?_
  rintro e w7 ⟨rfl, hd7, hk7⟩
  have HP7 := Lib.hid (HP6.out.step1 hd7 hk7)
  have HT7 := Lib.hid (HTK.out w6 w7 HT6.out (hk7.mono fun _ _ h => .inl h))
  have CSZ := size_any p1 g1 c1 m1 w7 hd7 (by rw [HL1.out]; have := HZ60.out; omega)
  rw [show m1.b.length / 64 = z from by rw [HL1.out]; omega] at CSZ
  have CSZH := Lib.hid CSZ
  have CCK7 := Lib.hid (CCK.out w7 (HLC.out.below HP7.out.below))
  clear hd7 hk7 CD CSZ CCK HP6 HT6
  go_wp2_with fail
  refine CSZH.out.mono ?_
  rintro e w7b ⟨rfl, rfl⟩
  clear CSZH
  by_cases hck : R19.chkV z l = 0
  · obtain ⟨hmay, hdo⟩ := HCK0.out hck
    injection hdo with hm1 hE1
    have HM1 := Lib.hid hm1; have HE1 := Lib.hid hE1
    rw [hck] at CCK7
    clear hck HCK0 HCK1 hm1 hE1
    go_wp2_with fail
    refine CCK7.out.mono ?_
    rintro e w8 ⟨rfl, hb8⟩
    have HP8 := Lib.hid (HP7.out.step hb8)
    have HT8 := Lib.hid (HTBL.out _ _ HT7.out hb8)
    have hcp2 : ChsP (Off p2 g2) w8 A l := ((ChsP.of HLC.out).mono (Q := Off p2 g2) fun k _ hk => by have := HP8.out.n2; exact ⟨by omega, by omega⟩).below HP8.out.below
    have CWR := R19.writes_any p2 g2 A l cl w8 hmay hcp2 HP8.out.lt.2.1 HP8.out.lt.2.2
    rw [← HLN.out] at CWR
    have CWRH := Lib.hid CWR
    have hinr0 : R19.InR (nrm ⟨b0, x0, false⟩).left := Law16.nrm_range HF0.out
    have CWA := Lib.hid (fun W X d (hd : DAt W p2 g2 c2 (nrm ⟨b0, x0, false⟩)) hX hXa => R19.writeAll_any p2 g2 c2 (nrm ⟨b0, x0, false⟩) X (writes l) d W hd (by show b0.length ≤ _; rw [HB0.out]; have := HZ60.out; omega) hinr0 hX hXa (writes_few hmay HL20.out))
    rw [nrm_runW] at CWA
    simp only at CWA
    have hm1 := HM1.out; have hE1 := HE1.out
    rw [← hm1, ← hE1] at CWA
    have hlt8 := HP8.out.lt
    clear hb8 hcp2 CWR hinr0 hm1 hE1 HM1 HE1 CCK7 HP7 HT7 hmay
    generalize writes l = WL at *
    go_wp2_with fail
    refine CWRH.out.mono ?_
    rintro e w9 ⟨XW, dW, rfl, y1, y2, y3, hb9, y4⟩
    have HP9a := Lib.hid (HP8.out.step hb9)
    have HT9a := Lib.hid (HTBL.out _ _ HT8.out hb9)
    have CW9 := Lib.hid (CWA.out w9 XW dW HP9a.out.d2 y3 (fun _ a e => by have := y4 a e; exact ⟨by omega, by omega⟩))
    clear y3 y4 hb9 CWRH CWA HP8 HT8 hlt8
    generalize WL.length = wln at *
    go_wp2_with fail
    refine CW9.out.mono ?_
    rintro e wA ⟨rfl, hdA, hkA⟩
    have HPA := Lib.hid (HP9a.out.step2 hdA hkA)
    have HTA := Lib.hid (HTK.out w9 wA HT9a.out (hkA.mono fun _ _ h => .inr h))
    clear hdA hkA CW9 HP9a HT9a HLC HLL HX0R HF0 HCL HB0 HL20 i1 i2 i3 hy60 hlc hcm
    have HEA := HPA.out.d2.c0
    rw [show (nrm m1).b = m1.b from rfl] at HEA
    have hb1l : m1.b.length ≤ 32768 := by rw [HL1.out]; have := HZ60.out; omega
    have CIM : Hid (∀ W, Below wA.heap.size wA W → Calls Tryz.prog 16 #[.pointer (some ⟨p1, 0, none⟩)] W (Disk.RetOwn W m1.b)) := Lib.hid fun W hb => image_any p1 g1 c1 m1 W (HPA.out.d1.below hb) hb1l
    have CSA : Hid (∀ W X d, Below wA.heap.size wA W → BytesAt W X m1.b → m1.b.length ≤ maxLen → Calls Tryz.prog 15 #[.slice X m1.b.length d, .slice (some ⟨g2, 0, none⟩) m1.b.length c2] W fun e w' => e = .returned (.bool true) ∧ ∃ n, w' = W.drewN n) := Lib.hid fun W X d hb hX hm => R01.same_eq X (some ⟨g2, 0, none⟩) m1.b m1.b d c2 W hX ((HPA.out.d2.bytes).below hb) hm rfl
    have hml : m1.b.length ≤ maxLen := by unfold maxLen; omega
    have hb0l : 0 < m1.b.length := by rw [HL1.out]; have := HSZ.out; omega
    obtain ⟨b1, hb1e⟩ : ∃ b1, b1 = m1.b := ⟨_, rfl⟩
    rw [← hb1e] at HEA CIM CSA hml hb0l
    have hne0 : (((b1.length : Nat) : Int) == 0) = false := by rw [beq_eq_false_iff_ne]; omega
    have hne1 : (b1.length == 0) = false := by rw [beq_eq_false_iff_ne]; omega
    have hne2 : b1.length ≠ 0 := by omega
    have EB := Lib.hid HEA
    have HB1E := Lib.hid hb1e
    clear HEA hb1e hb1l
    go_wp2_with fail
    refine Drawn.wp_region_flowL 21 [Drawn.SP.is (.int .i64 E), Drawn.SP.is (.int .i64 E), Drawn.SP.is (.bool false), Drawn.SP.is (.bool false), Drawn.SP.is (.pointer (some ⟨p1, 0, none⟩)), Drawn.SP.bytes b1, Drawn.SP.is (.pointer (some ⟨p2, 0, none⟩)), Drawn.SP.is (.pointer (some ⟨p2, 0, none⟩)), Drawn.SP.is (.pointer (some ⟨p2, 0, none⟩)), Drawn.SP.is (.slice (some ⟨g2, 0, none⟩) b1.length c2), Drawn.SP.is (.bool true), Drawn.SP.is (.bool false), Drawn.SP.is (.bool false), Drawn.SP.is (.bool false), Drawn.SP.is (.pointer (some ⟨p2, 0, none⟩)), Drawn.SP.is (.pointer (some ⟨p2, 0, none⟩)), Drawn.SP.is (.pointer (some ⟨p2, 0, none⟩)), Drawn.SP.is (.slice (some ⟨g2, 0, none⟩) b1.length c2), Drawn.SP.is (.int .i64 (b1.length : Nat)), Drawn.SP.is (.bool false), Drawn.SP.is (.bool false)] (by kernel_rfl) (by kernel_rfl) ?_ ?_
    · intro i hi a w1 hb hev hdep
      rcases (show i = 0 ∨ i = 1 ∨ i = 2 ∨ i = 3 ∨ i = 4 ∨ i = 5 ∨ i = 6 ∨ i = 7 ∨ i = 8 ∨ i = 9 ∨ i = 10 ∨ i = 11 ∨ i = 12 ∨ i = 13 ∨ i = 14 ∨ i = 15 ∨ i = 16 ∨ i = 17 ∨ i = 18 ∨ i = 19 ∨ i = 20 by omega) with rfl | rfl | rfl | rfl | rfl | rfl | rfl | rfl | rfl | rfl | rfl | rfl | rfl | rfl | rfl | rfl | rfl | rfl | rfl | rfl | rfl
      · have e10 : a.tmps[10]?.getD undef = .int .i64 E := hev 10 rfl
        refine Drawn.wpOp_flow 47 rfl rfl rfl ?_
        clear hev hdep hb
        go_simp
        exact ⟨_, rfl, rfl, Below.refl _ _⟩
      · have e11 : a.tmps[11]?.getD undef = .int .i64 E := hev 11 rfl
        refine Drawn.wpOp_flow 48 rfl rfl rfl ?_
        clear hev hdep hb
        go_simp
        exact ⟨_, rfl, rfl, Below.refl _ _⟩
      · have d0 : a.tmps[47]?.getD undef = .int .i64 E := hdep 0 rfl
        have d1 : a.tmps[48]?.getD undef = .int .i64 E := hdep 1 rfl
        refine Drawn.wpOp_flow 49 rfl rfl rfl ?_
        clear hev hdep hb
        go_simp
        exact ⟨_, rfl, rfl, Below.refl _ _⟩
      · have d2 : a.tmps[49]?.getD undef = .bool false := hdep 2 rfl
        refine Drawn.wpOp_flow 50 rfl rfl rfl ?_
        clear hev hdep hb
        go_simp
        exact ⟨_, rfl, rfl, Below.refl _ _⟩
      · have e8 : a.tmps[8]?.getD undef = .pointer (some ⟨p1, 0, none⟩) := hev 8 rfl
        have dg : a.tmps[50]?.getD undef = .bool false := hdep 3 rfl
        refine Drawn.wpOp_flow 51 rfl (Drawn.wanted_of rfl rfl rfl dg) rfl ?_
        clear dg
        clear hev hdep hb
        go_simp
        exact ⟨_, rfl, rfl, Below.refl _ _⟩
      · have d4 : a.tmps[51]?.getD undef = .pointer (some ⟨p1, 0, none⟩) := hdep 4 rfl
        have dg : a.tmps[50]?.getD undef = .bool false := hdep 3 rfl
        refine Drawn.wpOp_flow 52 rfl (Drawn.wanted_of rfl rfl rfl dg) rfl ?_
        clear hev hdep
        have C := CIM.out w1 hb
        clear hb
        go_simp
        refine C.mono ?_
        rintro e w' ⟨v, rfl, ho, hb'⟩
        obtain ⟨X, d, rfl, q1, q2, q3⟩ := ho.bytes
        exact ⟨_, rfl, ⟨X, d, rfl, q1, q2, q3⟩, hb'⟩
      · have e9 : a.tmps[9]?.getD undef = .pointer (some ⟨p2, 0, none⟩) := hev 9 rfl
        have dg : a.tmps[50]?.getD undef = .bool false := hdep 3 rfl
        refine Drawn.wpOp_flow 53 rfl (Drawn.wanted_of rfl rfl rfl dg) rfl ?_
        clear dg
        clear hev hdep hb
        go_simp
        exact ⟨_, rfl, rfl, Below.refl _ _⟩
      · have d6 : a.tmps[53]?.getD undef = .pointer (some ⟨p2, 0, none⟩) := hdep 6 rfl
        have dg : a.tmps[50]?.getD undef = .bool false := hdep 3 rfl
        refine Drawn.wpOp_flow 54 rfl (Drawn.wanted_of rfl rfl rfl dg) rfl ?_
        clear dg
        clear hev hdep hb
        go_simp
        exact ⟨_, rfl, rfl, Below.refl _ _⟩
      · have d7 : a.tmps[54]?.getD undef = .pointer (some ⟨p2, 0, none⟩) := hdep 7 rfl
        have dg : a.tmps[50]?.getD undef = .bool false := hdep 3 rfl
        refine Drawn.wpOp_flow 55 rfl (Drawn.wanted_of rfl rfl rfl dg) rfl ?_
        clear dg
        clear hev hdep hb
        go_simp
        exact ⟨_, rfl, rfl, Below.refl _ _⟩
      · have d8 : a.tmps[55]?.getD undef = .pointer (some ⟨p2, 0, none⟩) := hdep 8 rfl
        have dg : a.tmps[50]?.getD undef = .bool false := hdep 3 rfl
        refine Drawn.wpOp_flow 56 rfl (Drawn.wanted_of rfl rfl rfl dg) rfl ?_
        have k1 := (hb.cell (p := ⟨p2, 0, none⟩) (cell_lt EB.out)).trans EB.out
        clear dg
        clear hev hdep hb
        go_simp
        exact ⟨_, rfl, rfl, Below.refl _ _⟩
      · obtain ⟨Xd5, dd5, d5, hd5, kd5, qd5⟩ : (Drawn.SP.bytes b1).p (a.tmps[52]?.getD undef) w1 := hdep 5 rfl
        have d9 : a.tmps[56]?.getD undef = .slice (some ⟨g2, 0, none⟩) b1.length c2 := hdep 9 rfl
        have dg : a.tmps[50]?.getD undef = .bool false := hdep 3 rfl
        refine Drawn.wpOp_flow 57 rfl (Drawn.wanted_of rfl rfl rfl dg) rfl ?_
        clear hev hdep
        have C := CSA.out w1 Xd5 dd5 hb qd5 hml
        clear hb
        go_simp
        refine C.mono ?_
        rintro e w' ⟨rfl, hq⟩
        exact ⟨_, rfl, rfl, bquiet hq⟩
      · have d10 : a.tmps[57]?.getD undef = .bool true := hdep 10 rfl
        have dg : a.tmps[50]?.getD undef = .bool false := hdep 3 rfl
        refine Drawn.wpOp_flow 58 rfl (Drawn.wanted_of rfl rfl rfl dg) rfl ?_
        clear dg
        clear hev hdep hb
        go_simp
        exact ⟨_, rfl, rfl, Below.refl _ _⟩
      · have d3 : a.tmps[50]?.getD undef = .bool false := hdep 3 rfl
        have d11 : a.tmps[58]?.getD undef = .bool false := hdep 11 rfl
        refine Drawn.wpOp_flow 59 rfl rfl rfl ?_
        clear hev hdep hb
        go_simp
        exact ⟨_, rfl, rfl, Below.refl _ _⟩
      · have d12 : a.tmps[59]?.getD undef = .bool false := hdep 12 rfl
        refine Drawn.wpOp_flow 60 rfl rfl rfl ?_
        clear hev hdep hb
        go_simp
        exact ⟨_, rfl, rfl, Below.refl _ _⟩
      · have e9 : a.tmps[9]?.getD undef = .pointer (some ⟨p2, 0, none⟩) := hev 9 rfl
        have dg : a.tmps[60]?.getD undef = .bool false := hdep 13 rfl
        refine Drawn.wpOp_flow 61 rfl (Drawn.wanted_of rfl rfl rfl dg) rfl ?_
        clear dg
        clear hev hdep hb
        go_simp
        exact ⟨_, rfl, rfl, Below.refl _ _⟩
      · have d14 : a.tmps[61]?.getD undef = .pointer (some ⟨p2, 0, none⟩) := hdep 14 rfl
        have dg : a.tmps[60]?.getD undef = .bool false := hdep 13 rfl
        refine Drawn.wpOp_flow 62 rfl (Drawn.wanted_of rfl rfl rfl dg) rfl ?_
        clear dg
        clear hev hdep hb
        go_simp
        exact ⟨_, rfl, rfl, Below.refl _ _⟩
      · have d15 : a.tmps[62]?.getD undef = .pointer (some ⟨p2, 0, none⟩) := hdep 15 rfl
        have dg : a.tmps[60]?.getD undef = .bool false := hdep 13 rfl
        refine Drawn.wpOp_flow 63 rfl (Drawn.wanted_of rfl rfl rfl dg) rfl ?_
        clear dg
        clear hev hdep hb
        go_simp
        exact ⟨_, rfl, rfl, Below.refl _ _⟩
      · have d16 : a.tmps[63]?.getD undef = .pointer (some ⟨p2, 0, none⟩) := hdep 16 rfl
        have dg : a.tmps[60]?.getD undef = .bool false := hdep 13 rfl
        refine Drawn.wpOp_flow 64 rfl (Drawn.wanted_of rfl rfl rfl dg) rfl ?_
        have k1 := (hb.cell (p := ⟨p2, 0, none⟩) (cell_lt EB.out)).trans EB.out
        clear dg
        clear hev hdep hb
        go_simp
        exact ⟨_, rfl, rfl, Below.refl _ _⟩
      · have d17 : a.tmps[64]?.getD undef = .slice (some ⟨g2, 0, none⟩) b1.length c2 := hdep 17 rfl
        have dg : a.tmps[60]?.getD undef = .bool false := hdep 13 rfl
        refine Drawn.wpOp_flow 65 rfl (Drawn.wanted_of rfl rfl rfl dg) rfl ?_
        clear dg
        clear hev hdep hb
        go_simp
        exact ⟨_, rfl, rfl, Below.refl _ _⟩
      · have d18 : a.tmps[65]?.getD undef = .int .i64 (b1.length : Nat) := hdep 18 rfl
        have dg : a.tmps[60]?.getD undef = .bool false := hdep 13 rfl
        refine Drawn.wpOp_flow 66 rfl (Drawn.wanted_of rfl rfl rfl dg) rfl ?_
        clear dg
        clear hev hdep hb
        go_simp
        exact ⟨_, rfl, rfl, Below.refl _ _⟩
      · have d13 : a.tmps[60]?.getD undef = .bool false := hdep 13 rfl
        have d19 : a.tmps[66]?.getD undef = .bool false := hdep 19 rfl
        refine Drawn.wpOp_flow 67 rfl rfl rfl ?_
        clear hev hdep hb
        go_simp
        exact ⟨_, rfl, rfl, Below.refl _ _⟩
    · intro xq w1 hb hxq
      have vq0 : xq 0 = .int .i64 E := hxq 0 (by omega)
      have vq1 : xq 1 = .int .i64 E := hxq 1 (by omega)
      have vq2 : xq 2 = .bool false := hxq 2 (by omega)
      have vq3 : xq 3 = .bool false := hxq 3 (by omega)
      have vq4 : xq 4 = .pointer (some ⟨p1, 0, none⟩) := hxq 4 (by omega)
      have vq6 : xq 6 = .pointer (some ⟨p2, 0, none⟩) := hxq 6 (by omega)
      have vq7 : xq 7 = .pointer (some ⟨p2, 0, none⟩) := hxq 7 (by omega)
      have vq8 : xq 8 = .pointer (some ⟨p2, 0, none⟩) := hxq 8 (by omega)
      have vq9 : xq 9 = .slice (some ⟨g2, 0, none⟩) b1.length c2 := hxq 9 (by omega)
      have vq10 : xq 10 = .bool true := hxq 10 (by omega)
      have vq11 : xq 11 = .bool false := hxq 11 (by omega)
      have vq12 : xq 12 = .bool false := hxq 12 (by omega)
      have vq13 : xq 13 = .bool false := hxq 13 (by omega)
      have vq14 : xq 14 = .pointer (some ⟨p2, 0, none⟩) := hxq 14 (by omega)
      have vq15 : xq 15 = .pointer (some ⟨p2, 0, none⟩) := hxq 15 (by omega)
      have vq16 : xq 16 = .pointer (some ⟨p2, 0, none⟩) := hxq 16 (by omega)
      have vq17 : xq 17 = .slice (some ⟨g2, 0, none⟩) b1.length c2 := hxq 17 (by omega)
      have vq18 : xq 18 = .int .i64 (b1.length : Nat) := hxq 18 (by omega)
      have vq19 : xq 19 = .bool false := hxq 19 (by omega)
      have vq20 : xq 20 = .bool false := hxq 20 (by omega)
      show Exit.then _ _ Exit.normal (Drawn.acts _ [(67, some (xq 20)), (66, some (xq 19)), (65, some (xq 18)), (64, some (xq 17)), (63, some (xq 16)), (62, some (xq 15)), (61, some (xq 14)), (60, some (xq 13)), (59, some (xq 12)), (58, some (xq 11)), (57, some (xq 10)), (56, some (xq 9)), (55, some (xq 8)), (54, some (xq 7)), (53, some (xq 6)), (52, some (xq 5)), (51, some (xq 4)), (50, some (xq 3)), (49, some (xq 2)), (48, some (xq 1)), (47, some (xq 0))]) _
      rw [vq0, vq1, vq2, vq3, vq4, vq6, vq7, vq8, vq9, vq10, vq11, vq12, vq13, vq14, vq15, vq16, vq17, vq18, vq19, vq20]
      clear hxq vq0 vq1 vq2 vq3 vq4 vq6 vq7 vq8 vq9 vq10 vq11 vq12 vq13 vq14 vq15 vq16 vq17 vq18 vq19 vq20
      generalize xq 5 = yq5
      clear xq
      simp only [Drawn.acts]
      go_simp
      have HPB := Lib.hid (HPA.out.step hb)
      have HTB2 := Lib.hid (HTBL.out _ _ HTA.out hb)
      have HLB : Hid (b1.length = 64 * z) := Lib.hid (by rw [HB1E.out]; exact HL1.out)
      have hx1 := HTB2.out.2
      clear hb CIM CSA hml hb0l hne0 hne1 hne2 EB HPA HTA HL1
      have CP1 := Lib.hid (power_any p1 g1 c1 m1 x1 w1 HPB.out.d1)
      rw [← HB1E.out] at CP1
      have CP2 := Lib.hid (fun W (hd : DAt W p2 g2 c2 (nrm m1)) => R16.power_any p2 g2 c2 (nrm m1) x1 W hd)
      rw [show (nrm m1).power x1 = nrm ⟨m1.b, x1, false⟩ from rfl, ← HB1E.out] at CP2
      have hfin : Fine ⟨b1, x1, false⟩ := ⟨(fun e => nomatch e), HX1R.out⟩
      have HFI := Lib.hid hfin
      have HBL2 : Hid ((⟨b1, x1, false⟩ : Dk).b.length = 64 * z) := HLB
      clear hfin
      go_wp2_with fail
      refine CP1.out.mono ?_
      rintro e w5 ⟨rfl, hd5, hk5⟩
      have HP5 := Lib.hid (HPB.out.step1 hd5 (hk5.mono (G := PG p1 g1) fun _ _ h => .inl h))
      have HT5 := Lib.hid (HTK.out w1 w5 HTB2.out (hk5.mono fun _ _ h => .inl (.inl h)))
      have CP3 := Lib.hid (CP2.out w5 HP5.out.d2)
      have hx5 := HT5.out.2
      clear hd5 hk5 CP1 CP2 HPB HTB2 hx1
      go_wp2_with fail
      refine CP3.out.mono ?_
      rintro e w6 ⟨rfl, hd6, hk6⟩
      have HP6 := Lib.hid (HP5.out.step2 hd6 (hk6.mono (G := PG p2 g2) fun _ _ h => .inl h))
      have HT6 := Lib.hid (HTK.out w5 w6 HT5.out (hk6.mono fun _ _ h => .inr (.inl h)))
      clear hd6 hk6 CP3 hx5 HP5 HT5
      have CRC := Lib.hid (recover_any tb p1 g1 c1 z ⟨b1, x1, false⟩ w6 HT6.out.1 HP6.out.d1 HBL2.out (by have := HSZ.out; omega) HFI.out)
      have CAG := Lib.hid (fun W (hd : DAt W p2 g2 c2 (nrm ⟨b1, x1, false⟩)) => R19.again_any p2 g2 c2 z (nrm ⟨b1, x1, false⟩) W hd HBL2.out (by have := HSZ.out; omega))
      rw [show (nrm ⟨b1, x1, false⟩).b = b1 from rfl] at CAG
      have hinr : R19.InR (nrm ⟨b1, x1, false⟩).left := Law16.nrm_range HFI.out
      have CWA := Lib.hid (fun W X d (hd : DAt W p2 g2 c2 (nrm ⟨b1, x1, false⟩)) hX hXa hll => R19.writeAll_any p2 g2 c2 (nrm ⟨b1, x1, false⟩) X (againN z b1) d W hd (by show b1.length ≤ _; rw [HLB.out]; have := HZ60.out; omega) hinr hX hXa hll)
      rw [nrm_runW] at CWA
      have hrl : (recD z ⟨b1, x1, false⟩).1.b.length = 64 * z := by unfold recD; rw [runW_len]; exact HLB.out
      have hcl2 := fun hok => recD_clean (n := z) (m := ⟨b1, x1, false⟩) HBL2.out hok
      rw [show runW ⟨b1, x1, false⟩ (againN z b1) = recD z ⟨b1, x1, false⟩ from rfl] at CWA
      have hag : (againN z b1).length ≤ 1000000 := again_few z b1
      generalize recD z ⟨b1, x1, false⟩ = st at *
      obtain ⟨m9, ok⟩ := st
      simp only at CRC CWA hrl hcl2
      have HRL := Lib.hid hrl; have HCL2 := Lib.hid hcl2; have HAG := Lib.hid hag
      obtain ⟨E2, hE⟩ : ∃ E2 : Int, E2 = (if ok = true then 0 else 15) := ⟨_, rfl⟩
      rw [← hE] at CRC CWA
      have HE := Lib.hid hE
      clear hinr hrl hcl2 hag hE
      go_wp2_with fail
      refine CRC.out.mono ?_
      rintro e w7 ⟨rfl, hd7, hk7⟩
      have HP7 := Lib.hid (HP6.out.step1 hd7 hk7)
      have CA2 := Lib.hid (CAG.out w7 HP7.out.d2)
      have hlt7 := HP7.out.lt
      clear hd7 hk7 CRC CAG HP6 HT6
      generalize againN z b1 = AG at *
      go_wp2_with fail
      refine CA2.out.mono ?_
      rintro e w8 ⟨X8, d8, rfl, y1, y2, y3, hb8, y4⟩
      have HP8 := Lib.hid (HP7.out.step hb8)
      have CW8 := Lib.hid (CWA.out w8 X8 d8 HP8.out.d2 (y3.mono fun k _ hk => ⟨by omega, by omega⟩) (fun _ a e => by have := y4 a e; exact ⟨by omega, by omega⟩) HAG.out)
      clear y3 y4 hb8 CA2 CWA HP7 hlt7
      generalize AG.length = agn at *
      go_wp2_with fail
      refine CW8.out.mono ?_
      rintro e w9 ⟨rfl, hd9, hk9⟩
      have HP9 := Lib.hid (HP8.out.step2 hd9 hk9)
      have HEB := HP9.out.d2.c0
      clear hd9 hk9 CW8 HP8
      have hb9l : m9.b.length ≤ 32768 := by rw [HRL.out]; have := HZ60.out; omega
      have CIM : Hid (∀ W, Below w9.heap.size w9 W → Calls Tryz.prog 16 #[.pointer (some ⟨p1, 0, none⟩)] W (Disk.RetOwn W m9.b)) := Lib.hid fun W hb => image_any p1 g1 c1 m9 W (HP9.out.d1.below hb) hb9l
      have CCL : Hid (∀ W, Below w9.heap.size w9 W → Calls Tryz.prog 19 #[.pointer (some ⟨p1, 0, none⟩)] W fun e w' => e = .returned (.bool (cleanV z m9.b)) ∧ Below W.heap.size W w') := Lib.hid fun W hb => clean_any p1 g1 c1 z m9 W (HP9.out.d1.below hb) HRL.out (by have := HSZ.out; omega)
      have CSA : Hid (∀ W X d, Below w9.heap.size w9 W → BytesAt W X m9.b → m9.b.length ≤ maxLen → Calls Tryz.prog 15 #[.slice X m9.b.length d, .slice (some ⟨g2, 0, none⟩) m9.b.length c2] W fun e w' => e = .returned (.bool true) ∧ ∃ n, w' = W.drewN n) := Lib.hid fun W X d hb hX hm => R01.same_eq X (some ⟨g2, 0, none⟩) m9.b m9.b d c2 W hX ((HP9.out.d2.bytes).below hb) hm rfl
      have hml : m9.b.length ≤ maxLen := by unfold maxLen; omega
      rw [show (nrm (m9, ok).1).b = m9.b from rfl] at HEB
      generalize m9.b = b9 at *
      have EB := Lib.hid HEB
      clear HEB hb9l HRL HAG HFI HBL2 HLB HB1E HF1
      cases ok
      · have he := HE.out
        rw [if_neg (by decide)] at he
        subst he
        clear CCL HCL2
        go_wp2_with fail
        refine Drawn.wp_region_flowL 24 [Drawn.SP.is (.int .i64 15), Drawn.SP.is (.int .i64 15), Drawn.SP.is (.bool true), Drawn.SP.is (.bool true), Drawn.SP.is (.pointer (some ⟨p1, 0, none⟩)), Drawn.SP.bytes b9, Drawn.SP.is (.pointer (some ⟨p2, 0, none⟩)), Drawn.SP.is (.pointer (some ⟨p2, 0, none⟩)), Drawn.SP.is (.pointer (some ⟨p2, 0, none⟩)), Drawn.SP.is (.slice (some ⟨g2, 0, none⟩) b9.length c2), Drawn.SP.is (.bool true), Drawn.SP.is (.bool true), Drawn.SP.is (.bool true), Drawn.SP.is (.int .i64 15), Drawn.SP.is (.bool true), Drawn.SP.is (.bool true), Drawn.SP.is (undef), Drawn.SP.is (undef), Drawn.SP.is (.bool true), Drawn.SP.is (.bool true), Drawn.SP.is (.bool true), Drawn.SP.is (.bool true), Drawn.SP.is (.bool true), Drawn.SP.is (.bool true)] (by kernel_rfl) (by kernel_rfl) ?_ ?_
        · intro i hi a w1 hb hev hdep
          rcases (show i = 0 ∨ i = 1 ∨ i = 2 ∨ i = 3 ∨ i = 4 ∨ i = 5 ∨ i = 6 ∨ i = 7 ∨ i = 8 ∨ i = 9 ∨ i = 10 ∨ i = 11 ∨ i = 12 ∨ i = 13 ∨ i = 14 ∨ i = 15 ∨ i = 16 ∨ i = 17 ∨ i = 18 ∨ i = 19 ∨ i = 20 ∨ i = 21 ∨ i = 22 ∨ i = 23 by omega) with rfl | rfl | rfl | rfl | rfl | rfl | rfl | rfl | rfl | rfl | rfl | rfl | rfl | rfl | rfl | rfl | rfl | rfl | rfl | rfl | rfl | rfl | rfl | rfl
          · have e10 : a.tmps[10]?.getD undef = .int .i64 15 := hev 10 rfl
            refine Drawn.wpOp_flow 83 rfl rfl rfl ?_
            clear hev hdep hb
            go_simp
            exact ⟨_, rfl, rfl, Below.refl _ _⟩
          · have e11 : a.tmps[11]?.getD undef = .int .i64 15 := hev 11 rfl
            refine Drawn.wpOp_flow 84 rfl rfl rfl ?_
            clear hev hdep hb
            go_simp
            exact ⟨_, rfl, rfl, Below.refl _ _⟩
          · have d0 : a.tmps[83]?.getD undef = .int .i64 15 := hdep 0 rfl
            have d1 : a.tmps[84]?.getD undef = .int .i64 15 := hdep 1 rfl
            refine Drawn.wpOp_flow 85 rfl rfl rfl ?_
            clear hev hdep hb
            go_simp
            exact ⟨_, rfl, rfl, Below.refl _ _⟩
          · have d2 : a.tmps[85]?.getD undef = .bool true := hdep 2 rfl
            refine Drawn.wpOp_flow 86 rfl rfl rfl ?_
            clear hev hdep hb
            go_simp
            exact ⟨_, rfl, rfl, Below.refl _ _⟩
          · have e8 : a.tmps[8]?.getD undef = .pointer (some ⟨p1, 0, none⟩) := hev 8 rfl
            have dg : a.tmps[86]?.getD undef = .bool true := hdep 3 rfl
            refine Drawn.wpOp_flow 87 rfl (Drawn.wanted_of rfl rfl rfl dg) rfl ?_
            clear dg
            clear hev hdep hb
            go_simp
            exact ⟨_, rfl, rfl, Below.refl _ _⟩
          · have d4 : a.tmps[87]?.getD undef = .pointer (some ⟨p1, 0, none⟩) := hdep 4 rfl
            have dg : a.tmps[86]?.getD undef = .bool true := hdep 3 rfl
            refine Drawn.wpOp_flow 88 rfl (Drawn.wanted_of rfl rfl rfl dg) rfl ?_
            clear hev hdep
            have C := CIM.out w1 hb
            clear hb
            go_simp
            refine C.mono ?_
            rintro e w' ⟨v, rfl, ho, hb'⟩
            obtain ⟨X, d, rfl, q1, q2, q3⟩ := ho.bytes
            exact ⟨_, rfl, ⟨X, d, rfl, q1, q2, q3⟩, hb'⟩
          · have e9 : a.tmps[9]?.getD undef = .pointer (some ⟨p2, 0, none⟩) := hev 9 rfl
            have dg : a.tmps[86]?.getD undef = .bool true := hdep 3 rfl
            refine Drawn.wpOp_flow 89 rfl (Drawn.wanted_of rfl rfl rfl dg) rfl ?_
            clear dg
            clear hev hdep hb
            go_simp
            exact ⟨_, rfl, rfl, Below.refl _ _⟩
          · have d6 : a.tmps[89]?.getD undef = .pointer (some ⟨p2, 0, none⟩) := hdep 6 rfl
            have dg : a.tmps[86]?.getD undef = .bool true := hdep 3 rfl
            refine Drawn.wpOp_flow 90 rfl (Drawn.wanted_of rfl rfl rfl dg) rfl ?_
            clear dg
            clear hev hdep hb
            go_simp
            exact ⟨_, rfl, rfl, Below.refl _ _⟩
          · have d7 : a.tmps[90]?.getD undef = .pointer (some ⟨p2, 0, none⟩) := hdep 7 rfl
            have dg : a.tmps[86]?.getD undef = .bool true := hdep 3 rfl
            refine Drawn.wpOp_flow 91 rfl (Drawn.wanted_of rfl rfl rfl dg) rfl ?_
            clear dg
            clear hev hdep hb
            go_simp
            exact ⟨_, rfl, rfl, Below.refl _ _⟩
          · have d8 : a.tmps[91]?.getD undef = .pointer (some ⟨p2, 0, none⟩) := hdep 8 rfl
            have dg : a.tmps[86]?.getD undef = .bool true := hdep 3 rfl
            refine Drawn.wpOp_flow 92 rfl (Drawn.wanted_of rfl rfl rfl dg) rfl ?_
            have k1 := (hb.cell (p := ⟨p2, 0, none⟩) (cell_lt EB.out)).trans EB.out
            clear dg
            clear hev hdep hb
            go_simp
            exact ⟨_, rfl, rfl, Below.refl _ _⟩
          · obtain ⟨Xd5, dd5, d5, hd5, kd5, qd5⟩ : (Drawn.SP.bytes b9).p (a.tmps[88]?.getD undef) w1 := hdep 5 rfl
            have d9 : a.tmps[92]?.getD undef = .slice (some ⟨g2, 0, none⟩) b9.length c2 := hdep 9 rfl
            have dg : a.tmps[86]?.getD undef = .bool true := hdep 3 rfl
            refine Drawn.wpOp_flow 93 rfl (Drawn.wanted_of rfl rfl rfl dg) rfl ?_
            clear hev hdep
            have C := CSA.out w1 Xd5 dd5 hb qd5 hml
            clear hb
            go_simp
            refine C.mono ?_
            rintro e w' ⟨rfl, hq⟩
            exact ⟨_, rfl, rfl, bquiet hq⟩
          · have d3 : a.tmps[86]?.getD undef = .bool true := hdep 3 rfl
            have d10 : a.tmps[93]?.getD undef = .bool true := hdep 10 rfl
            refine Drawn.wpOp_flow 94 rfl rfl rfl ?_
            clear hev hdep hb
            go_simp
            exact ⟨_, rfl, rfl, Below.refl _ _⟩
          · have d11 : a.tmps[94]?.getD undef = .bool true := hdep 11 rfl
            refine Drawn.wpOp_flow 95 rfl rfl rfl ?_
            clear hev hdep hb
            go_simp
            exact ⟨_, rfl, rfl, Below.refl _ _⟩
          · have e10 : a.tmps[10]?.getD undef = .int .i64 15 := hev 10 rfl
            have dg : a.tmps[95]?.getD undef = .bool true := hdep 12 rfl
            refine Drawn.wpOp_flow 96 rfl (Drawn.wanted_of rfl rfl rfl dg) rfl ?_
            clear dg
            clear hev hdep hb
            go_simp
            exact ⟨_, rfl, rfl, Below.refl _ _⟩
          · have d13 : a.tmps[96]?.getD undef = .int .i64 15 := hdep 13 rfl
            have dg : a.tmps[95]?.getD undef = .bool true := hdep 12 rfl
            refine Drawn.wpOp_flow 97 rfl (Drawn.wanted_of rfl rfl rfl dg) rfl ?_
            clear dg
            clear hev hdep hb
            go_simp
            exact ⟨_, rfl, rfl, Below.refl _ _⟩
          · have d14 : a.tmps[97]?.getD undef = .bool true := hdep 14 rfl
            have dg : a.tmps[95]?.getD undef = .bool true := hdep 12 rfl
            refine Drawn.wpOp_flow 98 rfl (Drawn.wanted_of rfl rfl rfl dg) rfl ?_
            clear dg
            clear hev hdep hb
            go_simp
            exact ⟨_, rfl, rfl, Below.refl _ _⟩
          · have dg : a.tmps[98]?.getD undef = .bool true := hdep 15 rfl
            exact Drawn.wpOp_flow_skip 99 rfl (Drawn.unwanted_of rfl rfl rfl dg rfl) rfl rfl
          · have dg : a.tmps[98]?.getD undef = .bool true := hdep 15 rfl
            exact Drawn.wpOp_flow_skip 100 rfl (Drawn.unwanted_of rfl rfl rfl dg rfl) rfl rfl
          · have d15 : a.tmps[98]?.getD undef = .bool true := hdep 15 rfl
            have d17 : a.tmps[100]?.getD undef = undef := hdep 17 rfl
            have dg : a.tmps[95]?.getD undef = .bool true := hdep 12 rfl
            refine Drawn.wpOp_flow 101 rfl (Drawn.wanted_of rfl rfl rfl dg) rfl ?_
            clear dg
            clear hev hdep hb
            go_simp
            exact ⟨_, rfl, rfl, Below.refl _ _⟩
          · have d12 : a.tmps[95]?.getD undef = .bool true := hdep 12 rfl
            have d18 : a.tmps[101]?.getD undef = .bool true := hdep 18 rfl
            refine Drawn.wpOp_flow 102 rfl rfl rfl ?_
            clear hev hdep hb
            go_simp
            exact ⟨_, rfl, rfl, Below.refl _ _⟩
          · have d19 : a.tmps[102]?.getD undef = .bool true := hdep 19 rfl
            refine Drawn.wpOp_flow 103 rfl rfl rfl ?_
            clear hev hdep hb
            go_simp
            exact ⟨_, rfl, rfl, Below.refl _ _⟩
          · have dg : a.tmps[103]?.getD undef = .bool true := hdep 20 rfl
            refine Drawn.wpOp_flow 104 rfl (Drawn.wanted_of rfl rfl rfl dg) rfl ?_
            clear hev hdep
            have C := alive_any w1
            clear hb
            go_simp
            refine C.mono ?_
            rintro e w' ⟨rfl, hb'⟩
            exact ⟨_, rfl, rfl, hb'⟩
          · have d20 : a.tmps[103]?.getD undef = .bool true := hdep 20 rfl
            have d21 : a.tmps[104]?.getD undef = .bool true := hdep 21 rfl
            refine Drawn.wpOp_flow 105 rfl rfl rfl ?_
            clear hev hdep hb
            go_simp
            exact ⟨_, rfl, rfl, Below.refl _ _⟩
          · have d22 : a.tmps[105]?.getD undef = .bool true := hdep 22 rfl
            refine Drawn.wpOp_flow 6 rfl rfl rfl ?_
            clear hev hdep hb
            go_simp
            exact ⟨_, rfl, rfl, Below.refl _ _⟩
        · intro xq w1 hb hxq
          have vq0 : xq 0 = .int .i64 15 := hxq 0 (by omega)
          have vq1 : xq 1 = .int .i64 15 := hxq 1 (by omega)
          have vq2 : xq 2 = .bool true := hxq 2 (by omega)
          have vq3 : xq 3 = .bool true := hxq 3 (by omega)
          have vq4 : xq 4 = .pointer (some ⟨p1, 0, none⟩) := hxq 4 (by omega)
          have vq6 : xq 6 = .pointer (some ⟨p2, 0, none⟩) := hxq 6 (by omega)
          have vq7 : xq 7 = .pointer (some ⟨p2, 0, none⟩) := hxq 7 (by omega)
          have vq8 : xq 8 = .pointer (some ⟨p2, 0, none⟩) := hxq 8 (by omega)
          have vq9 : xq 9 = .slice (some ⟨g2, 0, none⟩) b9.length c2 := hxq 9 (by omega)
          have vq10 : xq 10 = .bool true := hxq 10 (by omega)
          have vq11 : xq 11 = .bool true := hxq 11 (by omega)
          have vq12 : xq 12 = .bool true := hxq 12 (by omega)
          have vq13 : xq 13 = .int .i64 15 := hxq 13 (by omega)
          have vq14 : xq 14 = .bool true := hxq 14 (by omega)
          have vq15 : xq 15 = .bool true := hxq 15 (by omega)
          have vq16 : xq 16 = undef := hxq 16 (by omega)
          have vq17 : xq 17 = undef := hxq 17 (by omega)
          have vq18 : xq 18 = .bool true := hxq 18 (by omega)
          have vq19 : xq 19 = .bool true := hxq 19 (by omega)
          have vq20 : xq 20 = .bool true := hxq 20 (by omega)
          have vq21 : xq 21 = .bool true := hxq 21 (by omega)
          have vq22 : xq 22 = .bool true := hxq 22 (by omega)
          have vq23 : xq 23 = .bool true := hxq 23 (by omega)
          show Exit.then _ _ Exit.normal (Drawn.acts _ [(6, some (xq 23)), (105, some (xq 22)), (104, some (xq 21)), (103, some (xq 20)), (102, some (xq 19)), (101, some (xq 18)), (100, some (xq 17)), (99, some (xq 16)), (98, some (xq 15)), (97, some (xq 14)), (96, some (xq 13)), (95, some (xq 12)), (94, some (xq 11)), (93, some (xq 10)), (92, some (xq 9)), (91, some (xq 8)), (90, some (xq 7)), (89, some (xq 6)), (88, some (xq 5)), (87, some (xq 4)), (86, some (xq 3)), (85, some (xq 2)), (84, some (xq 1)), (83, some (xq 0))]) _
          rw [vq0, vq1, vq2, vq3, vq4, vq6, vq7, vq8, vq9, vq10, vq11, vq12, vq13, vq14, vq15, vq16, vq17, vq18, vq19, vq20, vq21, vq22, vq23]
          clear hxq vq0 vq1 vq2 vq3 vq4 vq6 vq7 vq8 vq9 vq10 vq11 vq12 vq13 vq14 vq15 vq16 vq17 vq18 vq19 vq20 vq21 vq22 vq23
          generalize xq 5 = yq5
          clear xq
          simp only [Drawn.acts]
          go_simp
          have HB := Lib.hid (bstep HP9.out.below hb)
          clear hb
          go_wp2
          go_ret
          exact ⟨rfl, HB.out⟩
      · have he := HE.out
        rw [if_pos rfl] at he
        subst he
        rw [HCL2.out rfl] at CCL
        clear HCL2
        go_wp2_with fail
        refine Drawn.wp_region_flowL 24 [Drawn.SP.is (.int .i64 0), Drawn.SP.is (.int .i64 0), Drawn.SP.is (.bool true), Drawn.SP.is (.bool true), Drawn.SP.is (.pointer (some ⟨p1, 0, none⟩)), Drawn.SP.bytes b9, Drawn.SP.is (.pointer (some ⟨p2, 0, none⟩)), Drawn.SP.is (.pointer (some ⟨p2, 0, none⟩)), Drawn.SP.is (.pointer (some ⟨p2, 0, none⟩)), Drawn.SP.is (.slice (some ⟨g2, 0, none⟩) b9.length c2), Drawn.SP.is (.bool true), Drawn.SP.is (.bool true), Drawn.SP.is (.bool true), Drawn.SP.is (.int .i64 0), Drawn.SP.is (.bool false), Drawn.SP.is (.bool false), Drawn.SP.is (.pointer (some ⟨p1, 0, none⟩)), Drawn.SP.is (.bool true), Drawn.SP.is (.bool true), Drawn.SP.is (.bool true), Drawn.SP.is (.bool true), Drawn.SP.is (.bool true), Drawn.SP.is (.bool true), Drawn.SP.is (.bool true)] (by kernel_rfl) (by kernel_rfl) ?_ ?_
        · intro i hi a w1 hb hev hdep
          rcases (show i = 0 ∨ i = 1 ∨ i = 2 ∨ i = 3 ∨ i = 4 ∨ i = 5 ∨ i = 6 ∨ i = 7 ∨ i = 8 ∨ i = 9 ∨ i = 10 ∨ i = 11 ∨ i = 12 ∨ i = 13 ∨ i = 14 ∨ i = 15 ∨ i = 16 ∨ i = 17 ∨ i = 18 ∨ i = 19 ∨ i = 20 ∨ i = 21 ∨ i = 22 ∨ i = 23 by omega) with rfl | rfl | rfl | rfl | rfl | rfl | rfl | rfl | rfl | rfl | rfl | rfl | rfl | rfl | rfl | rfl | rfl | rfl | rfl | rfl | rfl | rfl | rfl | rfl
          · have e10 : a.tmps[10]?.getD undef = .int .i64 0 := hev 10 rfl
            refine Drawn.wpOp_flow 83 rfl rfl rfl ?_
            clear hev hdep hb
            go_simp
            exact ⟨_, rfl, rfl, Below.refl _ _⟩
          · have e11 : a.tmps[11]?.getD undef = .int .i64 0 := hev 11 rfl
            refine Drawn.wpOp_flow 84 rfl rfl rfl ?_
            clear hev hdep hb
            go_simp
            exact ⟨_, rfl, rfl, Below.refl _ _⟩
          · have d0 : a.tmps[83]?.getD undef = .int .i64 0 := hdep 0 rfl
            have d1 : a.tmps[84]?.getD undef = .int .i64 0 := hdep 1 rfl
            refine Drawn.wpOp_flow 85 rfl rfl rfl ?_
            clear hev hdep hb
            go_simp
            exact ⟨_, rfl, rfl, Below.refl _ _⟩
          · have d2 : a.tmps[85]?.getD undef = .bool true := hdep 2 rfl
            refine Drawn.wpOp_flow 86 rfl rfl rfl ?_
            clear hev hdep hb
            go_simp
            exact ⟨_, rfl, rfl, Below.refl _ _⟩
          · have e8 : a.tmps[8]?.getD undef = .pointer (some ⟨p1, 0, none⟩) := hev 8 rfl
            have dg : a.tmps[86]?.getD undef = .bool true := hdep 3 rfl
            refine Drawn.wpOp_flow 87 rfl (Drawn.wanted_of rfl rfl rfl dg) rfl ?_
            clear dg
            clear hev hdep hb
            go_simp
            exact ⟨_, rfl, rfl, Below.refl _ _⟩
          · have d4 : a.tmps[87]?.getD undef = .pointer (some ⟨p1, 0, none⟩) := hdep 4 rfl
            have dg : a.tmps[86]?.getD undef = .bool true := hdep 3 rfl
            refine Drawn.wpOp_flow 88 rfl (Drawn.wanted_of rfl rfl rfl dg) rfl ?_
            clear hev hdep
            have C := CIM.out w1 hb
            clear hb
            go_simp
            refine C.mono ?_
            rintro e w' ⟨v, rfl, ho, hb'⟩
            obtain ⟨X, d, rfl, q1, q2, q3⟩ := ho.bytes
            exact ⟨_, rfl, ⟨X, d, rfl, q1, q2, q3⟩, hb'⟩
          · have e9 : a.tmps[9]?.getD undef = .pointer (some ⟨p2, 0, none⟩) := hev 9 rfl
            have dg : a.tmps[86]?.getD undef = .bool true := hdep 3 rfl
            refine Drawn.wpOp_flow 89 rfl (Drawn.wanted_of rfl rfl rfl dg) rfl ?_
            clear dg
            clear hev hdep hb
            go_simp
            exact ⟨_, rfl, rfl, Below.refl _ _⟩
          · have d6 : a.tmps[89]?.getD undef = .pointer (some ⟨p2, 0, none⟩) := hdep 6 rfl
            have dg : a.tmps[86]?.getD undef = .bool true := hdep 3 rfl
            refine Drawn.wpOp_flow 90 rfl (Drawn.wanted_of rfl rfl rfl dg) rfl ?_
            clear dg
            clear hev hdep hb
            go_simp
            exact ⟨_, rfl, rfl, Below.refl _ _⟩
          · have d7 : a.tmps[90]?.getD undef = .pointer (some ⟨p2, 0, none⟩) := hdep 7 rfl
            have dg : a.tmps[86]?.getD undef = .bool true := hdep 3 rfl
            refine Drawn.wpOp_flow 91 rfl (Drawn.wanted_of rfl rfl rfl dg) rfl ?_
            clear dg
            clear hev hdep hb
            go_simp
            exact ⟨_, rfl, rfl, Below.refl _ _⟩
          · have d8 : a.tmps[91]?.getD undef = .pointer (some ⟨p2, 0, none⟩) := hdep 8 rfl
            have dg : a.tmps[86]?.getD undef = .bool true := hdep 3 rfl
            refine Drawn.wpOp_flow 92 rfl (Drawn.wanted_of rfl rfl rfl dg) rfl ?_
            have k1 := (hb.cell (p := ⟨p2, 0, none⟩) (cell_lt EB.out)).trans EB.out
            clear dg
            clear hev hdep hb
            go_simp
            exact ⟨_, rfl, rfl, Below.refl _ _⟩
          · obtain ⟨Xd5, dd5, d5, hd5, kd5, qd5⟩ : (Drawn.SP.bytes b9).p (a.tmps[88]?.getD undef) w1 := hdep 5 rfl
            have d9 : a.tmps[92]?.getD undef = .slice (some ⟨g2, 0, none⟩) b9.length c2 := hdep 9 rfl
            have dg : a.tmps[86]?.getD undef = .bool true := hdep 3 rfl
            refine Drawn.wpOp_flow 93 rfl (Drawn.wanted_of rfl rfl rfl dg) rfl ?_
            clear hev hdep
            have C := CSA.out w1 Xd5 dd5 hb qd5 hml
            clear hb
            go_simp
            refine C.mono ?_
            rintro e w' ⟨rfl, hq⟩
            exact ⟨_, rfl, rfl, bquiet hq⟩
          · have d3 : a.tmps[86]?.getD undef = .bool true := hdep 3 rfl
            have d10 : a.tmps[93]?.getD undef = .bool true := hdep 10 rfl
            refine Drawn.wpOp_flow 94 rfl rfl rfl ?_
            clear hev hdep hb
            go_simp
            exact ⟨_, rfl, rfl, Below.refl _ _⟩
          · have d11 : a.tmps[94]?.getD undef = .bool true := hdep 11 rfl
            refine Drawn.wpOp_flow 95 rfl rfl rfl ?_
            clear hev hdep hb
            go_simp
            exact ⟨_, rfl, rfl, Below.refl _ _⟩
          · have e10 : a.tmps[10]?.getD undef = .int .i64 0 := hev 10 rfl
            have dg : a.tmps[95]?.getD undef = .bool true := hdep 12 rfl
            refine Drawn.wpOp_flow 96 rfl (Drawn.wanted_of rfl rfl rfl dg) rfl ?_
            clear dg
            clear hev hdep hb
            go_simp
            exact ⟨_, rfl, rfl, Below.refl _ _⟩
          · have d13 : a.tmps[96]?.getD undef = .int .i64 0 := hdep 13 rfl
            have dg : a.tmps[95]?.getD undef = .bool true := hdep 12 rfl
            refine Drawn.wpOp_flow 97 rfl (Drawn.wanted_of rfl rfl rfl dg) rfl ?_
            clear dg
            clear hev hdep hb
            go_simp
            exact ⟨_, rfl, rfl, Below.refl _ _⟩
          · have d14 : a.tmps[97]?.getD undef = .bool false := hdep 14 rfl
            have dg : a.tmps[95]?.getD undef = .bool true := hdep 12 rfl
            refine Drawn.wpOp_flow 98 rfl (Drawn.wanted_of rfl rfl rfl dg) rfl ?_
            clear dg
            clear hev hdep hb
            go_simp
            exact ⟨_, rfl, rfl, Below.refl _ _⟩
          · have e8 : a.tmps[8]?.getD undef = .pointer (some ⟨p1, 0, none⟩) := hev 8 rfl
            have dg : a.tmps[98]?.getD undef = .bool false := hdep 15 rfl
            refine Drawn.wpOp_flow 99 rfl (Drawn.wanted_of rfl rfl rfl dg) rfl ?_
            clear dg
            clear hev hdep hb
            go_simp
            exact ⟨_, rfl, rfl, Below.refl _ _⟩
          · have d16 : a.tmps[99]?.getD undef = .pointer (some ⟨p1, 0, none⟩) := hdep 16 rfl
            have dg : a.tmps[98]?.getD undef = .bool false := hdep 15 rfl
            refine Drawn.wpOp_flow 100 rfl (Drawn.wanted_of rfl rfl rfl dg) rfl ?_
            clear hev hdep
            have C := CCL.out w1 hb
            clear hb
            go_simp
            refine C.mono ?_
            rintro e w' ⟨rfl, hb'⟩
            exact ⟨_, rfl, rfl, hb'⟩
          · have d15 : a.tmps[98]?.getD undef = .bool false := hdep 15 rfl
            have d17 : a.tmps[100]?.getD undef = .bool true := hdep 17 rfl
            have dg : a.tmps[95]?.getD undef = .bool true := hdep 12 rfl
            refine Drawn.wpOp_flow 101 rfl (Drawn.wanted_of rfl rfl rfl dg) rfl ?_
            clear dg
            clear hev hdep hb
            go_simp
            exact ⟨_, rfl, rfl, Below.refl _ _⟩
          · have d12 : a.tmps[95]?.getD undef = .bool true := hdep 12 rfl
            have d18 : a.tmps[101]?.getD undef = .bool true := hdep 18 rfl
            refine Drawn.wpOp_flow 102 rfl rfl rfl ?_
            clear hev hdep hb
            go_simp
            exact ⟨_, rfl, rfl, Below.refl _ _⟩
          · have d19 : a.tmps[102]?.getD undef = .bool true := hdep 19 rfl
            refine Drawn.wpOp_flow 103 rfl rfl rfl ?_
            clear hev hdep hb
            go_simp
            exact ⟨_, rfl, rfl, Below.refl _ _⟩
          · have dg : a.tmps[103]?.getD undef = .bool true := hdep 20 rfl
            refine Drawn.wpOp_flow 104 rfl (Drawn.wanted_of rfl rfl rfl dg) rfl ?_
            clear hev hdep
            have C := alive_any w1
            clear hb
            go_simp
            refine C.mono ?_
            rintro e w' ⟨rfl, hb'⟩
            exact ⟨_, rfl, rfl, hb'⟩
          · have d20 : a.tmps[103]?.getD undef = .bool true := hdep 20 rfl
            have d21 : a.tmps[104]?.getD undef = .bool true := hdep 21 rfl
            refine Drawn.wpOp_flow 105 rfl rfl rfl ?_
            clear hev hdep hb
            go_simp
            exact ⟨_, rfl, rfl, Below.refl _ _⟩
          · have d22 : a.tmps[105]?.getD undef = .bool true := hdep 22 rfl
            refine Drawn.wpOp_flow 6 rfl rfl rfl ?_
            clear hev hdep hb
            go_simp
            exact ⟨_, rfl, rfl, Below.refl _ _⟩
        · intro xq w1 hb hxq
          have vq0 : xq 0 = .int .i64 0 := hxq 0 (by omega)
          have vq1 : xq 1 = .int .i64 0 := hxq 1 (by omega)
          have vq2 : xq 2 = .bool true := hxq 2 (by omega)
          have vq3 : xq 3 = .bool true := hxq 3 (by omega)
          have vq4 : xq 4 = .pointer (some ⟨p1, 0, none⟩) := hxq 4 (by omega)
          have vq6 : xq 6 = .pointer (some ⟨p2, 0, none⟩) := hxq 6 (by omega)
          have vq7 : xq 7 = .pointer (some ⟨p2, 0, none⟩) := hxq 7 (by omega)
          have vq8 : xq 8 = .pointer (some ⟨p2, 0, none⟩) := hxq 8 (by omega)
          have vq9 : xq 9 = .slice (some ⟨g2, 0, none⟩) b9.length c2 := hxq 9 (by omega)
          have vq10 : xq 10 = .bool true := hxq 10 (by omega)
          have vq11 : xq 11 = .bool true := hxq 11 (by omega)
          have vq12 : xq 12 = .bool true := hxq 12 (by omega)
          have vq13 : xq 13 = .int .i64 0 := hxq 13 (by omega)
          have vq14 : xq 14 = .bool false := hxq 14 (by omega)
          have vq15 : xq 15 = .bool false := hxq 15 (by omega)
          have vq16 : xq 16 = .pointer (some ⟨p1, 0, none⟩) := hxq 16 (by omega)
          have vq17 : xq 17 = .bool true := hxq 17 (by omega)
          have vq18 : xq 18 = .bool true := hxq 18 (by omega)
          have vq19 : xq 19 = .bool true := hxq 19 (by omega)
          have vq20 : xq 20 = .bool true := hxq 20 (by omega)
          have vq21 : xq 21 = .bool true := hxq 21 (by omega)
          have vq22 : xq 22 = .bool true := hxq 22 (by omega)
          have vq23 : xq 23 = .bool true := hxq 23 (by omega)
          show Exit.then _ _ Exit.normal (Drawn.acts _ [(6, some (xq 23)), (105, some (xq 22)), (104, some (xq 21)), (103, some (xq 20)), (102, some (xq 19)), (101, some (xq 18)), (100, some (xq 17)), (99, some (xq 16)), (98, some (xq 15)), (97, some (xq 14)), (96, some (xq 13)), (95, some (xq 12)), (94, some (xq 11)), (93, some (xq 10)), (92, some (xq 9)), (91, some (xq 8)), (90, some (xq 7)), (89, some (xq 6)), (88, some (xq 5)), (87, some (xq 4)), (86, some (xq 3)), (85, some (xq 2)), (84, some (xq 1)), (83, some (xq 0))]) _
          rw [vq0, vq1, vq2, vq3, vq4, vq6, vq7, vq8, vq9, vq10, vq11, vq12, vq13, vq14, vq15, vq16, vq17, vq18, vq19, vq20, vq21, vq22, vq23]
          clear hxq vq0 vq1 vq2 vq3 vq4 vq6 vq7 vq8 vq9 vq10 vq11 vq12 vq13 vq14 vq15 vq16 vq17 vq18 vq19 vq20 vq21 vq22 vq23
          generalize xq 5 = yq5
          clear xq
          simp only [Drawn.acts]
          go_simp
          have HB := Lib.hid (bstep HP9.out.below hb)
          clear hb
          go_wp2
          go_ret
          exact ⟨rfl, HB.out⟩
  · have hdo := HCK1.out hck
    injection hdo with hm1 hE1
    rw [← hE1] at CCK7 hck
    have hqE : (E == 0) = false := by rw [beq_eq_false_iff_ne]; exact hck
    have HM1 := Lib.hid hm1
    clear hck HCK0 HCK1 hE1 hm1
    go_wp2_with fail
    refine CCK7.out.mono ?_
    rintro e wA ⟨rfl, hb8⟩
    have HPA0 := HP7.out.step hb8
    have hm1 := HM1.out
    rw [← hm1] at HPA0
    have HPA : Hid (Pair w p1 g1 c1 p2 g2 c2 m1 (nrm m1) wA) := Lib.hid HPA0
    have HTA := Lib.hid (HTBL.out _ _ HT7.out hb8)
    clear hb8 hm1 HM1 HPA0 CCK7 HP7 HT7 HLC HLL HX0R HF0 HCL HB0 HL20 i1 i2 i3 hy60 hlc hcm
    have HEA := HPA.out.d2.c0
    rw [show (nrm m1).b = m1.b from rfl] at HEA
    have hb1l : m1.b.length ≤ 32768 := by rw [HL1.out]; have := HZ60.out; omega
    have CIM : Hid (∀ W, Below wA.heap.size wA W → Calls Tryz.prog 16 #[.pointer (some ⟨p1, 0, none⟩)] W (Disk.RetOwn W m1.b)) := Lib.hid fun W hb => image_any p1 g1 c1 m1 W (HPA.out.d1.below hb) hb1l
    have CSA : Hid (∀ W X d, Below wA.heap.size wA W → BytesAt W X m1.b → m1.b.length ≤ maxLen → Calls Tryz.prog 15 #[.slice X m1.b.length d, .slice (some ⟨g2, 0, none⟩) m1.b.length c2] W fun e w' => e = .returned (.bool true) ∧ ∃ n, w' = W.drewN n) := Lib.hid fun W X d hb hX hm => R01.same_eq X (some ⟨g2, 0, none⟩) m1.b m1.b d c2 W hX ((HPA.out.d2.bytes).below hb) hm rfl
    have hml : m1.b.length ≤ maxLen := by unfold maxLen; omega
    have hb0l : 0 < m1.b.length := by rw [HL1.out]; have := HSZ.out; omega
    obtain ⟨b1, hb1e⟩ : ∃ b1, b1 = m1.b := ⟨_, rfl⟩
    rw [← hb1e] at HEA CIM CSA hml hb0l
    have hne0 : (((b1.length : Nat) : Int) == 0) = false := by rw [beq_eq_false_iff_ne]; omega
    have hne1 : (b1.length == 0) = false := by rw [beq_eq_false_iff_ne]; omega
    have hne2 : b1.length ≠ 0 := by omega
    have EB := Lib.hid HEA
    have HB1E := Lib.hid hb1e
    clear HEA hb1e hb1l
    go_wp2_with fail
    refine Drawn.wp_region_flowL 21 [Drawn.SP.is (.int .i64 E), Drawn.SP.is (.int .i64 E), Drawn.SP.is (.bool false), Drawn.SP.is (.bool false), Drawn.SP.is (.pointer (some ⟨p1, 0, none⟩)), Drawn.SP.bytes b1, Drawn.SP.is (.pointer (some ⟨p2, 0, none⟩)), Drawn.SP.is (.pointer (some ⟨p2, 0, none⟩)), Drawn.SP.is (.pointer (some ⟨p2, 0, none⟩)), Drawn.SP.is (.slice (some ⟨g2, 0, none⟩) b1.length c2), Drawn.SP.is (.bool true), Drawn.SP.is (.bool false), Drawn.SP.is (.bool false), Drawn.SP.is (.bool false), Drawn.SP.is (.pointer (some ⟨p2, 0, none⟩)), Drawn.SP.is (.pointer (some ⟨p2, 0, none⟩)), Drawn.SP.is (.pointer (some ⟨p2, 0, none⟩)), Drawn.SP.is (.slice (some ⟨g2, 0, none⟩) b1.length c2), Drawn.SP.is (.int .i64 (b1.length : Nat)), Drawn.SP.is (.bool false), Drawn.SP.is (.bool false)] (by kernel_rfl) (by kernel_rfl) ?_ ?_
    · intro i hi a w1 hb hev hdep
      rcases (show i = 0 ∨ i = 1 ∨ i = 2 ∨ i = 3 ∨ i = 4 ∨ i = 5 ∨ i = 6 ∨ i = 7 ∨ i = 8 ∨ i = 9 ∨ i = 10 ∨ i = 11 ∨ i = 12 ∨ i = 13 ∨ i = 14 ∨ i = 15 ∨ i = 16 ∨ i = 17 ∨ i = 18 ∨ i = 19 ∨ i = 20 by omega) with rfl | rfl | rfl | rfl | rfl | rfl | rfl | rfl | rfl | rfl | rfl | rfl | rfl | rfl | rfl | rfl | rfl | rfl | rfl | rfl | rfl
      · have e10 : a.tmps[10]?.getD undef = .int .i64 E := hev 10 rfl
        refine Drawn.wpOp_flow 47 rfl rfl rfl ?_
        clear hev hdep hb
        go_simp
        exact ⟨_, rfl, rfl, Below.refl _ _⟩
      · have e11 : a.tmps[11]?.getD undef = .int .i64 E := hev 11 rfl
        refine Drawn.wpOp_flow 48 rfl rfl rfl ?_
        clear hev hdep hb
        go_simp
        exact ⟨_, rfl, rfl, Below.refl _ _⟩
      · have d0 : a.tmps[47]?.getD undef = .int .i64 E := hdep 0 rfl
        have d1 : a.tmps[48]?.getD undef = .int .i64 E := hdep 1 rfl
        refine Drawn.wpOp_flow 49 rfl rfl rfl ?_
        clear hev hdep hb
        go_simp
        exact ⟨_, rfl, rfl, Below.refl _ _⟩
      · have d2 : a.tmps[49]?.getD undef = .bool false := hdep 2 rfl
        refine Drawn.wpOp_flow 50 rfl rfl rfl ?_
        clear hev hdep hb
        go_simp
        exact ⟨_, rfl, rfl, Below.refl _ _⟩
      · have e8 : a.tmps[8]?.getD undef = .pointer (some ⟨p1, 0, none⟩) := hev 8 rfl
        have dg : a.tmps[50]?.getD undef = .bool false := hdep 3 rfl
        refine Drawn.wpOp_flow 51 rfl (Drawn.wanted_of rfl rfl rfl dg) rfl ?_
        clear dg
        clear hev hdep hb
        go_simp
        exact ⟨_, rfl, rfl, Below.refl _ _⟩
      · have d4 : a.tmps[51]?.getD undef = .pointer (some ⟨p1, 0, none⟩) := hdep 4 rfl
        have dg : a.tmps[50]?.getD undef = .bool false := hdep 3 rfl
        refine Drawn.wpOp_flow 52 rfl (Drawn.wanted_of rfl rfl rfl dg) rfl ?_
        clear hev hdep
        have C := CIM.out w1 hb
        clear hb
        go_simp
        refine C.mono ?_
        rintro e w' ⟨v, rfl, ho, hb'⟩
        obtain ⟨X, d, rfl, q1, q2, q3⟩ := ho.bytes
        exact ⟨_, rfl, ⟨X, d, rfl, q1, q2, q3⟩, hb'⟩
      · have e9 : a.tmps[9]?.getD undef = .pointer (some ⟨p2, 0, none⟩) := hev 9 rfl
        have dg : a.tmps[50]?.getD undef = .bool false := hdep 3 rfl
        refine Drawn.wpOp_flow 53 rfl (Drawn.wanted_of rfl rfl rfl dg) rfl ?_
        clear dg
        clear hev hdep hb
        go_simp
        exact ⟨_, rfl, rfl, Below.refl _ _⟩
      · have d6 : a.tmps[53]?.getD undef = .pointer (some ⟨p2, 0, none⟩) := hdep 6 rfl
        have dg : a.tmps[50]?.getD undef = .bool false := hdep 3 rfl
        refine Drawn.wpOp_flow 54 rfl (Drawn.wanted_of rfl rfl rfl dg) rfl ?_
        clear dg
        clear hev hdep hb
        go_simp
        exact ⟨_, rfl, rfl, Below.refl _ _⟩
      · have d7 : a.tmps[54]?.getD undef = .pointer (some ⟨p2, 0, none⟩) := hdep 7 rfl
        have dg : a.tmps[50]?.getD undef = .bool false := hdep 3 rfl
        refine Drawn.wpOp_flow 55 rfl (Drawn.wanted_of rfl rfl rfl dg) rfl ?_
        clear dg
        clear hev hdep hb
        go_simp
        exact ⟨_, rfl, rfl, Below.refl _ _⟩
      · have d8 : a.tmps[55]?.getD undef = .pointer (some ⟨p2, 0, none⟩) := hdep 8 rfl
        have dg : a.tmps[50]?.getD undef = .bool false := hdep 3 rfl
        refine Drawn.wpOp_flow 56 rfl (Drawn.wanted_of rfl rfl rfl dg) rfl ?_
        have k1 := (hb.cell (p := ⟨p2, 0, none⟩) (cell_lt EB.out)).trans EB.out
        clear dg
        clear hev hdep hb
        go_simp
        exact ⟨_, rfl, rfl, Below.refl _ _⟩
      · obtain ⟨Xd5, dd5, d5, hd5, kd5, qd5⟩ : (Drawn.SP.bytes b1).p (a.tmps[52]?.getD undef) w1 := hdep 5 rfl
        have d9 : a.tmps[56]?.getD undef = .slice (some ⟨g2, 0, none⟩) b1.length c2 := hdep 9 rfl
        have dg : a.tmps[50]?.getD undef = .bool false := hdep 3 rfl
        refine Drawn.wpOp_flow 57 rfl (Drawn.wanted_of rfl rfl rfl dg) rfl ?_
        clear hev hdep
        have C := CSA.out w1 Xd5 dd5 hb qd5 hml
        clear hb
        go_simp
        refine C.mono ?_
        rintro e w' ⟨rfl, hq⟩
        exact ⟨_, rfl, rfl, bquiet hq⟩
      · have d10 : a.tmps[57]?.getD undef = .bool true := hdep 10 rfl
        have dg : a.tmps[50]?.getD undef = .bool false := hdep 3 rfl
        refine Drawn.wpOp_flow 58 rfl (Drawn.wanted_of rfl rfl rfl dg) rfl ?_
        clear dg
        clear hev hdep hb
        go_simp
        exact ⟨_, rfl, rfl, Below.refl _ _⟩
      · have d3 : a.tmps[50]?.getD undef = .bool false := hdep 3 rfl
        have d11 : a.tmps[58]?.getD undef = .bool false := hdep 11 rfl
        refine Drawn.wpOp_flow 59 rfl rfl rfl ?_
        clear hev hdep hb
        go_simp
        exact ⟨_, rfl, rfl, Below.refl _ _⟩
      · have d12 : a.tmps[59]?.getD undef = .bool false := hdep 12 rfl
        refine Drawn.wpOp_flow 60 rfl rfl rfl ?_
        clear hev hdep hb
        go_simp
        exact ⟨_, rfl, rfl, Below.refl _ _⟩
      · have e9 : a.tmps[9]?.getD undef = .pointer (some ⟨p2, 0, none⟩) := hev 9 rfl
        have dg : a.tmps[60]?.getD undef = .bool false := hdep 13 rfl
        refine Drawn.wpOp_flow 61 rfl (Drawn.wanted_of rfl rfl rfl dg) rfl ?_
        clear dg
        clear hev hdep hb
        go_simp
        exact ⟨_, rfl, rfl, Below.refl _ _⟩
      · have d14 : a.tmps[61]?.getD undef = .pointer (some ⟨p2, 0, none⟩) := hdep 14 rfl
        have dg : a.tmps[60]?.getD undef = .bool false := hdep 13 rfl
        refine Drawn.wpOp_flow 62 rfl (Drawn.wanted_of rfl rfl rfl dg) rfl ?_
        clear dg
        clear hev hdep hb
        go_simp
        exact ⟨_, rfl, rfl, Below.refl _ _⟩
      · have d15 : a.tmps[62]?.getD undef = .pointer (some ⟨p2, 0, none⟩) := hdep 15 rfl
        have dg : a.tmps[60]?.getD undef = .bool false := hdep 13 rfl
        refine Drawn.wpOp_flow 63 rfl (Drawn.wanted_of rfl rfl rfl dg) rfl ?_
        clear dg
        clear hev hdep hb
        go_simp
        exact ⟨_, rfl, rfl, Below.refl _ _⟩
      · have d16 : a.tmps[63]?.getD undef = .pointer (some ⟨p2, 0, none⟩) := hdep 16 rfl
        have dg : a.tmps[60]?.getD undef = .bool false := hdep 13 rfl
        refine Drawn.wpOp_flow 64 rfl (Drawn.wanted_of rfl rfl rfl dg) rfl ?_
        have k1 := (hb.cell (p := ⟨p2, 0, none⟩) (cell_lt EB.out)).trans EB.out
        clear dg
        clear hev hdep hb
        go_simp
        exact ⟨_, rfl, rfl, Below.refl _ _⟩
      · have d17 : a.tmps[64]?.getD undef = .slice (some ⟨g2, 0, none⟩) b1.length c2 := hdep 17 rfl
        have dg : a.tmps[60]?.getD undef = .bool false := hdep 13 rfl
        refine Drawn.wpOp_flow 65 rfl (Drawn.wanted_of rfl rfl rfl dg) rfl ?_
        clear dg
        clear hev hdep hb
        go_simp
        exact ⟨_, rfl, rfl, Below.refl _ _⟩
      · have d18 : a.tmps[65]?.getD undef = .int .i64 (b1.length : Nat) := hdep 18 rfl
        have dg : a.tmps[60]?.getD undef = .bool false := hdep 13 rfl
        refine Drawn.wpOp_flow 66 rfl (Drawn.wanted_of rfl rfl rfl dg) rfl ?_
        clear dg
        clear hev hdep hb
        go_simp
        exact ⟨_, rfl, rfl, Below.refl _ _⟩
      · have d13 : a.tmps[60]?.getD undef = .bool false := hdep 13 rfl
        have d19 : a.tmps[66]?.getD undef = .bool false := hdep 19 rfl
        refine Drawn.wpOp_flow 67 rfl rfl rfl ?_
        clear hev hdep hb
        go_simp
        exact ⟨_, rfl, rfl, Below.refl _ _⟩
    · intro xq w1 hb hxq
      have vq0 : xq 0 = .int .i64 E := hxq 0 (by omega)
      have vq1 : xq 1 = .int .i64 E := hxq 1 (by omega)
      have vq2 : xq 2 = .bool false := hxq 2 (by omega)
      have vq3 : xq 3 = .bool false := hxq 3 (by omega)
      have vq4 : xq 4 = .pointer (some ⟨p1, 0, none⟩) := hxq 4 (by omega)
      have vq6 : xq 6 = .pointer (some ⟨p2, 0, none⟩) := hxq 6 (by omega)
      have vq7 : xq 7 = .pointer (some ⟨p2, 0, none⟩) := hxq 7 (by omega)
      have vq8 : xq 8 = .pointer (some ⟨p2, 0, none⟩) := hxq 8 (by omega)
      have vq9 : xq 9 = .slice (some ⟨g2, 0, none⟩) b1.length c2 := hxq 9 (by omega)
      have vq10 : xq 10 = .bool true := hxq 10 (by omega)
      have vq11 : xq 11 = .bool false := hxq 11 (by omega)
      have vq12 : xq 12 = .bool false := hxq 12 (by omega)
      have vq13 : xq 13 = .bool false := hxq 13 (by omega)
      have vq14 : xq 14 = .pointer (some ⟨p2, 0, none⟩) := hxq 14 (by omega)
      have vq15 : xq 15 = .pointer (some ⟨p2, 0, none⟩) := hxq 15 (by omega)
      have vq16 : xq 16 = .pointer (some ⟨p2, 0, none⟩) := hxq 16 (by omega)
      have vq17 : xq 17 = .slice (some ⟨g2, 0, none⟩) b1.length c2 := hxq 17 (by omega)
      have vq18 : xq 18 = .int .i64 (b1.length : Nat) := hxq 18 (by omega)
      have vq19 : xq 19 = .bool false := hxq 19 (by omega)
      have vq20 : xq 20 = .bool false := hxq 20 (by omega)
      show Exit.then _ _ Exit.normal (Drawn.acts _ [(67, some (xq 20)), (66, some (xq 19)), (65, some (xq 18)), (64, some (xq 17)), (63, some (xq 16)), (62, some (xq 15)), (61, some (xq 14)), (60, some (xq 13)), (59, some (xq 12)), (58, some (xq 11)), (57, some (xq 10)), (56, some (xq 9)), (55, some (xq 8)), (54, some (xq 7)), (53, some (xq 6)), (52, some (xq 5)), (51, some (xq 4)), (50, some (xq 3)), (49, some (xq 2)), (48, some (xq 1)), (47, some (xq 0))]) _
      rw [vq0, vq1, vq2, vq3, vq4, vq6, vq7, vq8, vq9, vq10, vq11, vq12, vq13, vq14, vq15, vq16, vq17, vq18, vq19, vq20]
      clear hxq vq0 vq1 vq2 vq3 vq4 vq6 vq7 vq8 vq9 vq10 vq11 vq12 vq13 vq14 vq15 vq16 vq17 vq18 vq19 vq20
      generalize xq 5 = yq5
      clear xq
      simp only [Drawn.acts]
      go_simp
      have HPB := Lib.hid (HPA.out.step hb)
      have HTB2 := Lib.hid (HTBL.out _ _ HTA.out hb)
      have HLB : Hid (b1.length = 64 * z) := Lib.hid (by rw [HB1E.out]; exact HL1.out)
      have hx1 := HTB2.out.2
      clear hb CIM CSA hml hb0l hne0 hne1 hne2 EB HPA HTA HL1
      have CP1 := Lib.hid (power_any p1 g1 c1 m1 x1 w1 HPB.out.d1)
      rw [← HB1E.out] at CP1
      have CP2 := Lib.hid (fun W (hd : DAt W p2 g2 c2 (nrm m1)) => R16.power_any p2 g2 c2 (nrm m1) x1 W hd)
      rw [show (nrm m1).power x1 = nrm ⟨m1.b, x1, false⟩ from rfl, ← HB1E.out] at CP2
      have hfin : Fine ⟨b1, x1, false⟩ := ⟨(fun e => nomatch e), HX1R.out⟩
      have HFI := Lib.hid hfin
      have HBL2 : Hid ((⟨b1, x1, false⟩ : Dk).b.length = 64 * z) := HLB
      clear hfin
      go_wp2_with fail
      refine CP1.out.mono ?_
      rintro e w5 ⟨rfl, hd5, hk5⟩
      have HP5 := Lib.hid (HPB.out.step1 hd5 (hk5.mono (G := PG p1 g1) fun _ _ h => .inl h))
      have HT5 := Lib.hid (HTK.out w1 w5 HTB2.out (hk5.mono fun _ _ h => .inl (.inl h)))
      have CP3 := Lib.hid (CP2.out w5 HP5.out.d2)
      have hx5 := HT5.out.2
      clear hd5 hk5 CP1 CP2 HPB HTB2 hx1
      go_wp2_with fail
      refine CP3.out.mono ?_
      rintro e w6 ⟨rfl, hd6, hk6⟩
      have HP6 := Lib.hid (HP5.out.step2 hd6 (hk6.mono (G := PG p2 g2) fun _ _ h => .inl h))
      have HT6 := Lib.hid (HTK.out w5 w6 HT5.out (hk6.mono fun _ _ h => .inr (.inl h)))
      clear hd6 hk6 CP3 hx5 HP5 HT5
      have CRC := Lib.hid (recover_any tb p1 g1 c1 z ⟨b1, x1, false⟩ w6 HT6.out.1 HP6.out.d1 HBL2.out (by have := HSZ.out; omega) HFI.out)
      have CAG := Lib.hid (fun W (hd : DAt W p2 g2 c2 (nrm ⟨b1, x1, false⟩)) => R19.again_any p2 g2 c2 z (nrm ⟨b1, x1, false⟩) W hd HBL2.out (by have := HSZ.out; omega))
      rw [show (nrm ⟨b1, x1, false⟩).b = b1 from rfl] at CAG
      have hinr : R19.InR (nrm ⟨b1, x1, false⟩).left := Law16.nrm_range HFI.out
      have CWA := Lib.hid (fun W X d (hd : DAt W p2 g2 c2 (nrm ⟨b1, x1, false⟩)) hX hXa hll => R19.writeAll_any p2 g2 c2 (nrm ⟨b1, x1, false⟩) X (againN z b1) d W hd (by show b1.length ≤ _; rw [HLB.out]; have := HZ60.out; omega) hinr hX hXa hll)
      rw [nrm_runW] at CWA
      have hrl : (recD z ⟨b1, x1, false⟩).1.b.length = 64 * z := by unfold recD; rw [runW_len]; exact HLB.out
      have hcl2 := fun hok => recD_clean (n := z) (m := ⟨b1, x1, false⟩) HBL2.out hok
      rw [show runW ⟨b1, x1, false⟩ (againN z b1) = recD z ⟨b1, x1, false⟩ from rfl] at CWA
      have hag : (againN z b1).length ≤ 1000000 := again_few z b1
      generalize recD z ⟨b1, x1, false⟩ = st at *
      obtain ⟨m9, ok⟩ := st
      simp only at CRC CWA hrl hcl2
      have HRL := Lib.hid hrl; have HCL2 := Lib.hid hcl2; have HAG := Lib.hid hag
      obtain ⟨E2, hE⟩ : ∃ E2 : Int, E2 = (if ok = true then 0 else 15) := ⟨_, rfl⟩
      rw [← hE] at CRC CWA
      have HE := Lib.hid hE
      clear hinr hrl hcl2 hag hE
      go_wp2_with fail
      refine CRC.out.mono ?_
      rintro e w7 ⟨rfl, hd7, hk7⟩
      have HP7 := Lib.hid (HP6.out.step1 hd7 hk7)
      have CA2 := Lib.hid (CAG.out w7 HP7.out.d2)
      have hlt7 := HP7.out.lt
      clear hd7 hk7 CRC CAG HP6 HT6
      generalize againN z b1 = AG at *
      go_wp2_with fail
      refine CA2.out.mono ?_
      rintro e w8 ⟨X8, d8, rfl, y1, y2, y3, hb8, y4⟩
      have HP8 := Lib.hid (HP7.out.step hb8)
      have CW8 := Lib.hid (CWA.out w8 X8 d8 HP8.out.d2 (y3.mono fun k _ hk => ⟨by omega, by omega⟩) (fun _ a e => by have := y4 a e; exact ⟨by omega, by omega⟩) HAG.out)
      clear y3 y4 hb8 CA2 CWA HP7 hlt7
      generalize AG.length = agn at *
      go_wp2_with fail
      refine CW8.out.mono ?_
      rintro e w9 ⟨rfl, hd9, hk9⟩
      have HP9 := Lib.hid (HP8.out.step2 hd9 hk9)
      have HEB := HP9.out.d2.c0
      clear hd9 hk9 CW8 HP8
      have hb9l : m9.b.length ≤ 32768 := by rw [HRL.out]; have := HZ60.out; omega
      have CIM : Hid (∀ W, Below w9.heap.size w9 W → Calls Tryz.prog 16 #[.pointer (some ⟨p1, 0, none⟩)] W (Disk.RetOwn W m9.b)) := Lib.hid fun W hb => image_any p1 g1 c1 m9 W (HP9.out.d1.below hb) hb9l
      have CCL : Hid (∀ W, Below w9.heap.size w9 W → Calls Tryz.prog 19 #[.pointer (some ⟨p1, 0, none⟩)] W fun e w' => e = .returned (.bool (cleanV z m9.b)) ∧ Below W.heap.size W w') := Lib.hid fun W hb => clean_any p1 g1 c1 z m9 W (HP9.out.d1.below hb) HRL.out (by have := HSZ.out; omega)
      have CSA : Hid (∀ W X d, Below w9.heap.size w9 W → BytesAt W X m9.b → m9.b.length ≤ maxLen → Calls Tryz.prog 15 #[.slice X m9.b.length d, .slice (some ⟨g2, 0, none⟩) m9.b.length c2] W fun e w' => e = .returned (.bool true) ∧ ∃ n, w' = W.drewN n) := Lib.hid fun W X d hb hX hm => R01.same_eq X (some ⟨g2, 0, none⟩) m9.b m9.b d c2 W hX ((HP9.out.d2.bytes).below hb) hm rfl
      have hml : m9.b.length ≤ maxLen := by unfold maxLen; omega
      rw [show (nrm (m9, ok).1).b = m9.b from rfl] at HEB
      generalize m9.b = b9 at *
      have EB := Lib.hid HEB
      clear HEB hb9l HRL HAG HFI HBL2 HLB HB1E HF1
      cases ok
      · have he := HE.out
        rw [if_neg (by decide)] at he
        subst he
        clear CCL HCL2
        go_wp2_with fail
        refine Drawn.wp_region_flowL 24 [Drawn.SP.is (.int .i64 15), Drawn.SP.is (.int .i64 15), Drawn.SP.is (.bool true), Drawn.SP.is (.bool true), Drawn.SP.is (.pointer (some ⟨p1, 0, none⟩)), Drawn.SP.bytes b9, Drawn.SP.is (.pointer (some ⟨p2, 0, none⟩)), Drawn.SP.is (.pointer (some ⟨p2, 0, none⟩)), Drawn.SP.is (.pointer (some ⟨p2, 0, none⟩)), Drawn.SP.is (.slice (some ⟨g2, 0, none⟩) b9.length c2), Drawn.SP.is (.bool true), Drawn.SP.is (.bool true), Drawn.SP.is (.bool true), Drawn.SP.is (.int .i64 15), Drawn.SP.is (.bool true), Drawn.SP.is (.bool true), Drawn.SP.is (undef), Drawn.SP.is (undef), Drawn.SP.is (.bool true), Drawn.SP.is (.bool true), Drawn.SP.is (.bool true), Drawn.SP.is (.bool true), Drawn.SP.is (.bool true), Drawn.SP.is (.bool true)] (by kernel_rfl) (by kernel_rfl) ?_ ?_
        · intro i hi a w1 hb hev hdep
          rcases (show i = 0 ∨ i = 1 ∨ i = 2 ∨ i = 3 ∨ i = 4 ∨ i = 5 ∨ i = 6 ∨ i = 7 ∨ i = 8 ∨ i = 9 ∨ i = 10 ∨ i = 11 ∨ i = 12 ∨ i = 13 ∨ i = 14 ∨ i = 15 ∨ i = 16 ∨ i = 17 ∨ i = 18 ∨ i = 19 ∨ i = 20 ∨ i = 21 ∨ i = 22 ∨ i = 23 by omega) with rfl | rfl | rfl | rfl | rfl | rfl | rfl | rfl | rfl | rfl | rfl | rfl | rfl | rfl | rfl | rfl | rfl | rfl | rfl | rfl | rfl | rfl | rfl | rfl
          · have e10 : a.tmps[10]?.getD undef = .int .i64 15 := hev 10 rfl
            refine Drawn.wpOp_flow 83 rfl rfl rfl ?_
            clear hev hdep hb
            go_simp
            exact ⟨_, rfl, rfl, Below.refl _ _⟩
          · have e11 : a.tmps[11]?.getD undef = .int .i64 15 := hev 11 rfl
            refine Drawn.wpOp_flow 84 rfl rfl rfl ?_
            clear hev hdep hb
            go_simp
            exact ⟨_, rfl, rfl, Below.refl _ _⟩
          · have d0 : a.tmps[83]?.getD undef = .int .i64 15 := hdep 0 rfl
            have d1 : a.tmps[84]?.getD undef = .int .i64 15 := hdep 1 rfl
            refine Drawn.wpOp_flow 85 rfl rfl rfl ?_
            clear hev hdep hb
            go_simp
            exact ⟨_, rfl, rfl, Below.refl _ _⟩
          · have d2 : a.tmps[85]?.getD undef = .bool true := hdep 2 rfl
            refine Drawn.wpOp_flow 86 rfl rfl rfl ?_
            clear hev hdep hb
            go_simp
            exact ⟨_, rfl, rfl, Below.refl _ _⟩
          · have e8 : a.tmps[8]?.getD undef = .pointer (some ⟨p1, 0, none⟩) := hev 8 rfl
            have dg : a.tmps[86]?.getD undef = .bool true := hdep 3 rfl
            refine Drawn.wpOp_flow 87 rfl (Drawn.wanted_of rfl rfl rfl dg) rfl ?_
            clear dg
            clear hev hdep hb
            go_simp
            exact ⟨_, rfl, rfl, Below.refl _ _⟩
          · have d4 : a.tmps[87]?.getD undef = .pointer (some ⟨p1, 0, none⟩) := hdep 4 rfl
            have dg : a.tmps[86]?.getD undef = .bool true := hdep 3 rfl
            refine Drawn.wpOp_flow 88 rfl (Drawn.wanted_of rfl rfl rfl dg) rfl ?_
            clear hev hdep
            have C := CIM.out w1 hb
            clear hb
            go_simp
            refine C.mono ?_
            rintro e w' ⟨v, rfl, ho, hb'⟩
            obtain ⟨X, d, rfl, q1, q2, q3⟩ := ho.bytes
            exact ⟨_, rfl, ⟨X, d, rfl, q1, q2, q3⟩, hb'⟩
          · have e9 : a.tmps[9]?.getD undef = .pointer (some ⟨p2, 0, none⟩) := hev 9 rfl
            have dg : a.tmps[86]?.getD undef = .bool true := hdep 3 rfl
            refine Drawn.wpOp_flow 89 rfl (Drawn.wanted_of rfl rfl rfl dg) rfl ?_
            clear dg
            clear hev hdep hb
            go_simp
            exact ⟨_, rfl, rfl, Below.refl _ _⟩
          · have d6 : a.tmps[89]?.getD undef = .pointer (some ⟨p2, 0, none⟩) := hdep 6 rfl
            have dg : a.tmps[86]?.getD undef = .bool true := hdep 3 rfl
            refine Drawn.wpOp_flow 90 rfl (Drawn.wanted_of rfl rfl rfl dg) rfl ?_
            clear dg
            clear hev hdep hb
            go_simp
            exact ⟨_, rfl, rfl, Below.refl _ _⟩
          · have d7 : a.tmps[90]?.getD undef = .pointer (some ⟨p2, 0, none⟩) := hdep 7 rfl
            have dg : a.tmps[86]?.getD undef = .bool true := hdep 3 rfl
            refine Drawn.wpOp_flow 91 rfl (Drawn.wanted_of rfl rfl rfl dg) rfl ?_
            clear dg
            clear hev hdep hb
            go_simp
            exact ⟨_, rfl, rfl, Below.refl _ _⟩
          · have d8 : a.tmps[91]?.getD undef = .pointer (some ⟨p2, 0, none⟩) := hdep 8 rfl
            have dg : a.tmps[86]?.getD undef = .bool true := hdep 3 rfl
            refine Drawn.wpOp_flow 92 rfl (Drawn.wanted_of rfl rfl rfl dg) rfl ?_
            have k1 := (hb.cell (p := ⟨p2, 0, none⟩) (cell_lt EB.out)).trans EB.out
            clear dg
            clear hev hdep hb
            go_simp
            exact ⟨_, rfl, rfl, Below.refl _ _⟩
          · obtain ⟨Xd5, dd5, d5, hd5, kd5, qd5⟩ : (Drawn.SP.bytes b9).p (a.tmps[88]?.getD undef) w1 := hdep 5 rfl
            have d9 : a.tmps[92]?.getD undef = .slice (some ⟨g2, 0, none⟩) b9.length c2 := hdep 9 rfl
            have dg : a.tmps[86]?.getD undef = .bool true := hdep 3 rfl
            refine Drawn.wpOp_flow 93 rfl (Drawn.wanted_of rfl rfl rfl dg) rfl ?_
            clear hev hdep
            have C := CSA.out w1 Xd5 dd5 hb qd5 hml
            clear hb
            go_simp
            refine C.mono ?_
            rintro e w' ⟨rfl, hq⟩
            exact ⟨_, rfl, rfl, bquiet hq⟩
          · have d3 : a.tmps[86]?.getD undef = .bool true := hdep 3 rfl
            have d10 : a.tmps[93]?.getD undef = .bool true := hdep 10 rfl
            refine Drawn.wpOp_flow 94 rfl rfl rfl ?_
            clear hev hdep hb
            go_simp
            exact ⟨_, rfl, rfl, Below.refl _ _⟩
          · have d11 : a.tmps[94]?.getD undef = .bool true := hdep 11 rfl
            refine Drawn.wpOp_flow 95 rfl rfl rfl ?_
            clear hev hdep hb
            go_simp
            exact ⟨_, rfl, rfl, Below.refl _ _⟩
          · have e10 : a.tmps[10]?.getD undef = .int .i64 15 := hev 10 rfl
            have dg : a.tmps[95]?.getD undef = .bool true := hdep 12 rfl
            refine Drawn.wpOp_flow 96 rfl (Drawn.wanted_of rfl rfl rfl dg) rfl ?_
            clear dg
            clear hev hdep hb
            go_simp
            exact ⟨_, rfl, rfl, Below.refl _ _⟩
          · have d13 : a.tmps[96]?.getD undef = .int .i64 15 := hdep 13 rfl
            have dg : a.tmps[95]?.getD undef = .bool true := hdep 12 rfl
            refine Drawn.wpOp_flow 97 rfl (Drawn.wanted_of rfl rfl rfl dg) rfl ?_
            clear dg
            clear hev hdep hb
            go_simp
            exact ⟨_, rfl, rfl, Below.refl _ _⟩
          · have d14 : a.tmps[97]?.getD undef = .bool true := hdep 14 rfl
            have dg : a.tmps[95]?.getD undef = .bool true := hdep 12 rfl
            refine Drawn.wpOp_flow 98 rfl (Drawn.wanted_of rfl rfl rfl dg) rfl ?_
            clear dg
            clear hev hdep hb
            go_simp
            exact ⟨_, rfl, rfl, Below.refl _ _⟩
          · have dg : a.tmps[98]?.getD undef = .bool true := hdep 15 rfl
            exact Drawn.wpOp_flow_skip 99 rfl (Drawn.unwanted_of rfl rfl rfl dg rfl) rfl rfl
          · have dg : a.tmps[98]?.getD undef = .bool true := hdep 15 rfl
            exact Drawn.wpOp_flow_skip 100 rfl (Drawn.unwanted_of rfl rfl rfl dg rfl) rfl rfl
          · have d15 : a.tmps[98]?.getD undef = .bool true := hdep 15 rfl
            have d17 : a.tmps[100]?.getD undef = undef := hdep 17 rfl
            have dg : a.tmps[95]?.getD undef = .bool true := hdep 12 rfl
            refine Drawn.wpOp_flow 101 rfl (Drawn.wanted_of rfl rfl rfl dg) rfl ?_
            clear dg
            clear hev hdep hb
            go_simp
            exact ⟨_, rfl, rfl, Below.refl _ _⟩
          · have d12 : a.tmps[95]?.getD undef = .bool true := hdep 12 rfl
            have d18 : a.tmps[101]?.getD undef = .bool true := hdep 18 rfl
            refine Drawn.wpOp_flow 102 rfl rfl rfl ?_
            clear hev hdep hb
            go_simp
            exact ⟨_, rfl, rfl, Below.refl _ _⟩
          · have d19 : a.tmps[102]?.getD undef = .bool true := hdep 19 rfl
            refine Drawn.wpOp_flow 103 rfl rfl rfl ?_
            clear hev hdep hb
            go_simp
            exact ⟨_, rfl, rfl, Below.refl _ _⟩
          · have dg : a.tmps[103]?.getD undef = .bool true := hdep 20 rfl
            refine Drawn.wpOp_flow 104 rfl (Drawn.wanted_of rfl rfl rfl dg) rfl ?_
            clear hev hdep
            have C := alive_any w1
            clear hb
            go_simp
            refine C.mono ?_
            rintro e w' ⟨rfl, hb'⟩
            exact ⟨_, rfl, rfl, hb'⟩
          · have d20 : a.tmps[103]?.getD undef = .bool true := hdep 20 rfl
            have d21 : a.tmps[104]?.getD undef = .bool true := hdep 21 rfl
            refine Drawn.wpOp_flow 105 rfl rfl rfl ?_
            clear hev hdep hb
            go_simp
            exact ⟨_, rfl, rfl, Below.refl _ _⟩
          · have d22 : a.tmps[105]?.getD undef = .bool true := hdep 22 rfl
            refine Drawn.wpOp_flow 6 rfl rfl rfl ?_
            clear hev hdep hb
            go_simp
            exact ⟨_, rfl, rfl, Below.refl _ _⟩
        · intro xq w1 hb hxq
          have vq0 : xq 0 = .int .i64 15 := hxq 0 (by omega)
          have vq1 : xq 1 = .int .i64 15 := hxq 1 (by omega)
          have vq2 : xq 2 = .bool true := hxq 2 (by omega)
          have vq3 : xq 3 = .bool true := hxq 3 (by omega)
          have vq4 : xq 4 = .pointer (some ⟨p1, 0, none⟩) := hxq 4 (by omega)
          have vq6 : xq 6 = .pointer (some ⟨p2, 0, none⟩) := hxq 6 (by omega)
          have vq7 : xq 7 = .pointer (some ⟨p2, 0, none⟩) := hxq 7 (by omega)
          have vq8 : xq 8 = .pointer (some ⟨p2, 0, none⟩) := hxq 8 (by omega)
          have vq9 : xq 9 = .slice (some ⟨g2, 0, none⟩) b9.length c2 := hxq 9 (by omega)
          have vq10 : xq 10 = .bool true := hxq 10 (by omega)
          have vq11 : xq 11 = .bool true := hxq 11 (by omega)
          have vq12 : xq 12 = .bool true := hxq 12 (by omega)
          have vq13 : xq 13 = .int .i64 15 := hxq 13 (by omega)
          have vq14 : xq 14 = .bool true := hxq 14 (by omega)
          have vq15 : xq 15 = .bool true := hxq 15 (by omega)
          have vq16 : xq 16 = undef := hxq 16 (by omega)
          have vq17 : xq 17 = undef := hxq 17 (by omega)
          have vq18 : xq 18 = .bool true := hxq 18 (by omega)
          have vq19 : xq 19 = .bool true := hxq 19 (by omega)
          have vq20 : xq 20 = .bool true := hxq 20 (by omega)
          have vq21 : xq 21 = .bool true := hxq 21 (by omega)
          have vq22 : xq 22 = .bool true := hxq 22 (by omega)
          have vq23 : xq 23 = .bool true := hxq 23 (by omega)
          show Exit.then _ _ Exit.normal (Drawn.acts _ [(6, some (xq 23)), (105, some (xq 22)), (104, some (xq 21)), (103, some (xq 20)), (102, some (xq 19)), (101, some (xq 18)), (100, some (xq 17)), (99, some (xq 16)), (98, some (xq 15)), (97, some (xq 14)), (96, some (xq 13)), (95, some (xq 12)), (94, some (xq 11)), (93, some (xq 10)), (92, some (xq 9)), (91, some (xq 8)), (90, some (xq 7)), (89, some (xq 6)), (88, some (xq 5)), (87, some (xq 4)), (86, some (xq 3)), (85, some (xq 2)), (84, some (xq 1)), (83, some (xq 0))]) _
          rw [vq0, vq1, vq2, vq3, vq4, vq6, vq7, vq8, vq9, vq10, vq11, vq12, vq13, vq14, vq15, vq16, vq17, vq18, vq19, vq20, vq21, vq22, vq23]
          clear hxq vq0 vq1 vq2 vq3 vq4 vq6 vq7 vq8 vq9 vq10 vq11 vq12 vq13 vq14 vq15 vq16 vq17 vq18 vq19 vq20 vq21 vq22 vq23
          generalize xq 5 = yq5
          clear xq
          simp only [Drawn.acts]
          go_simp
          have HB := Lib.hid (bstep HP9.out.below hb)
          clear hb
          go_wp2
          go_ret
          exact ⟨rfl, HB.out⟩
      · have he := HE.out
        rw [if_pos rfl] at he
        subst he
        rw [HCL2.out rfl] at CCL
        clear HCL2
        go_wp2_with fail
        refine Drawn.wp_region_flowL 24 [Drawn.SP.is (.int .i64 0), Drawn.SP.is (.int .i64 0), Drawn.SP.is (.bool true), Drawn.SP.is (.bool true), Drawn.SP.is (.pointer (some ⟨p1, 0, none⟩)), Drawn.SP.bytes b9, Drawn.SP.is (.pointer (some ⟨p2, 0, none⟩)), Drawn.SP.is (.pointer (some ⟨p2, 0, none⟩)), Drawn.SP.is (.pointer (some ⟨p2, 0, none⟩)), Drawn.SP.is (.slice (some ⟨g2, 0, none⟩) b9.length c2), Drawn.SP.is (.bool true), Drawn.SP.is (.bool true), Drawn.SP.is (.bool true), Drawn.SP.is (.int .i64 0), Drawn.SP.is (.bool false), Drawn.SP.is (.bool false), Drawn.SP.is (.pointer (some ⟨p1, 0, none⟩)), Drawn.SP.is (.bool true), Drawn.SP.is (.bool true), Drawn.SP.is (.bool true), Drawn.SP.is (.bool true), Drawn.SP.is (.bool true), Drawn.SP.is (.bool true), Drawn.SP.is (.bool true)] (by kernel_rfl) (by kernel_rfl) ?_ ?_
        · intro i hi a w1 hb hev hdep
          rcases (show i = 0 ∨ i = 1 ∨ i = 2 ∨ i = 3 ∨ i = 4 ∨ i = 5 ∨ i = 6 ∨ i = 7 ∨ i = 8 ∨ i = 9 ∨ i = 10 ∨ i = 11 ∨ i = 12 ∨ i = 13 ∨ i = 14 ∨ i = 15 ∨ i = 16 ∨ i = 17 ∨ i = 18 ∨ i = 19 ∨ i = 20 ∨ i = 21 ∨ i = 22 ∨ i = 23 by omega) with rfl | rfl | rfl | rfl | rfl | rfl | rfl | rfl | rfl | rfl | rfl | rfl | rfl | rfl | rfl | rfl | rfl | rfl | rfl | rfl | rfl | rfl | rfl | rfl
          · have e10 : a.tmps[10]?.getD undef = .int .i64 0 := hev 10 rfl
            refine Drawn.wpOp_flow 83 rfl rfl rfl ?_
            clear hev hdep hb
            go_simp
            exact ⟨_, rfl, rfl, Below.refl _ _⟩
          · have e11 : a.tmps[11]?.getD undef = .int .i64 0 := hev 11 rfl
            refine Drawn.wpOp_flow 84 rfl rfl rfl ?_
            clear hev hdep hb
            go_simp
            exact ⟨_, rfl, rfl, Below.refl _ _⟩
          · have d0 : a.tmps[83]?.getD undef = .int .i64 0 := hdep 0 rfl
            have d1 : a.tmps[84]?.getD undef = .int .i64 0 := hdep 1 rfl
            refine Drawn.wpOp_flow 85 rfl rfl rfl ?_
            clear hev hdep hb
            go_simp
            exact ⟨_, rfl, rfl, Below.refl _ _⟩
          · have d2 : a.tmps[85]?.getD undef = .bool true := hdep 2 rfl
            refine Drawn.wpOp_flow 86 rfl rfl rfl ?_
            clear hev hdep hb
            go_simp
            exact ⟨_, rfl, rfl, Below.refl _ _⟩
          · have e8 : a.tmps[8]?.getD undef = .pointer (some ⟨p1, 0, none⟩) := hev 8 rfl
            have dg : a.tmps[86]?.getD undef = .bool true := hdep 3 rfl
            refine Drawn.wpOp_flow 87 rfl (Drawn.wanted_of rfl rfl rfl dg) rfl ?_
            clear dg
            clear hev hdep hb
            go_simp
            exact ⟨_, rfl, rfl, Below.refl _ _⟩
          · have d4 : a.tmps[87]?.getD undef = .pointer (some ⟨p1, 0, none⟩) := hdep 4 rfl
            have dg : a.tmps[86]?.getD undef = .bool true := hdep 3 rfl
            refine Drawn.wpOp_flow 88 rfl (Drawn.wanted_of rfl rfl rfl dg) rfl ?_
            clear hev hdep
            have C := CIM.out w1 hb
            clear hb
            go_simp
            refine C.mono ?_
            rintro e w' ⟨v, rfl, ho, hb'⟩
            obtain ⟨X, d, rfl, q1, q2, q3⟩ := ho.bytes
            exact ⟨_, rfl, ⟨X, d, rfl, q1, q2, q3⟩, hb'⟩
          · have e9 : a.tmps[9]?.getD undef = .pointer (some ⟨p2, 0, none⟩) := hev 9 rfl
            have dg : a.tmps[86]?.getD undef = .bool true := hdep 3 rfl
            refine Drawn.wpOp_flow 89 rfl (Drawn.wanted_of rfl rfl rfl dg) rfl ?_
            clear dg
            clear hev hdep hb
            go_simp
            exact ⟨_, rfl, rfl, Below.refl _ _⟩
          · have d6 : a.tmps[89]?.getD undef = .pointer (some ⟨p2, 0, none⟩) := hdep 6 rfl
            have dg : a.tmps[86]?.getD undef = .bool true := hdep 3 rfl
            refine Drawn.wpOp_flow 90 rfl (Drawn.wanted_of rfl rfl rfl dg) rfl ?_
            clear dg
            clear hev hdep hb
            go_simp
            exact ⟨_, rfl, rfl, Below.refl _ _⟩
          · have d7 : a.tmps[90]?.getD undef = .pointer (some ⟨p2, 0, none⟩) := hdep 7 rfl
            have dg : a.tmps[86]?.getD undef = .bool true := hdep 3 rfl
            refine Drawn.wpOp_flow 91 rfl (Drawn.wanted_of rfl rfl rfl dg) rfl ?_
            clear dg
            clear hev hdep hb
            go_simp
            exact ⟨_, rfl, rfl, Below.refl _ _⟩
          · have d8 : a.tmps[91]?.getD undef = .pointer (some ⟨p2, 0, none⟩) := hdep 8 rfl
            have dg : a.tmps[86]?.getD undef = .bool true := hdep 3 rfl
            refine Drawn.wpOp_flow 92 rfl (Drawn.wanted_of rfl rfl rfl dg) rfl ?_
            have k1 := (hb.cell (p := ⟨p2, 0, none⟩) (cell_lt EB.out)).trans EB.out
            clear dg
            clear hev hdep hb
            go_simp
            exact ⟨_, rfl, rfl, Below.refl _ _⟩
          · obtain ⟨Xd5, dd5, d5, hd5, kd5, qd5⟩ : (Drawn.SP.bytes b9).p (a.tmps[88]?.getD undef) w1 := hdep 5 rfl
            have d9 : a.tmps[92]?.getD undef = .slice (some ⟨g2, 0, none⟩) b9.length c2 := hdep 9 rfl
            have dg : a.tmps[86]?.getD undef = .bool true := hdep 3 rfl
            refine Drawn.wpOp_flow 93 rfl (Drawn.wanted_of rfl rfl rfl dg) rfl ?_
            clear hev hdep
            have C := CSA.out w1 Xd5 dd5 hb qd5 hml
            clear hb
            go_simp
            refine C.mono ?_
            rintro e w' ⟨rfl, hq⟩
            exact ⟨_, rfl, rfl, bquiet hq⟩
          · have d3 : a.tmps[86]?.getD undef = .bool true := hdep 3 rfl
            have d10 : a.tmps[93]?.getD undef = .bool true := hdep 10 rfl
            refine Drawn.wpOp_flow 94 rfl rfl rfl ?_
            clear hev hdep hb
            go_simp
            exact ⟨_, rfl, rfl, Below.refl _ _⟩
          · have d11 : a.tmps[94]?.getD undef = .bool true := hdep 11 rfl
            refine Drawn.wpOp_flow 95 rfl rfl rfl ?_
            clear hev hdep hb
            go_simp
            exact ⟨_, rfl, rfl, Below.refl _ _⟩
          · have e10 : a.tmps[10]?.getD undef = .int .i64 0 := hev 10 rfl
            have dg : a.tmps[95]?.getD undef = .bool true := hdep 12 rfl
            refine Drawn.wpOp_flow 96 rfl (Drawn.wanted_of rfl rfl rfl dg) rfl ?_
            clear dg
            clear hev hdep hb
            go_simp
            exact ⟨_, rfl, rfl, Below.refl _ _⟩
          · have d13 : a.tmps[96]?.getD undef = .int .i64 0 := hdep 13 rfl
            have dg : a.tmps[95]?.getD undef = .bool true := hdep 12 rfl
            refine Drawn.wpOp_flow 97 rfl (Drawn.wanted_of rfl rfl rfl dg) rfl ?_
            clear dg
            clear hev hdep hb
            go_simp
            exact ⟨_, rfl, rfl, Below.refl _ _⟩
          · have d14 : a.tmps[97]?.getD undef = .bool false := hdep 14 rfl
            have dg : a.tmps[95]?.getD undef = .bool true := hdep 12 rfl
            refine Drawn.wpOp_flow 98 rfl (Drawn.wanted_of rfl rfl rfl dg) rfl ?_
            clear dg
            clear hev hdep hb
            go_simp
            exact ⟨_, rfl, rfl, Below.refl _ _⟩
          · have e8 : a.tmps[8]?.getD undef = .pointer (some ⟨p1, 0, none⟩) := hev 8 rfl
            have dg : a.tmps[98]?.getD undef = .bool false := hdep 15 rfl
            refine Drawn.wpOp_flow 99 rfl (Drawn.wanted_of rfl rfl rfl dg) rfl ?_
            clear dg
            clear hev hdep hb
            go_simp
            exact ⟨_, rfl, rfl, Below.refl _ _⟩
          · have d16 : a.tmps[99]?.getD undef = .pointer (some ⟨p1, 0, none⟩) := hdep 16 rfl
            have dg : a.tmps[98]?.getD undef = .bool false := hdep 15 rfl
            refine Drawn.wpOp_flow 100 rfl (Drawn.wanted_of rfl rfl rfl dg) rfl ?_
            clear hev hdep
            have C := CCL.out w1 hb
            clear hb
            go_simp
            refine C.mono ?_
            rintro e w' ⟨rfl, hb'⟩
            exact ⟨_, rfl, rfl, hb'⟩
          · have d15 : a.tmps[98]?.getD undef = .bool false := hdep 15 rfl
            have d17 : a.tmps[100]?.getD undef = .bool true := hdep 17 rfl
            have dg : a.tmps[95]?.getD undef = .bool true := hdep 12 rfl
            refine Drawn.wpOp_flow 101 rfl (Drawn.wanted_of rfl rfl rfl dg) rfl ?_
            clear dg
            clear hev hdep hb
            go_simp
            exact ⟨_, rfl, rfl, Below.refl _ _⟩
          · have d12 : a.tmps[95]?.getD undef = .bool true := hdep 12 rfl
            have d18 : a.tmps[101]?.getD undef = .bool true := hdep 18 rfl
            refine Drawn.wpOp_flow 102 rfl rfl rfl ?_
            clear hev hdep hb
            go_simp
            exact ⟨_, rfl, rfl, Below.refl _ _⟩
          · have d19 : a.tmps[102]?.getD undef = .bool true := hdep 19 rfl
            refine Drawn.wpOp_flow 103 rfl rfl rfl ?_
            clear hev hdep hb
            go_simp
            exact ⟨_, rfl, rfl, Below.refl _ _⟩
          · have dg : a.tmps[103]?.getD undef = .bool true := hdep 20 rfl
            refine Drawn.wpOp_flow 104 rfl (Drawn.wanted_of rfl rfl rfl dg) rfl ?_
            clear hev hdep
            have C := alive_any w1
            clear hb
            go_simp
            refine C.mono ?_
            rintro e w' ⟨rfl, hb'⟩
            exact ⟨_, rfl, rfl, hb'⟩
          · have d20 : a.tmps[103]?.getD undef = .bool true := hdep 20 rfl
            have d21 : a.tmps[104]?.getD undef = .bool true := hdep 21 rfl
            refine Drawn.wpOp_flow 105 rfl rfl rfl ?_
            clear hev hdep hb
            go_simp
            exact ⟨_, rfl, rfl, Below.refl _ _⟩
          · have d22 : a.tmps[105]?.getD undef = .bool true := hdep 22 rfl
            refine Drawn.wpOp_flow 6 rfl rfl rfl ?_
            clear hev hdep hb
            go_simp
            exact ⟨_, rfl, rfl, Below.refl _ _⟩
        · intro xq w1 hb hxq
          have vq0 : xq 0 = .int .i64 0 := hxq 0 (by omega)
          have vq1 : xq 1 = .int .i64 0 := hxq 1 (by omega)
          have vq2 : xq 2 = .bool true := hxq 2 (by omega)
          have vq3 : xq 3 = .bool true := hxq 3 (by omega)
          have vq4 : xq 4 = .pointer (some ⟨p1, 0, none⟩) := hxq 4 (by omega)
          have vq6 : xq 6 = .pointer (some ⟨p2, 0, none⟩) := hxq 6 (by omega)
          have vq7 : xq 7 = .pointer (some ⟨p2, 0, none⟩) := hxq 7 (by omega)
          have vq8 : xq 8 = .pointer (some ⟨p2, 0, none⟩) := hxq 8 (by omega)
          have vq9 : xq 9 = .slice (some ⟨g2, 0, none⟩) b9.length c2 := hxq 9 (by omega)
          have vq10 : xq 10 = .bool true := hxq 10 (by omega)
          have vq11 : xq 11 = .bool true := hxq 11 (by omega)
          have vq12 : xq 12 = .bool true := hxq 12 (by omega)
          have vq13 : xq 13 = .int .i64 0 := hxq 13 (by omega)
          have vq14 : xq 14 = .bool false := hxq 14 (by omega)
          have vq15 : xq 15 = .bool false := hxq 15 (by omega)
          have vq16 : xq 16 = .pointer (some ⟨p1, 0, none⟩) := hxq 16 (by omega)
          have vq17 : xq 17 = .bool true := hxq 17 (by omega)
          have vq18 : xq 18 = .bool true := hxq 18 (by omega)
          have vq19 : xq 19 = .bool true := hxq 19 (by omega)
          have vq20 : xq 20 = .bool true := hxq 20 (by omega)
          have vq21 : xq 21 = .bool true := hxq 21 (by omega)
          have vq22 : xq 22 = .bool true := hxq 22 (by omega)
          have vq23 : xq 23 = .bool true := hxq 23 (by omega)
          show Exit.then _ _ Exit.normal (Drawn.acts _ [(6, some (xq 23)), (105, some (xq 22)), (104, some (xq 21)), (103, some (xq 20)), (102, some (xq 19)), (101, some (xq 18)), (100, some (xq 17)), (99, some (xq 16)), (98, some (xq 15)), (97, some (xq 14)), (96, some (xq 13)), (95, some (xq 12)), (94, some (xq 11)), (93, some (xq 10)), (92, some (xq 9)), (91, some (xq 8)), (90, some (xq 7)), (89, some (xq 6)), (88, some (xq 5)), (87, some (xq 4)), (86, some (xq 3)), (85, some (xq 2)), (84, some (xq 1)), (83, some (xq 0))]) _
          rw [vq0, vq1, vq2, vq3, vq4, vq6, vq7, vq8, vq9, vq10, vq11, vq12, vq13, vq14, vq15, vq16, vq17, vq18, vq19, vq20, vq21, vq22, vq23]
          clear hxq vq0 vq1 vq2 vq3 vq4 vq6 vq7 vq8 vq9 vq10 vq11 vq12 vq13 vq14 vq15 vq16 vq17 vq18 vq19 vq20 vq21 vq22 vq23
          generalize xq 5 = yq5
          clear xq
          simp only [Drawn.acts]
          go_simp
          have HB := Lib.hid (bstep HP9.out.below hb)
          clear hb
          go_wp2
          go_ret
          exact ⟨rfl, HB.out⟩
end Go.Proofs.YtapgpibindhlfaaGreat.Law19
