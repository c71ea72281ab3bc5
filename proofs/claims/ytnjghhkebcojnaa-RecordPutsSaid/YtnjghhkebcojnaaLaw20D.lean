/- the walk of RecordPuts -/
import Derived.Test.YtnjghhkebcojnaaLaw20A
set_option maxRecDepth 100000
namespace Go.Proofs.Ytnjghhkebcojnaa.Law20
open Go.RowKit RecM Record
open Entry (RetPut)

theorem role_range (n : Int) : -9223372036854775808 ≤ role n ∧ role n ≤ 9223372036854775807 := by
  unfold role
  split
  · decide
  · split
    · decide
    · split <;> decide
theorem back_all (h : Hd) (l : List UInt8) (hm : (h.rc l).May) (more : List (List UInt8)) : ∀ (y : Hd) s n ok, Got ((h.rc l).put ++ more) (y.rc s) n ok → h = y ∧ l = s ∧ n = ((h.rc l).put.length : Nat) ∧ ok = true := fun y s n ok hg => by
  obtain ⟨e1, e2, e3⟩ := hg.one (.inl ⟨rfl, Are.back hm more, rfl⟩)
  obtain ⟨e4, e5⟩ := Hd.rc_inj e1
  exact ⟨e4.symm, e5.symm, by rw [e2, put_len], e3⟩
def SP.rw (m : List (List UInt8)) (n : Nat) : Drawn.SP := ⟨fun v w => ∃ Y f, v = .slice Y n f ∧ RowsAt w Y m, fun _ _ _ h hb => by
  obtain ⟨Y, f, h1, h2⟩ := h; exact ⟨Y, f, h1, h2.below hb⟩⟩
set_option maxHeartbeats 8000000 in
theorem puts_any (h : Hd) (B : Option Addr) (l : List UInt8) (c : Nat) (k : Hd) (D : Option Addr) (j : List UInt8) (d : Nat) (M : Option Addr) (more : List (List UInt8)) (cm : Nat) (w : World) (fh : Fits h) (hB : BytesAt w B l) (hl : l.length ≤ c) (hc : c ≤ maxLen) (_fk : Fits k) (hD : BytesAt w D j) (hj : j.length ≤ d) (hd : d ≤ maxLen) (hM : RowsAt w M more) (_hm : more.length ≤ cm) (_hm2 : cm ≤ maxLen) :
    Calls Try.prog 3 #[.agg #[.int .i64 h.K, .string h.s, .int .i64 h.A, .int .i64 h.E, .int .i64 h.M, .int .i64 h.S, .slice B l.length c], .agg #[.int .i64 k.K, .string k.s, .int .i64 k.A, .int .i64 k.E, .int .i64 k.M, .int .i64 k.S, .slice D j.length d], .slice M more.length cm] w fun e w' => e = .returned (.bool true) ∧ Below w.heap.size w w' := by
  have HT := Lib.hid (two_boxes w h k B D l.length c j.length d)
  have HB0 := Lib.hid (bstep (balloc w (.cells #[.int .i64 h.K, .string h.s, .int .i64 h.A, .int .i64 h.E, .int .i64 h.M, .int .i64 h.S, .slice B l.length c] 24)) (balloc _ (.cells #[.int .i64 k.K, .string k.s, .int .i64 k.A, .int .i64 k.E, .int .i64 k.M, .int .i64 k.S, .slice D j.length d] 24)))
  have CF1 := Lib.hid (fun W => R20.far_any h B l.length c W)
  have CF2 := Lib.hid (fun W => R20.far_any k D j.length d W)
  have CR1 := Lib.hid (fun W => R20.right_any h fh.s B l c W)
  have CR2 := Lib.hid (fun W => Record.right_any h fh B l c W)
  have CRO := Lib.hid (fun W => Record.role_any h.K W)
  have CRP := Lib.hid (fun W => R20.role_any h.K fh.k W)
  have CP1 := Lib.hid (fun W t (ht : Crc.Tab W t) hB => Record.put_any t h fh B l c W ht hB hl hc)
  have CS := Lib.hid (fun W hB hD => R20.same_any h k B D l j c d W hB hD (Nat.le_trans hl hc) (Nat.le_trans hj hd))
  have CT := Lib.hid (fun W hB hD => Record.same_any h k B D l j c d W hB hD)
  have CU := Lib.hid (fun W hB => Record.same_any h h B B l l c c W hB hB)
  rw [show decide (h.rc l = h.rc l) = true from decide_eq_true rfl] at CU
  have CC := Lib.hid (fun W (hl2 : l.length ≤ 1048576) => Record.count_any h fh B l c hl2 W)
  have HBY := Lib.hid hB; have HDY := Lib.hid hD; have HMR := Lib.hid hM
  have HV0 : Hid ((h.rc l).right = false → putV (h.rc l) = [] ∧ putE (h.rc l) = 3) := Lib.hid fun e => ⟨if_neg (by rw [e]; simp), if_neg (by rw [e]; simp)⟩
  have HV1 : Hid ((h.rc l).right = true → (h.rc l).May ∧ putV (h.rc l) = (h.rc l).put ∧ putE (h.rc l) = 0 ∧ (h.rc l).put.length ≤ 6 ∧ l.length ≤ 240 ∧ (1 + pieces l.length : Nat) = (h.rc l).put.length ∧ (h.rc l).count = (h.rc l).put.length) := Lib.hid fun e => by
    have hm := (right_iff _).1 e
    exact ⟨hm, putV_may hm, putE_may hm, by rw [put_len]; exact count_le hm, hm.sh, by rw [put_len]; rfl, (put_len _).symm⟩
  have FH := Lib.hid fh; have HLC := Lib.hid hl; have HCM := Lib.hid hc
  clear fh hB _fk hD hM hl hc hj hd
  obtain ⟨n, hn⟩ : ∃ n, n = l.length := ⟨_, rfl⟩
  obtain ⟨m, hm⟩ : ∃ m, m = j.length := ⟨_, rfl⟩
  obtain ⟨mn, hmn⟩ : ∃ mn, mn = more.length := ⟨_, rfl⟩
  have HNL := Lib.hid hn; have HMN := Lib.hid hmn
  rw [← hn] at HT HB0 CF1 CR1 CR2 CP1 CS CT CU CC HV1 HLC ⊢
  rw [← hm] at HT HB0 CF2 CS CT ⊢
  rw [← hmn]
  clear hn hm hmn
  have HFN : Hid (R20.farB h n = false → n ≤ 300) := Lib.hid fun e => by
    unfold R20.farB at e
    simp only [Bool.or_eq_false_iff, decide_eq_false_iff_not] at e
    omega
  generalize R20.farB h n = a1 at *
  generalize R20.farB k m = a2 at *
  generalize decide (h.rc l = k.rc j) = z at *
  generalize role h.K = ro at *
  obtain ⟨r1, hr1⟩ : ∃ r1, r1 = (h.rc l).right := ⟨_, rfl⟩
  rw [← hr1] at CR1 CR2 HV0 HV1 CC
  clear hr1
  have HL5 : Hid ((5 < mn ∧ ¬ (mn : Int) ≤ 5) ∨ (mn ≤ 5 ∧ (mn : Int) ≤ 5)) := Lib.hid (by omega)
  go_enter Try.func3, Try.ntmps3
  go_wp2_with fail
  obtain ⟨p, hp⟩ : ∃ p, p = w.heap.size := ⟨_, rfl⟩
  obtain ⟨q, hq⟩ : ∃ q, q = w.heap.size + 1 := ⟨_, rfl⟩
  rw [← hq, ← hp] at HT
  first | rw [← hq] | skip
  first | rw [← hp] | skip
  clear hq hp
  generalize (w.alloc (.cells #[.int .i64 h.K, .string h.s, .int .i64 h.A, .int .i64 h.E, .int .i64 h.M, .int .i64 h.S, .slice B n c] 24)).alloc (.cells #[.int .i64 k.K, .string k.s, .int .i64 k.A, .int .i64 k.E, .int .i64 k.M, .int .i64 k.S, .slice D m d] 24) = w0 at *
  refine (CF1.out w0).mono ?_
  rintro e w1 ⟨rfl, hb1⟩
  have HB1 := Lib.hid hb1
  have HW1 := Lib.hid (bstep HB0.out hb1)
  obtain ⟨⟨c0, c1, c2, c3, c4, c5, c6⟩, d0, d1, d2, d3, d4, d5, d6⟩ := HT.out w1 hb1
  clear hb1 CF1
  cases a1
  rotate_left
  · go_wp2_with fail
    refine (alive_any _).mono ?_
    rintro e wz ⟨rfl, hbz⟩
    go_wp2
    go_ret
    exact ⟨rfl, bstep HW1.out hbz⟩
  go_wp2_with fail
  refine (CF2.out w1).mono ?_
  rintro e w2 ⟨rfl, hb2⟩
  have HB2 := Lib.hid (bstep HB1.out hb2)
  have HW2 := Lib.hid (bstep HW1.out hb2)
  clear c0 c1 c2 c3 c4 c5 c6 d0 d1 d2 d3 d4 d5 d6
  obtain ⟨⟨c0, c1, c2, c3, c4, c5, c6⟩, d0, d1, d2, d3, d4, d5, d6⟩ := HT.out w2 HB2.out
  clear hb2 CF2 HB1 HW1
  cases a2
  rotate_left
  · go_wp2_with fail
    refine (alive_any _).mono ?_
    rintro e wz ⟨rfl, hbz⟩
    go_wp2
    go_ret
    exact ⟨rfl, bstep HW2.out hbz⟩
  rcases HL5.out with ⟨h5, h5'⟩ | ⟨h5, h5'⟩
  · go_wp2_with fail
    refine (alive_any _).mono ?_
    rintro e wz ⟨rfl, hbz⟩
    go_wp2
    go_ret
    exact ⟨rfl, bstep HW2.out hbz⟩
  go_wp2_with fail
  refine (Crc.new_any _).mono ?_
  rintro e w5 ⟨t, rfl, ht, hb5⟩
  have HB5 := Lib.hid (bstep HB2.out hb5)
  have HW5 := Lib.hid (bstep HW2.out hb5)
  have HTB := Lib.hid ht
  clear c0 c1 c2 c3 c4 c5 c6 d0 d1 d2 d3 d4 d5 d6
  obtain ⟨⟨c0, c1, c2, c3, c4, c5, c6⟩, d0, d1, d2, d3, d4, d5, d6⟩ := HT.out w5 HB5.out
  clear hb5 ht HB2 HW2 h5'
  cases r1
  · obtain ⟨v0, v1⟩ := HV0.out (by first | rfl | trivial)
    rw [v0, v1] at CP1
    unfold RetPut at CP1
    clear HV0 HV1 v0 v1
    go_wp2_with fail
    refine (CP1.out w5 t HTB.out (HBY.out.below HW5.out)).mono ?_
    rintro e w6 ⟨X1, x1, rfl, y1, z1, -, hb6⟩
    have HB6 := Lib.hid (bstep HB5.out hb6)
    have HW6 := Lib.hid (bstep HW5.out hb6)
    clear c0 c1 c2 c3 c4 c5 c6 d0 d1 d2 d3 d4 d5 d6
    obtain ⟨⟨c0, c1, c2, c3, c4, c5, c6⟩, d0, d1, d2, d3, d4, d5, d6⟩ := HT.out w6 HB6.out
    clear hb6 HB5 HW5 HTB CP1
    go_wp2_with fail
    refine (CR1.out w6).mono ?_
    rintro e w7 ⟨rfl, hb7⟩
    have HB7 := Lib.hid (bstep HB6.out hb7)
    have HW7 := Lib.hid (bstep HW6.out hb7)
    clear c0 c1 c2 c3 c4 c5 c6 d0 d1 d2 d3 d4 d5 d6
    obtain ⟨⟨c0, c1, c2, c3, c4, c5, c6⟩, d0, d1, d2, d3, d4, d5, d6⟩ := HT.out w7 HB7.out
    clear hb7 CR1 HB6 HW6
    go_wp2_with fail
    clear c0 c1 c2 c3 c4 c5 c6 d0 d1 d2 d3 d4 d5 d6
    refine Drawn.wp_region_flowL 28 [Drawn.SP.is (.agg #[.int .i64 h.K, .string h.s, .int .i64 h.A, .int .i64 h.E, .int .i64 h.M, .int .i64 h.S, .slice B n c]), Drawn.SP.is (.bool false), Drawn.SP.is (.bool false), Drawn.SP.is (.bool false), Drawn.SP.is (.bool false), Drawn.SP.is (.pointer (some ⟨p, 0, none⟩)), Drawn.SP.is (.int .i64 h.K), Drawn.SP.is (.int .i64 ro), Drawn.SP.is (.pointer (some ⟨p, 0, none⟩)), Drawn.SP.is (.int .i64 h.K), Drawn.SP.is (.int .i64 ro), Drawn.SP.is (.bool false), Drawn.SP.is (.bool false), Drawn.SP.is (.bool false), Drawn.SP.is (.agg #[.int .i64 h.K, .string h.s, .int .i64 h.A, .int .i64 h.E, .int .i64 h.M, .int .i64 h.S, .slice B n c]), Drawn.SP.is (.agg #[.int .i64 k.K, .string k.s, .int .i64 k.A, .int .i64 k.E, .int .i64 k.M, .int .i64 k.S, .slice D m d]), Drawn.SP.is (.bool z), Drawn.SP.is (.agg #[.int .i64 h.K, .string h.s, .int .i64 h.A, .int .i64 h.E, .int .i64 h.M, .int .i64 h.S, .slice B n c]), Drawn.SP.is (.agg #[.int .i64 k.K, .string k.s, .int .i64 k.A, .int .i64 k.E, .int .i64 k.M, .int .i64 k.S, .slice D m d]), Drawn.SP.is (.bool z), Drawn.SP.is (.bool false), Drawn.SP.is (.bool false), Drawn.SP.is (.bool false), Drawn.SP.is (.agg #[.int .i64 h.K, .string h.s, .int .i64 h.A, .int .i64 h.E, .int .i64 h.M, .int .i64 h.S, .slice B n c]), Drawn.SP.is (.agg #[.int .i64 h.K, .string h.s, .int .i64 h.A, .int .i64 h.E, .int .i64 h.M, .int .i64 h.S, .slice B n c]), Drawn.SP.is (.bool true), Drawn.SP.is (.bool false), Drawn.SP.is (.bool false)] (by kernel_rfl) (by kernel_rfl) ?_ ?_
    · intro i hi a w8 hb hev hdep
      rcases (show i = 0 ∨ i = 1 ∨ i = 2 ∨ i = 3 ∨ i = 4 ∨ i = 5 ∨ i = 6 ∨ i = 7 ∨ i = 8 ∨ i = 9 ∨ i = 10 ∨ i = 11 ∨ i = 12 ∨ i = 13 ∨ i = 14 ∨ i = 15 ∨ i = 16 ∨ i = 17 ∨ i = 18 ∨ i = 19 ∨ i = 20 ∨ i = 21 ∨ i = 22 ∨ i = 23 ∨ i = 24 ∨ i = 25 ∨ i = 26 ∨ i = 27 by omega) with rfl | rfl | rfl | rfl | rfl | rfl | rfl | rfl | rfl | rfl | rfl | rfl | rfl | rfl | rfl | rfl | rfl | rfl | rfl | rfl | rfl | rfl | rfl | rfl | rfl | rfl | rfl | rfl
      · have e3 : a.tmps[3]?.getD undef = .pointer (some ⟨p, 0, none⟩) := hev 3 rfl
        refine Drawn.wpOp_flow 35 rfl rfl rfl ?_
        obtain ⟨⟨c0, c1, c2, c3, c4, c5, c6⟩, d0, d1, d2, d3, d4, d5, d6⟩ := HT.out w8 (bstep HB7.out hb)
        clear hev hdep hb
        go_simp
        exact ⟨_, rfl, rfl, Below.refl _ _⟩
      · have d0 : a.tmps[35]?.getD undef = .agg #[.int .i64 h.K, .string h.s, .int .i64 h.A, .int .i64 h.E, .int .i64 h.M, .int .i64 h.S, .slice B n c] := hdep 0 rfl
        refine Drawn.wpOp_flow 36 rfl rfl rfl ?_
        clear hev hdep
        have C := CR2.out w8
        clear hb 
        go_simp
        refine C.mono ?_
        rintro e w' ⟨rfl, hb'⟩
        exact ⟨_, rfl, rfl, hb'⟩
      · have e10 : a.tmps[10]?.getD undef = .bool false := hev 10 rfl
        refine Drawn.wpOp_flow 37 rfl rfl rfl ?_
        clear hev hdep hb
        go_simp
        exact ⟨_, rfl, rfl, Below.refl _ _⟩
      · have d1 : a.tmps[36]?.getD undef = .bool false := hdep 1 rfl
        have d2 : a.tmps[37]?.getD undef = .bool false := hdep 2 rfl
        refine Drawn.wpOp_flow 38 rfl rfl rfl ?_
        clear hev hdep hb
        go_simp
        exact ⟨_, rfl, rfl, Below.refl _ _⟩
      · have d3 : a.tmps[38]?.getD undef = .bool false := hdep 3 rfl
        refine Drawn.wpOp_flow 39 rfl rfl rfl ?_
        clear hev hdep hb
        go_simp
        exact ⟨_, rfl, rfl, Below.refl _ _⟩
      · have e3 : a.tmps[3]?.getD undef = .pointer (some ⟨p, 0, none⟩) := hev 3 rfl
        have dg : a.tmps[39]?.getD undef = .bool false := hdep 4 rfl
        refine Drawn.wpOp_flow 40 rfl (Drawn.wanted_of rfl rfl rfl dg) rfl ?_
        clear dg
        clear hev hdep hb
        go_simp
        exact ⟨_, rfl, rfl, Below.refl _ _⟩
      · have d5 : a.tmps[40]?.getD undef = .pointer (some ⟨p, 0, none⟩) := hdep 5 rfl
        have dg : a.tmps[39]?.getD undef = .bool false := hdep 4 rfl
        refine Drawn.wpOp_flow 41 rfl (Drawn.wanted_of rfl rfl rfl dg) rfl ?_
        obtain ⟨⟨c0, c1, c2, c3, c4, c5, c6⟩, d0, d1, d2, d3, d4, d5, d6⟩ := HT.out w8 (bstep HB7.out hb)
        clear dg
        clear hev hdep hb
        go_simp
        exact ⟨_, rfl, rfl, Below.refl _ _⟩
      · have d6 : a.tmps[41]?.getD undef = .int .i64 h.K := hdep 6 rfl
        have dg : a.tmps[39]?.getD undef = .bool false := hdep 4 rfl
        refine Drawn.wpOp_flow 42 rfl (Drawn.wanted_of rfl rfl rfl dg) rfl ?_
        clear hev hdep
        have C := CRO.out w8
        clear hb dg
        go_simp
        refine C.mono ?_
        rintro e w' ⟨rfl, rfl⟩
        exact ⟨_, rfl, rfl, Below.refl _ _⟩
      · have e3 : a.tmps[3]?.getD undef = .pointer (some ⟨p, 0, none⟩) := hev 3 rfl
        have dg : a.tmps[39]?.getD undef = .bool false := hdep 4 rfl
        refine Drawn.wpOp_flow 43 rfl (Drawn.wanted_of rfl rfl rfl dg) rfl ?_
        clear dg
        clear hev hdep hb
        go_simp
        exact ⟨_, rfl, rfl, Below.refl _ _⟩
      · have d8 : a.tmps[43]?.getD undef = .pointer (some ⟨p, 0, none⟩) := hdep 8 rfl
        have dg : a.tmps[39]?.getD undef = .bool false := hdep 4 rfl
        refine Drawn.wpOp_flow 44 rfl (Drawn.wanted_of rfl rfl rfl dg) rfl ?_
        obtain ⟨⟨c0, c1, c2, c3, c4, c5, c6⟩, d0, d1, d2, d3, d4, d5, d6⟩ := HT.out w8 (bstep HB7.out hb)
        clear dg
        clear hev hdep hb
        go_simp
        exact ⟨_, rfl, rfl, Below.refl _ _⟩
      · have d9 : a.tmps[44]?.getD undef = .int .i64 h.K := hdep 9 rfl
        have dg : a.tmps[39]?.getD undef = .bool false := hdep 4 rfl
        refine Drawn.wpOp_flow 45 rfl (Drawn.wanted_of rfl rfl rfl dg) rfl ?_
        clear hev hdep
        have C := CRP.out w8
        clear hb dg
        go_simp
        refine C.mono ?_
        rintro e w' ⟨rfl, hb'⟩
        exact ⟨_, rfl, rfl, hb'⟩
      · have d7 : a.tmps[42]?.getD undef = .int .i64 ro := hdep 7 rfl
        have d10 : a.tmps[45]?.getD undef = .int .i64 ro := hdep 10 rfl
        have dg : a.tmps[39]?.getD undef = .bool false := hdep 4 rfl
        refine Drawn.wpOp_flow 46 rfl (Drawn.wanted_of rfl rfl rfl dg) rfl ?_
        clear dg
        clear hev hdep hb
        go_simp
        exact ⟨_, rfl, rfl, Below.refl _ _⟩
      · have d4 : a.tmps[39]?.getD undef = .bool false := hdep 4 rfl
        have d11 : a.tmps[46]?.getD undef = .bool false := hdep 11 rfl
        refine Drawn.wpOp_flow 47 rfl rfl rfl ?_
        clear hev hdep hb
        go_simp
        exact ⟨_, rfl, rfl, Below.refl _ _⟩
      · have d12 : a.tmps[47]?.getD undef = .bool false := hdep 12 rfl
        refine Drawn.wpOp_flow 48 rfl rfl rfl ?_
        clear hev hdep hb
        go_simp
        exact ⟨_, rfl, rfl, Below.refl _ _⟩
      · have e3 : a.tmps[3]?.getD undef = .pointer (some ⟨p, 0, none⟩) := hev 3 rfl
        have dg : a.tmps[48]?.getD undef = .bool false := hdep 13 rfl
        refine Drawn.wpOp_flow 49 rfl (Drawn.wanted_of rfl rfl rfl dg) rfl ?_
        obtain ⟨⟨c0, c1, c2, c3, c4, c5, c6⟩, d0, d1, d2, d3, d4, d5, d6⟩ := HT.out w8 (bstep HB7.out hb)
        clear dg
        clear hev hdep hb
        go_simp
        exact ⟨_, rfl, rfl, Below.refl _ _⟩
      · have e4 : a.tmps[4]?.getD undef = .pointer (some ⟨q, 0, none⟩) := hev 4 rfl
        have dg : a.tmps[48]?.getD undef = .bool false := hdep 13 rfl
        refine Drawn.wpOp_flow 50 rfl (Drawn.wanted_of rfl rfl rfl dg) rfl ?_
        obtain ⟨⟨c0, c1, c2, c3, c4, c5, c6⟩, d0, d1, d2, d3, d4, d5, d6⟩ := HT.out w8 (bstep HB7.out hb)
        clear dg
        clear hev hdep hb
        go_simp
        exact ⟨_, rfl, rfl, Below.refl _ _⟩
      · have d14 : a.tmps[49]?.getD undef = .agg #[.int .i64 h.K, .string h.s, .int .i64 h.A, .int .i64 h.E, .int .i64 h.M, .int .i64 h.S, .slice B n c] := hdep 14 rfl
        have d15 : a.tmps[50]?.getD undef = .agg #[.int .i64 k.K, .string k.s, .int .i64 k.A, .int .i64 k.E, .int .i64 k.M, .int .i64 k.S, .slice D m d] := hdep 15 rfl
        have dg : a.tmps[48]?.getD undef = .bool false := hdep 13 rfl
        refine Drawn.wpOp_flow 51 rfl (Drawn.wanted_of rfl rfl rfl dg) rfl ?_
        clear hev hdep
        have C := CT.out w8 ((HBY.out.below HW7.out).below hb) ((HDY.out.below HW7.out).below hb)
        clear hb dg
        go_simp
        refine C.mono ?_
        rintro e w' ⟨rfl, hb'⟩
        exact ⟨_, rfl, rfl, hb'⟩
      · have e3 : a.tmps[3]?.getD undef = .pointer (some ⟨p, 0, none⟩) := hev 3 rfl
        have dg : a.tmps[48]?.getD undef = .bool false := hdep 13 rfl
        refine Drawn.wpOp_flow 52 rfl (Drawn.wanted_of rfl rfl rfl dg) rfl ?_
        obtain ⟨⟨c0, c1, c2, c3, c4, c5, c6⟩, d0, d1, d2, d3, d4, d5, d6⟩ := HT.out w8 (bstep HB7.out hb)
        clear dg
        clear hev hdep hb
        go_simp
        exact ⟨_, rfl, rfl, Below.refl _ _⟩
      · have e4 : a.tmps[4]?.getD undef = .pointer (some ⟨q, 0, none⟩) := hev 4 rfl
        have dg : a.tmps[48]?.getD undef = .bool false := hdep 13 rfl
        refine Drawn.wpOp_flow 53 rfl (Drawn.wanted_of rfl rfl rfl dg) rfl ?_
        obtain ⟨⟨c0, c1, c2, c3, c4, c5, c6⟩, d0, d1, d2, d3, d4, d5, d6⟩ := HT.out w8 (bstep HB7.out hb)
        clear dg
        clear hev hdep hb
        go_simp
        exact ⟨_, rfl, rfl, Below.refl _ _⟩
      · have d17 : a.tmps[52]?.getD undef = .agg #[.int .i64 h.K, .string h.s, .int .i64 h.A, .int .i64 h.E, .int .i64 h.M, .int .i64 h.S, .slice B n c] := hdep 17 rfl
        have d18 : a.tmps[53]?.getD undef = .agg #[.int .i64 k.K, .string k.s, .int .i64 k.A, .int .i64 k.E, .int .i64 k.M, .int .i64 k.S, .slice D m d] := hdep 18 rfl
        have dg : a.tmps[48]?.getD undef = .bool false := hdep 13 rfl
        refine Drawn.wpOp_flow 54 rfl (Drawn.wanted_of rfl rfl rfl dg) rfl ?_
        clear hev hdep
        have C := CS.out w8 ((HBY.out.below HW7.out).below hb) ((HDY.out.below HW7.out).below hb)
        clear hb dg
        go_simp
        refine C.mono ?_
        rintro e w' ⟨rfl, hb'⟩
        exact ⟨_, rfl, rfl, hb'⟩
      · have d16 : a.tmps[51]?.getD undef = .bool z := hdep 16 rfl
        have d19 : a.tmps[54]?.getD undef = .bool z := hdep 19 rfl
        have dg : a.tmps[48]?.getD undef = .bool false := hdep 13 rfl
        refine Drawn.wpOp_flow 55 rfl (Drawn.wanted_of rfl rfl rfl dg) rfl ?_
        clear dg
        clear hev hdep hb
        go_simp
        exact ⟨_, rfl, rfl, Below.refl _ _⟩
      · have d13 : a.tmps[48]?.getD undef = .bool false := hdep 13 rfl
        have d20 : a.tmps[55]?.getD undef = .bool false := hdep 20 rfl
        refine Drawn.wpOp_flow 56 rfl rfl rfl ?_
        clear hev hdep hb
        go_simp
        exact ⟨_, rfl, rfl, Below.refl _ _⟩
      · have d21 : a.tmps[56]?.getD undef = .bool false := hdep 21 rfl
        refine Drawn.wpOp_flow 57 rfl rfl rfl ?_
        clear hev hdep hb
        go_simp
        exact ⟨_, rfl, rfl, Below.refl _ _⟩
      · have e3 : a.tmps[3]?.getD undef = .pointer (some ⟨p, 0, none⟩) := hev 3 rfl
        have dg : a.tmps[57]?.getD undef = .bool false := hdep 22 rfl
        refine Drawn.wpOp_flow 58 rfl (Drawn.wanted_of rfl rfl rfl dg) rfl ?_
        obtain ⟨⟨c0, c1, c2, c3, c4, c5, c6⟩, d0, d1, d2, d3, d4, d5, d6⟩ := HT.out w8 (bstep HB7.out hb)
        clear dg
        clear hev hdep hb
        go_simp
        exact ⟨_, rfl, rfl, Below.refl _ _⟩
      · have e3 : a.tmps[3]?.getD undef = .pointer (some ⟨p, 0, none⟩) := hev 3 rfl
        have dg : a.tmps[57]?.getD undef = .bool false := hdep 22 rfl
        refine Drawn.wpOp_flow 59 rfl (Drawn.wanted_of rfl rfl rfl dg) rfl ?_
        obtain ⟨⟨c0, c1, c2, c3, c4, c5, c6⟩, d0, d1, d2, d3, d4, d5, d6⟩ := HT.out w8 (bstep HB7.out hb)
        clear dg
        clear hev hdep hb
        go_simp
        exact ⟨_, rfl, rfl, Below.refl _ _⟩
      · have d23 : a.tmps[58]?.getD undef = .agg #[.int .i64 h.K, .string h.s, .int .i64 h.A, .int .i64 h.E, .int .i64 h.M, .int .i64 h.S, .slice B n c] := hdep 23 rfl
        have d24 : a.tmps[59]?.getD undef = .agg #[.int .i64 h.K, .string h.s, .int .i64 h.A, .int .i64 h.E, .int .i64 h.M, .int .i64 h.S, .slice B n c] := hdep 24 rfl
        have dg : a.tmps[57]?.getD undef = .bool false := hdep 22 rfl
        refine Drawn.wpOp_flow 60 rfl (Drawn.wanted_of rfl rfl rfl dg) rfl ?_
        clear hev hdep
        have C := CU.out w8 ((HBY.out.below HW7.out).below hb)
        clear hb dg
        go_simp
        refine C.mono ?_
        rintro e w' ⟨rfl, hb'⟩
        exact ⟨_, rfl, rfl, hb'⟩
      · have d25 : a.tmps[60]?.getD undef = .bool true := hdep 25 rfl
        have dg : a.tmps[57]?.getD undef = .bool false := hdep 22 rfl
        refine Drawn.wpOp_flow 61 rfl (Drawn.wanted_of rfl rfl rfl dg) rfl ?_
        clear dg
        clear hev hdep hb
        go_simp
        exact ⟨_, rfl, rfl, Below.refl _ _⟩
      · have d22 : a.tmps[57]?.getD undef = .bool false := hdep 22 rfl
        have d26 : a.tmps[61]?.getD undef = .bool false := hdep 26 rfl
        refine Drawn.wpOp_flow 62 rfl rfl rfl ?_
        clear hev hdep hb
        go_simp
        exact ⟨_, rfl, rfl, Below.refl _ _⟩
    · intro xq w8 hb hxq
      have vq0 : xq 0 = .agg #[.int .i64 h.K, .string h.s, .int .i64 h.A, .int .i64 h.E, .int .i64 h.M, .int .i64 h.S, .slice B n c] := hxq 0 (by omega)
      have vq1 : xq 1 = .bool false := hxq 1 (by omega)
      have vq2 : xq 2 = .bool false := hxq 2 (by omega)
      have vq3 : xq 3 = .bool false := hxq 3 (by omega)
      have vq4 : xq 4 = .bool false := hxq 4 (by omega)
      have vq5 : xq 5 = .pointer (some ⟨p, 0, none⟩) := hxq 5 (by omega)
      have vq6 : xq 6 = .int .i64 h.K := hxq 6 (by omega)
      have vq7 : xq 7 = .int .i64 ro := hxq 7 (by omega)
      have vq8 : xq 8 = .pointer (some ⟨p, 0, none⟩) := hxq 8 (by omega)
      have vq9 : xq 9 = .int .i64 h.K := hxq 9 (by omega)
      have vq10 : xq 10 = .int .i64 ro := hxq 10 (by omega)
      have vq11 : xq 11 = .bool false := hxq 11 (by omega)
      have vq12 : xq 12 = .bool false := hxq 12 (by omega)
      have vq13 : xq 13 = .bool false := hxq 13 (by omega)
      have vq14 : xq 14 = .agg #[.int .i64 h.K, .string h.s, .int .i64 h.A, .int .i64 h.E, .int .i64 h.M, .int .i64 h.S, .slice B n c] := hxq 14 (by omega)
      have vq15 : xq 15 = .agg #[.int .i64 k.K, .string k.s, .int .i64 k.A, .int .i64 k.E, .int .i64 k.M, .int .i64 k.S, .slice D m d] := hxq 15 (by omega)
      have vq16 : xq 16 = .bool z := hxq 16 (by omega)
      have vq17 : xq 17 = .agg #[.int .i64 h.K, .string h.s, .int .i64 h.A, .int .i64 h.E, .int .i64 h.M, .int .i64 h.S, .slice B n c] := hxq 17 (by omega)
      have vq18 : xq 18 = .agg #[.int .i64 k.K, .string k.s, .int .i64 k.A, .int .i64 k.E, .int .i64 k.M, .int .i64 k.S, .slice D m d] := hxq 18 (by omega)
      have vq19 : xq 19 = .bool z := hxq 19 (by omega)
      have vq20 : xq 20 = .bool false := hxq 20 (by omega)
      have vq21 : xq 21 = .bool false := hxq 21 (by omega)
      have vq22 : xq 22 = .bool false := hxq 22 (by omega)
      have vq23 : xq 23 = .agg #[.int .i64 h.K, .string h.s, .int .i64 h.A, .int .i64 h.E, .int .i64 h.M, .int .i64 h.S, .slice B n c] := hxq 23 (by omega)
      have vq24 : xq 24 = .agg #[.int .i64 h.K, .string h.s, .int .i64 h.A, .int .i64 h.E, .int .i64 h.M, .int .i64 h.S, .slice B n c] := hxq 24 (by omega)
      have vq25 : xq 25 = .bool true := hxq 25 (by omega)
      have vq26 : xq 26 = .bool false := hxq 26 (by omega)
      have vq27 : xq 27 = .bool false := hxq 27 (by omega)
      show Exit.then _ _ Exit.normal (Drawn.acts _ [(62, some (xq 27)), (61, some (xq 26)), (60, some (xq 25)), (59, some (xq 24)), (58, some (xq 23)), (57, some (xq 22)), (56, some (xq 21)), (55, some (xq 20)), (54, some (xq 19)), (53, some (xq 18)), (52, some (xq 17)), (51, some (xq 16)), (50, some (xq 15)), (49, some (xq 14)), (48, some (xq 13)), (47, some (xq 12)), (46, some (xq 11)), (45, some (xq 10)), (44, some (xq 9)), (43, some (xq 8)), (42, some (xq 7)), (41, some (xq 6)), (40, some (xq 5)), (39, some (xq 4)), (38, some (xq 3)), (37, some (xq 2)), (36, some (xq 1)), (35, some (xq 0))]) _
      rw [vq0, vq1, vq2, vq3, vq4, vq5, vq6, vq7, vq8, vq9, vq10, vq11, vq12, vq13, vq14, vq15, vq16, vq17, vq18, vq19, vq20, vq21, vq22, vq23, vq24, vq25, vq26, vq27]
      clear hxq vq0 vq1 vq2 vq3 vq4 vq5 vq6 vq7 vq8 vq9 vq10 vq11 vq12 vq13 vq14 vq15 vq16 vq17 vq18 vq19 vq20 vq21 vq22 vq23 vq24 vq25 vq26 vq27
      clear xq
      simp only [Drawn.acts]
      go_simp
      have HB8 := Lib.hid (bstep HB7.out hb)
      have HW8 := Lib.hid (bstep HW7.out hb)
      have hl2 := HFN.out (by first | rfl | trivial)
      have C := CC.out w8 (by omega)
      rw [if_neg (by simp)] at C
      obtain ⟨⟨c0, c1, c2, c3, c4, c5, c6⟩, d0, d1, d2, d3, d4, d5, d6⟩ := HT.out w8 HB8.out
      clear hb HB7 HW7
      go_wp2_with fail
      refine C.mono ?_
      rintro e w9 ⟨rfl, hb9⟩
      have HW9 := Lib.hid (bstep HW8.out hb9)
      clear hb9 C c0 c1 c2 c3 c4 c5 c6 d0 d1 d2 d3 d4 d5 d6
      go_wp2_with fail
      refine (alive_any _).mono ?_
      rintro e wz ⟨rfl, hbz⟩
      go_wp2
      go_ret
      exact ⟨rfl, bstep HW9.out hbz⟩
  · obtain ⟨hmay, v1, v2, v3, v4, v5, v6⟩ := HV1.out (by first | rfl | trivial)
    rw [v1, v2] at CP1
    unfold RetPut at CP1
    have HBK := Lib.hid (back_all h l hmay more)
    have CPU := Lib.hid (fun W hB => R20.put_new h FH.out B l c W hB (by rw [← HNL.out]; exact HLC.out) HCM.out hmay)
    unfold R20.RetRowsN at CPU
    rw [← HNL.out] at CPU
    have HFT := Lib.hid (fit_put (h.rc l) hmay more)
    have CCR := Lib.hid (fun W => CC.out W (by omega))
    rw [if_pos rfl, v6] at CCR
    have CCN := Lib.hid (fun W => R20.count_any h B n c (by omega) W)
    rw [v5] at CCN
    obtain ⟨P, hP⟩ : ∃ P, P = (h.rc l).put := ⟨_, rfl⟩
    rw [← hP] at CP1 HBK CPU HFT CCR CCN v3
    obtain ⟨pn, hpn⟩ : ∃ pn, pn = P.length := ⟨_, rfl⟩
    have HPN := Lib.hid hpn
    rw [← hpn] at CP1 HBK CPU CCR CCN v3
    have CMS := Lib.hid (fun W X Y c1 c2 h1 h2 => R04.same_any X Y P P c1 c2 W h1 h2 (by rw [← HPN.out]; omega) (by rw [← HPN.out]; omega))
    rw [R04.sameM_self, ← HPN.out] at CMS
    have CSY := Lib.hid (fun W X f hX hB => R20.same_any h h X B l l f c W hX hB (by rw [← HNL.out]; unfold maxLen; omega) (by rw [← HNL.out]; unfold maxLen; omega))
    rw [show decide (h.rc l = h.rc l) = true from decide_eq_true rfl, ← HNL.out] at CSY
    have C4 := Lib.hid (fun W t X d (ht : Crc.Tab W t) h h1 h2 => Record.get_any t X (P ++ more) d W ht h h1 h2 (by rw [List.length_append, ← HPN.out, ← HMN.out]; omega) HFT.out)
    unfold RetGot at C4
    have HAP := Lib.hid (fun W v1 v2 n1 n2 h1 h2 => own_append (w := W) (m1 := P) (m2 := more) (v1 := v1) (v2 := v2) n1 n2 h1 h2)
    have HAL : Hid ((P ++ more).length = P.length + more.length) := Lib.hid List.length_append
    clear HV0 HV1 v1 v2 v4 v5 v6 hmay hP hpn CC HFT
    go_wp2_with fail
    refine (CP1.out w5 t HTB.out (HBY.out.below HW5.out)).mono ?_
    rintro e w6 ⟨X1, x1, rfl, y1, z1, r1, hb6⟩
    have HB6 := Lib.hid (bstep HB5.out hb6)
    have HW6 := Lib.hid (bstep HW5.out hb6)
    have HT6 := Lib.hid (HTB.out.below hb6)
    have HS6 := Lib.hid r1
    clear c0 c1 c2 c3 c4 c5 c6 d0 d1 d2 d3 d4 d5 d6
    obtain ⟨⟨c0, c1, c2, c3, c4, c5, c6⟩, d0, d1, d2, d3, d4, d5, d6⟩ := HT.out w6 HB6.out
    clear hb6 HB5 HW5 HTB CP1 r1
    go_wp2_with fail
    refine (CR1.out w6).mono ?_
    rintro e w7 ⟨rfl, hb7⟩
    have HB7 := Lib.hid (bstep HB6.out hb7)
    have HW7 := Lib.hid (bstep HW6.out hb7)
    have HT7 := Lib.hid (HT6.out.below hb7)
    have HS7 := Lib.hid (HS6.out.below hb7)
    clear c0 c1 c2 c3 c4 c5 c6 d0 d1 d2 d3 d4 d5 d6
    obtain ⟨⟨c0, c1, c2, c3, c4, c5, c6⟩, d0, d1, d2, d3, d4, d5, d6⟩ := HT.out w7 HB7.out
    clear hb7 CR1 HB6 HW6 HT6 HS6
    go_wp2_with fail
    clear c0 c1 c2 c3 c4 c5 c6 d0 d1 d2 d3 d4 d5 d6
    refine Drawn.wp_region_flowL 28 [Drawn.SP.is (.agg #[.int .i64 h.K, .string h.s, .int .i64 h.A, .int .i64 h.E, .int .i64 h.M, .int .i64 h.S, .slice B n c]), Drawn.SP.is (.bool true), Drawn.SP.is (.bool true), Drawn.SP.is (.bool false), Drawn.SP.is (.bool false), Drawn.SP.is (.pointer (some ⟨p, 0, none⟩)), Drawn.SP.is (.int .i64 h.K), Drawn.SP.is (.int .i64 ro), Drawn.SP.is (.pointer (some ⟨p, 0, none⟩)), Drawn.SP.is (.int .i64 h.K), Drawn.SP.is (.int .i64 ro), Drawn.SP.is (.bool false), Drawn.SP.is (.bool false), Drawn.SP.is (.bool false), Drawn.SP.is (.agg #[.int .i64 h.K, .string h.s, .int .i64 h.A, .int .i64 h.E, .int .i64 h.M, .int .i64 h.S, .slice B n c]), Drawn.SP.is (.agg #[.int .i64 k.K, .string k.s, .int .i64 k.A, .int .i64 k.E, .int .i64 k.M, .int .i64 k.S, .slice D m d]), Drawn.SP.is (.bool z), Drawn.SP.is (.agg #[.int .i64 h.K, .string h.s, .int .i64 h.A, .int .i64 h.E, .int .i64 h.M, .int .i64 h.S, .slice B n c]), Drawn.SP.is (.agg #[.int .i64 k.K, .string k.s, .int .i64 k.A, .int .i64 k.E, .int .i64 k.M, .int .i64 k.S, .slice D m d]), Drawn.SP.is (.bool z), Drawn.SP.is (.bool false), Drawn.SP.is (.bool false), Drawn.SP.is (.bool false), Drawn.SP.is (.agg #[.int .i64 h.K, .string h.s, .int .i64 h.A, .int .i64 h.E, .int .i64 h.M, .int .i64 h.S, .slice B n c]), Drawn.SP.is (.agg #[.int .i64 h.K, .string h.s, .int .i64 h.A, .int .i64 h.E, .int .i64 h.M, .int .i64 h.S, .slice B n c]), Drawn.SP.is (.bool true), Drawn.SP.is (.bool false), Drawn.SP.is (.bool false)] (by kernel_rfl) (by kernel_rfl) ?_ ?_
    · intro i hi a w8 hb hev hdep
      rcases (show i = 0 ∨ i = 1 ∨ i = 2 ∨ i = 3 ∨ i = 4 ∨ i = 5 ∨ i = 6 ∨ i = 7 ∨ i = 8 ∨ i = 9 ∨ i = 10 ∨ i = 11 ∨ i = 12 ∨ i = 13 ∨ i = 14 ∨ i = 15 ∨ i = 16 ∨ i = 17 ∨ i = 18 ∨ i = 19 ∨ i = 20 ∨ i = 21 ∨ i = 22 ∨ i = 23 ∨ i = 24 ∨ i = 25 ∨ i = 26 ∨ i = 27 by omega) with rfl | rfl | rfl | rfl | rfl | rfl | rfl | rfl | rfl | rfl | rfl | rfl | rfl | rfl | rfl | rfl | rfl | rfl | rfl | rfl | rfl | rfl | rfl | rfl | rfl | rfl | rfl | rfl
      · have e3 : a.tmps[3]?.getD undef = .pointer (some ⟨p, 0, none⟩) := hev 3 rfl
        refine Drawn.wpOp_flow 35 rfl rfl rfl ?_
        obtain ⟨⟨c0, c1, c2, c3, c4, c5, c6⟩, d0, d1, d2, d3, d4, d5, d6⟩ := HT.out w8 (bstep HB7.out hb)
        clear hev hdep hb
        go_simp
        exact ⟨_, rfl, rfl, Below.refl _ _⟩
      · have d0 : a.tmps[35]?.getD undef = .agg #[.int .i64 h.K, .string h.s, .int .i64 h.A, .int .i64 h.E, .int .i64 h.M, .int .i64 h.S, .slice B n c] := hdep 0 rfl
        refine Drawn.wpOp_flow 36 rfl rfl rfl ?_
        clear hev hdep
        have C := CR2.out w8
        clear hb 
        go_simp
        refine C.mono ?_
        rintro e w' ⟨rfl, hb'⟩
        exact ⟨_, rfl, rfl, hb'⟩
      · have e10 : a.tmps[10]?.getD undef = .bool true := hev 10 rfl
        refine Drawn.wpOp_flow 37 rfl rfl rfl ?_
        clear hev hdep hb
        go_simp
        exact ⟨_, rfl, rfl, Below.refl _ _⟩
      · have d1 : a.tmps[36]?.getD undef = .bool true := hdep 1 rfl
        have d2 : a.tmps[37]?.getD undef = .bool true := hdep 2 rfl
        refine Drawn.wpOp_flow 38 rfl rfl rfl ?_
        clear hev hdep hb
        go_simp
        exact ⟨_, rfl, rfl, Below.refl _ _⟩
      · have d3 : a.tmps[38]?.getD undef = .bool false := hdep 3 rfl
        refine Drawn.wpOp_flow 39 rfl rfl rfl ?_
        clear hev hdep hb
        go_simp
        exact ⟨_, rfl, rfl, Below.refl _ _⟩
      · have e3 : a.tmps[3]?.getD undef = .pointer (some ⟨p, 0, none⟩) := hev 3 rfl
        have dg : a.tmps[39]?.getD undef = .bool false := hdep 4 rfl
        refine Drawn.wpOp_flow 40 rfl (Drawn.wanted_of rfl rfl rfl dg) rfl ?_
        clear dg
        clear hev hdep hb
        go_simp
        exact ⟨_, rfl, rfl, Below.refl _ _⟩
      · have d5 : a.tmps[40]?.getD undef = .pointer (some ⟨p, 0, none⟩) := hdep 5 rfl
        have dg : a.tmps[39]?.getD undef = .bool false := hdep 4 rfl
        refine Drawn.wpOp_flow 41 rfl (Drawn.wanted_of rfl rfl rfl dg) rfl ?_
        obtain ⟨⟨c0, c1, c2, c3, c4, c5, c6⟩, d0, d1, d2, d3, d4, d5, d6⟩ := HT.out w8 (bstep HB7.out hb)
        clear dg
        clear hev hdep hb
        go_simp
        exact ⟨_, rfl, rfl, Below.refl _ _⟩
      · have d6 : a.tmps[41]?.getD undef = .int .i64 h.K := hdep 6 rfl
        have dg : a.tmps[39]?.getD undef = .bool false := hdep 4 rfl
        refine Drawn.wpOp_flow 42 rfl (Drawn.wanted_of rfl rfl rfl dg) rfl ?_
        clear hev hdep
        have C := CRO.out w8
        clear hb dg
        go_simp
        refine C.mono ?_
        rintro e w' ⟨rfl, rfl⟩
        exact ⟨_, rfl, rfl, Below.refl _ _⟩
      · have e3 : a.tmps[3]?.getD undef = .pointer (some ⟨p, 0, none⟩) := hev 3 rfl
        have dg : a.tmps[39]?.getD undef = .bool false := hdep 4 rfl
        refine Drawn.wpOp_flow 43 rfl (Drawn.wanted_of rfl rfl rfl dg) rfl ?_
        clear dg
        clear hev hdep hb
        go_simp
        exact ⟨_, rfl, rfl, Below.refl _ _⟩
      · have d8 : a.tmps[43]?.getD undef = .pointer (some ⟨p, 0, none⟩) := hdep 8 rfl
        have dg : a.tmps[39]?.getD undef = .bool false := hdep 4 rfl
        refine Drawn.wpOp_flow 44 rfl (Drawn.wanted_of rfl rfl rfl dg) rfl ?_
        obtain ⟨⟨c0, c1, c2, c3, c4, c5, c6⟩, d0, d1, d2, d3, d4, d5, d6⟩ := HT.out w8 (bstep HB7.out hb)
        clear dg
        clear hev hdep hb
        go_simp
        exact ⟨_, rfl, rfl, Below.refl _ _⟩
      · have d9 : a.tmps[44]?.getD undef = .int .i64 h.K := hdep 9 rfl
        have dg : a.tmps[39]?.getD undef = .bool false := hdep 4 rfl
        refine Drawn.wpOp_flow 45 rfl (Drawn.wanted_of rfl rfl rfl dg) rfl ?_
        clear hev hdep
        have C := CRP.out w8
        clear hb dg
        go_simp
        refine C.mono ?_
        rintro e w' ⟨rfl, hb'⟩
        exact ⟨_, rfl, rfl, hb'⟩
      · have d7 : a.tmps[42]?.getD undef = .int .i64 ro := hdep 7 rfl
        have d10 : a.tmps[45]?.getD undef = .int .i64 ro := hdep 10 rfl
        have dg : a.tmps[39]?.getD undef = .bool false := hdep 4 rfl
        refine Drawn.wpOp_flow 46 rfl (Drawn.wanted_of rfl rfl rfl dg) rfl ?_
        clear dg
        clear hev hdep hb
        go_simp
        exact ⟨_, rfl, rfl, Below.refl _ _⟩
      · have d4 : a.tmps[39]?.getD undef = .bool false := hdep 4 rfl
        have d11 : a.tmps[46]?.getD undef = .bool false := hdep 11 rfl
        refine Drawn.wpOp_flow 47 rfl rfl rfl ?_
        clear hev hdep hb
        go_simp
        exact ⟨_, rfl, rfl, Below.refl _ _⟩
      · have d12 : a.tmps[47]?.getD undef = .bool false := hdep 12 rfl
        refine Drawn.wpOp_flow 48 rfl rfl rfl ?_
        clear hev hdep hb
        go_simp
        exact ⟨_, rfl, rfl, Below.refl _ _⟩
      · have e3 : a.tmps[3]?.getD undef = .pointer (some ⟨p, 0, none⟩) := hev 3 rfl
        have dg : a.tmps[48]?.getD undef = .bool false := hdep 13 rfl
        refine Drawn.wpOp_flow 49 rfl (Drawn.wanted_of rfl rfl rfl dg) rfl ?_
        obtain ⟨⟨c0, c1, c2, c3, c4, c5, c6⟩, d0, d1, d2, d3, d4, d5, d6⟩ := HT.out w8 (bstep HB7.out hb)
        clear dg
        clear hev hdep hb
        go_simp
        exact ⟨_, rfl, rfl, Below.refl _ _⟩
      · have e4 : a.tmps[4]?.getD undef = .pointer (some ⟨q, 0, none⟩) := hev 4 rfl
        have dg : a.tmps[48]?.getD undef = .bool false := hdep 13 rfl
        refine Drawn.wpOp_flow 50 rfl (Drawn.wanted_of rfl rfl rfl dg) rfl ?_
        obtain ⟨⟨c0, c1, c2, c3, c4, c5, c6⟩, d0, d1, d2, d3, d4, d5, d6⟩ := HT.out w8 (bstep HB7.out hb)
        clear dg
        clear hev hdep hb
        go_simp
        exact ⟨_, rfl, rfl, Below.refl _ _⟩
      · have d14 : a.tmps[49]?.getD undef = .agg #[.int .i64 h.K, .string h.s, .int .i64 h.A, .int .i64 h.E, .int .i64 h.M, .int .i64 h.S, .slice B n c] := hdep 14 rfl
        have d15 : a.tmps[50]?.getD undef = .agg #[.int .i64 k.K, .string k.s, .int .i64 k.A, .int .i64 k.E, .int .i64 k.M, .int .i64 k.S, .slice D m d] := hdep 15 rfl
        have dg : a.tmps[48]?.getD undef = .bool false := hdep 13 rfl
        refine Drawn.wpOp_flow 51 rfl (Drawn.wanted_of rfl rfl rfl dg) rfl ?_
        clear hev hdep
        have C := CT.out w8 ((HBY.out.below HW7.out).below hb) ((HDY.out.below HW7.out).below hb)
        clear hb dg
        go_simp
        refine C.mono ?_
        rintro e w' ⟨rfl, hb'⟩
        exact ⟨_, rfl, rfl, hb'⟩
      · have e3 : a.tmps[3]?.getD undef = .pointer (some ⟨p, 0, none⟩) := hev 3 rfl
        have dg : a.tmps[48]?.getD undef = .bool false := hdep 13 rfl
        refine Drawn.wpOp_flow 52 rfl (Drawn.wanted_of rfl rfl rfl dg) rfl ?_
        obtain ⟨⟨c0, c1, c2, c3, c4, c5, c6⟩, d0, d1, d2, d3, d4, d5, d6⟩ := HT.out w8 (bstep HB7.out hb)
        clear dg
        clear hev hdep hb
        go_simp
        exact ⟨_, rfl, rfl, Below.refl _ _⟩
      · have e4 : a.tmps[4]?.getD undef = .pointer (some ⟨q, 0, none⟩) := hev 4 rfl
        have dg : a.tmps[48]?.getD undef = .bool false := hdep 13 rfl
        refine Drawn.wpOp_flow 53 rfl (Drawn.wanted_of rfl rfl rfl dg) rfl ?_
        obtain ⟨⟨c0, c1, c2, c3, c4, c5, c6⟩, d0, d1, d2, d3, d4, d5, d6⟩ := HT.out w8 (bstep HB7.out hb)
        clear dg
        clear hev hdep hb
        go_simp
        exact ⟨_, rfl, rfl, Below.refl _ _⟩
      · have d17 : a.tmps[52]?.getD undef = .agg #[.int .i64 h.K, .string h.s, .int .i64 h.A, .int .i64 h.E, .int .i64 h.M, .int .i64 h.S, .slice B n c] := hdep 17 rfl
        have d18 : a.tmps[53]?.getD undef = .agg #[.int .i64 k.K, .string k.s, .int .i64 k.A, .int .i64 k.E, .int .i64 k.M, .int .i64 k.S, .slice D m d] := hdep 18 rfl
        have dg : a.tmps[48]?.getD undef = .bool false := hdep 13 rfl
        refine Drawn.wpOp_flow 54 rfl (Drawn.wanted_of rfl rfl rfl dg) rfl ?_
        clear hev hdep
        have C := CS.out w8 ((HBY.out.below HW7.out).below hb) ((HDY.out.below HW7.out).below hb)
        clear hb dg
        go_simp
        refine C.mono ?_
        rintro e w' ⟨rfl, hb'⟩
        exact ⟨_, rfl, rfl, hb'⟩
      · have d16 : a.tmps[51]?.getD undef = .bool z := hdep 16 rfl
        have d19 : a.tmps[54]?.getD undef = .bool z := hdep 19 rfl
        have dg : a.tmps[48]?.getD undef = .bool false := hdep 13 rfl
        refine Drawn.wpOp_flow 55 rfl (Drawn.wanted_of rfl rfl rfl dg) rfl ?_
        clear dg
        clear hev hdep hb
        go_simp
        exact ⟨_, rfl, rfl, Below.refl _ _⟩
      · have d13 : a.tmps[48]?.getD undef = .bool false := hdep 13 rfl
        have d20 : a.tmps[55]?.getD undef = .bool false := hdep 20 rfl
        refine Drawn.wpOp_flow 56 rfl rfl rfl ?_
        clear hev hdep hb
        go_simp
        exact ⟨_, rfl, rfl, Below.refl _ _⟩
      · have d21 : a.tmps[56]?.getD undef = .bool false := hdep 21 rfl
        refine Drawn.wpOp_flow 57 rfl rfl rfl ?_
        clear hev hdep hb
        go_simp
        exact ⟨_, rfl, rfl, Below.refl _ _⟩
      · have e3 : a.tmps[3]?.getD undef = .pointer (some ⟨p, 0, none⟩) := hev 3 rfl
        have dg : a.tmps[57]?.getD undef = .bool false := hdep 22 rfl
        refine Drawn.wpOp_flow 58 rfl (Drawn.wanted_of rfl rfl rfl dg) rfl ?_
        obtain ⟨⟨c0, c1, c2, c3, c4, c5, c6⟩, d0, d1, d2, d3, d4, d5, d6⟩ := HT.out w8 (bstep HB7.out hb)
        clear dg
        clear hev hdep hb
        go_simp
        exact ⟨_, rfl, rfl, Below.refl _ _⟩
      · have e3 : a.tmps[3]?.getD undef = .pointer (some ⟨p, 0, none⟩) := hev 3 rfl
        have dg : a.tmps[57]?.getD undef = .bool false := hdep 22 rfl
        refine Drawn.wpOp_flow 59 rfl (Drawn.wanted_of rfl rfl rfl dg) rfl ?_
        obtain ⟨⟨c0, c1, c2, c3, c4, c5, c6⟩, d0, d1, d2, d3, d4, d5, d6⟩ := HT.out w8 (bstep HB7.out hb)
        clear dg
        clear hev hdep hb
        go_simp
        exact ⟨_, rfl, rfl, Below.refl _ _⟩
      · have d23 : a.tmps[58]?.getD undef = .agg #[.int .i64 h.K, .string h.s, .int .i64 h.A, .int .i64 h.E, .int .i64 h.M, .int .i64 h.S, .slice B n c] := hdep 23 rfl
        have d24 : a.tmps[59]?.getD undef = .agg #[.int .i64 h.K, .string h.s, .int .i64 h.A, .int .i64 h.E, .int .i64 h.M, .int .i64 h.S, .slice B n c] := hdep 24 rfl
        have dg : a.tmps[57]?.getD undef = .bool false := hdep 22 rfl
        refine Drawn.wpOp_flow 60 rfl (Drawn.wanted_of rfl rfl rfl dg) rfl ?_
        clear hev hdep
        have C := CU.out w8 ((HBY.out.below HW7.out).below hb)
        clear hb dg
        go_simp
        refine C.mono ?_
        rintro e w' ⟨rfl, hb'⟩
        exact ⟨_, rfl, rfl, hb'⟩
      · have d25 : a.tmps[60]?.getD undef = .bool true := hdep 25 rfl
        have dg : a.tmps[57]?.getD undef = .bool false := hdep 22 rfl
        refine Drawn.wpOp_flow 61 rfl (Drawn.wanted_of rfl rfl rfl dg) rfl ?_
        clear dg
        clear hev hdep hb
        go_simp
        exact ⟨_, rfl, rfl, Below.refl _ _⟩
      · have d22 : a.tmps[57]?.getD undef = .bool false := hdep 22 rfl
        have d26 : a.tmps[61]?.getD undef = .bool false := hdep 26 rfl
        refine Drawn.wpOp_flow 62 rfl rfl rfl ?_
        clear hev hdep hb
        go_simp
        exact ⟨_, rfl, rfl, Below.refl _ _⟩
    · intro xq w8 hb hxq
      have vq0 : xq 0 = .agg #[.int .i64 h.K, .string h.s, .int .i64 h.A, .int .i64 h.E, .int .i64 h.M, .int .i64 h.S, .slice B n c] := hxq 0 (by omega)
      have vq1 : xq 1 = .bool true := hxq 1 (by omega)
      have vq2 : xq 2 = .bool true := hxq 2 (by omega)
      have vq3 : xq 3 = .bool false := hxq 3 (by omega)
      have vq4 : xq 4 = .bool false := hxq 4 (by omega)
      have vq5 : xq 5 = .pointer (some ⟨p, 0, none⟩) := hxq 5 (by omega)
      have vq6 : xq 6 = .int .i64 h.K := hxq 6 (by omega)
      have vq7 : xq 7 = .int .i64 ro := hxq 7 (by omega)
      have vq8 : xq 8 = .pointer (some ⟨p, 0, none⟩) := hxq 8 (by omega)
      have vq9 : xq 9 = .int .i64 h.K := hxq 9 (by omega)
      have vq10 : xq 10 = .int .i64 ro := hxq 10 (by omega)
      have vq11 : xq 11 = .bool false := hxq 11 (by omega)
      have vq12 : xq 12 = .bool false := hxq 12 (by omega)
      have vq13 : xq 13 = .bool false := hxq 13 (by omega)
      have vq14 : xq 14 = .agg #[.int .i64 h.K, .string h.s, .int .i64 h.A, .int .i64 h.E, .int .i64 h.M, .int .i64 h.S, .slice B n c] := hxq 14 (by omega)
      have vq15 : xq 15 = .agg #[.int .i64 k.K, .string k.s, .int .i64 k.A, .int .i64 k.E, .int .i64 k.M, .int .i64 k.S, .slice D m d] := hxq 15 (by omega)
      have vq16 : xq 16 = .bool z := hxq 16 (by omega)
      have vq17 : xq 17 = .agg #[.int .i64 h.K, .string h.s, .int .i64 h.A, .int .i64 h.E, .int .i64 h.M, .int .i64 h.S, .slice B n c] := hxq 17 (by omega)
      have vq18 : xq 18 = .agg #[.int .i64 k.K, .string k.s, .int .i64 k.A, .int .i64 k.E, .int .i64 k.M, .int .i64 k.S, .slice D m d] := hxq 18 (by omega)
      have vq19 : xq 19 = .bool z := hxq 19 (by omega)
      have vq20 : xq 20 = .bool false := hxq 20 (by omega)
      have vq21 : xq 21 = .bool false := hxq 21 (by omega)
      have vq22 : xq 22 = .bool false := hxq 22 (by omega)
      have vq23 : xq 23 = .agg #[.int .i64 h.K, .string h.s, .int .i64 h.A, .int .i64 h.E, .int .i64 h.M, .int .i64 h.S, .slice B n c] := hxq 23 (by omega)
      have vq24 : xq 24 = .agg #[.int .i64 h.K, .string h.s, .int .i64 h.A, .int .i64 h.E, .int .i64 h.M, .int .i64 h.S, .slice B n c] := hxq 24 (by omega)
      have vq25 : xq 25 = .bool true := hxq 25 (by omega)
      have vq26 : xq 26 = .bool false := hxq 26 (by omega)
      have vq27 : xq 27 = .bool false := hxq 27 (by omega)
      show Exit.then _ _ Exit.normal (Drawn.acts _ [(62, some (xq 27)), (61, some (xq 26)), (60, some (xq 25)), (59, some (xq 24)), (58, some (xq 23)), (57, some (xq 22)), (56, some (xq 21)), (55, some (xq 20)), (54, some (xq 19)), (53, some (xq 18)), (52, some (xq 17)), (51, some (xq 16)), (50, some (xq 15)), (49, some (xq 14)), (48, some (xq 13)), (47, some (xq 12)), (46, some (xq 11)), (45, some (xq 10)), (44, some (xq 9)), (43, some (xq 8)), (42, some (xq 7)), (41, some (xq 6)), (40, some (xq 5)), (39, some (xq 4)), (38, some (xq 3)), (37, some (xq 2)), (36, some (xq 1)), (35, some (xq 0))]) _
      rw [vq0, vq1, vq2, vq3, vq4, vq5, vq6, vq7, vq8, vq9, vq10, vq11, vq12, vq13, vq14, vq15, vq16, vq17, vq18, vq19, vq20, vq21, vq22, vq23, vq24, vq25, vq26, vq27]
      clear hxq vq0 vq1 vq2 vq3 vq4 vq5 vq6 vq7 vq8 vq9 vq10 vq11 vq12 vq13 vq14 vq15 vq16 vq17 vq18 vq19 vq20 vq21 vq22 vq23 vq24 vq25 vq26 vq27
      clear xq
      simp only [Drawn.acts]
      go_simp
      have HB8 := Lib.hid (bstep HB7.out hb)
      have HW8 := Lib.hid (bstep HW7.out hb)
      have HT8 := Lib.hid (HT7.out.below hb)
      have HS8 := Lib.hid (HS7.out.below hb)
      have HM8 := Lib.hid (HMR.out.below HW8.out)
      clear hb HB7 HW7 HT7 HS7
      obtain ⟨v1, n1, b1, o1, s1⟩ := rows_vals HS8.out
      obtain ⟨v2, n2, b2, o2, s2⟩ := rows_vals HM8.out
      have HA1 : Hid (∀ j u, v1[j]? = some u → ∃ b o, X1 = some ⟨b, o, none⟩ ∧ (w8.alloc (.cells #[] 22)).cell? ⟨b, o + j, none⟩ = some u) := Lib.hid fun j u hj => by
        obtain ⟨b, o, e, hc⟩ := b1 j u hj
        exact ⟨b, o, e, ((balloc w8 (.cells #[] 22)).cell (cell_lt hc)).trans hc⟩
      have HO1 := Lib.hid o1; have HO2 := Lib.hid o2
      have HN1 := Lib.hid (n1.trans HPN.out.symm); have HN2 := Lib.hid (n2.trans HMN.out.symm)
      have HA2 : Hid (∀ W, Below w8.heap.size w8 W → ∀ j u, v2[j]? = some u → ∃ b o, M = some ⟨b, o, none⟩ ∧ W.cell? ⟨b, o + j, none⟩ = some u) := Lib.hid fun W hb j u hj => by
        obtain ⟨b, o, e, hc⟩ := b2 j u hj
        exact ⟨b, o, e, (hb.cell (cell_lt hc)).trans hc⟩
      have HSL := Lib.hid (HAP.out w8 v1 v2 n1 n2 s1 s2)
      have HEM := Lib.hid (own_empty w8)
      have HBE := Lib.hid (balloc w8 (.cells #[] 22))
      obtain ⟨PM, hPM⟩ : ∃ PM, PM = P ++ more := ⟨_, rfl⟩
      have HPLEN : Hid (PM.length = pn + mn) := Lib.hid (by rw [hPM, HAL.out, ← HPN.out, ← HMN.out])
      rw [← hPM] at HSL C4 HBK
      clear n1 n2 b1 b2 o1 o2 s1 s2 HAP HAL hPM
      go_wp2_with (first
        | (at_builtin; refine wpList_append_vals rfl (.tmp 82) (.tmp 83) rfl w8.heap.size (.slice (some ⟨w8.heap.size, 0, none⟩) 0 0) [] v1 rfl HEM.out X1 _ _ rfl HN1.out.symm HA1.out HO1.out (by rw [HN1.out]; simp; omega) HBE.out.size ?_; intro v6 w9 own6 hb6; have HO6 := Lib.hid own6; have HB9 := Lib.hid (HBE.out.trans hb6); clear own6 hb6)
        | (at_builtin; refine wpList_append_vals rfl (.tmp 84) (.tmp 85) rfl w8.heap.size v6 ([] ++ v1) v2 rfl HO6.out M _ _ rfl HN2.out.symm (HA2.out w9 HB9.out) HO2.out (by rw [HN2.out, List.nil_append, HN1.out]; omega) HB9.out.size ?_; intro v7 w10 own7 hb7; have HO7 := Lib.hid own7; have HB10 := Lib.hid (HB9.out.trans hb7); clear own7 hb7))
      have own7 := OwnM.of_vals (m := PM) HO7.out (by rw [HPLEN.out, List.length_append, List.nil_append, HN1.out, HN2.out]) HB10.out HSL.out
      obtain ⟨X7, c7, hv7, p1, p2, p3, -⟩ := own7.rows
      subst hv7
      have HP7 := Lib.hid p3
      have HW10 := Lib.hid (bstep HW8.out HB10.out)
      have HB10' := Lib.hid (bstep HB8.out HB10.out)
      have HT10 := Lib.hid (HT8.out.below HB10.out)
      have HS10 := Lib.hid (HS8.out.below HB10.out)
      clear own7 p3 HO7 HO6 HB9 HB10 HSL HA1 HA2 HO1 HO2 HN1 HN2 HEM HBE HM8 HS8 HT8 HB8 HW8
      refine (C4.out w10 t X7 c7 HT10.out HP7.out p1 p2).mono ?_
      rintro e w11 ⟨y, s, nn, ok, X9, d9, rfl, f1, f2, f3, -, g9, hb11, -⟩
      obtain ⟨rfl, rfl, rfl, rfl⟩ := HBK.out y s nn ok g9
      have HY := Lib.hid f3
      have HW11 := Lib.hid (bstep HW10.out hb11)
      have HB11 := Lib.hid (bstep HB10'.out hb11)
      have HS11 := Lib.hid (HS10.out.below hb11)
      rw [← HNL.out] at f1 ⊢
      clear f3 g9 hb11 HW10 HB10' HT10 HS10 HP7 C4 HBK
      have HRp : Hid (RecB (w11.alloc (.cells #[.int .i64 0, .string ⟨#[]⟩, .int .i64 0, .int .i64 0, .int .i64 0, .int .i64 0, .slice none 0 0] 24)) w11.heap.size hd0 none 0 0) := Lib.hid (RecB.new w11 hd0 none 0 0)
      have HBZ := Lib.hid (balloc w11 (.cells #[.int .i64 0, .string ⟨#[]⟩, .int .i64 0, .int .i64 0, .int .i64 0, .int .i64 0, .slice none 0 0] 24))
      go_wp2_with (refine wpList_store_rec rfl _ _ rfl w11.heap.size h X9 n d9 rfl rfl hd0 none 0 0 HRp.out ?_; intro w12 hr12 hk12; have HR12 := Lib.hid hr12; have HK12 := Lib.hid hk12; clear hr12 hk12)
      have hbz := keeps_bstep HBZ.out HK12.out (fun e he => Nat.le_of_eq he.symm)
      have HW12 := Lib.hid (bstep HW11.out hbz)
      have HB12 := Lib.hid (bstep HB11.out hbz)
      have HY12 := Lib.hid (HY.out.below hbz)
      have HS12 := Lib.hid (HS11.out.below hbz)
      clear hbz HRp HBZ HK12 HW11 HB11 HY HS11
      refine Drawn.wp_region_flowL 33 [Drawn.SP.is (.int .i64 0), Drawn.SP.is (.bool true), Drawn.SP.is (.bool true), Drawn.SP.is (.slice X1 pn x1), Drawn.SP.is (.agg #[.int .i64 h.K, .string h.s, .int .i64 h.A, .int .i64 h.E, .int .i64 h.M, .int .i64 h.S, .slice B n c]), SP.rw P pn, Drawn.SP.is (.bool true), Drawn.SP.is (.bool true), Drawn.SP.is (.bool true), Drawn.SP.is (.agg #[.int .i64 h.K, .string h.s, .int .i64 h.A, .int .i64 h.E, .int .i64 h.M, .int .i64 h.S, .slice B n c]), Drawn.SP.is (.int .i64 (pn : Nat)), Drawn.SP.is (.agg #[.int .i64 h.K, .string h.s, .int .i64 h.A, .int .i64 h.E, .int .i64 h.M, .int .i64 h.S, .slice B n c]), Drawn.SP.is (.int .i64 (pn : Nat)), Drawn.SP.is (.bool true), Drawn.SP.is (.bool true), Drawn.SP.is (.bool true), Drawn.SP.is (.bool true), Drawn.SP.is (.bool true), Drawn.SP.is (.bool true), Drawn.SP.is (.int .i64 (pn : Nat)), Drawn.SP.is (.slice X1 pn x1), Drawn.SP.is (.int .i64 (pn : Nat)), Drawn.SP.is (.bool true), Drawn.SP.is (.bool true), Drawn.SP.is (.bool true), Drawn.SP.is (.agg #[.int .i64 h.K, .string h.s, .int .i64 h.A, .int .i64 h.E, .int .i64 h.M, .int .i64 h.S, .slice X9 n d9]), Drawn.SP.is (.agg #[.int .i64 h.K, .string h.s, .int .i64 h.A, .int .i64 h.E, .int .i64 h.M, .int .i64 h.S, .slice B n c]), Drawn.SP.is (.bool true), Drawn.SP.is (.bool true), Drawn.SP.is (.bool true), Drawn.SP.is (.bool true), Drawn.SP.is (.bool true), Drawn.SP.is (.bool true)] (by kernel_rfl) (by kernel_rfl) ?_ ?_
      · intro i hi a w13 hb hev hdep
        rcases (show i = 0 ∨ i = 1 ∨ i = 2 ∨ i = 3 ∨ i = 4 ∨ i = 5 ∨ i = 6 ∨ i = 7 ∨ i = 8 ∨ i = 9 ∨ i = 10 ∨ i = 11 ∨ i = 12 ∨ i = 13 ∨ i = 14 ∨ i = 15 ∨ i = 16 ∨ i = 17 ∨ i = 18 ∨ i = 19 ∨ i = 20 ∨ i = 21 ∨ i = 22 ∨ i = 23 ∨ i = 24 ∨ i = 25 ∨ i = 26 ∨ i = 27 ∨ i = 28 ∨ i = 29 ∨ i = 30 ∨ i = 31 ∨ i = 32 by omega) with rfl | rfl | rfl | rfl | rfl | rfl | rfl | rfl | rfl | rfl | rfl | rfl | rfl | rfl | rfl | rfl | rfl | rfl | rfl | rfl | rfl | rfl | rfl | rfl | rfl | rfl | rfl | rfl | rfl | rfl | rfl | rfl | rfl
        · have e9 : a.tmps[9]?.getD undef = .int .i64 0 := hev 9 rfl
          refine Drawn.wpOp_flow 91 rfl rfl rfl ?_
          clear hev hdep hb
          go_simp
          exact ⟨_, rfl, rfl, Below.refl _ _⟩
        · have d0 : a.tmps[91]?.getD undef = .int .i64 0 := hdep 0 rfl
          refine Drawn.wpOp_flow 92 rfl rfl rfl ?_
          clear hev hdep hb
          go_simp
          exact ⟨_, rfl, rfl, Below.refl _ _⟩
        · have d1 : a.tmps[92]?.getD undef = .bool true := hdep 1 rfl
          refine Drawn.wpOp_flow 93 rfl rfl rfl ?_
          clear hev hdep hb
          go_simp
          exact ⟨_, rfl, rfl, Below.refl _ _⟩
        · have e8 : a.tmps[8]?.getD undef = .slice X1 pn x1 := hev 8 rfl
          have dg : a.tmps[93]?.getD undef = .bool true := hdep 2 rfl
          refine Drawn.wpOp_flow 94 rfl (Drawn.wanted_of rfl rfl rfl dg) rfl ?_
          clear dg
          clear hev hdep hb
          go_simp
          exact ⟨_, rfl, rfl, Below.refl _ _⟩
        · have e3 : a.tmps[3]?.getD undef = .pointer (some ⟨p, 0, none⟩) := hev 3 rfl
          have dg : a.tmps[93]?.getD undef = .bool true := hdep 2 rfl
          refine Drawn.wpOp_flow 95 rfl (Drawn.wanted_of rfl rfl rfl dg) rfl ?_
          obtain ⟨⟨c0, c1, c2, c3, c4, c5, c6⟩, d0, d1, d2, d3, d4, d5, d6⟩ := HT.out w13 (bstep HB12.out hb)
          obtain ⟨e0, e1, e2, e3, e4, e5, e6⟩ := (HR12.out.below hb).all
          clear dg
          clear hev hdep hb
          go_simp
          exact ⟨_, rfl, rfl, Below.refl _ _⟩
        · have d4 : a.tmps[95]?.getD undef = .agg #[.int .i64 h.K, .string h.s, .int .i64 h.A, .int .i64 h.E, .int .i64 h.M, .int .i64 h.S, .slice B n c] := hdep 4 rfl
          have dg : a.tmps[93]?.getD undef = .bool true := hdep 2 rfl
          refine Drawn.wpOp_flow 96 rfl (Drawn.wanted_of rfl rfl rfl dg) rfl ?_
          clear hev hdep
          have C := CPU.out w13 ((HBY.out.below HW12.out).below hb)
          clear hb dg
          go_simp
          refine C.mono ?_
          rintro e w' ⟨Y, f, rfl, q1, q2, q3, hb', _⟩
          exact ⟨_, rfl, ⟨Y, f, rfl, q3.rows⟩, hb'⟩
        · have d3 : a.tmps[94]?.getD undef = .slice X1 pn x1 := hdep 3 rfl
          obtain ⟨Yd5, fd5, d5, rd5⟩ : (SP.rw P pn).p (a.tmps[96]?.getD undef) w13 := hdep 5 rfl
          have dg : a.tmps[93]?.getD undef = .bool true := hdep 2 rfl
          refine Drawn.wpOp_flow 97 rfl (Drawn.wanted_of rfl rfl rfl dg) rfl ?_
          clear hev hdep
          have C := CMS.out w13 X1 Yd5 x1 fd5 (HS12.out.below hb) rd5
          clear hb dg
          go_simp
          refine C.mono ?_
          rintro e w' ⟨rfl, hq⟩
          exact ⟨_, rfl, rfl, bquiet hq⟩
        · have d2 : a.tmps[93]?.getD undef = .bool true := hdep 2 rfl
          have d6 : a.tmps[97]?.getD undef = .bool true := hdep 6 rfl
          refine Drawn.wpOp_flow 98 rfl rfl rfl ?_
          clear hev hdep hb
          go_simp
          exact ⟨_, rfl, rfl, Below.refl _ _⟩
        · have d7 : a.tmps[98]?.getD undef = .bool true := hdep 7 rfl
          refine Drawn.wpOp_flow 99 rfl rfl rfl ?_
          clear hev hdep hb
          go_simp
          exact ⟨_, rfl, rfl, Below.refl _ _⟩
        · have e3 : a.tmps[3]?.getD undef = .pointer (some ⟨p, 0, none⟩) := hev 3 rfl
          have dg : a.tmps[99]?.getD undef = .bool true := hdep 8 rfl
          refine Drawn.wpOp_flow 100 rfl (Drawn.wanted_of rfl rfl rfl dg) rfl ?_
          obtain ⟨⟨c0, c1, c2, c3, c4, c5, c6⟩, d0, d1, d2, d3, d4, d5, d6⟩ := HT.out w13 (bstep HB12.out hb)
          obtain ⟨e0, e1, e2, e3, e4, e5, e6⟩ := (HR12.out.below hb).all
          clear dg
          clear hev hdep hb
          go_simp
          exact ⟨_, rfl, rfl, Below.refl _ _⟩
        · have d9 : a.tmps[100]?.getD undef = .agg #[.int .i64 h.K, .string h.s, .int .i64 h.A, .int .i64 h.E, .int .i64 h.M, .int .i64 h.S, .slice B n c] := hdep 9 rfl
          have dg : a.tmps[99]?.getD undef = .bool true := hdep 8 rfl
          refine Drawn.wpOp_flow 101 rfl (Drawn.wanted_of rfl rfl rfl dg) rfl ?_
          clear hev hdep
          have C := CCR.out w13
          clear hb dg
          go_simp
          refine C.mono ?_
          rintro e w' ⟨rfl, hb'⟩
          exact ⟨_, rfl, rfl, hb'⟩
        · have e3 : a.tmps[3]?.getD undef = .pointer (some ⟨p, 0, none⟩) := hev 3 rfl
          have dg : a.tmps[99]?.getD undef = .bool true := hdep 8 rfl
          refine Drawn.wpOp_flow 102 rfl (Drawn.wanted_of rfl rfl rfl dg) rfl ?_
          obtain ⟨⟨c0, c1, c2, c3, c4, c5, c6⟩, d0, d1, d2, d3, d4, d5, d6⟩ := HT.out w13 (bstep HB12.out hb)
          obtain ⟨e0, e1, e2, e3, e4, e5, e6⟩ := (HR12.out.below hb).all
          clear dg
          clear hev hdep hb
          go_simp
          exact ⟨_, rfl, rfl, Below.refl _ _⟩
        · have d11 : a.tmps[102]?.getD undef = .agg #[.int .i64 h.K, .string h.s, .int .i64 h.A, .int .i64 h.E, .int .i64 h.M, .int .i64 h.S, .slice B n c] := hdep 11 rfl
          have dg : a.tmps[99]?.getD undef = .bool true := hdep 8 rfl
          refine Drawn.wpOp_flow 103 rfl (Drawn.wanted_of rfl rfl rfl dg) rfl ?_
          clear hev hdep
          have C := CCN.out w13
          clear hb dg
          go_simp
          refine C.mono ?_
          rintro e w' ⟨rfl, hb'⟩
          exact ⟨_, rfl, rfl, hb'⟩
        · have d10 : a.tmps[101]?.getD undef = .int .i64 (pn : Nat) := hdep 10 rfl
          have d12 : a.tmps[103]?.getD undef = .int .i64 (pn : Nat) := hdep 12 rfl
          have dg : a.tmps[99]?.getD undef = .bool true := hdep 8 rfl
          refine Drawn.wpOp_flow 104 rfl (Drawn.wanted_of rfl rfl rfl dg) rfl ?_
          clear dg
          clear hev hdep hb
          go_simp
          exact ⟨_, rfl, rfl, Below.refl _ _⟩
        · have d8 : a.tmps[99]?.getD undef = .bool true := hdep 8 rfl
          have d13 : a.tmps[104]?.getD undef = .bool true := hdep 13 rfl
          refine Drawn.wpOp_flow 105 rfl rfl rfl ?_
          clear hev hdep hb
          go_simp
          exact ⟨_, rfl, rfl, Below.refl _ _⟩
        · have d14 : a.tmps[105]?.getD undef = .bool true := hdep 14 rfl
          refine Drawn.wpOp_flow 106 rfl rfl rfl ?_
          clear hev hdep hb
          go_simp
          exact ⟨_, rfl, rfl, Below.refl _ _⟩
        · have e13 : a.tmps[13]?.getD undef = .bool true := hev 13 rfl
          have dg : a.tmps[106]?.getD undef = .bool true := hdep 15 rfl
          refine Drawn.wpOp_flow 107 rfl (Drawn.wanted_of rfl rfl rfl dg) rfl ?_
          clear dg
          clear hev hdep hb
          go_simp
          exact ⟨_, rfl, rfl, Below.refl _ _⟩
        · have d15 : a.tmps[106]?.getD undef = .bool true := hdep 15 rfl
          have d16 : a.tmps[107]?.getD undef = .bool true := hdep 16 rfl
          refine Drawn.wpOp_flow 108 rfl rfl rfl ?_
          clear hev hdep hb
          go_simp
          exact ⟨_, rfl, rfl, Below.refl _ _⟩
        · have d17 : a.tmps[108]?.getD undef = .bool true := hdep 17 rfl
          refine Drawn.wpOp_flow 109 rfl rfl rfl ?_
          clear hev hdep hb
          go_simp
          exact ⟨_, rfl, rfl, Below.refl _ _⟩
        · have e12 : a.tmps[12]?.getD undef = .int .i64 (pn : Nat) := hev 12 rfl
          have dg : a.tmps[109]?.getD undef = .bool true := hdep 18 rfl
          refine Drawn.wpOp_flow 110 rfl (Drawn.wanted_of rfl rfl rfl dg) rfl ?_
          clear dg
          clear hev hdep hb
          go_simp
          exact ⟨_, rfl, rfl, Below.refl _ _⟩
        · have e8 : a.tmps[8]?.getD undef = .slice X1 pn x1 := hev 8 rfl
          have dg : a.tmps[109]?.getD undef = .bool true := hdep 18 rfl
          refine Drawn.wpOp_flow 111 rfl (Drawn.wanted_of rfl rfl rfl dg) rfl ?_
          clear dg
          clear hev hdep hb
          go_simp
          exact ⟨_, rfl, rfl, Below.refl _ _⟩
        · have d20 : a.tmps[111]?.getD undef = .slice X1 pn x1 := hdep 20 rfl
          have dg : a.tmps[109]?.getD undef = .bool true := hdep 18 rfl
          refine Drawn.wpOp_flow 112 rfl (Drawn.wanted_of rfl rfl rfl dg) rfl ?_
          clear dg
          clear hev hdep hb
          go_simp
          exact ⟨_, rfl, rfl, Below.refl _ _⟩
        · have d19 : a.tmps[110]?.getD undef = .int .i64 (pn : Nat) := hdep 19 rfl
          have d21 : a.tmps[112]?.getD undef = .int .i64 (pn : Nat) := hdep 21 rfl
          have dg : a.tmps[109]?.getD undef = .bool true := hdep 18 rfl
          refine Drawn.wpOp_flow 113 rfl (Drawn.wanted_of rfl rfl rfl dg) rfl ?_
          clear dg
          clear hev hdep hb
          go_simp
          exact ⟨_, rfl, rfl, Below.refl _ _⟩
        · have d18 : a.tmps[109]?.getD undef = .bool true := hdep 18 rfl
          have d22 : a.tmps[113]?.getD undef = .bool true := hdep 22 rfl
          refine Drawn.wpOp_flow 114 rfl rfl rfl ?_
          clear hev hdep hb
          go_simp
          exact ⟨_, rfl, rfl, Below.refl _ _⟩
        · have d23 : a.tmps[114]?.getD undef = .bool true := hdep 23 rfl
          refine Drawn.wpOp_flow 115 rfl rfl rfl ?_
          clear hev hdep hb
          go_simp
          exact ⟨_, rfl, rfl, Below.refl _ _⟩
        · have e11 : a.tmps[11]?.getD undef = .pointer (some ⟨w11.heap.size, 0, none⟩) := hev 11 rfl
          have dg : a.tmps[115]?.getD undef = .bool true := hdep 24 rfl
          refine Drawn.wpOp_flow 116 rfl (Drawn.wanted_of rfl rfl rfl dg) rfl ?_
          obtain ⟨⟨c0, c1, c2, c3, c4, c5, c6⟩, d0, d1, d2, d3, d4, d5, d6⟩ := HT.out w13 (bstep HB12.out hb)
          obtain ⟨e0, e1, e2, e3, e4, e5, e6⟩ := (HR12.out.below hb).all
          clear dg
          clear hev hdep hb
          go_simp
          exact ⟨_, rfl, rfl, Below.refl _ _⟩
        · have e3 : a.tmps[3]?.getD undef = .pointer (some ⟨p, 0, none⟩) := hev 3 rfl
          have dg : a.tmps[115]?.getD undef = .bool true := hdep 24 rfl
          refine Drawn.wpOp_flow 117 rfl (Drawn.wanted_of rfl rfl rfl dg) rfl ?_
          obtain ⟨⟨c0, c1, c2, c3, c4, c5, c6⟩, d0, d1, d2, d3, d4, d5, d6⟩ := HT.out w13 (bstep HB12.out hb)
          obtain ⟨e0, e1, e2, e3, e4, e5, e6⟩ := (HR12.out.below hb).all
          clear dg
          clear hev hdep hb
          go_simp
          exact ⟨_, rfl, rfl, Below.refl _ _⟩
        · have d25 : a.tmps[116]?.getD undef = .agg #[.int .i64 h.K, .string h.s, .int .i64 h.A, .int .i64 h.E, .int .i64 h.M, .int .i64 h.S, .slice X9 n d9] := hdep 25 rfl
          have d26 : a.tmps[117]?.getD undef = .agg #[.int .i64 h.K, .string h.s, .int .i64 h.A, .int .i64 h.E, .int .i64 h.M, .int .i64 h.S, .slice B n c] := hdep 26 rfl
          have dg : a.tmps[115]?.getD undef = .bool true := hdep 24 rfl
          refine Drawn.wpOp_flow 118 rfl (Drawn.wanted_of rfl rfl rfl dg) rfl ?_
          clear hev hdep
          have C := CSY.out w13 X9 d9 (HY12.out.below hb) ((HBY.out.below HW12.out).below hb)
          clear hb dg
          go_simp
          refine C.mono ?_
          rintro e w' ⟨rfl, hb'⟩
          exact ⟨_, rfl, rfl, hb'⟩
        · have d24 : a.tmps[115]?.getD undef = .bool true := hdep 24 rfl
          have d27 : a.tmps[118]?.getD undef = .bool true := hdep 27 rfl
          refine Drawn.wpOp_flow 119 rfl rfl rfl ?_
          clear hev hdep hb
          go_simp
          exact ⟨_, rfl, rfl, Below.refl _ _⟩
        · have d28 : a.tmps[119]?.getD undef = .bool true := hdep 28 rfl
          refine Drawn.wpOp_flow 120 rfl rfl rfl ?_
          clear hev hdep hb
          go_simp
          exact ⟨_, rfl, rfl, Below.refl _ _⟩
        · have dg : a.tmps[120]?.getD undef = .bool true := hdep 29 rfl
          refine Drawn.wpOp_flow 121 rfl (Drawn.wanted_of rfl rfl rfl dg) rfl ?_
          clear hev hdep
          have C := alive_any w13
          clear hb dg
          go_simp
          refine C.mono ?_
          rintro e w' ⟨rfl, hb'⟩
          exact ⟨_, rfl, rfl, hb'⟩
        · have d29 : a.tmps[120]?.getD undef = .bool true := hdep 29 rfl
          have d30 : a.tmps[121]?.getD undef = .bool true := hdep 30 rfl
          refine Drawn.wpOp_flow 122 rfl rfl rfl ?_
          clear hev hdep hb
          go_simp
          exact ⟨_, rfl, rfl, Below.refl _ _⟩
        · have d31 : a.tmps[122]?.getD undef = .bool true := hdep 31 rfl
          refine Drawn.wpOp_flow 6 rfl rfl rfl ?_
          clear hev hdep hb
          go_simp
          exact ⟨_, rfl, rfl, Below.refl _ _⟩
      · intro xq w13 hb hxq
        have vq0 : xq 0 = .int .i64 0 := hxq 0 (by omega)
        have vq1 : xq 1 = .bool true := hxq 1 (by omega)
        have vq2 : xq 2 = .bool true := hxq 2 (by omega)
        have vq3 : xq 3 = .slice X1 pn x1 := hxq 3 (by omega)
        have vq4 : xq 4 = .agg #[.int .i64 h.K, .string h.s, .int .i64 h.A, .int .i64 h.E, .int .i64 h.M, .int .i64 h.S, .slice B n c] := hxq 4 (by omega)
        have vq6 : xq 6 = .bool true := hxq 6 (by omega)
        have vq7 : xq 7 = .bool true := hxq 7 (by omega)
        have vq8 : xq 8 = .bool true := hxq 8 (by omega)
        have vq9 : xq 9 = .agg #[.int .i64 h.K, .string h.s, .int .i64 h.A, .int .i64 h.E, .int .i64 h.M, .int .i64 h.S, .slice B n c] := hxq 9 (by omega)
        have vq10 : xq 10 = .int .i64 (pn : Nat) := hxq 10 (by omega)
        have vq11 : xq 11 = .agg #[.int .i64 h.K, .string h.s, .int .i64 h.A, .int .i64 h.E, .int .i64 h.M, .int .i64 h.S, .slice B n c] := hxq 11 (by omega)
        have vq12 : xq 12 = .int .i64 (pn : Nat) := hxq 12 (by omega)
        have vq13 : xq 13 = .bool true := hxq 13 (by omega)
        have vq14 : xq 14 = .bool true := hxq 14 (by omega)
        have vq15 : xq 15 = .bool true := hxq 15 (by omega)
        have vq16 : xq 16 = .bool true := hxq 16 (by omega)
        have vq17 : xq 17 = .bool true := hxq 17 (by omega)
        have vq18 : xq 18 = .bool true := hxq 18 (by omega)
        have vq19 : xq 19 = .int .i64 (pn : Nat) := hxq 19 (by omega)
        have vq20 : xq 20 = .slice X1 pn x1 := hxq 20 (by omega)
        have vq21 : xq 21 = .int .i64 (pn : Nat) := hxq 21 (by omega)
        have vq22 : xq 22 = .bool true := hxq 22 (by omega)
        have vq23 : xq 23 = .bool true := hxq 23 (by omega)
        have vq24 : xq 24 = .bool true := hxq 24 (by omega)
        have vq25 : xq 25 = .agg #[.int .i64 h.K, .string h.s, .int .i64 h.A, .int .i64 h.E, .int .i64 h.M, .int .i64 h.S, .slice X9 n d9] := hxq 25 (by omega)
        have vq26 : xq 26 = .agg #[.int .i64 h.K, .string h.s, .int .i64 h.A, .int .i64 h.E, .int .i64 h.M, .int .i64 h.S, .slice B n c] := hxq 26 (by omega)
        have vq27 : xq 27 = .bool true := hxq 27 (by omega)
        have vq28 : xq 28 = .bool true := hxq 28 (by omega)
        have vq29 : xq 29 = .bool true := hxq 29 (by omega)
        have vq30 : xq 30 = .bool true := hxq 30 (by omega)
        have vq31 : xq 31 = .bool true := hxq 31 (by omega)
        have vq32 : xq 32 = .bool true := hxq 32 (by omega)
        show Exit.then _ _ Exit.normal (Drawn.acts _ [(6, some (xq 32)), (122, some (xq 31)), (121, some (xq 30)), (120, some (xq 29)), (119, some (xq 28)), (118, some (xq 27)), (117, some (xq 26)), (116, some (xq 25)), (115, some (xq 24)), (114, some (xq 23)), (113, some (xq 22)), (112, some (xq 21)), (111, some (xq 20)), (110, some (xq 19)), (109, some (xq 18)), (108, some (xq 17)), (107, some (xq 16)), (106, some (xq 15)), (105, some (xq 14)), (104, some (xq 13)), (103, some (xq 12)), (102, some (xq 11)), (101, some (xq 10)), (100, some (xq 9)), (99, some (xq 8)), (98, some (xq 7)), (97, some (xq 6)), (96, some (xq 5)), (95, some (xq 4)), (94, some (xq 3)), (93, some (xq 2)), (92, some (xq 1)), (91, some (xq 0))]) _
        rw [vq0, vq1, vq2, vq3, vq4, vq6, vq7, vq8, vq9, vq10, vq11, vq12, vq13, vq14, vq15, vq16, vq17, vq18, vq19, vq20, vq21, vq22, vq23, vq24, vq25, vq26, vq27, vq28, vq29, vq30, vq31, vq32]
        clear hxq vq0 vq1 vq2 vq3 vq4 vq6 vq7 vq8 vq9 vq10 vq11 vq12 vq13 vq14 vq15 vq16 vq17 vq18 vq19 vq20 vq21 vq22 vq23 vq24 vq25 vq26 vq27 vq28 vq29 vq30 vq31 vq32
        generalize xq 5 = yq5
        clear xq
        simp only [Drawn.acts]
        go_simp
        go_wp2
        go_ret
        exact ⟨rfl, bstep HW12.out hb⟩
end Go.Proofs.Ytnjghhkebcojnaa.Law20
