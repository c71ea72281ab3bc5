/- the walk of RecordApart -/
import Derived.Test.YtnjghhkebcojnaaLaw20
set_option maxRecDepth 100000
namespace Go.Proofs.Ytnjghhkebcojnaa.Law20
open Go.RowKit RecM Record
open Entry (RetPut)

/-- two records in boxes: all their cells -/
def Two (V : World) (p q : Nat) (h : Hd) (B : Option Addr) (n c : Nat) (k : Hd) (D : Option Addr) (m d : Nat) : Prop :=
  (V.cell? ⟨p, 0, none⟩ = some (.int .i64 h.K) ∧ V.cell? ⟨p, 1, none⟩ = some (.string h.s) ∧ V.cell? ⟨p, 2, none⟩ = some (.int .i64 h.A) ∧ V.cell? ⟨p, 3, none⟩ = some (.int .i64 h.E) ∧ V.cell? ⟨p, 4, none⟩ = some (.int .i64 h.M) ∧ V.cell? ⟨p, 5, none⟩ = some (.int .i64 h.S) ∧ V.cell? ⟨p, 6, none⟩ = some (.slice B n c)) ∧
  (V.cell? ⟨q, 0, none⟩ = some (.int .i64 k.K) ∧ V.cell? ⟨q, 1, none⟩ = some (.string k.s) ∧ V.cell? ⟨q, 2, none⟩ = some (.int .i64 k.A) ∧ V.cell? ⟨q, 3, none⟩ = some (.int .i64 k.E) ∧ V.cell? ⟨q, 4, none⟩ = some (.int .i64 k.M) ∧ V.cell? ⟨q, 5, none⟩ = some (.int .i64 k.S) ∧ V.cell? ⟨q, 6, none⟩ = some (.slice D m d))
theorem two_boxes (w : World) (h k : Hd) (B D : Option Addr) (n c m d : Nat) : ∀ V, Below ((w.alloc (.cells #[.int .i64 h.K, .string h.s, .int .i64 h.A, .int .i64 h.E, .int .i64 h.M, .int .i64 h.S, .slice B n c] 24)).alloc (.cells #[.int .i64 k.K, .string k.s, .int .i64 k.A, .int .i64 k.E, .int .i64 k.M, .int .i64 k.S, .slice D m d] 24)).heap.size ((w.alloc (.cells #[.int .i64 h.K, .string h.s, .int .i64 h.A, .int .i64 h.E, .int .i64 h.M, .int .i64 h.S, .slice B n c] 24)).alloc (.cells #[.int .i64 k.K, .string k.s, .int .i64 k.A, .int .i64 k.E, .int .i64 k.M, .int .i64 k.S, .slice D m d] 24)) V → Two V w.heap.size (w.heap.size + 1) h B n c k D m d := fun V hb => by
  have h1 := ((RecB.new w h B n c).below (balloc _ (.cells #[.int .i64 k.K, .string k.s, .int .i64 k.A, .int .i64 k.E, .int .i64 k.M, .int .i64 k.S, .slice D m d] 24))).below hb
  have h2 := RecB.new (w.alloc (.cells #[.int .i64 h.K, .string h.s, .int .i64 h.A, .int .i64 h.E, .int .i64 h.M, .int .i64 h.S, .slice B n c] 24)) k D m d
  have hz : (w.alloc (.cells #[.int .i64 h.K, .string h.s, .int .i64 h.A, .int .i64 h.E, .int .i64 h.M, .int .i64 h.S, .slice B n c] 24)).heap.size = w.heap.size + 1 := by simp
  rw [hz] at h2
  exact ⟨h1.all, (h2.below hb).all⟩
theorem sameM_dec (a b : List (List UInt8)) : R04.sameM a b = decide (a = b) := rfl
theorem apart_same (h k : Hd) (l m : List UInt8) (h1 : (h.rc l).right = true) (h2 : (k.rc m).right = true) : R04.sameM (h.rc l).put (k.rc m).put = decide (h.rc l = k.rc m) := by
  rw [sameM_dec]
  refine decide_eq_decide.2 ⟨fun e => put_inj ((right_iff _).1 h1) ((right_iff _).1 h2) e, fun e => by rw [e]⟩
set_option maxHeartbeats 4000000 in
theorem apart_any (h : Hd) (B : Option Addr) (l : List UInt8) (c : Nat) (k : Hd) (D : Option Addr) (j : List UInt8) (d : Nat) (w : World) (fh : Fits h) (hB : BytesAt w B l) (hl : l.length ≤ c) (hc : c ≤ maxLen) (fk : Fits k) (hD : BytesAt w D j) (hj : j.length ≤ d) (hd : d ≤ maxLen) :
    Calls Try.prog 6 #[.agg #[.int .i64 h.K, .string h.s, .int .i64 h.A, .int .i64 h.E, .int .i64 h.M, .int .i64 h.S, .slice B l.length c], .agg #[.int .i64 k.K, .string k.s, .int .i64 k.A, .int .i64 k.E, .int .i64 k.M, .int .i64 k.S, .slice D j.length d]] w fun e w' => e = .returned (.bool true) ∧ Below w.heap.size w w' := by
  have HT := Lib.hid (two_boxes w h k B D l.length c j.length d)
  have HB0 := Lib.hid (bstep (balloc w (.cells #[.int .i64 h.K, .string h.s, .int .i64 h.A, .int .i64 h.E, .int .i64 h.M, .int .i64 h.S, .slice B l.length c] 24)) (balloc _ (.cells #[.int .i64 k.K, .string k.s, .int .i64 k.A, .int .i64 k.E, .int .i64 k.M, .int .i64 k.S, .slice D j.length d] 24)))
  have CF1 := Lib.hid (fun W => R20.far_any h B l.length c W)
  have CF2 := Lib.hid (fun W => R20.far_any k D j.length d W)
  have CR1 := Lib.hid (fun W => R20.right_any h fh.s B l c W)
  have CR2 := Lib.hid (fun W => R20.right_any k fk.s D j d W)
  have CP1 := Lib.hid (fun W t (ht : Crc.Tab W t) hB => Record.put_any t h fh B l c W ht hB hl hc)
  have CP2 := Lib.hid (fun W t (ht : Crc.Tab W t) hD => Record.put_any t k fk D j d W ht hD hj hd)
  have CS := Lib.hid (fun W hB hD => R20.same_any h k B D l j c d W hB hD (Nat.le_trans hl hc) (Nat.le_trans hj hd))
  have HAP : Hid ((h.rc l).right = true → (k.rc j).right = true → putV (h.rc l) = (h.rc l).put ∧ putE (h.rc l) = 0 ∧ putV (k.rc j) = (k.rc j).put ∧ putE (k.rc j) = 0 ∧ R04.sameM (h.rc l).put (k.rc j).put = decide (h.rc l = k.rc j) ∧ (h.rc l).put.length ≤ 6 ∧ (k.rc j).put.length ≤ 6) := Lib.hid fun h1 h2 =>
    ⟨putV_may ((right_iff _).1 h1), putE_may ((right_iff _).1 h1), putV_may ((right_iff _).1 h2), putE_may ((right_iff _).1 h2), apart_same h k l j h1 h2, by rw [put_len]; exact count_le ((right_iff _).1 h1), by rw [put_len]; exact count_le ((right_iff _).1 h2)⟩
  have HBY := Lib.hid hB; have HDY := Lib.hid hD
  have CM := Lib.hid (fun W X Y (m1 m2 : List (List UInt8)) c1 c2 h1 h2 (h3 : m1.length ≤ 6) (h4 : m2.length ≤ 6) => R04.same_any X Y m1 m2 c1 c2 W h1 h2 (by omega) (by omega))
  clear fh hB fk hD
  obtain ⟨n, hn⟩ : ∃ n, n = l.length := ⟨_, rfl⟩
  obtain ⟨m, hm⟩ : ∃ m, m = j.length := ⟨_, rfl⟩
  rw [← hn] at HT HB0 CF1 CR1 CP1 CS hl ⊢
  rw [← hm] at HT HB0 CF2 CR2 CP2 CS hj ⊢
  clear hn hm
  generalize R20.farB h n = a1 at *
  generalize R20.farB k m = a2 at *
  generalize (h.rc l).right = r1 at *
  generalize (k.rc j).right = r2 at *
  go_enter Try.func6, Try.ntmps6
  go_wp2_with fail
  obtain ⟨p, hp⟩ : ∃ p, p = w.heap.size := ⟨_, rfl⟩
  obtain ⟨q, hq⟩ : ∃ q, q = w.heap.size + 1 := ⟨_, rfl⟩
  rw [← hq, ← hp] at HT
  first | rw [← hq] | skip
  first | rw [← hp] | skip
  clear hq hp
  generalize (w.alloc (.cells #[.int .i64 h.K, .string h.s, .int .i64 h.A, .int .i64 h.E, .int .i64 h.M, .int .i64 h.S, .slice B n c] 24)).alloc (.cells #[.int .i64 k.K, .string k.s, .int .i64 k.A, .int .i64 k.E, .int .i64 k.M, .int .i64 k.S, .slice D m d] 24) = w0 at *
  refine (CF1.out w0).mono ?_
  rintro e w1 ⟨rfl, hb1⟩
  have HB1 := Lib.hid hb1
  have HW1 := Lib.hid (bstep HB0.out hb1)
  obtain ⟨⟨c0, c1, c2, c3, c4, c5, c6⟩, d0, d1, d2, d3, d4, d5, d6⟩ := HT.out w1 hb1
  clear hb1 CF1
  cases a1
  rotate_left
  · go_wp2_with fail
    refine (alive_any _).mono ?_
    rintro e wz ⟨rfl, hbz⟩
    go_wp2
    go_ret
    exact ⟨rfl, bstep HW1.out hbz⟩
  go_wp2_with fail
  refine (CF2.out w1).mono ?_
  rintro e w2 ⟨rfl, hb2⟩
  have HB2 := Lib.hid (bstep HB1.out hb2)
  have HW2 := Lib.hid (bstep HW1.out hb2)
  clear c0 c1 c2 c3 c4 c5 c6 d0 d1 d2 d3 d4 d5 d6
  obtain ⟨⟨c0, c1, c2, c3, c4, c5, c6⟩, d0, d1, d2, d3, d4, d5, d6⟩ := HT.out w2 HB2.out
  clear hb2 CF2 HB1 HW1
  cases a2
  rotate_left
  · go_wp2_with fail
    refine (alive_any _).mono ?_
    rintro e wz ⟨rfl, hbz⟩
    go_wp2
    go_ret
    exact ⟨rfl, bstep HW2.out hbz⟩
  go_wp2_with fail
  refine (CR1.out w2).mono ?_
  rintro e w3 ⟨rfl, hb3⟩
  have HB3 := Lib.hid (bstep HB2.out hb3)
  have HW3 := Lib.hid (bstep HW2.out hb3)
  clear c0 c1 c2 c3 c4 c5 c6 d0 d1 d2 d3 d4 d5 d6
  obtain ⟨⟨c0, c1, c2, c3, c4, c5, c6⟩, d0, d1, d2, d3, d4, d5, d6⟩ := HT.out w3 HB3.out
  clear hb3 CR1 HB2 HW2
  cases r1
  · go_wp2_with fail
    refine (alive_any _).mono ?_
    rintro e wz ⟨rfl, hbz⟩
    go_wp2
    go_ret
    exact ⟨rfl, bstep HW3.out hbz⟩
  go_wp2_with fail
  refine (CR2.out w3).mono ?_
  rintro e w4 ⟨rfl, hb4⟩
  have HB4 := Lib.hid (bstep HB3.out hb4)
  have HW4 := Lib.hid (bstep HW3.out hb4)
  clear c0 c1 c2 c3 c4 c5 c6 d0 d1 d2 d3 d4 d5 d6
  obtain ⟨⟨c0, c1, c2, c3, c4, c5, c6⟩, d0, d1, d2, d3, d4, d5, d6⟩ := HT.out w4 HB4.out
  clear hb4 CR2 HB3 HW3
  cases r2
  · go_wp2_with fail
    refine (alive_any _).mono ?_
    rintro e wz ⟨rfl, hbz⟩
    go_wp2
    go_ret
    exact ⟨rfl, bstep HW4.out hbz⟩
  obtain ⟨e1, e2, e3, e4, e5, e6, e7⟩ := HAP.out (by first | rfl | trivial) (by first | rfl | trivial)
  rw [e1, e2] at CP1
  rw [e3, e4] at CP2
  have HSM := Lib.hid e5; have L6 := Lib.hid e6; have L7 := Lib.hid e7
  clear e1 e2 e3 e4 e5 e6 e7 HAP
  generalize (h.rc l).put = P1 at *
  generalize (k.rc j).put = P2 at *
  generalize decide (h.rc l = k.rc j) = z at *
  unfold RetPut at CP1 CP2
  go_wp2_with fail
  refine (Crc.new_any _).mono ?_
  rintro e w5 ⟨t, rfl, ht, hb5⟩
  have HB5 := Lib.hid (bstep HB4.out hb5)
  have HW5 := Lib.hid (bstep HW4.out hb5)
  have HTB := Lib.hid ht
  clear c0 c1 c2 c3 c4 c5 c6 d0 d1 d2 d3 d4 d5 d6
  obtain ⟨⟨c0, c1, c2, c3, c4, c5, c6⟩, d0, d1, d2, d3, d4, d5, d6⟩ := HT.out w5 HB5.out
  clear hb5 ht HB4 HW4
  go_wp2_with fail
  refine (CP1.out w5 t HTB.out (HBY.out.below HW5.out)).mono ?_
  rintro e w6 ⟨X1, x1, rfl, y1, z1, r1, hb6⟩
  have HB6 := Lib.hid (bstep HB5.out hb6)
  have HW6 := Lib.hid (bstep HW5.out hb6)
  have HT6 := Lib.hid (HTB.out.below hb6)
  have HX1 := Lib.hid r1
  clear c0 c1 c2 c3 c4 c5 c6 d0 d1 d2 d3 d4 d5 d6
  obtain ⟨⟨c0, c1, c2, c3, c4, c5, c6⟩, d0, d1, d2, d3, d4, d5, d6⟩ := HT.out w6 HB6.out
  clear hb6 r1 HB5 HW5 HTB CP1
  obtain ⟨p1, hp1⟩ : ∃ p1, p1 = P1.length := ⟨_, rfl⟩
  have HP1 := Lib.hid hp1
  rw [← hp1] at y1 ⊢
  clear hp1
  go_wp2_with fail
  refine (CP2.out w6 t HT6.out (HDY.out.below HW6.out)).mono ?_
  rintro e w7 ⟨X2, x2, rfl, y2, z2, r2, hb7⟩
  have HB7 := Lib.hid (bstep HB6.out hb7)
  have HW7 := Lib.hid (bstep HW6.out hb7)
  have HX2 := Lib.hid r2
  have HX17 := Lib.hid (HX1.out.below hb7)
  clear c0 c1 c2 c3 c4 c5 c6 d0 d1 d2 d3 d4 d5 d6
  obtain ⟨⟨c0, c1, c2, c3, c4, c5, c6⟩, d0, d1, d2, d3, d4, d5, d6⟩ := HT.out w7 HB7.out
  clear hb7 r2 HB6 HW6 HT6 CP2 HX1
  obtain ⟨p2, hp2⟩ : ∃ p2, p2 = P2.length := ⟨_, rfl⟩
  have HP2 := Lib.hid hp2
  rw [← hp2] at y2 ⊢
  clear hp2
  have CMM := Lib.hid (fun W h1 h2 => CM.out W X1 X2 P1 P2 x1 x2 h1 h2 L6.out L7.out)
  rw [HSM.out, ← HP1.out, ← HP2.out] at CMM
  go_wp2_with fail
  clear c0 c1 c2 c3 c4 c5 c6 d0 d1 d2 d3 d4 d5 d6
  refine Drawn.wp_region_flowL 19 [Drawn.SP.is (.int .i64 0), Drawn.SP.is (.bool true), Drawn.SP.is (.bool true), Drawn.SP.is (.int .i64 0), Drawn.SP.is (.bool true), Drawn.SP.is (.bool true), Drawn.SP.is (.bool true), Drawn.SP.is (.slice X1 p1 x1), Drawn.SP.is (.slice X2 p2 x2), Drawn.SP.is (.bool z), Drawn.SP.is (.agg #[.int .i64 h.K, .string h.s, .int .i64 h.A, .int .i64 h.E, .int .i64 h.M, .int .i64 h.S, .slice B n c]), Drawn.SP.is (.agg #[.int .i64 k.K, .string k.s, .int .i64 k.A, .int .i64 k.E, .int .i64 k.M, .int .i64 k.S, .slice D m d]), Drawn.SP.is (.bool z), Drawn.SP.is (.bool true), Drawn.SP.is (.bool true), Drawn.SP.is (.bool true), Drawn.SP.is (.bool true), Drawn.SP.is (.bool true), Drawn.SP.is (.bool true)] (by kernel_rfl) (by kernel_rfl) ?_ ?_
  · intro i hi a w8 hb hev hdep
    rcases (show i = 0 ∨ i = 1 ∨ i = 2 ∨ i = 3 ∨ i = 4 ∨ i = 5 ∨ i = 6 ∨ i = 7 ∨ i = 8 ∨ i = 9 ∨ i = 10 ∨ i = 11 ∨ i = 12 ∨ i = 13 ∨ i = 14 ∨ i = 15 ∨ i = 16 ∨ i = 17 ∨ i = 18 by omega) with rfl | rfl | rfl | rfl | rfl | rfl | rfl | rfl | rfl | rfl | rfl | rfl | rfl | rfl | rfl | rfl | rfl | rfl | rfl
    · have e7 : a.tmps[7]?.getD undef = .int .i64 0 := hev 7 rfl
      refine Drawn.wpOp_flow 40 rfl rfl rfl ?_
      clear hev hdep hb
      go_simp
      exact ⟨_, rfl, rfl, Below.refl _ _⟩
    · have d0 : a.tmps[40]?.getD undef = .int .i64 0 := hdep 0 rfl
      refine Drawn.wpOp_flow 41 rfl rfl rfl ?_
      clear hev hdep hb
      go_simp
      exact ⟨_, rfl, rfl, Below.refl _ _⟩
    · have d1 : a.tmps[41]?.getD undef = .bool true := hdep 1 rfl
      refine Drawn.wpOp_flow 42 rfl rfl rfl ?_
      clear hev hdep hb
      go_simp
      exact ⟨_, rfl, rfl, Below.refl _ _⟩
    · have e9 : a.tmps[9]?.getD undef = .int .i64 0 := hev 9 rfl
      have dg : a.tmps[42]?.getD undef = .bool true := hdep 2 rfl
      refine Drawn.wpOp_flow 43 rfl (Drawn.wanted_of rfl rfl rfl dg) rfl ?_
      clear dg
      clear hev hdep hb
      go_simp
      exact ⟨_, rfl, rfl, Below.refl _ _⟩
    · have d3 : a.tmps[43]?.getD undef = .int .i64 0 := hdep 3 rfl
      have dg : a.tmps[42]?.getD undef = .bool true := hdep 2 rfl
      refine Drawn.wpOp_flow 44 rfl (Drawn.wanted_of rfl rfl rfl dg) rfl ?_
      clear dg
      clear hev hdep hb
      go_simp
      exact ⟨_, rfl, rfl, Below.refl _ _⟩
    · have d2 : a.tmps[42]?.getD undef = .bool true := hdep 2 rfl
      have d4 : a.tmps[44]?.getD undef = .bool true := hdep 4 rfl
      refine Drawn.wpOp_flow 45 rfl rfl rfl ?_
      clear hev hdep hb
      go_simp
      exact ⟨_, rfl, rfl, Below.refl _ _⟩
    · have d5 : a.tmps[45]?.getD undef = .bool true := hdep 5 rfl
      refine Drawn.wpOp_flow 46 rfl rfl rfl ?_
      clear hev hdep hb
      go_simp
      exact ⟨_, rfl, rfl, Below.refl _ _⟩
    · have e6 : a.tmps[6]?.getD undef = .slice X1 p1 x1 := hev 6 rfl
      have dg : a.tmps[46]?.getD undef = .bool true := hdep 6 rfl
      refine Drawn.wpOp_flow 47 rfl (Drawn.wanted_of rfl rfl rfl dg) rfl ?_
      clear dg
      clear hev hdep hb
      go_simp
      exact ⟨_, rfl, rfl, Below.refl _ _⟩
    · have e8 : a.tmps[8]?.getD undef = .slice X2 p2 x2 := hev 8 rfl
      have dg : a.tmps[46]?.getD undef = .bool true := hdep 6 rfl
      refine Drawn.wpOp_flow 48 rfl (Drawn.wanted_of rfl rfl rfl dg) rfl ?_
      clear dg
      clear hev hdep hb
      go_simp
      exact ⟨_, rfl, rfl, Below.refl _ _⟩
    · have d7 : a.tmps[47]?.getD undef = .slice X1 p1 x1 := hdep 7 rfl
      have d8 : a.tmps[48]?.getD undef = .slice X2 p2 x2 := hdep 8 rfl
      have dg : a.tmps[46]?.getD undef = .bool true := hdep 6 rfl
      refine Drawn.wpOp_flow 49 rfl (Drawn.wanted_of rfl rfl rfl dg) rfl ?_
      clear hev hdep
      have C := CMM.out w8 (HX17.out.below hb) (HX2.out.below hb)
      clear hb dg
      go_simp
      refine C.mono ?_
      rintro e w' ⟨rfl, hq⟩
      exact ⟨_, rfl, rfl, bquiet hq⟩
    · have e2 : a.tmps[2]?.getD undef = .pointer (some ⟨p, 0, none⟩) := hev 2 rfl
      have dg : a.tmps[46]?.getD undef = .bool true := hdep 6 rfl
      refine Drawn.wpOp_flow 50 rfl (Drawn.wanted_of rfl rfl rfl dg) rfl ?_
      obtain ⟨⟨c0, c1, c2, c3, c4, c5, c6⟩, d0, d1, d2, d3, d4, d5, d6⟩ := HT.out w8 (bstep HB7.out hb)
      clear dg
      clear hev hdep hb
      go_simp
      exact ⟨_, rfl, rfl, Below.refl _ _⟩
    · have e3 : a.tmps[3]?.getD undef = .pointer (some ⟨q, 0, none⟩) := hev 3 rfl
      have dg : a.tmps[46]?.getD undef = .bool true := hdep 6 rfl
      refine Drawn.wpOp_flow 51 rfl (Drawn.wanted_of rfl rfl rfl dg) rfl ?_
      obtain ⟨⟨c0, c1, c2, c3, c4, c5, c6⟩, d0, d1, d2, d3, d4, d5, d6⟩ := HT.out w8 (bstep HB7.out hb)
      clear dg
      clear hev hdep hb
      go_simp
      exact ⟨_, rfl, rfl, Below.refl _ _⟩
    · have d10 : a.tmps[50]?.getD undef = .agg #[.int .i64 h.K, .string h.s, .int .i64 h.A, .int .i64 h.E, .int .i64 h.M, .int .i64 h.S, .slice B n c] := hdep 10 rfl
      have d11 : a.tmps[51]?.getD undef = .agg #[.int .i64 k.K, .string k.s, .int .i64 k.A, .int .i64 k.E, .int .i64 k.M, .int .i64 k.S, .slice D m d] := hdep 11 rfl
      have dg : a.tmps[46]?.getD undef = .bool true := hdep 6 rfl
      refine Drawn.wpOp_flow 52 rfl (Drawn.wanted_of rfl rfl rfl dg) rfl ?_
      clear hev hdep
      have C := CS.out w8 ((HBY.out.below HW7.out).below hb) ((HDY.out.below HW7.out).below hb)
      clear hb dg
      go_simp
      refine C.mono ?_
      rintro e w' ⟨rfl, hb'⟩
      exact ⟨_, rfl, rfl, hb'⟩
    · have d9 : a.tmps[49]?.getD undef = .bool z := hdep 9 rfl
      have d12 : a.tmps[52]?.getD undef = .bool z := hdep 12 rfl
      have dg : a.tmps[46]?.getD undef = .bool true := hdep 6 rfl
      refine Drawn.wpOp_flow 53 rfl (Drawn.wanted_of rfl rfl rfl dg) rfl ?_
      clear dg
      clear hev hdep hb
      go_simp
      exact ⟨_, rfl, rfl, Below.refl _ _⟩
    · have d6 : a.tmps[46]?.getD undef = .bool true := hdep 6 rfl
      have d13 : a.tmps[53]?.getD undef = .bool true := hdep 13 rfl
      refine Drawn.wpOp_flow 54 rfl rfl rfl ?_
      clear hev hdep hb
      go_simp
      exact ⟨_, rfl, rfl, Below.refl _ _⟩
    · have d14 : a.tmps[54]?.getD undef = .bool true := hdep 14 rfl
      refine Drawn.wpOp_flow 55 rfl rfl rfl ?_
      clear hev hdep hb
      go_simp
      exact ⟨_, rfl, rfl, Below.refl _ _⟩
    · have dg : a.tmps[55]?.getD undef = .bool true := hdep 15 rfl
      refine Drawn.wpOp_flow 56 rfl (Drawn.wanted_of rfl rfl rfl dg) rfl ?_
      clear hev hdep
      clear hb dg
      go_simp
      refine (alive_any _).mono ?_
      rintro e w' ⟨rfl, hb'⟩
      exact ⟨_, rfl, rfl, hb'⟩
    · have d15 : a.tmps[55]?.getD undef = .bool true := hdep 15 rfl
      have d16 : a.tmps[56]?.getD undef = .bool true := hdep 16 rfl
      refine Drawn.wpOp_flow 57 rfl rfl rfl ?_
      clear hev hdep hb
      go_simp
      exact ⟨_, rfl, rfl, Below.refl _ _⟩
    · have d17 : a.tmps[57]?.getD undef = .bool true := hdep 17 rfl
      refine Drawn.wpOp_flow 4 rfl rfl rfl ?_
      clear hev hdep hb
      go_simp
      exact ⟨_, rfl, rfl, Below.refl _ _⟩
  · intro xq w8 hb hxq
    have vq0 : xq 0 = .int .i64 0 := hxq 0 (by omega)
    have vq1 : xq 1 = .bool true := hxq 1 (by omega)
    have vq2 : xq 2 = .bool true := hxq 2 (by omega)
    have vq3 : xq 3 = .int .i64 0 := hxq 3 (by omega)
    have vq4 : xq 4 = .bool true := hxq 4 (by omega)
    have vq5 : xq 5 = .bool true := hxq 5 (by omega)
    have vq6 : xq 6 = .bool true := hxq 6 (by omega)
    have vq7 : xq 7 = .slice X1 p1 x1 := hxq 7 (by omega)
    have vq8 : xq 8 = .slice X2 p2 x2 := hxq 8 (by omega)
    have vq9 : xq 9 = .bool z := hxq 9 (by omega)
    have vq10 : xq 10 = .agg #[.int .i64 h.K, .string h.s, .int .i64 h.A, .int .i64 h.E, .int .i64 h.M, .int .i64 h.S, .slice B n c] := hxq 10 (by omega)
    have vq11 : xq 11 = .agg #[.int .i64 k.K, .string k.s, .int .i64 k.A, .int .i64 k.E, .int .i64 k.M, .int .i64 k.S, .slice D m d] := hxq 11 (by omega)
    have vq12 : xq 12 = .bool z := hxq 12 (by omega)
    have vq13 : xq 13 = .bool true := hxq 13 (by omega)
    have vq14 : xq 14 = .bool true := hxq 14 (by omega)
    have vq15 : xq 15 = .bool true := hxq 15 (by omega)
    have vq16 : xq 16 = .bool true := hxq 16 (by omega)
    have vq17 : xq 17 = .bool true := hxq 17 (by omega)
    have vq18 : xq 18 = .bool true := hxq 18 (by omega)
    show Exit.then _ _ Exit.normal (Drawn.acts _ [(4, some (xq 18)), (57, some (xq 17)), (56, some (xq 16)), (55, some (xq 15)), (54, some (xq 14)), (53, some (xq 13)), (52, some (xq 12)), (51, some (xq 11)), (50, some (xq 10)), (49, some (xq 9)), (48, some (xq 8)), (47, some (xq 7)), (46, some (xq 6)), (45, some (xq 5)), (44, some (xq 4)), (43, some (xq 3)), (42, some (xq 2)), (41, some (xq 1)), (40, some (xq 0))]) _
    rw [vq0, vq1, vq2, vq3, vq4, vq5, vq6, vq7, vq8, vq9, vq10, vq11, vq12, vq13, vq14, vq15, vq16, vq17, vq18]
    clear hxq vq0 vq1 vq2 vq3 vq4 vq5 vq6 vq7 vq8 vq9 vq10 vq11 vq12 vq13 vq14 vq15 vq16 vq17 vq18
    clear xq
    simp only [Drawn.acts]
    go_simp
    go_wp2
    go_ret
    exact ⟨rfl, bstep HW7.out hb⟩
end Go.Proofs.Ytnjghhkebcojnaa.Law20
