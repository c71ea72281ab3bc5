/- the contracts of package zero -/
import Derived.Test.YtofhklimofdepaaZeroB
set_option maxRecDepth 100000
namespace Go.Proofs.Ytofhklimofdepaa.Zero
open Go.RowKit PlanM StripeM DealM RebM ZeroM Plan Stripe

theorem zero_arg (b0 : Nat) (p : P) (n : Int) (A : Option Addr) (tl : Nat) (c : Nat) (w : World) (hp : p.In) (hM : ¬ p.May) :
    Calls Try.prog 8 #[.pointer (some ⟨b0, 0, none⟩), p.val, .int .i64 n, .slice A tl c] w (RetRowsE w [] 1) := by
  have HS := Lib.hid (Six.new w p)
  have hb0 := Lib.hid (balloc w (.cells #[.int .i64 p.N, .int .i64 p.T, .int .i64 p.L, .int .i64 p.W, .int .i64 p.S, .int .i64 p.R] 23))
  have hR := fun V => Plan.right_any p V hp
  rw [P.right_no hM] at hR
  clear hM hp
  obtain ⟨pN, pT, pL, pW, pS, pR⟩ := p
  unfold P.val at hR ⊢
  simp only at HS hb0 hR ⊢
  have HR := Lib.hid hR
  clear hR
  go_enter Try.func8, Try.ntmps8
  go_wp2_with fail
  generalize w.alloc (.cells #[.int .i64 pN, .int .i64 pT, .int .i64 pL, .int .i64 pW, .int .i64 pS, .int .i64 pR] 23) = w0 at *
  have s0 := HS.out
  have c0 := s0.c0; have c1 := s0.c1; have c2 := s0.c2; have c3 := s0.c3; have c4 := s0.c4; have c5 := s0.c5
  simp only at c0 c1 c2 c3 c4 c5
  clear s0
  go_wp2_with fail
  refine (HR.out _).mono ?_
  rintro e w1 ⟨rfl, hb1⟩
  clear c0 c1 c2 c3 c4 c5
  go_wp2
  go_ret2
  exact ⟨none, 0, rfl, Nat.le_refl _, Nat.zero_le _, RowsAt.nil _ _, bstep hb0.out hb1, New.none w⟩

theorem zero_range (b0 : Nat) (p : P) (n : Int) (A : Option Addr) (tl : Nat) (c : Nat) (w : World) (hp : p.In) (hM : p.May) (hn : okN n = false) :
    Calls Try.prog 8 #[.pointer (some ⟨b0, 0, none⟩), p.val, .int .i64 n, .slice A tl c] w (RetRowsE w [] 2) := by
  have HS := Lib.hid (Six.new w p)
  have hb0 := Lib.hid (balloc w (.cells #[.int .i64 p.N, .int .i64 p.T, .int .i64 p.L, .int .i64 p.W, .int .i64 p.S, .int .i64 p.R] 23))
  have hR := fun V => Plan.right_any p V hp
  rw [P.right_yes hM] at hR
  have hK := fun V => mayBe_any n V
  rw [hn] at hK
  clear hM hp hn
  obtain ⟨pN, pT, pL, pW, pS, pR⟩ := p
  unfold P.val at hR ⊢
  simp only at HS hb0 hR ⊢
  have HR := Lib.hid hR; have HK := Lib.hid hK
  clear hR hK
  go_enter Try.func8, Try.ntmps8
  go_wp2_with fail
  generalize w.alloc (.cells #[.int .i64 pN, .int .i64 pT, .int .i64 pL, .int .i64 pW, .int .i64 pS, .int .i64 pR] 23) = w0 at *
  have s0 := HS.out
  have c0 := s0.c0; have c1 := s0.c1; have c2 := s0.c2; have c3 := s0.c3; have c4 := s0.c4; have c5 := s0.c5
  simp only at c0 c1 c2 c3 c4 c5
  clear s0
  go_wp2_with fail
  refine (HR.out _).mono ?_
  rintro e w1 ⟨rfl, hb1⟩
  clear c0 c1 c2 c3 c4 c5
  go_wp2_with fail
  refine (HK.out _).mono ?_
  rintro e w' ⟨rfl, rfl⟩
  go_wp2
  go_ret2
  exact ⟨none, 0, rfl, Nat.le_refl _, Nat.zero_le _, RowsAt.nil _ _, bstep hb0.out hb1, New.none w⟩

set_option maxHeartbeats 1000000 in
theorem zero_empty (b0 : Nat) (p : P) (n : Int) (A : Option Addr) (tl : Nat) (c : Nat) (w : World) (hp : p.In) (hM : p.May) (hn : okN n = true) (h0 : (tl : Int) < p.T * n) (_k : tl ≤ c) (_z : c ≤ maxLen) :
    Calls Try.prog 8 #[.pointer (some ⟨b0, 0, none⟩), p.val, .int .i64 n, .slice A tl c] w (RetRowsE w [] 12) := by
  have HS := Lib.hid (Six.new w p)
  have hb0 := Lib.hid (balloc w (.cells #[.int .i64 p.N, .int .i64 p.T, .int .i64 p.L, .int .i64 p.W, .int .i64 p.S, .int .i64 p.R] 23))
  have hR := fun V => Plan.right_any p V hp
  rw [P.right_yes hM] at hR
  have hK := fun V => mayBe_any n V
  rw [hn] at hK
  have hC := fun V => cost_may p n V hp hM
  rw [if_pos hn] at hC
  have hlt : decide ((tl : Int) < p.T * n) = true := decide_eq_true h0
  generalize p.T * n = co at *
  clear hM hp hn h0
  obtain ⟨pN, pT, pL, pW, pS, pR⟩ := p
  unfold P.val at hR hC ⊢
  simp only at HS hb0 hR hC ⊢
  have HR := Lib.hid hR; have HK := Lib.hid hK; have HC := Lib.hid hC
  clear hR hK hC
  go_enter Try.func8, Try.ntmps8
  go_wp2_with fail
  generalize w.alloc (.cells #[.int .i64 pN, .int .i64 pT, .int .i64 pL, .int .i64 pW, .int .i64 pS, .int .i64 pR] 23) = w0 at *
  have s0 := HS.out
  have c0 := s0.c0; have c1 := s0.c1; have c2 := s0.c2; have c3 := s0.c3; have c4 := s0.c4; have c5 := s0.c5
  simp only at c0 c1 c2 c3 c4 c5
  clear s0
  go_wp2_with fail
  refine (HR.out _).mono ?_
  rintro e w1 ⟨rfl, hb1⟩
  have s0 := HS.out.below hb1
  clear c0 c1 c2 c3 c4 c5
  go_wp2_with fail
  refine (HK.out _).mono ?_
  rintro e w' ⟨rfl, rfl⟩
  have c0 := s0.c0; have c1 := s0.c1; have c2 := s0.c2; have c3 := s0.c3; have c4 := s0.c4; have c5 := s0.c5
  simp only at c0 c1 c2 c3 c4 c5
  clear s0
  have HB1 := Lib.hid (bstep hb0.out hb1)
  clear hb1
  go_wp2_with fail
  refine (HC.out _).mono ?_
  rintro e w2 ⟨rfl, hb2⟩
  have HB2 := Lib.hid (bstep HB1.out hb2)
  clear hb2 c0 c1 c2 c3 c4 c5
  go_wp2
  go_ret2
  exact ⟨none, 0, rfl, Nat.le_refl _, Nat.zero_le _, RowsAt.nil _ _, HB2.out, New.none w⟩

theorem make_rows0 (cap : Nat) (hn : cap ≤ 1048576) (w : World) :
    (Instr.makeSlice 27 (.int .i64 0) (.int .i64 (cap : Int))).run Try.prog w = .ok (.slice (some ⟨w.heap.size, 0, none⟩) 0 cap) (w.alloc (.cells (nilRows cap).toArray 24)) := by
  obtain ⟨i0, hi, hz, hs, hb⟩ := sl_info'
  have hr := run_make (P := Try.prog) w 27 24 i0 _ Try.underlying27 hi hz .i64 .i64 0 cap (by omega) (by omega) (by rw [hb]; omega) (by omega)
  simp only [Int.toNat_natCast, Int.toNat_zero] at hr
  rw [hr, hs, Nat.mul_one]
  congr 2
  have : madeCells (Value.slice none 0 0).cells cap = (nilRows cap).toArray := by
    apply Array.ext'
    rw [show (Value.slice none 0 0).cells = #[.slice none 0 0] from rfl, toList_madeCells_one]
    simp [nilRows]
  rw [this]
theorem OwnM.room (w : World) (base cap : Nat) (hb : base ≤ w.heap.size) (hc : cap ≤ maxLen) : OwnM (w.alloc (.cells (nilRows cap).toArray 24)) base (.slice (some ⟨w.heap.size, 0, none⟩) 0 cap) [] := by
  refine ⟨[], ⟨by simp, .inr ⟨w.heap.size, cap, (nilRows cap).toArray, by simp, hb, heap_alloc_new w _, by simp, hc, by simp [nilRows], by simp⟩⟩, fun i hi => absurd hi (by simp)⟩

set_option maxHeartbeats 4000000 in
theorem zero_ok (b0 : Nat) (p : P) (n : Nat) (A : Option Addr) (tape : List UInt8) (c : Nat) (w : World) (hp : p.In) (hM : p.May) (hn : n ≤ 240) (ht : Gf.Tab w b0) (h : BytesAt w A tape) (h0 : ¬ (tape.length : Int) < p.T * (n : Int)) (k : tape.length ≤ c) (z : c ≤ maxLen) :
    Calls Try.prog 8 #[.pointer (some ⟨b0, 0, none⟩), p.val, .int .i64 (n : Nat), .slice A tape.length c] w (RetRowsE w (shares p (zpolysTo p tape n)) 0) := by
  have HS := Lib.hid (Six.new w p)
  have hb0 := Lib.hid (balloc w (.cells #[.int .i64 p.N, .int .i64 p.T, .int .i64 p.L, .int .i64 p.W, .int .i64 p.S, .int .i64 p.R] 23))
  have hR := fun V => Plan.right_any p V hp
  rw [P.right_yes hM] at hR
  have hok : okN n = true := decide_eq_true (by omega)
  have hK := fun V => mayBe_any n V
  rw [hok] at hK
  have hC := fun V => cost_may p n V hp hM
  rw [if_pos hok] at hC
  have hM' := hM
  unfold P.May at hM'
  have hcost : n * p.T.toNat ≤ tape.length := by
    have e : ((p.T.toNat : Nat) : Int) = p.T := by omega
    rw [← e, ← Int.natCast_mul] at h0
    rw [Nat.mul_comm]; omega
  have hlt : decide ((tape.length : Int) < p.T * (n : Int)) = false := decide_eq_false h0
  generalize p.T * (n : Int) = co at *
  have hSh := fun V (ht : Gf.Tab V b0) (h : BytesAt V A tape) => sharesOf_any b0 p n A tape c V hp hM ht h
  have hrl : (PolyM.proot p.secrets).length ≤ 1048576 := by rw [PolyM.proot_len, secrets_len]; omega
  have hT := fun gf gr gn gt gp Y dY pt V (h : ZA V gf gr gn gt gp b0 Y A (PolyM.proot p.secrets) tape dY c n p) => tell_any gf gr gn gt gp b0 Y A (PolyM.proot p.secrets) tape dY c n p pt V h hM hn hrl k z hcost
  have hA := fun V => Plan.all_any p V hp
  obtain ⟨N, hN⟩ : ∃ N : Nat, p.N = (N : Int) := ⟨p.N.toNat, by omega⟩
  have haN : p.allA = all N := by unfold P.allA; rw [P.right_yes hM, if_pos rfl, hN, Int.toNat_natCast]
  rw [haN] at hA
  have hN2 : N ≤ 256 := by omega
  have hal : (all N).length = N := all_len N
  have hai : ∀ x ∈ all N, In64 x := fun x hx => by
    unfold all at hx
    obtain ⟨j, hj, rfl⟩ := List.mem_map.mp hx
    have := List.mem_range.mp hj
    unfold In64; omega
  have hP := fun X d V (h : IntsAt V X (all N)) (h1 : N ≤ d) (h2 : d ≤ maxLen) => Plan.points_any X (all N) d V h (by rw [hal]; omega) (by rw [hal]; exact h1) h2 hai
  rw [hal] at hP
  obtain ⟨out, hout⟩ : ∃ out : UInt8 → List UInt8, out = zval (PolyM.proot p.secrets) tape p.T.toNat n := ⟨_, rfl⟩
  have hol : ∀ x, (out x).length = n := fun x => by rw [hout, zval_len]
  have hres : shares p (zpolysTo p tape n) = (points (all N)).map out := by
    unfold shares points
    rw [hN, Int.toNat_natCast, List.map_map, hout]
    refine List.map_congr_left fun i _ => ?_
    show _ = zval _ _ _ _ (point i)
    rw [zval_share]
  rw [hres]
  simp only [← hout] at hT
  obtain ⟨pts, hpts⟩ : ∃ pts, pts = points (all N) := ⟨_, rfl⟩
  have hptl : pts.length = N := by rw [hpts, points_len, hal]
  rw [← hpts] at hP ⊢
  generalize PolyM.proot p.secrets = rt at *
  have hmk := fun W => make_rows0 N (by omega) W
  have HR := Lib.hid hR; have HK := Lib.hid hK; have HC := Lib.hid hC; have HSh := Lib.hid hSh; have HT := Lib.hid hT; have HA := Lib.hid hA; have HP := Lib.hid hP; have HOL := Lib.hid hol; have HPT := Lib.hid hptl; have HTB := Lib.hid ht; have HTP := Lib.hid h; have HAL := Lib.hid hal
  obtain ⟨tl, htl⟩ : ∃ tl, tl = tape.length := ⟨_, rfl⟩
  rw [← htl] at hlt k HSh ⊢
  clear hR hK hC hSh hT hA hP hol hptl ht h hal hout hpts hres hcost h0 htl hok hai haN hrl hM hp
  obtain ⟨pN, pT, pL, pW, pS, pR⟩ := p
  simp only at hN hM'
  subst hN
  unfold P.val at HR HC HSh HA ⊢
  go_enter Try.func8, Try.ntmps8
  go_wp2_with fail
  generalize w.alloc (.cells #[.int .i64 (N : Nat), .int .i64 pT, .int .i64 pL, .int .i64 pW, .int .i64 pS, .int .i64 pR] 23) = w0 at *
  have s0 := HS.out
  have c0 := s0.c0; have c1 := s0.c1; have c2 := s0.c2; have c3 := s0.c3; have c4 := s0.c4; have c5 := s0.c5
  simp only at c0 c1 c2 c3 c4 c5
  clear s0
  go_wp2_with fail
  refine (HR.out _).mono ?_
  rintro e w1 ⟨rfl, hb1⟩
  have s0 := HS.out.below hb1
  clear c0 c1 c2 c3 c4 c5
  go_wp2_with fail
  refine (HK.out _).mono ?_
  rintro e w' ⟨rfl, rfl⟩
  have HS1 := Lib.hid s0
  have c0 := s0.c0; have c1 := s0.c1; have c2 := s0.c2; have c3 := s0.c3; have c4 := s0.c4; have c5 := s0.c5
  simp only at c0 c1 c2 c3 c4 c5
  clear s0
  have HB1 := Lib.hid (bstep hb0.out hb1)
  clear hb1
  go_wp2_with fail
  refine (HC.out _).mono ?_
  rintro e w2 ⟨rfl, hb2⟩
  have HB2 := Lib.hid (bstep HB1.out hb2)
  have s0 := HS1.out.below hb2
  clear hb2 c0 c1 c2 c3 c4 c5
  have HS2 := Lib.hid s0
  have c0 := s0.c0; have c1 := s0.c1; have c2 := s0.c2; have c3 := s0.c3; have c4 := s0.c4; have c5 := s0.c5
  simp only at c0 c1 c2 c3 c4 c5
  clear s0
  go_wp2_with fail
  refine (HSh.out w2 (HTB.out.below HB2.out) (HTP.out.below HB2.out)).mono ?_
  rintro e w3 ⟨gf, gr, gn, gt, gp, Y, dY, rfl, hza, hb3⟩
  have HB3 := Lib.hid (bstep HB2.out hb3)
  have s0 := HS2.out.below hb3
  clear hb3 c0 c1 c2 c3 c4 c5
  have hb4 := balloc w3 (.cells (nilRows N).toArray 24)
  have s1 := s0.below hb4
  have ho := OwnM.room w3 w.heap.size N HB3.out.size (by unfold maxLen; omega)
  have HS3 := Lib.hid s0; have HZA0 := Lib.hid hza; have HZA := Lib.hid (hza.below hb4); have HO := Lib.hid ho; have HB4 := Lib.hid (bstep HB3.out hb4)
  have c0 := s0.c0; have c1 := s1.c0; have c2 := s1.c1; have c3 := s1.c2; have c4 := s1.c3; have c5 := s1.c4; have c6 := s1.c5
  simp only at c0 c1 c2 c3 c4 c5 c6
  clear s0 s1 hza ho hb4
  go_wp2_with fail
  clear hmk
  generalize w3.alloc (.cells (nilRows N).toArray 24) = w4 at *
  refine (HA.out w4).mono ?_
  rintro e w5 ⟨X, d, rfl, x1, x2, hX, hb5, _⟩
  rw [HAL.out] at x1 ⊢
  have HB5 := Lib.hid hb5; have HX := Lib.hid hX
  clear hX hb5 c0 c1 c2 c3 c4 c5 c6
  go_wp2_with fail
  refine (HP.out X d w5 HX.out x1 x2).mono ?_
  rintro e w6 ⟨v6, rfl, hv6, hb6⟩
  obtain ⟨Z, dz, rfl, z1, z2, hZ, hnZ⟩ := hv6.new
  rw [HPT.out] at z1 ⊢
  have hb46 := bstep HB5.out hb6
  have HZ := Lib.hid hZ; have HO6 := Lib.hid (HO.out.below hb46); have HZA6 := Lib.hid (HZA.out.below hb46); have HB6 := Lib.hid (bstep HB4.out hb46)
  have hz4 := (HO.out.ownlt w3.heap.size rfl).2
  have hz46 := hb46.size
  have HNZ := Lib.hid hnZ
  clear hv6 hb6 hb46 hZ hnZ
  have hw0 := HB6.out.size
  have hz5 := HB5.out.size
  have hnz : ∀ a, Z = some a → ¬ a.block = w3.heap.size := fun a e => by have := HNZ.out a e; omega
  have HNE := Lib.hid hnz
  clear hnz
  go_wp2_with fail
  go_loopw [11, 38] (fun v i wr => ∃ j : Nat, j ≤ N ∧ i = .int .i64 j ∧ OwnM wr w.heap.size v ((pts.take j).map out) ∧ (∀ k, v.ownBlock = some k → k = w3.heap.size ∨ w6.heap.size ≤ k) ∧ Keeps (fun k => k = w3.heap.size) w6 wr)
    (fun _ i _ => N - (intOf i).toNat)
  case atStart => exact ⟨0, Nat.zero_le _, rfl, HO6.out, fun k e => .inl (by injection e with e; exact e.symm), Keeps.refl _ _⟩
  case round =>
    obtain ⟨j, hj, rfl, ho, hob, hq⟩ := hrel
    rename World => wr
    have HOW := Lib.hid ho; have HOB := Lib.hid hob; have HQ := Lib.hid hq
    have hbw := below_keeps HB6.out hq (fun i hi => by subst hi; exact HB3.out.size) HB6.out.size
    have HBW := Lib.hid hbw
    clear ho hob hq hbw
    by_cases hlt2 : j < N
    · have hjp : j < pts.length := by rw [HPT.out]; exact hlt2
      have hZr := HQ.out.bytes HZ.out HNE.out
      obtain ⟨zb, zo, rfl, ez⟩ := hZr j hjp
      have hza := ZA.keep HZA0.out HZA6.out HQ.out (fun k hk e => by omega)
      obtain ⟨x, hx⟩ : ∃ x, x = pts[j] := ⟨_, rfl⟩
      rw [← hx] at ez
      have HX2 := Lib.hid hx
      clear hx hZr
      go_wp2_with fail
      refine (HT.out gf gr gn gt gp Y dY x wr hza).mono ?_
      rintro e wx ⟨B, cr, rfl, r1, r2, hB, hbx, hnB⟩
      have hlen := HOL.out x
      obtain ⟨ox, hox⟩ : ∃ ox, ox = out x := ⟨_, rfl⟩
      rw [← hox] at r1 hB hlen ⊢
      rw [hlen] at r1 ⊢
      have HOX := Lib.hid (HOW.out.below hbx); have HBR := Lib.hid hB; have HNB := Lib.hid hnB; have HBX := Lib.hid hbx; have HL := Lib.hid hlen; have HOXE := Lib.hid hox
      have HOL2 := Lib.hid HOW.out.ownlt
      have hzx := hbx.size
      have hzq := HQ.out.size
      have hwr := HBW.out.size
      have hjl : ((pts.take j).map out).length < 1099511627776 := by rw [List.length_map, List.length_take]; omega
      clear hB hnB hbx hlen hox hza ez
      go_wp2_with (at_builtin; refine wpList_append_row_g rfl _ _ rfl w.heap.size u11 ((pts.take j).map out) rfl (HOX.out.alloc _) wx.heap.size 1 ox B cr rfl (by rw [HL.out]; simp) (by rw [HL.out]; exact r1) r2 (HBR.out.alloc _) (fun _ a e e' => by have h1 := (HOL2.out _ e').2; have h2 := HNB.out a e; omega) hjl (by simp; omega) ?_; intro v' w7 hown1 hg7 hp7)
      have hs7 := (Keeps.own ((HQ.out.trans (Keeps.of_below _ HBX.out)).trans (Keeps.of_below _ (balloc wx _))) hg7 HOB.out)
      go_roundw
      case rel =>
        refine ⟨j + 1, by omega, by go_num, ?_, ?_, hs7⟩
        · rw [List.take_succ_eq_append_getElem hjp, List.map_append, ← HX2.out]
          show OwnM _ _ _ (_ ++ [out x])
          rw [← HOXE.out]; exact hown1
        · intro k hk
          rcases hp7 with e | e
          · exact HOB.out k (by rw [← e]; exact hk)
          · rw [hk] at e; injection e with e; right; simp at e; omega
      case measure => simp [intOf] <;> omega
    · obtain rfl : j = N := by omega
      have ho := HOW.out
      rw [show pts.take j = pts from by rw [← HPT.out]; exact List.take_length] at ho
      obtain ⟨X', c', rfl, q1, q2, hR', hn'⟩ := ho.rows
      go_wp2
      go_ret2
      exact ⟨X', c', rfl, q1, q2, hR', HBW.out, fun a e => hn' a e⟩

theorem zero_any (b0 : Nat) (p : P) (n : Int) (A : Option Addr) (tape : List UInt8) (c : Nat) (w : World) (hp : p.In) (_hn : In64 n) (ht : Gf.Tab w b0) (h : BytesAt w A tape) (k : tape.length ≤ c) (z : c ≤ maxLen) :
    Calls Try.prog 8 #[.pointer (some ⟨b0, 0, none⟩), p.val, .int .i64 n, .slice A tape.length c] w (RetRowsE w (zeroA p n tape) (zeroE p n tape)) := by
  have hA : ∀ e : Int, zcheck p n tape = e → zeroE p n tape = e ∧ (e ≠ 0 → zeroA p n tape = []) := fun e he => ⟨he, fun h0 => by unfold zeroA; rw [he, if_neg h0]⟩
  by_cases hM : p.May
  · by_cases hn : 0 ≤ n ∧ n ≤ 240
    · by_cases h0 : (tape.length : Int) < p.T * n
      · obtain ⟨e1, e2⟩ := hA 12 (by unfold zcheck; rw [P.right_yes hM, if_pos rfl, if_neg (by omega), if_pos h0])
        rw [e1, e2 (by omega)]
        exact zero_empty b0 p n A tape.length c w hp hM (decide_eq_true hn) h0 k z
      · have e : zcheck p n tape = 0 := by unfold zcheck; rw [P.right_yes hM, if_pos rfl, if_neg (by omega), if_neg h0]
        obtain ⟨e1, _⟩ := hA 0 e
        rw [e1]
        unfold zeroA
        rw [e, if_pos rfl]
        obtain ⟨m, rfl⟩ : ∃ m : Nat, n = (m : Int) := ⟨n.toNat, by omega⟩
        rw [Int.toNat_natCast]
        exact zero_ok b0 p m A tape c w hp hM (by omega) ht h h0 k z
    · obtain ⟨e1, e2⟩ := hA 2 (by unfold zcheck; rw [P.right_yes hM, if_pos rfl, if_pos (by omega)])
      rw [e1, e2 (by omega)]
      exact zero_range b0 p n A tape.length c w hp hM (decide_eq_false hn)
  · obtain ⟨e1, e2⟩ := hA 1 (by unfold zcheck; rw [P.right_no hM]; rfl)
    rw [e1, e2 (by omega)]
    exact zero_arg b0 p n A tape.length c w hp hM
end Go.Proofs.Ytofhklimofdepaa.Zero
