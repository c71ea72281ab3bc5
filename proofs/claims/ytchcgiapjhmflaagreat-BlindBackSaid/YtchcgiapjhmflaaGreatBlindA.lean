/- package blind: Cost, what is wrong, what is 0 at the target -/
import Derived.Test.YtchcgiapjhmflaaGreatMP
import Derived.Test.YtchcgiapjhmflaaGreatPoly
import Derived.Test.YtchcgiapjhmflaaGreatFoot
import Derived.Test.YtchcgiapjhmflaaGreatBlindMath
import Derived.Laws.EntriesVeiled
set_option maxRecDepth 100000
namespace Go.Proofs.YtchcgiapjhmflaaGreat.Blind
open Go.RowKit PlanM StripeM DealM RebM ZeroM Plan

/-- may a blob have so many stripes? -/
def okN (n : Int) : Bool := decide (0 ≤ n ∧ n ≤ 240)
theorem mayBe_any (n : Int) (w : World) : Calls Tryz.prog 40 #[.int .i64 n] w fun e w' => e = .returned (.bool (okN n)) ∧ w = w' := by
  by_cases h0 : 0 ≤ n
  · by_cases h1 : n ≤ 240
    · rw [show okN n = true from decide_eq_true ⟨h0, h1⟩]
      go_enter Tryz.func40, Tryz.ntmps40
      go_wp2
      go_ret
      exact ⟨by simp, rfl⟩
    · rw [show okN n = false from decide_eq_false (by omega)]
      go_enter Tryz.func40, Tryz.ntmps40
      go_wp2
      go_ret
      exact ⟨by simp, rfl⟩
  · rw [show okN n = false from decide_eq_false (by omega)]
    go_enter Tryz.func40, Tryz.ntmps40
    go_wp2
    go_ret
    exact ⟨rfl, rfl⟩

theorem drawn_may (p : P) (w : World) (hp : p.In) (hM : p.May) : Calls Tryz.prog 30 #[p.val] w (Says w (.int .i64 (width p))) := by
  have HS := Lib.hid (Six.new w p)
  have hb0 := Lib.hid (balloc w (.cells #[.int .i64 p.N, .int .i64 p.T, .int .i64 p.L, .int .i64 p.W, .int .i64 p.S, .int .i64 p.R] 23))
  have hN := fun V => Plan.need_any p V hp
  obtain ⟨nd, hnd⟩ : ∃ nd, nd = p.needA := ⟨_, rfl⟩
  have hw : IntKind.i64.wrap (nd - 1) = width p := by
    rw [hnd]; unfold P.needA width; rw [P.right_yes hM, if_pos rfl]
    unfold P.May at hM
    exact IntWalk.i64_in _ (by omega)
  rw [← hnd] at hN
  generalize width p = v at *
  clear hM hp hnd
  obtain ⟨pN, pT, pL, pW, pS, pR⟩ := p
  unfold P.val at hN ⊢
  simp only at HS hb0 hN ⊢
  have HN := Lib.hid hN; have HW := Lib.hid hw
  clear hN hw
  go_enter Tryz.func30, Tryz.ntmps30
  go_wp2_with fail
  generalize w.alloc (.cells #[.int .i64 pN, .int .i64 pT, .int .i64 pL, .int .i64 pW, .int .i64 pS, .int .i64 pR] 23) = w0 at *
  have s0 := HS.out
  have c0 := s0.c0; have c1 := s0.c1; have c2 := s0.c2; have c3 := s0.c3; have c4 := s0.c4; have c5 := s0.c5
  simp only at c0 c1 c2 c3 c4 c5
  clear s0
  go_wp2_with fail
  refine (HN.out _).mono ?_
  rintro e w1 ⟨rfl, hb1⟩
  clear c0 c1 c2 c3 c4 c5
  have h := HW.out
  go_wp2
  go_ret
  exact ⟨rfl, bstep hb0.out hb1⟩

theorem cost_no (p : P) (n : Int) (w : World) (hp : p.In) (hM : ¬ p.May) : Calls Tryz.prog 21 #[p.val, .int .i64 n] w (Says w (.int .i64 0)) := by
  have HS := Lib.hid (Six.new w p)
  have hb0 := Lib.hid (balloc w (.cells #[.int .i64 p.N, .int .i64 p.T, .int .i64 p.L, .int .i64 p.W, .int .i64 p.S, .int .i64 p.R] 23))
  have hR := fun V => Plan.right_any p V hp
  rw [P.right_no hM] at hR
  clear hM hp
  obtain ⟨pN, pT, pL, pW, pS, pR⟩ := p
  unfold P.val at hR ⊢
  simp only at HS hb0 hR ⊢
  have HR := Lib.hid hR
  clear hR
  go_enter Tryz.func21, Tryz.ntmps21
  go_wp2_with fail
  generalize w.alloc (.cells #[.int .i64 pN, .int .i64 pT, .int .i64 pL, .int .i64 pW, .int .i64 pS, .int .i64 pR] 23) = w0 at *
  have s0 := HS.out
  have c0 := s0.c0; have c1 := s0.c1; have c2 := s0.c2; have c3 := s0.c3; have c4 := s0.c4; have c5 := s0.c5
  simp only at c0 c1 c2 c3 c4 c5
  clear s0
  go_wp2_with fail
  refine (HR.out _).mono ?_
  rintro e w1 ⟨rfl, hb1⟩
  clear c0 c1 c2 c3 c4 c5
  go_wp2
  go_ret
  exact ⟨rfl, bstep hb0.out hb1⟩

theorem cost_may (p : P) (n : Int) (w : World) (hp : p.In) (hM : p.May) : Calls Tryz.prog 21 #[p.val, .int .i64 n] w (Says w (.int .i64 (if okN n then width p * n else 0))) := by
  have HS := Lib.hid (Six.new w p)
  have hb0 := Lib.hid (balloc w (.cells #[.int .i64 p.N, .int .i64 p.T, .int .i64 p.L, .int .i64 p.W, .int .i64 p.S, .int .i64 p.R] 23))
  have hR := fun V => Plan.right_any p V hp
  rw [P.right_yes hM] at hR
  have hD := fun V => drawn_may p V hp hM
  obtain ⟨ans, hans⟩ : ∃ ans, ans = (if okN n then width p * n else 0) := ⟨_, rfl⟩
  rw [← hans]
  have h1 : okN n = true → IntKind.i64.wrap (width p * n) = ans := fun h => by
    rw [hans, if_pos h]
    have h := of_decide_eq_true h
    unfold P.May at hM
    have hw : 1 ≤ width p ∧ width p ≤ 256 := by unfold width; omega
    have h1 : width p * n ≤ 256 * 240 := Int.mul_le_mul (by omega) (by omega) (by omega) (by omega)
    have h0 : 0 ≤ width p * n := Int.mul_nonneg (by omega) (by omega)
    exact IntWalk.i64_in _ (by omega)
  have h2 : okN n = false → ans = 0 := fun h => by rw [hans, h]; rfl
  have hK := fun V => mayBe_any n V
  generalize okN n = v at *
  generalize width p = wd at *
  clear hM hp hans
  obtain ⟨pN, pT, pL, pW, pS, pR⟩ := p
  unfold P.val at hR hD ⊢
  simp only at HS hb0 hR hD h1 h2 ⊢
  have HR := Lib.hid hR; have HK := Lib.hid hK; have H1 := Lib.hid h1; have H2 := Lib.hid h2; have HD := Lib.hid hD
  clear hR hK h1 h2 hD
  go_enter Tryz.func21, Tryz.ntmps21
  go_wp2_with fail
  generalize w.alloc (.cells #[.int .i64 pN, .int .i64 pT, .int .i64 pL, .int .i64 pW, .int .i64 pS, .int .i64 pR] 23) = w0 at *
  have s0 := HS.out
  have c0 := s0.c0; have c1 := s0.c1; have c2 := s0.c2; have c3 := s0.c3; have c4 := s0.c4; have c5 := s0.c5
  simp only at c0 c1 c2 c3 c4 c5
  clear s0
  go_wp2_with fail
  refine (HR.out _).mono ?_
  rintro e w1 ⟨rfl, hb1⟩
  clear c0 c1 c2 c3 c4 c5
  go_wp2_with fail
  refine (HK.out _).mono ?_
  rintro e w' ⟨rfl, rfl⟩
  cases v
  · obtain rfl := H2.out rfl
    go_wp2
    go_ret
    exact ⟨rfl, bstep hb0.out hb1⟩
  · have h := H1.out rfl
    have s0 := HS.out.below hb1
    have c0 := s0.c0; have c1 := s0.c1; have c2 := s0.c2; have c3 := s0.c3; have c4 := s0.c4; have c5 := s0.c5
    simp only at c0 c1 c2 c3 c4 c5
    clear s0
    go_wp2_with fail
    refine (HD.out _).mono ?_
    rintro e w2 ⟨rfl, hb2⟩
    clear c0 c1 c2 c3 c4 c5
    go_wp2
    go_ret
    exact ⟨rfl, bstep hb0.out (bstep hb1 hb2)⟩

theorem cost_any (p : P) (n : Int) (w : World) (hp : p.In) (_hn : In64 n) : Calls Tryz.prog 21 #[p.val, .int .i64 n] w (Says w (.int .i64 (bcost p n))) := by
  unfold bcost
  by_cases hM : p.May
  · rw [P.right_yes hM, if_pos rfl]
    have := cost_may p n w hp hM
    unfold okN at this
    by_cases h : 0 ≤ n ∧ n ≤ 240
    · rw [if_neg (by omega)]; rw [if_pos (decide_eq_true h)] at this; exact this
    · rw [if_pos (by omega)]; rw [if_neg (by simpa using h)] at this; exact this
  · rw [P.right_no hM, if_neg (by simp)]
    exact cost_no p n w hp hM

theorem bcheck_by (p : P) (n t : Int) : bcheck p n t = if p.right then (if okN n then (if p.isA t then 0 else 2) else 2) else 1 := by
  unfold bcheck okN P.isA
  cases p.right
  · rfl
  · simp only [if_true, Bool.true_and]
    by_cases h : 0 ≤ n ∧ n ≤ 240
    · rw [if_neg (by omega), if_pos (decide_eq_true h)]
    · rw [if_pos (by omega), if_neg (by simpa using h)]

theorem wrong_any (p : P) (n t : Int) (w : World) (hp : p.In) (ht : In64 t) : Calls Tryz.prog 27 #[p.val, .int .i64 n, .int .i64 t] w (Says w (.int .i64 (bcheck p n t))) := by
  have HS := Lib.hid (Six.new w p)
  have hb0 := Lib.hid (balloc w (.cells #[.int .i64 p.N, .int .i64 p.T, .int .i64 p.L, .int .i64 p.W, .int .i64 p.S, .int .i64 p.R] 23))
  have hR := fun V => Plan.right_any p V hp
  have hK := fun V => mayBe_any n V
  have hI := fun V => Plan.is_any p t V hp ht
  rw [bcheck_by]
  generalize p.isA t = vi at *
  generalize p.right = vr at *
  generalize okN n = vk at *
  obtain ⟨ans, hans⟩ : ∃ ans : Int, ans = (if vr then (if vk then (if vi then 0 else 2) else 2) else 1) := ⟨_, rfl⟩
  rw [← hans]
  have h1 : vr = false → ans = 1 := fun h => by rw [hans, h]; rfl
  have h2 : vr = true → vk = false → ans = 2 := fun h k => by rw [hans, h, k]; rfl
  have h3 : vr = true → vk = true → vi = false → ans = 2 := fun h k i => by rw [hans, h, k, i]; rfl
  have h4 : vr = true → vk = true → vi = true → ans = 0 := fun h k i => by rw [hans, h, k, i]; rfl
  have H1 := Lib.hid h1; have H2 := Lib.hid h2; have H3 := Lib.hid h3; have H4 := Lib.hid h4
  clear hp ht h1 h2 h3 h4 hans
  obtain ⟨pN, pT, pL, pW, pS, pR⟩ := p
  unfold P.val at hR hI ⊢
  simp only at HS hb0 hR hI ⊢
  have HR := Lib.hid hR; have HK := Lib.hid hK; have HI := Lib.hid hI
  clear hR hK hI
  go_enter Tryz.func27, Tryz.ntmps27
  go_wp2_with fail
  generalize w.alloc (.cells #[.int .i64 pN, .int .i64 pT, .int .i64 pL, .int .i64 pW, .int .i64 pS, .int .i64 pR] 23) = w0 at *
  have s0 := HS.out
  have c0 := s0.c0; have c1 := s0.c1; have c2 := s0.c2; have c3 := s0.c3; have c4 := s0.c4; have c5 := s0.c5
  simp only at c0 c1 c2 c3 c4 c5
  clear s0
  go_wp2_with fail
  refine (HR.out _).mono ?_
  rintro e w1 ⟨rfl, hb1⟩
  clear c0 c1 c2 c3 c4 c5
  cases vr
  · obtain rfl := H1.out rfl
    go_wp2
    go_ret
    exact ⟨rfl, bstep hb0.out hb1⟩
  · go_wp2_with fail
    refine (HK.out _).mono ?_
    rintro e w' ⟨rfl, rfl⟩
    cases vk
    · obtain rfl := H2.out (by trivial) (by trivial)
      go_wp2
      go_ret
      exact ⟨rfl, bstep hb0.out hb1⟩
    · have s0 := HS.out.below hb1
      have c0 := s0.c0; have c1 := s0.c1; have c2 := s0.c2; have c3 := s0.c3; have c4 := s0.c4; have c5 := s0.c5
      simp only at c0 c1 c2 c3 c4 c5
      clear s0
      go_wp2_with fail
      refine (HI.out _).mono ?_
      rintro e w2 ⟨rfl, hb2⟩
      clear c0 c1 c2 c3 c4 c5
      cases vi
      · obtain rfl := H3.out (by trivial) (by trivial) (by trivial)
        go_wp2
        go_ret
        exact ⟨rfl, bstep hb0.out (bstep hb1 hb2)⟩
      · obtain rfl := H4.out (by trivial) (by trivial) (by trivial)
        go_wp2
        go_ret
        exact ⟨rfl, bstep hb0.out (bstep hb1 hb2)⟩

/-- what the teller of a value has captured -/
structure NA (w : World) (gf gp b0 : Nat) (pt : UInt8) : Prop where
  f : w.cell? ⟨gf, 0, none⟩ = some (.pointer (some ⟨b0, 0, none⟩))
  x : w.cell? ⟨gp, 0, none⟩ = some (.int .u8 (pt.toNat : Nat))
  tab : Gf.Tab w b0
section
variable {w w' : World} {gf gp b0 : Nat} {pt : UInt8}
theorem NA.below (h : NA w gf gp b0 pt) (hb : Below w.heap.size w w') : NA w' gf gp b0 pt :=
  ⟨(hb.cell (p := ⟨gf, 0, none⟩) (cell_lt h.f)).trans h.f, (hb.cell (p := ⟨gp, 0, none⟩) (cell_lt h.x)).trans h.x, h.tab.below hb⟩
theorem NA.drewN (h : NA w gf gp b0 pt) (n : Nat) : NA (w.drewN n) gf gp b0 pt := h.below (bdraw w n)
theorem NA.keep {F : Nat → Prop} {w3 : World} (h3 : NA w3 gf gp b0 pt) (h : NA w gf gp b0 pt) (q : Keeps F w w') (hF : ∀ k, k < w3.heap.size → ¬ F k) : NA w' gf gp b0 pt :=
  ⟨q.cell h.f (hF _ (cell_lt h3.f)), q.cell h.x (hF _ (cell_lt h3.x)), q.tab h.tab (hF _ h3.tab.lt)⟩
end

theorem noughtAt_any (b0 : Nat) (pt : UInt8) (w : World) (ht : Gf.Tab w b0) :
    Calls Tryz.prog 28 #[.pointer (some ⟨b0, 0, none⟩), .int .u8 (pt.toNat : Nat)] w fun e w' =>
      ∃ gf gp, e = .returned (.func (.func 48) #[] #[.pointer (some ⟨gf, 0, none⟩), .pointer (some ⟨gp, 0, none⟩)]) ∧ NA w' gf gp b0 pt ∧ Below w.heap.size w w' := by
  have HT := Lib.hid ht
  clear ht
  have a0 : (w.alloc (.cells #[.pointer (some ⟨b0, 0, none⟩)] 33)).cell? ⟨w.heap.size, 0, none⟩ = some (.pointer (some ⟨b0, 0, none⟩)) := by simp
  have b1 := balloc w (.cells #[.pointer (some ⟨b0, 0, none⟩)] 33)
  have b2 := balloc (w.alloc (.cells #[.pointer (some ⟨b0, 0, none⟩)] 33)) (.cells #[.int .u8 (pt.toNat : Nat)] 5)
  have a1 : ((w.alloc (.cells #[.pointer (some ⟨b0, 0, none⟩)] 33)).alloc (.cells #[.int .u8 (pt.toNat : Nat)] 5)).cell? ⟨w.heap.size + 1, 0, none⟩ = some (.int .u8 (pt.toNat : Nat)) := by
    rw [show w.heap.size + 1 = (w.alloc (.cells #[.pointer (some ⟨b0, 0, none⟩)] 33)).heap.size from by simp]; simp
  have A0 := Lib.hid ((b2.cell (cell_lt a0)).trans a0); have A1 := Lib.hid a1; have B := Lib.hid (bstep b1 b2)
  clear a0 a1 b1 b2
  go_enter Tryz.func28, Tryz.ntmps28
  go_wp2
  go_ret
  exact ⟨w.heap.size, w.heap.size + 1, rfl, ⟨A0.out, A1.out, HT.out.below B.out⟩, B.out⟩

/-- the value at a point -/
def bval (pt : UInt8) (r : List UInt8) (x : UInt8) : UInt8 := GfM.mul (GfM.add x pt) (PolyM.ev r x)
theorem tell_any (gf gp b0 : Nat) (pt x : UInt8) (A : Option Addr) (r : List UInt8) (c : Nat) (w : World) (h : NA w gf gp b0 pt) (hr : BytesAt w A r) (hl : r.length ≤ 1099511627776) :
    Calls Tryz.prog 48 #[.slice A r.length c, .int .u8 (x.toNat : Nat), .pointer (some ⟨gf, 0, none⟩), .pointer (some ⟨gp, 0, none⟩)] w fun e w' => e = .returned (.int .u8 ((bval pt r x).toNat : Nat)) ∧ ∃ n, w' = w.drewN n := by
  have cf := h.f; have cx := h.x
  have HV := Lib.hid h; have HR := Lib.hid hr
  have hE := fun V (ht : Gf.Tab V b0) (h : BytesAt V A r) => Poly.eval_any b0 A r c x V ht h hl
  have hA := fun V => Gf.add_q x pt V
  unfold bval
  obtain ⟨u, hu⟩ : ∃ u, u = GfM.add x pt := ⟨_, rfl⟩
  obtain ⟨y, hy⟩ : ∃ y, y = PolyM.ev r x := ⟨_, rfl⟩
  rw [← hu, ← hy]
  simp only [← hu] at hA
  simp only [← hy] at hE
  have hMm := fun V (ht : Gf.Tab V b0) => Gf.mul_any b0 u y V ht
  obtain ⟨z, hz⟩ : ∃ z, z = GfM.mul u y := ⟨_, rfl⟩
  rw [← hz]
  simp only [← hz] at hMm
  obtain ⟨rl, hrl⟩ : ∃ rl, rl = r.length := ⟨_, rfl⟩
  rw [← hrl]
  simp only [← hrl] at hE
  have HE := Lib.hid hE; have HA := Lib.hid hA; have HM := Lib.hid hMm
  clear h hr hE hA hMm hy hu hz hrl hl
  go_enter Tryz.func48, Tryz.ntmps48
  go_wp2
  go_quiet ((first
    | (go_at_call 49; exact Calls.quiet_of (HM.out _ (HV.out.tab.drewN _)))
    | (go_at_call 22; exact Calls.quiet_of_same (HA.out _))
    | (go_at_call 50; exact Calls.quiet_of (HE.out _ (HV.out.tab.drewN _) (HR.out.drewN _)))))
  go_wp2
  go_ret
  exact ⟨rfl, _, rfl⟩
end Go.Proofs.YtchcgiapjhmflaaGreat.Blind
