/- merged: BlindA, BlindB -/
import Derived.Test.YtompeiemioeohaaMP
import Derived.Test.YtompeiemioeohaaPoly
import Derived.Test.YtompeiemioeohaaFoot
import Derived.Test.YtompeiemioeohaaBlindMath
import Derived.Laws.EntriesVeiled
import Derived.Test.YtompeiemioeohaaMS
import Derived.Test.YtompeiemioeohaaStore
import Derived.Test.YtompeiemioeohaaFlow

/- package blind: Cost, what is wrong, what is 0 at the target -/
set_option maxRecDepth 100000
namespace Go.Proofs.Ytompeiemioeohaa.Blind
open Go.RowKit PlanM StripeM DealM RebM ZeroM Plan

/-- may a blob have so many stripes? -/
def okN (n : Int) : Bool := decide (0 ≤ n ∧ n ≤ 240)
theorem mayBe_any (n : Int) (w : World) : Calls Try.prog 106 #[.int .i64 n] w fun e w' => e = .returned (.bool (okN n)) ∧ w = w' := by
  by_cases h0 : 0 ≤ n
  · by_cases h1 : n ≤ 240
    · rw [show okN n = true from decide_eq_true ⟨h0, h1⟩]
      go_enter Try.func106, Try.ntmps106
      go_wp2
      go_ret
      exact ⟨by simp, rfl⟩
    · rw [show okN n = false from decide_eq_false (by omega)]
      go_enter Try.func106, Try.ntmps106
      go_wp2
      go_ret
      exact ⟨by simp, rfl⟩
  · rw [show okN n = false from decide_eq_false (by omega)]
    go_enter Try.func106, Try.ntmps106
    go_wp2
    go_ret
    exact ⟨rfl, rfl⟩

theorem drawn_may (p : P) (w : World) (hp : p.In) (hM : p.May) : Calls Try.prog 69 #[p.val] w (Says w (.int .i64 (width p))) := by
  have HS := Lib.hid (Six.new w p)
  have hb0 := Lib.hid (balloc w (.cells #[.int .i64 p.N, .int .i64 p.T, .int .i64 p.L, .int .i64 p.W, .int .i64 p.S, .int .i64 p.R] 23))
  have hN := fun V => Plan.need_any p V hp
  obtain ⟨nd, hnd⟩ : ∃ nd, nd = p.needA := ⟨_, rfl⟩
  have hw : IntKind.i64.wrap (nd - 1) = width p := by
    rw [hnd]; unfold P.needA width; rw [P.right_yes hM, if_pos rfl]
    unfold P.May at hM
    exact IntWalk.i64_in _ (by omega)
  rw [← hnd] at hN
  generalize width p = v at *
  clear hM hp hnd
  obtain ⟨pN, pT, pL, pW, pS, pR⟩ := p
  unfold P.val at hN ⊢
  simp only at HS hb0 hN ⊢
  have HN := Lib.hid hN; have HW := Lib.hid hw
  clear hN hw
  go_enter Try.func69, Try.ntmps69
  go_wp2_with fail
  generalize w.alloc (.cells #[.int .i64 pN, .int .i64 pT, .int .i64 pL, .int .i64 pW, .int .i64 pS, .int .i64 pR] 23) = w0 at *
  have s0 := HS.out
  have c0 := s0.c0; have c1 := s0.c1; have c2 := s0.c2; have c3 := s0.c3; have c4 := s0.c4; have c5 := s0.c5
  simp only at c0 c1 c2 c3 c4 c5
  clear s0
  go_wp2_with fail
  refine (HN.out _).mono ?_
  rintro e w1 ⟨rfl, hb1⟩
  clear c0 c1 c2 c3 c4 c5
  have h := HW.out
  go_wp2
  go_ret
  exact ⟨rfl, bstep hb0.out hb1⟩

theorem cost_no (p : P) (n : Int) (w : World) (hp : p.In) (hM : ¬ p.May) : Calls Try.prog 67 #[p.val, .int .i64 n] w (Says w (.int .i64 0)) := by
  have HS := Lib.hid (Six.new w p)
  have hb0 := Lib.hid (balloc w (.cells #[.int .i64 p.N, .int .i64 p.T, .int .i64 p.L, .int .i64 p.W, .int .i64 p.S, .int .i64 p.R] 23))
  have hR := fun V => Plan.right_any p V hp
  rw [P.right_no hM] at hR
  clear hM hp
  obtain ⟨pN, pT, pL, pW, pS, pR⟩ := p
  unfold P.val at hR ⊢
  simp only at HS hb0 hR ⊢
  have HR := Lib.hid hR
  clear hR
  go_enter Try.func67, Try.ntmps67
  go_wp2_with fail
  generalize w.alloc (.cells #[.int .i64 pN, .int .i64 pT, .int .i64 pL, .int .i64 pW, .int .i64 pS, .int .i64 pR] 23) = w0 at *
  have s0 := HS.out
  have c0 := s0.c0; have c1 := s0.c1; have c2 := s0.c2; have c3 := s0.c3; have c4 := s0.c4; have c5 := s0.c5
  simp only at c0 c1 c2 c3 c4 c5
  clear s0
  go_wp2_with fail
  refine (HR.out _).mono ?_
  rintro e w1 ⟨rfl, hb1⟩
  clear c0 c1 c2 c3 c4 c5
  go_wp2
  go_ret
  exact ⟨rfl, bstep hb0.out hb1⟩

theorem cost_may (p : P) (n : Int) (w : World) (hp : p.In) (hM : p.May) : Calls Try.prog 67 #[p.val, .int .i64 n] w (Says w (.int .i64 (if okN n then width p * n else 0))) := by
  have HS := Lib.hid (Six.new w p)
  have hb0 := Lib.hid (balloc w (.cells #[.int .i64 p.N, .int .i64 p.T, .int .i64 p.L, .int .i64 p.W, .int .i64 p.S, .int .i64 p.R] 23))
  have hR := fun V => Plan.right_any p V hp
  rw [P.right_yes hM] at hR
  have hD := fun V => drawn_may p V hp hM
  obtain ⟨ans, hans⟩ : ∃ ans, ans = (if okN n then width p * n else 0) := ⟨_, rfl⟩
  rw [← hans]
  have h1 : okN n = true → IntKind.i64.wrap (width p * n) = ans := fun h => by
    rw [hans, if_pos h]
    have h := of_decide_eq_true h
    unfold P.May at hM
    have hw : 1 ≤ width p ∧ width p ≤ 256 := by unfold width; omega
    have h1 : width p * n ≤ 256 * 240 := Int.mul_le_mul (by omega) (by omega) (by omega) (by omega)
    have h0 : 0 ≤ width p * n := Int.mul_nonneg (by omega) (by omega)
    exact IntWalk.i64_in _ (by omega)
  have h2 : okN n = false → ans = 0 := fun h => by rw [hans, h]; rfl
  have hK := fun V => mayBe_any n V
  generalize okN n = v at *
  generalize width p = wd at *
  clear hM hp hans
  obtain ⟨pN, pT, pL, pW, pS, pR⟩ := p
  unfold P.val at hR hD ⊢
  simp only at HS hb0 hR hD h1 h2 ⊢
  have HR := Lib.hid hR; have HK := Lib.hid hK; have H1 := Lib.hid h1; have H2 := Lib.hid h2; have HD := Lib.hid hD
  clear hR hK h1 h2 hD
  go_enter Try.func67, Try.ntmps67
  go_wp2_with fail
  generalize w.alloc (.cells #[.int .i64 pN, .int .i64 pT, .int .i64 pL, .int .i64 pW, .int .i64 pS, .int .i64 pR] 23) = w0 at *
  have s0 := HS.out
  have c0 := s0.c0; have c1 := s0.c1; have c2 := s0.c2; have c3 := s0.c3; have c4 := s0.c4; have c5 := s0.c5
  simp only at c0 c1 c2 c3 c4 c5
  clear s0
  go_wp2_with fail
  refine (HR.out _).mono ?_
  rintro e w1 ⟨rfl, hb1⟩
  clear c0 c1 c2 c3 c4 c5
  go_wp2_with fail
  refine (HK.out _).mono ?_
  rintro e w' ⟨rfl, rfl⟩
  cases v
  · obtain rfl := H2.out rfl
    go_wp2
    go_ret
    exact ⟨rfl, bstep hb0.out hb1⟩
  · have h := H1.out rfl
    have s0 := HS.out.below hb1
    have c0 := s0.c0; have c1 := s0.c1; have c2 := s0.c2; have c3 := s0.c3; have c4 := s0.c4; have c5 := s0.c5
    simp only at c0 c1 c2 c3 c4 c5
    clear s0
    go_wp2_with fail
    refine (HD.out _).mono ?_
    rintro e w2 ⟨rfl, hb2⟩
    clear c0 c1 c2 c3 c4 c5
    go_wp2
    go_ret
    exact ⟨rfl, bstep hb0.out (bstep hb1 hb2)⟩

theorem cost_any (p : P) (n : Int) (w : World) (hp : p.In) (_hn : In64 n) : Calls Try.prog 67 #[p.val, .int .i64 n] w (Says w (.int .i64 (bcost p n))) := by
  unfold bcost
  by_cases hM : p.May
  · rw [P.right_yes hM, if_pos rfl]
    have := cost_may p n w hp hM
    unfold okN at this
    by_cases h : 0 ≤ n ∧ n ≤ 240
    · rw [if_neg (by omega)]; rw [if_pos (decide_eq_true h)] at this; exact this
    · rw [if_pos (by omega)]; rw [if_neg (by simpa using h)] at this; exact this
  · rw [P.right_no hM, if_neg (by simp)]
    exact cost_no p n w hp hM

theorem bcheck_by (p : P) (n t : Int) : bcheck p n t = if p.right then (if okN n then (if p.isA t then 0 else 2) else 2) else 1 := by
  unfold bcheck okN P.isA
  cases p.right
  · rfl
  · simp only [if_true, Bool.true_and]
    by_cases h : 0 ≤ n ∧ n ≤ 240
    · rw [if_neg (by omega), if_pos (decide_eq_true h)]
    · rw [if_pos (by omega), if_neg (by simpa using h)]

theorem wrong_any (p : P) (n t : Int) (w : World) (hp : p.In) (ht : In64 t) : Calls Try.prog 66 #[p.val, .int .i64 n, .int .i64 t] w (Says w (.int .i64 (bcheck p n t))) := by
  have HS := Lib.hid (Six.new w p)
  have hb0 := Lib.hid (balloc w (.cells #[.int .i64 p.N, .int .i64 p.T, .int .i64 p.L, .int .i64 p.W, .int .i64 p.S, .int .i64 p.R] 23))
  have hR := fun V => Plan.right_any p V hp
  have hK := fun V => mayBe_any n V
  have hI := fun V => Plan.is_any p t V hp ht
  rw [bcheck_by]
  generalize p.isA t = vi at *
  generalize p.right = vr at *
  generalize okN n = vk at *
  obtain ⟨ans, hans⟩ : ∃ ans : Int, ans = (if vr then (if vk then (if vi then 0 else 2) else 2) else 1) := ⟨_, rfl⟩
  rw [← hans]
  have h1 : vr = false → ans = 1 := fun h => by rw [hans, h]; rfl
  have h2 : vr = true → vk = false → ans = 2 := fun h k => by rw [hans, h, k]; rfl
  have h3 : vr = true → vk = true → vi = false → ans = 2 := fun h k i => by rw [hans, h, k, i]; rfl
  have h4 : vr = true → vk = true → vi = true → ans = 0 := fun h k i => by rw [hans, h, k, i]; rfl
  have H1 := Lib.hid h1; have H2 := Lib.hid h2; have H3 := Lib.hid h3; have H4 := Lib.hid h4
  clear hp ht h1 h2 h3 h4 hans
  obtain ⟨pN, pT, pL, pW, pS, pR⟩ := p
  unfold P.val at hR hI ⊢
  simp only at HS hb0 hR hI ⊢
  have HR := Lib.hid hR; have HK := Lib.hid hK; have HI := Lib.hid hI
  clear hR hK hI
  go_enter Try.func66, Try.ntmps66
  go_wp2_with fail
  generalize w.alloc (.cells #[.int .i64 pN, .int .i64 pT, .int .i64 pL, .int .i64 pW, .int .i64 pS, .int .i64 pR] 23) = w0 at *
  have s0 := HS.out
  have c0 := s0.c0; have c1 := s0.c1; have c2 := s0.c2; have c3 := s0.c3; have c4 := s0.c4; have c5 := s0.c5
  simp only at c0 c1 c2 c3 c4 c5
  clear s0
  go_wp2_with fail
  refine (HR.out _).mono ?_
  rintro e w1 ⟨rfl, hb1⟩
  clear c0 c1 c2 c3 c4 c5
  cases vr
  · obtain rfl := H1.out rfl
    go_wp2
    go_ret
    exact ⟨rfl, bstep hb0.out hb1⟩
  · go_wp2_with fail
    refine (HK.out _).mono ?_
    rintro e w' ⟨rfl, rfl⟩
    cases vk
    · obtain rfl := H2.out (by trivial) (by trivial)
      go_wp2
      go_ret
      exact ⟨rfl, bstep hb0.out hb1⟩
    · have s0 := HS.out.below hb1
      have c0 := s0.c0; have c1 := s0.c1; have c2 := s0.c2; have c3 := s0.c3; have c4 := s0.c4; have c5 := s0.c5
      simp only at c0 c1 c2 c3 c4 c5
      clear s0
      go_wp2_with fail
      refine (HI.out _).mono ?_
      rintro e w2 ⟨rfl, hb2⟩
      clear c0 c1 c2 c3 c4 c5
      cases vi
      · obtain rfl := H3.out (by trivial) (by trivial) (by trivial)
        go_wp2
        go_ret
        exact ⟨rfl, bstep hb0.out (bstep hb1 hb2)⟩
      · obtain rfl := H4.out (by trivial) (by trivial) (by trivial)
        go_wp2
        go_ret
        exact ⟨rfl, bstep hb0.out (bstep hb1 hb2)⟩

/-- what the teller of a value has captured -/
structure NA (w : World) (gf gp b0 : Nat) (pt : UInt8) : Prop where
  f : w.cell? ⟨gf, 0, none⟩ = some (.pointer (some ⟨b0, 0, none⟩))
  x : w.cell? ⟨gp, 0, none⟩ = some (.int .u8 (pt.toNat : Nat))
  tab : Gf.Tab w b0
section
variable {w w' : World} {gf gp b0 : Nat} {pt : UInt8}
theorem NA.below (h : NA w gf gp b0 pt) (hb : Below w.heap.size w w') : NA w' gf gp b0 pt :=
  ⟨(hb.cell (p := ⟨gf, 0, none⟩) (cell_lt h.f)).trans h.f, (hb.cell (p := ⟨gp, 0, none⟩) (cell_lt h.x)).trans h.x, h.tab.below hb⟩
theorem NA.drewN (h : NA w gf gp b0 pt) (n : Nat) : NA (w.drewN n) gf gp b0 pt := h.below (bdraw w n)
theorem NA.keep {F : Nat → Prop} {w3 : World} (h3 : NA w3 gf gp b0 pt) (h : NA w gf gp b0 pt) (q : Keeps F w w') (hF : ∀ k, k < w3.heap.size → ¬ F k) : NA w' gf gp b0 pt :=
  ⟨q.cell h.f (hF _ (cell_lt h3.f)), q.cell h.x (hF _ (cell_lt h3.x)), q.tab h.tab (hF _ h3.tab.lt)⟩
end

theorem noughtAt_any (b0 : Nat) (pt : UInt8) (w : World) (ht : Gf.Tab w b0) :
    Calls Try.prog 68 #[.pointer (some ⟨b0, 0, none⟩), .int .u8 (pt.toNat : Nat)] w fun e w' =>
      ∃ gf gp, e = .returned (.func (.func 107) #[] #[.pointer (some ⟨gf, 0, none⟩), .pointer (some ⟨gp, 0, none⟩)]) ∧ NA w' gf gp b0 pt ∧ Below w.heap.size w w' := by
  have HT := Lib.hid ht
  clear ht
  have a0 : (w.alloc (.cells #[.pointer (some ⟨b0, 0, none⟩)] 31)).cell? ⟨w.heap.size, 0, none⟩ = some (.pointer (some ⟨b0, 0, none⟩)) := by simp
  have b1 := balloc w (.cells #[.pointer (some ⟨b0, 0, none⟩)] 31)
  have b2 := balloc (w.alloc (.cells #[.pointer (some ⟨b0, 0, none⟩)] 31)) (.cells #[.int .u8 (pt.toNat : Nat)] 5)
  have a1 : ((w.alloc (.cells #[.pointer (some ⟨b0, 0, none⟩)] 31)).alloc (.cells #[.int .u8 (pt.toNat : Nat)] 5)).cell? ⟨w.heap.size + 1, 0, none⟩ = some (.int .u8 (pt.toNat : Nat)) := by
    rw [show w.heap.size + 1 = (w.alloc (.cells #[.pointer (some ⟨b0, 0, none⟩)] 31)).heap.size from by simp]; simp
  have A0 := Lib.hid ((b2.cell (cell_lt a0)).trans a0); have A1 := Lib.hid a1; have B := Lib.hid (bstep b1 b2)
  clear a0 a1 b1 b2
  go_enter Try.func68, Try.ntmps68
  go_wp2
  go_ret
  exact ⟨w.heap.size, w.heap.size + 1, rfl, ⟨A0.out, A1.out, HT.out.below B.out⟩, B.out⟩

/-- the value at a point -/
def bval (pt : UInt8) (r : List UInt8) (x : UInt8) : UInt8 := GfM.mul (GfM.add x pt) (PolyM.ev r x)
theorem tell_any (gf gp b0 : Nat) (pt x : UInt8) (A : Option Addr) (r : List UInt8) (c : Nat) (w : World) (h : NA w gf gp b0 pt) (hr : BytesAt w A r) (hl : r.length ≤ 1099511627776) :
    Calls Try.prog 107 #[.slice A r.length c, .int .u8 (x.toNat : Nat), .pointer (some ⟨gf, 0, none⟩), .pointer (some ⟨gp, 0, none⟩)] w fun e w' => e = .returned (.int .u8 ((bval pt r x).toNat : Nat)) ∧ ∃ n, w' = w.drewN n := by
  have cf := h.f; have cx := h.x
  have HV := Lib.hid h; have HR := Lib.hid hr
  have hE := fun V (ht : Gf.Tab V b0) (h : BytesAt V A r) => Poly.eval_any b0 A r c x V ht h hl
  have hA := fun V => Gf.add_q x pt V
  unfold bval
  obtain ⟨u, hu⟩ : ∃ u, u = GfM.add x pt := ⟨_, rfl⟩
  obtain ⟨y, hy⟩ : ∃ y, y = PolyM.ev r x := ⟨_, rfl⟩
  rw [← hu, ← hy]
  simp only [← hu] at hA
  simp only [← hy] at hE
  have hMm := fun V (ht : Gf.Tab V b0) => Gf.mul_any b0 u y V ht
  obtain ⟨z, hz⟩ : ∃ z, z = GfM.mul u y := ⟨_, rfl⟩
  rw [← hz]
  simp only [← hz] at hMm
  obtain ⟨rl, hrl⟩ : ∃ rl, rl = r.length := ⟨_, rfl⟩
  rw [← hrl]
  simp only [← hrl] at hE
  have HE := Lib.hid hE; have HA := Lib.hid hA; have HM := Lib.hid hMm
  clear h hr hE hA hMm hy hu hz hrl hl
  go_enter Try.func107, Try.ntmps107
  go_wp2
  go_quiet ((first
    | (go_at_call 105; exact Calls.quiet_of (HM.out _ (HV.out.tab.drewN _)))
    | (go_at_call 42; exact Calls.quiet_of_same (HA.out _))
    | (go_at_call 104; exact Calls.quiet_of (HE.out _ (HV.out.tab.drewN _) (HR.out.drewN _)))))
  go_wp2
  go_ret
  exact ⟨rfl, _, rfl⟩
end Go.Proofs.Ytompeiemioeohaa.Blind

/- package blind: Blind -/
set_option maxRecDepth 100000
namespace Go.Proofs.Ytompeiemioeohaa.Blind
open Go.RowKit PlanM StripeM DealM RebM ZeroM Plan Stripe

theorem make_rows0 (cap : Nat) (hn : cap ≤ 1048576) (w : World) :
    (Instr.makeSlice 52 (.int .i64 0) (.int .i64 (cap : Int))).run Try.prog w = .ok (.slice (some ⟨w.heap.size, 0, none⟩) 0 cap) (w.alloc (.cells (nilRows cap).toArray 24)) := by
  obtain ⟨i0, hi, hz, hs, hb⟩ := sl_info'
  have hr := run_make (P := Try.prog) w 52 24 i0 _ Try.underlying52 hi hz .i64 .i64 0 cap (by omega) (by omega) (by rw [hb]; omega) (by omega)
  simp only [Int.toNat_natCast, Int.toNat_zero] at hr
  rw [hr, hs, Nat.mul_one]
  congr 2
  have : madeCells (Value.slice none 0 0).cells cap = (nilRows cap).toArray := by
    apply Array.ext'
    rw [show (Value.slice none 0 0).cells = #[.slice none 0 0] from rfl, toList_madeCells_one]
    simp [nilRows]
  rw [this]
theorem OwnM.room (w : World) (base cap : Nat) (hb : base ≤ w.heap.size) (hc : cap ≤ maxLen) : OwnM (w.alloc (.cells (nilRows cap).toArray 24)) base (.slice (some ⟨w.heap.size, 0, none⟩) 0 cap) [] := by
  refine ⟨[], ⟨by simp, .inr ⟨w.heap.size, cap, (nilRows cap).toArray, by simp, hb, heap_alloc_new w _, by simp, hc, by simp [nilRows], by simp⟩⟩, fun i hi => absurd hi (by simp)⟩

/-- a teller of values -/
def SP.nought (b0 : Nat) (pt : UInt8) : Drawn.SP := ⟨fun v w => ∃ gf gp, v = .func (.func 107) #[] #[.pointer (some ⟨gf, 0, none⟩), .pointer (some ⟨gp, 0, none⟩)] ∧ NA w gf gp b0 pt, fun _ _ _ h hb => by
  obtain ⟨gf, gp, h1, h2⟩ := h; exact ⟨gf, gp, h1, h2.below hb⟩⟩

/-- the blinding polynomials' values at a point -/
def bvals (pt : UInt8) (tape : List UInt8) (dw n : Nat) (x : UInt8) : List UInt8 := (List.range n).map fun k => bval pt (take_ dw tape k) x
theorem bvals_len (pt : UInt8) (tape : List UInt8) (dw n : Nat) (x : UInt8) : (bvals pt tape dw n x).length = n := by simp [bvals]
theorem bvals_share (p : P) (t : Int) (tape : List UInt8) (n : Nat) (i : Int) : bvals (point t) tape (width p).toNat n (point i) = share (bpolysTo p t tape n) i := by
  unfold bvals share bpolysTo
  rw [List.map_map]
  refine List.map_congr_left fun k _ => ?_
  show _ = PolyM.ev (bpoly t _) _
  unfold bpoly bval
  rw [PolyM.ev_pmul, PolyM.ev_lin, PolyM.addc]

/-- at an error that the check tells -/
theorem blind_wrong (b0 : Nat) (p : P) (n t : Int) (A : Option Addr) (tl c : Nat) (w : World) (hp : p.In) (ht : In64 t) (hne : bcheck p n t ≠ 0) :
    Calls Try.prog 34 #[.pointer (some ⟨b0, 0, none⟩), p.val, .int .i64 n, .int .i64 t, .slice A tl c] w (RetRowsE w [] (bcheck p n t)) := by
  have HS := Lib.hid (Six.new w p)
  have hb0 := Lib.hid (balloc w (.cells #[.int .i64 p.N, .int .i64 p.T, .int .i64 p.L, .int .i64 p.W, .int .i64 p.S, .int .i64 p.R] 23))
  have hW := fun V => wrong_any p n t V hp ht
  generalize bcheck p n t = er at *
  clear hp ht
  obtain ⟨pN, pT, pL, pW, pS, pR⟩ := p
  unfold P.val at hW ⊢
  simp only at HS hb0 hW ⊢
  have HW := Lib.hid hW
  clear hW
  go_enter Try.func34, Try.ntmps34
  go_wp2_with fail
  generalize w.alloc (.cells #[.int .i64 pN, .int .i64 pT, .int .i64 pL, .int .i64 pW, .int .i64 pS, .int .i64 pR] 23) = w0 at *
  have s0 := HS.out
  have c0 := s0.c0; have c1 := s0.c1; have c2 := s0.c2; have c3 := s0.c3; have c4 := s0.c4; have c5 := s0.c5
  simp only at c0 c1 c2 c3 c4 c5
  clear s0
  go_wp2_with fail
  refine (HW.out _).mono ?_
  rintro e w1 ⟨rfl, hb1⟩
  clear c0 c1 c2 c3 c4 c5
  go_wp2
  go_ret2
  exact ⟨none, 0, rfl, Nat.le_refl _, Nat.zero_le _, RowsAt.nil _ _, bstep hb0.out hb1, New.none w⟩

theorem blind_empty (b0 : Nat) (p : P) (n t : Int) (A : Option Addr) (tl c : Nat) (w : World) (hp : p.In) (ht : In64 t) (hM : p.May) (hn : okN n = true) (hz : bcheck p n t = 0) (h0 : (tl : Int) < width p * n) :
    Calls Try.prog 34 #[.pointer (some ⟨b0, 0, none⟩), p.val, .int .i64 n, .int .i64 t, .slice A tl c] w (RetRowsE w [] 12) := by
  have HS := Lib.hid (Six.new w p)
  have hb0 := Lib.hid (balloc w (.cells #[.int .i64 p.N, .int .i64 p.T, .int .i64 p.L, .int .i64 p.W, .int .i64 p.S, .int .i64 p.R] 23))
  have hW := fun V => wrong_any p n t V hp ht
  rw [hz] at hW
  have hC := fun V => cost_may p n V hp hM
  rw [if_pos hn] at hC
  have hlt : decide ((tl : Int) < width p * n) = true := decide_eq_true h0
  generalize width p * n = co at *
  clear hM hp hn h0 hz ht
  obtain ⟨pN, pT, pL, pW, pS, pR⟩ := p
  unfold P.val at hW hC ⊢
  simp only at HS hb0 hW hC ⊢
  have HW := Lib.hid hW; have HC := Lib.hid hC
  clear hW hC
  go_enter Try.func34, Try.ntmps34
  go_wp2_with fail
  generalize w.alloc (.cells #[.int .i64 pN, .int .i64 pT, .int .i64 pL, .int .i64 pW, .int .i64 pS, .int .i64 pR] 23) = w0 at *
  have s0 := HS.out
  have c0 := s0.c0; have c1 := s0.c1; have c2 := s0.c2; have c3 := s0.c3; have c4 := s0.c4; have c5 := s0.c5
  simp only at c0 c1 c2 c3 c4 c5
  clear s0
  go_wp2_with fail
  refine (HW.out _).mono ?_
  rintro e w1 ⟨rfl, hb1⟩
  have s0 := HS.out.below hb1
  clear c0 c1 c2 c3 c4 c5
  have c0 := s0.c0; have c1 := s0.c1; have c2 := s0.c2; have c3 := s0.c3; have c4 := s0.c4; have c5 := s0.c5
  simp only at c0 c1 c2 c3 c4 c5
  clear s0
  have HB1 := Lib.hid (bstep hb0.out hb1)
  clear hb1
  go_wp2_with fail
  refine (HC.out _).mono ?_
  rintro e w2 ⟨rfl, hb2⟩
  have HB2 := Lib.hid (bstep HB1.out hb2)
  clear hb2 c0 c1 c2 c3 c4 c5
  go_wp2
  go_ret2
  exact ⟨none, 0, rfl, Nat.le_refl _, Nat.zero_le _, RowsAt.nil _ _, HB2.out, New.none w⟩

set_option maxHeartbeats 6000000 in
theorem blind_ok (b0 : Nat) (p : P) (n : Nat) (t : Int) (A : Option Addr) (tape : List UInt8) (c : Nat) (w : World) (hp : p.In) (hM : p.May) (hn : n ≤ 240) (ht0 : In64 t) (hz : bcheck p n t = 0) (ht : Gf.Tab w b0) (h : BytesAt w A tape) (h0 : ¬ (tape.length : Int) < width p * (n : Int)) (k : tape.length ≤ c) (_z : c ≤ maxLen) :
    Calls Try.prog 34 #[.pointer (some ⟨b0, 0, none⟩), p.val, .int .i64 (n : Nat), .int .i64 t, .slice A tape.length c] w (RetRowsE w (shares p (bpolysTo p t tape n)) 0) := by
  have HS := Lib.hid (Six.new w p)
  have hb0 := Lib.hid (balloc w (.cells #[.int .i64 p.N, .int .i64 p.T, .int .i64 p.L, .int .i64 p.W, .int .i64 p.S, .int .i64 p.R] 23))
  have hok : okN n = true := decide_eq_true (by omega)
  have hW := fun V => wrong_any p n t V hp ht0
  rw [hz] at hW
  have hC := fun V => cost_may p n V hp hM
  rw [if_pos hok] at hC
  have hM' := hM
  unfold P.May at hM'
  obtain ⟨dw, hdw⟩ : ∃ dw : Nat, width p = (dw : Int) := ⟨(width p).toNat, by unfold width; omega⟩
  have hdw1 : 1 ≤ dw := by unfold width at hdw; omega
  have hdw2 : dw ≤ 256 := by unfold width at hdw; omega
  have hDw := fun V => drawn_may p V hp hM
  have hdn : (width p).toNat = dw := by omega
  have hcost : n * dw ≤ tape.length := by
    rw [hdw, ← Int.natCast_mul] at h0
    rw [Nat.mul_comm]; omega
  have hlt : decide ((tape.length : Int) < width p * (n : Int)) = false := decide_eq_false h0
  have hPt := fun V => Plan.point_any t V ht0
  obtain ⟨out, hout⟩ : ∃ out : UInt8 → List UInt8, out = bvals (point t) tape dw n := ⟨_, rfl⟩
  have hol : ∀ x, (out x).length = n := fun x => by rw [hout, bvals_len]
  have hA := fun V => Plan.all_any p V hp
  obtain ⟨N, hN⟩ : ∃ N : Nat, p.N = (N : Int) := ⟨p.N.toNat, by omega⟩
  have haN : p.allA = all N := by unfold P.allA; rw [P.right_yes hM, if_pos rfl, hN, Int.toNat_natCast]
  rw [haN] at hA
  have hN2 : N ≤ 256 := by omega
  have hal : (all N).length = N := all_len N
  have hai : ∀ x ∈ all N, In64 x := fun x hx => by
    unfold all at hx
    obtain ⟨j, hj, rfl⟩ := List.mem_map.mp hx
    have := List.mem_range.mp hj
    unfold In64; omega
  have hP := fun X d V (h : IntsAt V X (all N)) (h1 : N ≤ d) (h2 : d ≤ maxLen) => Plan.points_any X (all N) d V h (by rw [hal]; omega) (by rw [hal]; exact h1) h2 hai
  rw [hal] at hP
  have hres : shares p (bpolysTo p t tape n) = (points (all N)).map out := by
    unfold shares points
    rw [hN, Int.toNat_natCast, List.map_map, hout]
    refine List.map_congr_left fun i _ => ?_
    show _ = bvals _ _ _ _ (point i)
    rw [← hdn, bvals_share]
  rw [hres]
  generalize width p * (n : Int) = co at *
  rw [hdw] at hDw
  obtain ⟨pt, hpt⟩ : ∃ pt, pt = point t := ⟨_, rfl⟩
  rw [← hpt] at hPt hout
  have hNo := fun V (ht : Gf.Tab V b0) => noughtAt_any b0 pt V ht
  have hst : ∀ x i, i < n → (fillTo 0 (out x) i).set i (bval pt (take_ dw tape i) x) = fillTo 0 (out x) (i + 1) := fun x i hi => by
    have := fillTo_succ 0 (out x) (k := i) (by rw [hol]; exact hi)
    rw [← this]; congr 1
    subst hout
    unfold bvals; rw [List.getElem_map, List.getElem_range]
  have hfl : ∀ x i, i ≤ n → (fillTo 0 (out x) i).length = n := fun x i hi => by rw [fillTo_len 0 (out x) (by rw [hol]; exact hi), hol]
  have hf0 : ∀ x, fillTo 0 (out x) 0 = List.replicate n 0 := fun x => by rw [fillTo_zero, hol]
  have hfd : ∀ x, fillTo 0 (out x) n = out x := fun x => by rw [← hol x, fillTo_done]
  obtain ⟨pts, hpts⟩ : ∃ pts, pts = points (all N) := ⟨_, rfl⟩
  have hptl : pts.length = N := by rw [hpts, points_len, hal]
  rw [← hpts] at hP ⊢
  have hmk := fun W => make_rows0 N (by omega) W
  have hmk8 := fun W => make_u8 n (by omega) W
  have HW := Lib.hid hW; have HC := Lib.hid hC; have HDW := Lib.hid hDw; have HPT := Lib.hid hPt; have HNO := Lib.hid hNo; have HA := Lib.hid hA; have HP := Lib.hid hP; have HOL := Lib.hid hol; have HPL := Lib.hid hptl; have HTB := Lib.hid ht; have HTP := Lib.hid h; have HAL := Lib.hid hal
  have HST := Lib.hid hst; have HFL := Lib.hid hfl; have HF0 := Lib.hid hf0; have HFD := Lib.hid hfd; have HMK := Lib.hid hmk; have HMK8 := Lib.hid hmk8
  obtain ⟨tl, htl⟩ : ∃ tl, tl = tape.length := ⟨_, rfl⟩
  have HTL := Lib.hid htl
  rw [← htl] at hlt k hcost ⊢
  clear hW hC hDw hPt hNo hA hP hol hptl ht h hal hst hfl hf0 hfd hmk hmk8 hout hpts hres h0 htl hok hai haN hM hp hz ht0 hpt hdw hdn
  obtain ⟨pN, pT, pL, pW, pS, pR⟩ := p
  simp only at hN hM'
  subst hN
  unfold P.val at HW HC HDW HA ⊢
  go_enter Try.func34, Try.ntmps34
  go_wp2_with fail
  generalize w.alloc (.cells #[.int .i64 (N : Nat), .int .i64 pT, .int .i64 pL, .int .i64 pW, .int .i64 pS, .int .i64 pR] 23) = w0 at *
  have s0 := HS.out
  have c0 := s0.c0; have c1 := s0.c1; have c2 := s0.c2; have c3 := s0.c3; have c4 := s0.c4; have c5 := s0.c5
  simp only at c0 c1 c2 c3 c4 c5
  clear s0
  go_wp2_with fail
  refine (HW.out _).mono ?_
  rintro e w1 ⟨rfl, hb1⟩
  have s0 := HS.out.below hb1
  clear c0 c1 c2 c3 c4 c5
  have HS1 := Lib.hid s0
  have c0 := s0.c0; have c1 := s0.c1; have c2 := s0.c2; have c3 := s0.c3; have c4 := s0.c4; have c5 := s0.c5
  simp only at c0 c1 c2 c3 c4 c5
  clear s0
  have HB1 := Lib.hid (bstep hb0.out hb1)
  clear hb1
  go_wp2_with fail
  refine (HC.out _).mono ?_
  rintro e w2 ⟨rfl, hb2⟩
  have HB2 := Lib.hid (bstep HB1.out hb2)
  have HS2 := Lib.hid (HS1.out.below hb2)
  clear hb2 c0 c1 c2 c3 c4 c5
  go_wp2_with fail
  --FLOW--
  refine Drawn.wp_region_flowL 8 [Drawn.SP.is (.pointer (some ⟨b0, 0, none⟩)), Drawn.SP.is (.int .i64 t), Drawn.SP.is (.int .u8 (pt.toNat : Nat)), SP.nought b0 pt, Drawn.SP.is (.agg #[.int .i64 (N : Nat), .int .i64 pT, .int .i64 pL, .int .i64 pW, .int .i64 pS, .int .i64 pR]), Drawn.SP.is (.int .i64 (dw : Nat)), SP.nought b0 pt, Drawn.SP.is (.int .i64 (dw : Nat))] (by kernel_rfl) (by kernel_rfl) ?_ ?_
  · intro i hi a w3 hb hev hdep
    rcases (show i = 0 ∨ i = 1 ∨ i = 2 ∨ i = 3 ∨ i = 4 ∨ i = 5 ∨ i = 6 ∨ i = 7 by omega) with rfl | rfl | rfl | rfl | rfl | rfl | rfl | rfl
    · have e0 : a.tmps[0]?.getD undef = .pointer (some ⟨b0, 0, none⟩) := hev 0 rfl
      refine Drawn.wpOp_flow 33 rfl rfl rfl ?_
      clear hev hdep hb
      go_simp
      exact ⟨_, rfl, rfl, Below.refl _ _⟩
    · have e3 : a.tmps[3]?.getD undef = .int .i64 t := hev 3 rfl
      refine Drawn.wpOp_flow 34 rfl rfl rfl ?_
      clear hev hdep hb
      go_simp
      exact ⟨_, rfl, rfl, Below.refl _ _⟩
    · have d1 : a.tmps[34]?.getD undef = .int .i64 t := hdep 1 rfl
      refine Drawn.wpOp_flow 35 rfl rfl rfl ?_
      clear hev hdep
      have C := HPT.out w3
      clear hb
      go_simp
      refine C.mono ?_
      rintro e w' ⟨rfl, hb'⟩
      exact ⟨_, rfl, rfl, hb'⟩
    · have d0 : a.tmps[33]?.getD undef = .pointer (some ⟨b0, 0, none⟩) := hdep 0 rfl
      have d2 : a.tmps[35]?.getD undef = .int .u8 (pt.toNat : Nat) := hdep 2 rfl
      refine Drawn.wpOp_flow 36 rfl rfl rfl ?_
      clear hev hdep
      have C := HNO.out w3 (HTB.out.below (bstep HB2.out hb))
      clear hb
      go_simp
      refine C.mono ?_
      rintro e w' ⟨gf, gp, rfl, hna, hb'⟩
      exact ⟨_, rfl, ⟨gf, gp, rfl, hna⟩, hb'⟩
    · have e6 : a.tmps[6]?.getD undef = .pointer (some ⟨w.heap.size, 0, none⟩) := hev 6 rfl
      refine Drawn.wpOp_flow 37 rfl rfl rfl ?_
      have s0 := HS2.out.below hb
      have k2 := s0.c0; have k3 := s0.c1; have k4 := s0.c2; have k5 := s0.c3; have k6 := s0.c4; have k7 := s0.c5
      simp only at k2 k3 k4 k5 k6 k7
      clear s0
      clear hev hdep hb
      go_simp
      exact ⟨_, rfl, rfl, Below.refl _ _⟩
    · have d4 : a.tmps[37]?.getD undef = .agg #[.int .i64 (N : Nat), .int .i64 pT, .int .i64 pL, .int .i64 pW, .int .i64 pS, .int .i64 pR] := hdep 4 rfl
      refine Drawn.wpOp_flow 38 rfl rfl rfl ?_
      clear hev hdep
      have C := HDW.out w3
      clear hb
      go_simp
      refine C.mono ?_
      rintro e w' ⟨rfl, hb'⟩
      exact ⟨_, rfl, rfl, hb'⟩
    · have d3 := hdep 3 rfl
      refine Drawn.wpOp_flow 13 rfl rfl rfl ?_
      clear hev hdep hb
      go_simp
      exact ⟨_, rfl, d3, Below.refl _ _⟩
    · have d5 : a.tmps[38]?.getD undef = .int .i64 (dw : Nat) := hdep 5 rfl
      refine Drawn.wpOp_flow 14 rfl rfl rfl ?_
      clear hev hdep hb
      go_simp
      exact ⟨_, rfl, rfl, Below.refl _ _⟩
  · intro xq w3 hb hxq
    have vq0 : xq 0 = .pointer (some ⟨b0, 0, none⟩) := hxq 0 (by omega)
    have vq1 : xq 1 = .int .i64 t := hxq 1 (by omega)
    have vq2 : xq 2 = .int .u8 (pt.toNat : Nat) := hxq 2 (by omega)
    have vq4 : xq 4 = .agg #[.int .i64 (N : Nat), .int .i64 pT, .int .i64 pL, .int .i64 pW, .int .i64 pS, .int .i64 pR] := hxq 4 (by omega)
    have vq5 : xq 5 = .int .i64 (dw : Nat) := hxq 5 (by omega)
    obtain ⟨gfvq6, gpvq6, vq6, nvq6⟩ : (SP.nought b0 pt).p (xq 6) w3 := hxq 6 (by omega)
    have vq7 : xq 7 = .int .i64 (dw : Nat) := hxq 7 (by omega)
    show Exit.then _ _ Exit.normal (Drawn.acts _ [(14, some (xq 7)), (13, some (xq 6)), (38, some (xq 5)), (37, some (xq 4)), (36, some (xq 3)), (35, some (xq 2)), (34, some (xq 1)), (33, some (xq 0))]) _
    rw [vq0, vq1, vq2, vq4, vq5, vq6, vq7]
    clear hxq vq0 vq1 vq2 vq4 vq5 vq6 vq7
    generalize xq 3 = yq3
    clear xq
    simp only [Drawn.acts]
    go_simp
  --END--
    go_at_K
    have HB3 := Lib.hid (bstep HB2.out hb)
    have s0 := HS2.out.below hb
    have HNA0 := Lib.hid nvq6
    clear hb nvq6
    have hb4 := balloc w3 (.cells (nilRows N).toArray 24)
    have s1 := s0.below hb4
    have ho := OwnM.room w3 w.heap.size N HB3.out.size (by unfold maxLen; omega)
    have HNA4 := Lib.hid (HNA0.out.below hb4); have HO := Lib.hid ho; have HB4 := Lib.hid (bstep HB3.out hb4)
    have c0 := s0.c0; have c1 := s1.c0; have c2 := s1.c1; have c3 := s1.c2; have c4 := s1.c3; have c5 := s1.c4; have c6 := s1.c5
    simp only at c0 c1 c2 c3 c4 c5 c6
    have hmk := HMK.out w3
    clear s0 s1 ho hb4
    go_wp2_with fail
    clear hmk
    generalize w3.alloc (.cells (nilRows N).toArray 24) = w4 at *
    refine (HA.out w4).mono ?_
    rintro e w5 ⟨X, d, rfl, x1, x2, hX, hb5, _⟩
    rw [HAL.out] at x1 ⊢
    have HB5 := Lib.hid hb5; have HX := Lib.hid hX
    clear hX hb5 c0 c1 c2 c3 c4 c5 c6
    go_wp2_with fail
    refine (HP.out X d w5 HX.out x1 x2).mono ?_
    rintro e w6 ⟨v6, rfl, hv6, hb6⟩
    obtain ⟨Z, dz, rfl, z1, z2, hZ, hnZ⟩ := hv6.new
    rw [HPL.out] at z1 ⊢
    have hb46 := bstep HB5.out hb6
    have HZ := Lib.hid hZ; have HO6 := Lib.hid (HO.out.below hb46); have HNA6 := Lib.hid (HNA4.out.below hb46); have HB6 := Lib.hid (bstep HB4.out hb46)
    have hz4 := (HO.out.ownlt w3.heap.size rfl).2
    have hz46 := hb46.size
    have HNZ := Lib.hid hnZ
    clear hv6 hb6 hb46 hZ hnZ
    have hw0 := HB6.out.size
    have hz5 := HB5.out.size
    have hw3 := HB3.out.size
    have hnz : ∀ a, Z = some a → ¬ a.block = w3.heap.size := fun a e => by have := HNZ.out a e; omega
    have HNE := Lib.hid hnz
    clear hnz
    have HTP6 := Lib.hid (HTP.out.below HB6.out)
    go_wp2_with fail
    go_loopw [15, 46] (fun v i wr => ∃ j : Nat, j ≤ N ∧ i = .int .i64 j ∧ OwnM wr w.heap.size v ((pts.take j).map out) ∧ (∀ k, v.ownBlock = some k → k = w3.heap.size ∨ w6.heap.size ≤ k) ∧ Keeps (fun k => k = w3.heap.size) w6 wr)
      (fun _ i _ => N - (intOf i).toNat)
    case atStart => exact ⟨0, Nat.zero_le _, rfl, HO6.out, fun k e => .inl (by injection e with e; exact e.symm), Keeps.refl _ _⟩
    case round =>
      obtain ⟨j, hj, rfl, ho, hob, hq⟩ := hrel
      rename World => wr
      have HOW := Lib.hid ho; have HOB := Lib.hid hob; have HQ := Lib.hid hq
      have hbw := below_keeps HB6.out hq (fun i hi => by subst hi; exact HB3.out.size) HB6.out.size
      have HBW := Lib.hid hbw
      clear ho hob hq hbw
      by_cases hlt2 : j < N
      · have hjp : j < pts.length := by rw [HPL.out]; exact hlt2
        have hZr := HQ.out.bytes HZ.out HNE.out
        obtain ⟨zb, zo, rfl, ez⟩ := hZr j hjp
        have HNAr := Lib.hid (NA.keep HNA0.out HNA6.out HQ.out (fun k hk e => by omega))
        have HTPr := Lib.hid (HQ.out.bytes' HTP6.out (fun h0 a e e' => by have := HTP.out.lt h0 a e; omega))
        obtain ⟨x, hx⟩ : ∃ x, x = pts[j] := ⟨_, rfl⟩
        rw [← hx] at ez
        have HX2 := Lib.hid hx
        clear hx hZr
        have hmk8 := HMK8.out wr
        go_wp2_with fail
        clear hmk8 ez
        go_loopw [54] (fun i wi => ∃ q : Nat, q ≤ n ∧ i = .int .i64 q ∧ Row wi wr.heap.size (fillTo 0 (out x) q) ∧ Below wr.heap.size wr wi)
          (fun i _ => n - (intOf i).toNat)
        case atStart => exact ⟨0, Nat.zero_le _, rfl, by rw [HF0.out]; exact Row.new _ _, balloc _ _⟩
        case round =>
          obtain ⟨q, hq, rfl, hr, hb⟩ := hrel
          rename World => wi
          by_cases hltq : q < n
          · have hs := HST.out x q hltq
            have hkn : (q + 1) * dw ≤ tl := Nat.le_trans (Nat.mul_le_mul_right dw hltq) hcost
            obtain ⟨y, hy⟩ : ∃ y, y = q * dw := ⟨_, rfl⟩
            obtain ⟨zz, hzz0⟩ : ∃ zz, zz = y + dw := ⟨_, rfl⟩
            have hzz : (q + 1) * dw = zz := by rw [Nat.succ_mul, hzz0, hy]
            rw [hzz] at hkn
            have hkt : q * dw ≤ 240 * 256 := Nat.mul_le_mul (by omega) (by omega)
            have htk := take_len dw tape q (by rw [hzz, ← HTL.out]; exact hkn)
            have hB2 : BytesAt wi A tape := HTPr.out.below hb
            obtain ⟨b2, o2, rfl, hc0⟩ := hB2 0 (by rw [← HTL.out]; omega)
            clear hc0
            have hdr : BytesAt wi (some ⟨b2, o2 + y, none⟩) (take_ dw tape q) := by unfold take_; rw [← hy]; exact (hB2.drop y).take dw
            have i1 : ((q : Int) * (dw : Int)) = (y : Int) := by rw [← Int.natCast_mul, ← hy]
            have i2 : IntKind.i64.wrap (y : Int) = (y : Int) := IntWalk.i64_in _ (by omega)
            have i3 : IntKind.i64.wrap ((q : Int) + 1) = (q : Int) + 1 := IntWalk.i64_in _ (by omega)
            have i4 : (((q : Int) + 1) * (dw : Int)) = (zz : Int) := by rw [← hzz, Int.natCast_mul]; rfl
            have i5 : IntKind.i64.wrap (zz : Int) = (zz : Int) := IntWalk.i64_in _ (by omega)
            have j1 : y ≤ zz := by omega
            have j2 : zz ≤ tl := hkn
            have j3 : zz ≤ c := by omega
            have j4 : ¬ c = y := by omega
            have j5 : zz - y = dw := by omega
            have hT := tell_any gfvq6 gpvq6 b0 pt x (some ⟨b2, o2 + y, none⟩) (take_ dw tape q) (c - y) wi (HNAr.out.below hb) hdr (by rw [htk]; omega)
            rw [htk] at hT
            obtain ⟨u, hu⟩ : ∃ u, u = bval pt (take_ dw tape q) x := ⟨_, rfl⟩
            rw [← hu] at hT hs
            have hlen := HFL.out x q hq
            obtain ⟨cv, hcc⟩ : ∃ cv, wi.cell? ⟨wr.heap.size, q, none⟩ = some cv := ⟨_, hr.cell q (by rw [hlen]; exact hltq)⟩
            have hf := hr.frozen q
            have HT := Lib.hid hT; have HSS := Lib.hid hs; have HR := Lib.hid hr; have HB := Lib.hid hb
            clear hT hs hr hb hu htk hy hzz0 hzz hkt hB2 hlen hdr
            go_wp2_with fail
            refine HT.out.mono ?_
            rintro e w' ⟨rfl, nd, rfl⟩
            clear i1 i2 i3 i4 i5 j1 j2 j3 j4 j5
            go_wp2
            go_roundw
            case rel =>
              refine ⟨q + 1, by omega, by go_num, ?_, ?_⟩
              · rw [← HSS.out]
                exact Row.set (HR.out.drewN nd) q _
              · exact (bstep HB.out (bdraw _ nd)).setCell (Nat.le_refl _) _
            case measure => simp [intOf] <;> omega
          · obtain rfl : q = n := by omega
            rw [HFD.out] at hr
            have hlen := HOL.out x
            obtain ⟨ox, hox⟩ : ∃ ox, ox = out x := ⟨_, rfl⟩
            rw [← hox] at hr hlen
            have HOX := Lib.hid (HOW.out.below hb); have HBR := Lib.hid hr.bytes; have HBX := Lib.hid hb; have HL := Lib.hid hlen; have HOXE := Lib.hid hox
            have HOL2 := Lib.hid HOW.out.ownlt
            have hzx := hb.size
            have hzq := HQ.out.size
            have hwr := HBW.out.size
            have hjl : ((pts.take j).map out).length < 1099511627776 := by rw [List.length_map, List.length_take]; omega
            clear hb hr hlen hox
            go_wp2_with (at_builtin; refine wpList_append_row_g rfl _ _ rfl w.heap.size u15 ((pts.take j).map out) rfl (HOX.out.alloc _) wi.heap.size 1 ox (some ⟨wr.heap.size, 0, none⟩) q rfl (by rw [HL.out]; simp) (by rw [HL.out]; omega) (by unfold maxLen; omega) (HBR.out.alloc _) (fun _ a e e' => by have h1 := (HOL2.out _ e').2; injection e with e; subst e; simp only at h1; omega) hjl (by simp; omega) ?_; intro v' w7 hown1 hg7 hp7)
            have hs7 := (Keeps.own ((HQ.out.trans (Keeps.of_below _ HBX.out)).trans (Keeps.of_below _ (balloc wi _))) hg7 HOB.out)
            go_roundw
            case rel =>
              refine ⟨j + 1, by omega, by go_num, ?_, ?_, hs7⟩
              · rw [List.take_succ_eq_append_getElem hjp, List.map_append, ← HX2.out]
                show OwnM _ _ _ (_ ++ [out x])
                rw [← HOXE.out]; exact hown1
              · intro k hk
                rcases hp7 with e | e
                · exact HOB.out k (by rw [← e]; exact hk)
                · rw [hk] at e; injection e with e; right; simp at e; omega
            case measure => simp [intOf] <;> omega
      · obtain rfl : j = N := by omega
        have ho := HOW.out
        rw [show pts.take j = pts from by rw [← HPL.out]; exact List.take_length] at ho
        obtain ⟨X', c', rfl, q1, q2, hR', hn'⟩ := ho.rows
        go_wp2
        go_ret2
        exact ⟨X', c', rfl, q1, q2, hR', HBW.out, fun a e => hn' a e⟩

theorem blind_any (b0 : Nat) (p : P) (n t : Int) (A : Option Addr) (tape : List UInt8) (c : Nat) (w : World) (hp : p.In) (_hn : In64 n) (ht0 : In64 t) (ht : Gf.Tab w b0) (h : BytesAt w A tape) (k : tape.length ≤ c) (z : c ≤ maxLen) :
    Calls Try.prog 34 #[.pointer (some ⟨b0, 0, none⟩), p.val, .int .i64 n, .int .i64 t, .slice A tape.length c] w (RetRowsE w (blindA p n t tape) (blindE p n t tape)) := by
  by_cases hz : bcheck p n t = 0
  · obtain ⟨hM, hn0, hn1, _⟩ := bcheck_ok hz
    by_cases h0 : (tape.length : Int) < width p * n
    · have e : blindE p n t tape = 12 := by unfold blindE; rw [if_pos hz, if_pos h0]
      have e2 : blindA p n t tape = [] := by unfold blindA; rw [e, if_neg (by omega)]
      rw [e, e2]
      exact blind_empty b0 p n t A tape.length c w hp ht0 hM (decide_eq_true ⟨hn0, hn1⟩) hz h0
    · have e : blindE p n t tape = 0 := by unfold blindE; rw [if_pos hz, if_neg h0]
      have e2 : blindA p n t tape = shares p (bpolysTo p t tape n.toNat) := by unfold blindA; rw [e, if_pos rfl]
      rw [e, e2]
      obtain ⟨m, rfl⟩ : ∃ m : Nat, n = (m : Int) := ⟨n.toNat, by omega⟩
      rw [Int.toNat_natCast]
      exact blind_ok b0 p m t A tape c w hp hM (by omega) ht0 hz ht h h0 k z
  · have e : blindE p n t tape = bcheck p n t := by unfold blindE; rw [if_neg hz]
    have e2 : blindA p n t tape = [] := by unfold blindA; rw [e, if_neg hz]
    rw [e, e2]
    exact blind_wrong b0 p n t A tape.length c w hp ht0 hz
end Go.Proofs.Ytompeiemioeohaa.Blind
