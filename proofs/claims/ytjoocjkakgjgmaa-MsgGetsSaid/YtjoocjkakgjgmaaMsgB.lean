/- package msg: Right -/
import Derived.Test.YtjoocjkakgjgmaaMsgA
import Derived.Test.YtjoocjkakgjgmaaFlow
set_option maxRecDepth 100000
set_option maxHeartbeats 20000000
namespace Go.Proofs.Ytjoocjkakgjgmaa.Msg
open Go.RowKit MsgM
open R07 (StrsAt Sane RetStrs)

theorem str_nil {s : ByteArray} (h : s.size = 0) : s = ⟨#[]⟩ := by
  obtain ⟨⟨l⟩⟩ := s
  have : l.length = 0 := h
  rw [List.eq_nil_of_length_eq_zero this]
theorem wpList_skip_same {P : Program} {ops : Array Oper} {Q : Exit → Act → World → Prop} {a : Act} {w : World} {rest : List Oper} {o : Oper}
    {j : Nat} {b : Bool} (hg : o.guard = some (j, b)) (hb : b = false) (hy : yielded ops a.tmps j = none) (ha : a.put o.dst undef = a) (h : wpList P ops Q rest a w) : wpList P ops Q (o :: rest) a w := by
  refine wpList_skip ?_ (by rw [ha]; exact h)
  unfold Region.wanted
  rw [hg]
  simp only [hy]
  cases b <;> rfl
theorem right_any (x : Mv) (hf : Fits x.m) (w : World) (hl : Lies w x) :
    Calls Try.prog 12 #[.agg #[.int .i64 x.m.K, .int .i64 x.m.F, .int .i64 x.m.T, .int .i64 x.m.B, .string x.m.s, .int .i64 x.m.A, .int .i64 x.m.E, .int .i64 x.m.M, .int .i64 x.m.S, .int .i64 x.m.W, .slice x.P x.m.who.length x.p, .slice x.Q x.m.names.length x.q, .slice x.D x.m.data.length x.d]] w fun e w' => e = .returned (.bool x.m.right) ∧ Below w.heap.size w w' := by
  have hr : x.m.right = (decide (1 ≤ x.m.K ∧ x.m.K ≤ 25) && decide (0 ≤ x.m.F ∧ x.m.F ≤ 256) && decide (0 ≤ x.m.T ∧ x.m.T ≤ 256) && decide (x.m.F ≠ x.m.T) && num x.m.B && num x.m.A && num x.m.E && num x.m.M && decide (0 ≤ x.m.S ∧ x.m.S ≤ 240) && decide (0 ≤ x.m.W ∧ x.m.W ≤ 255) &&
    (decide (x.m.s.size = 0) || nam x.m.s) && (decide (x.m.who.length ≤ 255) && x.m.who.all num) && (decide (x.m.names.length ≤ 8) && x.m.names.all nam) && decide ((x.m.data.length : Int) ≤ 240)) := by
    have : decide ((x.m.data.length : Int) ≤ 240) = decide (x.m.data.length ≤ 240) := by rw [Bool.eq_iff_iff, decide_eq_true_eq, decide_eq_true_eq]; omega
    rw [this]; rfl
  generalize x.m.right = Q at *
  have HR := Lib.hid (MsB.new w x)
  have HB := Lib.hid (balloc w (.cells #[.int .i64 x.m.K, .int .i64 x.m.F, .int .i64 x.m.T, .int .i64 x.m.B, .string x.m.s, .int .i64 x.m.A, .int .i64 x.m.E, .int .i64 x.m.M, .int .i64 x.m.S, .int .i64 x.m.W, .slice x.P x.m.who.length x.p, .slice x.Q x.m.names.length x.q, .slice x.D x.m.data.length x.d] 26))
  have HL := Lib.hid hl
  have CK := Lib.hid (fun W => isIn_any x.m.K 1 25 W)
  have CF := Lib.hid (fun W => isIn_any x.m.F 0 256 W)
  have CT := Lib.hid (fun W => isIn_any x.m.T 0 256 W)
  have CB := Lib.hid (fun W => isNum_any x.m.B hf.b W)
  have CA := Lib.hid (fun W => isNum_any x.m.A hf.a W)
  have CE := Lib.hid (fun W => isNum_any x.m.E hf.e W)
  have CM := Lib.hid (fun W => isNum_any x.m.M hf.mm W)
  have CS := Lib.hid (fun W => isIn_any x.m.S 0 240 W)
  have CV := Lib.hid (fun W => isIn_any x.m.W 0 255 W)
  have CN := Lib.hid (fun W => name_any x.m.s W hf.n)
  have CO := Lib.hid (fun W h => allNum_any x.P x.m.who x.p 255 (by omega) W h hf.who)
  have CP := Lib.hid (fun W h => allName_any x.Q x.m.names x.q 8 (by omega) W h hf.names)
  generalize decide (1 ≤ x.m.K ∧ x.m.K ≤ 25) = bK at *
  generalize decide (0 ≤ x.m.F ∧ x.m.F ≤ 256) = bF at *
  generalize decide (0 ≤ x.m.T ∧ x.m.T ≤ 256) = bT at *
  generalize num x.m.B = bB at *
  generalize num x.m.A = bA at *
  generalize num x.m.E = bE at *
  generalize num x.m.M = bM at *
  generalize decide (0 ≤ x.m.S ∧ x.m.S ≤ 240) = bS at *
  generalize decide (0 ≤ x.m.W ∧ x.m.W ≤ 255) = bV at *
  generalize (decide (x.m.who.length ≤ 255) && x.m.who.all num) = bO at *
  generalize (decide (x.m.names.length ≤ 8) && x.m.names.all nam) = bP at *
  have HRR := Lib.hid hr
  clear hr hf hl
  go_enter Try.func12, Try.ntmps12
  go_wp2_with fail
  obtain ⟨g, hg⟩ : ∃ g, g = w.heap.size := ⟨_, rfl⟩
  rw [← hg] at HR ⊢
  clear hg
  obtain ⟨c0, c1, c2, c3, c4, c5, c6, c7, c8, c9, c10, c11, c12⟩ := HR.out.all
  generalize w.alloc (.cells #[.int .i64 x.m.K, .int .i64 x.m.F, .int .i64 x.m.T, .int .i64 x.m.B, .string x.m.s, .int .i64 x.m.A, .int .i64 x.m.E, .int .i64 x.m.M, .int .i64 x.m.S, .int .i64 x.m.W, .slice x.P x.m.who.length x.p, .slice x.Q x.m.names.length x.q, .slice x.D x.m.data.length x.d] 26) = w0 at *
  refine (CK.out w0).mono ?_
  rintro e w1 ⟨rfl, rfl⟩
  clear CK
  cases bK
  · have : Q = false := by rw [HRR.out]; simp
    subst this
    clear HRR c0 c1 c2 c3 c4 c5 c6 c7 c8 c9 c10 c11 c12 HR HL
    go_wp2_with (with_reducible refine wpList_skip_same rfl rfl (by kernel_rfl) (by kernel_rfl) ?_)
    go_ret
    exact ⟨rfl, HB.out⟩
  go_wp2_with fail
  refine (CF.out w0).mono ?_
  rintro e w1 ⟨rfl, rfl⟩
  clear CF
  cases bF
  · have : Q = false := by rw [HRR.out]; simp
    subst this
    clear HRR c0 c1 c2 c3 c4 c5 c6 c7 c8 c9 c10 c11 c12 HR HL
    go_wp2_with (with_reducible refine wpList_skip_same rfl rfl (by kernel_rfl) (by kernel_rfl) ?_)
    go_ret
    exact ⟨rfl, HB.out⟩
  go_wp2_with fail
  refine (CT.out w0).mono ?_
  rintro e w1 ⟨rfl, rfl⟩
  clear CT
  cases bT
  · have : Q = false := by rw [HRR.out]; simp
    subst this
    clear HRR c0 c1 c2 c3 c4 c5 c6 c7 c8 c9 c10 c11 c12 HR HL
    go_wp2_with (with_reducible refine wpList_skip_same rfl rfl (by kernel_rfl) (by kernel_rfl) ?_)
    go_ret
    exact ⟨rfl, HB.out⟩
  by_cases hne : x.m.F = x.m.T
  · have : Q = false := by rw [HRR.out, hne]; simp
    subst this
    have h1 : (x.m.F != x.m.T) = false := by rw [hne]; simp
    clear HRR hne
    go_wp2_with (with_reducible refine wpList_skip_same rfl rfl (by kernel_rfl) (by kernel_rfl) ?_)
    go_ret
    exact ⟨rfl, HB.out⟩
  have h1 : (x.m.F != x.m.T) = true := by simp [hne]
  have HRR2 : Hid (Q = (bB && bA && bE && bM && bS && bV && (decide (x.m.s.size = 0) || nam x.m.s) && bO && bP && decide ((x.m.data.length : Int) ≤ 240))) := Lib.hid (by rw [HRR.out, decide_eq_true hne]; simp)
  clear HRR hne
  have HRR := HRR2
  clear HRR2
  go_wp2_with fail
  refine (CB.out w0).mono ?_
  rintro e w1 ⟨rfl, rfl⟩
  clear CB
  cases bB
  · have : Q = false := by rw [HRR.out]; simp
    subst this
    clear HRR c0 c1 c2 c3 c4 c5 c6 c7 c8 c9 c10 c11 c12 HR HL
    go_wp2_with (with_reducible refine wpList_skip_same rfl rfl (by kernel_rfl) (by kernel_rfl) ?_)
    go_ret
    exact ⟨rfl, HB.out⟩
  go_wp2_with fail
  refine (CA.out w0).mono ?_
  rintro e w1 ⟨rfl, rfl⟩
  clear CA
  cases bA
  · have : Q = false := by rw [HRR.out]; simp
    subst this
    clear HRR c0 c1 c2 c3 c4 c5 c6 c7 c8 c9 c10 c11 c12 HR HL
    go_wp2_with (with_reducible refine wpList_skip_same rfl rfl (by kernel_rfl) (by kernel_rfl) ?_)
    go_ret
    exact ⟨rfl, HB.out⟩
  go_wp2_with fail
  refine (CE.out w0).mono ?_
  rintro e w1 ⟨rfl, rfl⟩
  clear CE
  cases bE
  · have : Q = false := by rw [HRR.out]; simp
    subst this
    clear HRR c0 c1 c2 c3 c4 c5 c6 c7 c8 c9 c10 c11 c12 HR HL
    go_wp2_with (with_reducible refine wpList_skip_same rfl rfl (by kernel_rfl) (by kernel_rfl) ?_)
    go_ret
    exact ⟨rfl, HB.out⟩
  go_wp2_with fail
  refine (CM.out w0).mono ?_
  rintro e w1 ⟨rfl, rfl⟩
  clear CM
  cases bM
  · have : Q = false := by rw [HRR.out]; simp
    subst this
    clear HRR c0 c1 c2 c3 c4 c5 c6 c7 c8 c9 c10 c11 c12 HR HL
    go_wp2_with (with_reducible refine wpList_skip_same rfl rfl (by kernel_rfl) (by kernel_rfl) ?_)
    go_ret
    exact ⟨rfl, HB.out⟩
  go_wp2_with fail
  refine (CS.out w0).mono ?_
  rintro e w1 ⟨rfl, rfl⟩
  clear CS
  cases bS
  · have : Q = false := by rw [HRR.out]; simp
    subst this
    clear HRR c0 c1 c2 c3 c4 c5 c6 c7 c8 c9 c10 c11 c12 HR HL
    go_wp2_with (with_reducible refine wpList_skip_same rfl rfl (by kernel_rfl) (by kernel_rfl) ?_)
    go_ret
    exact ⟨rfl, HB.out⟩
  go_wp2_with fail
  refine (CV.out w0).mono ?_
  rintro e w1 ⟨rfl, rfl⟩
  clear CV
  cases bV
  · have : Q = false := by rw [HRR.out]; simp
    subst this
    clear HRR c0 c1 c2 c3 c4 c5 c6 c7 c8 c9 c10 c11 c12 HR HL
    go_wp2_with (with_reducible refine wpList_skip_same rfl rfl (by kernel_rfl) (by kernel_rfl) ?_)
    go_ret
    exact ⟨rfl, HB.out⟩
  have HRR2 : Hid (Q = ((decide (x.m.s.size = 0) || nam x.m.s) && (bO && (bP && decide ((x.m.data.length : Int) ≤ 240))))) := Lib.hid (by rw [HRR.out]; simp [Bool.and_assoc])
  clear HRR
  have HRR := HRR2
  clear HRR2
  have HWHO : Hid (∀ V, Below w0.heap.size w0 V → Calls Try.prog 30 #[.slice x.P x.m.who.length x.p, .int .i64 255, .func (.func 28) #[] #[]] V (fun e w' => e = .returned (.bool bO) ∧ Below V.heap.size V w')) := Lib.hid fun V hb => CO.out V ((HL.out.below HB.out).who.below hb)
  have HNAM : Hid (∀ V, Below w0.heap.size w0 V → Calls Try.prog 31 #[.slice x.Q x.m.names.length x.q, .int .i64 8, .func (.func 29) #[] #[]] V (fun e w' => e = .returned (.bool bP) ∧ Below V.heap.size V w')) := Lib.hid fun V hb => CP.out V ((HL.out.below HB.out).names.below hb)
  clear CO CP HL
  by_cases hs : x.m.s.size = 0
  · have hse := str_nil hs
    have HRR2 : Hid (Q = (bO && (bP && decide ((x.m.data.length : Int) ≤ 240)))) := Lib.hid (by rw [HRR.out, decide_eq_true hs]; rfl)
    clear HRR
    have HRR := HRR2
    rw [hse] at c4
    clear HRR2 CN hs hse
    have HBN : Hid (Below w0.heap.size w0 w0) := Lib.hid (Below.refl _ _)
    have HBW := HB
    have HRW := HR
    go_wp2_with fail
    refine ((HWHO.out w0 HBN.out)).mono ?_
    rintro e w3 ⟨rfl, hb3⟩
    have HB3 := Lib.hid (bstep HBW.out hb3)
    have HBN3 := Lib.hid (bstep HBN.out hb3)
    have HR3 := Lib.hid (HRW.out.below hb3)
    clear hb3 c0 c1 c2 c3 c4 c5 c6 c7 c8 c9 c10 c11 c12 HBW HBN HRW HWHO
    cases bO
    · have : Q = false := by rw [HRR.out]; rfl
      subst this
      clear HRR
      go_wp2
      go_ret
      exact ⟨rfl, HB3.out⟩
    obtain ⟨c0, c1, c2, c3, c4, c5, c6, c7, c8, c9, c10, c11, c12⟩ := HR3.out.all
    go_wp2_with fail
    refine (HNAM.out w3 HBN3.out).mono ?_
    rintro e w4 ⟨rfl, hb4⟩
    have HB4 := Lib.hid (bstep HB3.out hb4)
    have HR4 := Lib.hid (HR3.out.below hb4)
    clear hb4 c0 c1 c2 c3 c4 c5 c6 c7 c8 c9 c10 c11 c12 HB3 HBN3 HR3 HNAM
    cases bP
    · have : Q = false := by rw [HRR.out]; rfl
      subst this
      clear HRR
      go_wp2
      go_ret
      exact ⟨rfl, HB4.out⟩
    obtain ⟨c0, c1, c2, c3, c4, c5, c6, c7, c8, c9, c10, c11, c12⟩ := HR4.out.all
    have : Q = decide ((x.m.data.length : Int) ≤ 240) := by rw [HRR.out]; rfl
    subst this
    clear HRR
    go_wp2
    go_ret
    exact ⟨rfl, HB4.out⟩
  · have hse : ¬ x.m.s.toList = [] := fun e => hs (by rw [ByteArray.toList_eq] at e; show x.m.s.data.toList.length = 0; rw [e]; rfl)
    have HRR2 : Hid (Q = (nam x.m.s && (bO && (bP && decide ((x.m.data.length : Int) ≤ 240))))) := Lib.hid (by rw [HRR.out, decide_eq_false hs]; rfl)
    clear HRR hs
    have HRR := HRR2
    clear HRR2
    generalize nam x.m.s = bN at *
    go_wp2_with fail
    refine (CN.out w0).mono ?_
    rintro e w2 ⟨rfl, hq⟩
    have HBN := Lib.hid (bquiet hq)
    have HBW := Lib.hid (bstep HB.out (bquiet hq))
    have HRW := Lib.hid (HR.out.below (bquiet hq))
    clear hq CN c0 c1 c2 c3 c4 c5 c6 c7 c8 c9 c10 c11 c12
    obtain ⟨c0, c1, c2, c3, c4, c5, c6, c7, c8, c9, c10, c11, c12⟩ := HRW.out.all
    cases bN
    · have : Q = false := by rw [HRR.out]; rfl
      subst this
      clear HRR
      go_wp2
      go_ret
      exact ⟨rfl, HBW.out⟩
    go_wp2_with fail
    refine ((HWHO.out w2 HBN.out)).mono ?_
    rintro e w3 ⟨rfl, hb3⟩
    have HB3 := Lib.hid (bstep HBW.out hb3)
    have HBN3 := Lib.hid (bstep HBN.out hb3)
    have HR3 := Lib.hid (HRW.out.below hb3)
    clear hb3 c0 c1 c2 c3 c4 c5 c6 c7 c8 c9 c10 c11 c12 HBW HBN HRW HWHO
    cases bO
    · have : Q = false := by rw [HRR.out]; rfl
      subst this
      clear HRR
      go_wp2
      go_ret
      exact ⟨rfl, HB3.out⟩
    obtain ⟨c0, c1, c2, c3, c4, c5, c6, c7, c8, c9, c10, c11, c12⟩ := HR3.out.all
    go_wp2_with fail
    refine (HNAM.out w3 HBN3.out).mono ?_
    rintro e w4 ⟨rfl, hb4⟩
    have HB4 := Lib.hid (bstep HB3.out hb4)
    have HR4 := Lib.hid (HR3.out.below hb4)
    clear hb4 c0 c1 c2 c3 c4 c5 c6 c7 c8 c9 c10 c11 c12 HB3 HBN3 HR3 HNAM
    cases bP
    · have : Q = false := by rw [HRR.out]; rfl
      subst this
      clear HRR
      go_wp2
      go_ret
      exact ⟨rfl, HB4.out⟩
    obtain ⟨c0, c1, c2, c3, c4, c5, c6, c7, c8, c9, c10, c11, c12⟩ := HR4.out.all
    have : Q = decide ((x.m.data.length : Int) ≤ 240) := by rw [HRR.out]; rfl
    subst this
    clear HRR
    go_wp2
    go_ret
    exact ⟨rfl, HB4.out⟩
end Go.Proofs.Ytjoocjkakgjgmaa.Msg
