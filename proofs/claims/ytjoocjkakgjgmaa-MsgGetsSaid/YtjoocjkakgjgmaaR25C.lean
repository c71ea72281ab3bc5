/- the document's own answers of layer 25: Same -/
import Derived.Test.YtjoocjkakgjgmaaR25A
import Derived.Test.YtjoocjkakgjgmaaMsgD
set_option maxRecDepth 100000
set_option maxHeartbeats 20000000
namespace Go.Proofs.Ytjoocjkakgjgmaa.R25
open Go.RowKit MsgM Msg
open R07 (StrsAt Sane)

theorem same_rf (x y : Mv) : decide (x.m = y.m) = (decide ([x.m.K, x.m.F, x.m.T, x.m.B, x.m.A, x.m.E, x.m.M, x.m.S, x.m.W] = [y.m.K, y.m.F, y.m.T, y.m.B, y.m.A, y.m.E, y.m.M, y.m.S, y.m.W]) && ((x.m.s.toList == y.m.s.toList) && (decide (x.m.who = y.m.who) && (LabM.sameT x.m.names y.m.names && same x.m.data y.m.data)))) := by
  obtain ⟨⟨K, F, T, B, s, A, E, M, S, W, who, names, data⟩, P, p, Q, q, D, d⟩ := x
  obtain ⟨⟨K', F', T', B', s', A', E', M', S', W', who', names', data'⟩, P', p', Q', q', D', d'⟩ := y
  simp only [LabM.sameT, same]
  rw [Bool.eq_iff_iff]
  simp only [Bool.and_eq_true, decide_eq_true_eq, beq_iff_eq, Ms.mk.injEq, ByteArray.toList_eq, List.cons.injEq, and_true]
  constructor
  · rintro ⟨rfl, rfl, rfl, rfl, rfl, rfl, rfl, rfl, rfl, rfl, rfl, rfl, rfl⟩
    exact ⟨⟨rfl, rfl, rfl, rfl, rfl, rfl, rfl, rfl, rfl⟩, rfl, rfl, rfl, rfl⟩
  · rintro ⟨⟨e0, e1, e2, e3, e5, e6, e7, e8, e9⟩, e4, e10, e11, e12⟩
    exact ⟨e0, e1, e2, e3, bytes_inj e4, e5, e6, e7, e8, e9, e10, e11, e12⟩
theorem same_any (x y : Mv) (w : World) (hx : Lies w x) (hy : Lies w y) :
    Calls Try.prog 14 #[.agg #[.int .i64 x.m.K, .int .i64 x.m.F, .int .i64 x.m.T, .int .i64 x.m.B, .string x.m.s, .int .i64 x.m.A, .int .i64 x.m.E, .int .i64 x.m.M, .int .i64 x.m.S, .int .i64 x.m.W, .slice x.P x.m.who.length x.p, .slice x.Q x.m.names.length x.q, .slice x.D x.m.data.length x.d], .agg #[.int .i64 y.m.K, .int .i64 y.m.F, .int .i64 y.m.T, .int .i64 y.m.B, .string y.m.s, .int .i64 y.m.A, .int .i64 y.m.E, .int .i64 y.m.M, .int .i64 y.m.S, .int .i64 y.m.W, .slice y.P y.m.who.length y.p, .slice y.Q y.m.names.length y.q, .slice y.D y.m.data.length y.d]] w fun e w' => e = .returned (.bool (decide (x.m = y.m))) ∧ Below w.heap.size w w' := by
  have HQ := Lib.hid (same_rf x y)
  generalize decide (x.m = y.m) = Q at *
  have C1 := Lib.hid (fun W A B h1 h2 => R08.sameI_any A B [x.m.K, x.m.F, x.m.T, x.m.B, x.m.A, x.m.E, x.m.M, x.m.S, x.m.W] [y.m.K, y.m.F, y.m.T, y.m.B, y.m.A, y.m.E, y.m.M, y.m.S, y.m.W] 9 9 W h1 h2 (by simp [maxLen]) (by simp [maxLen]))
  have C2 := Lib.hid (fun W hb => R08.sameI_any x.P y.P x.m.who y.m.who x.p y.p W (hx.below hb).who (hy.below hb).who (Nat.le_trans hx.p hx.p2) (Nat.le_trans hy.p hy.p2))
  have C3 := Lib.hid (fun W hb => R07.same_any x.Q y.Q x.m.names y.m.names x.q y.q W (hx.below hb).names (hy.below hb).names (Nat.le_trans hx.q hx.q2) (Nat.le_trans hy.q hy.q2))
  have C4 := Lib.hid (fun W hb => R01.same_any x.D y.D x.m.data y.m.data x.d y.d W (hx.below hb).data (hy.below hb).data (Nat.le_trans hx.d hx.d2) (Nat.le_trans hy.d hy.d2))
  have HP : Hid (MsB ((((w.alloc (.cells #[.int .i64 x.m.K, .int .i64 x.m.F, .int .i64 x.m.T, .int .i64 x.m.B, .string x.m.s, .int .i64 x.m.A, .int .i64 x.m.E, .int .i64 x.m.M, .int .i64 x.m.S, .int .i64 x.m.W, .slice x.P x.m.who.length x.p, .slice x.Q x.m.names.length x.q, .slice x.D x.m.data.length x.d] 26)).alloc (.cells #[.int .i64 y.m.K, .int .i64 y.m.F, .int .i64 y.m.T, .int .i64 y.m.B, .string y.m.s, .int .i64 y.m.A, .int .i64 y.m.E, .int .i64 y.m.M, .int .i64 y.m.S, .int .i64 y.m.W, .slice y.P y.m.who.length y.p, .slice y.Q y.m.names.length y.q, .slice y.D y.m.data.length y.d] 26)).alloc (.cells #[.int .i64 x.m.K, .int .i64 x.m.F, .int .i64 x.m.T, .int .i64 x.m.B, .int .i64 x.m.A, .int .i64 x.m.E, .int .i64 x.m.M, .int .i64 x.m.S, .int .i64 x.m.W] 3)).alloc (.cells #[.int .i64 y.m.K, .int .i64 y.m.F, .int .i64 y.m.T, .int .i64 y.m.B, .int .i64 y.m.A, .int .i64 y.m.E, .int .i64 y.m.M, .int .i64 y.m.S, .int .i64 y.m.W] 3)) w.heap.size x) := Lib.hid ((((MsB.new w x).below (balloc _ _)).below (balloc _ _)).below (balloc _ _))
  have e1 : (w.alloc (.cells #[.int .i64 x.m.K, .int .i64 x.m.F, .int .i64 x.m.T, .int .i64 x.m.B, .string x.m.s, .int .i64 x.m.A, .int .i64 x.m.E, .int .i64 x.m.M, .int .i64 x.m.S, .int .i64 x.m.W, .slice x.P x.m.who.length x.p, .slice x.Q x.m.names.length x.q, .slice x.D x.m.data.length x.d] 26)).heap.size = w.heap.size + 1 := by simp
  have HY : Hid (MsB ((((w.alloc (.cells #[.int .i64 x.m.K, .int .i64 x.m.F, .int .i64 x.m.T, .int .i64 x.m.B, .string x.m.s, .int .i64 x.m.A, .int .i64 x.m.E, .int .i64 x.m.M, .int .i64 x.m.S, .int .i64 x.m.W, .slice x.P x.m.who.length x.p, .slice x.Q x.m.names.length x.q, .slice x.D x.m.data.length x.d] 26)).alloc (.cells #[.int .i64 y.m.K, .int .i64 y.m.F, .int .i64 y.m.T, .int .i64 y.m.B, .string y.m.s, .int .i64 y.m.A, .int .i64 y.m.E, .int .i64 y.m.M, .int .i64 y.m.S, .int .i64 y.m.W, .slice y.P y.m.who.length y.p, .slice y.Q y.m.names.length y.q, .slice y.D y.m.data.length y.d] 26)).alloc (.cells #[.int .i64 x.m.K, .int .i64 x.m.F, .int .i64 x.m.T, .int .i64 x.m.B, .int .i64 x.m.A, .int .i64 x.m.E, .int .i64 x.m.M, .int .i64 x.m.S, .int .i64 x.m.W] 3)).alloc (.cells #[.int .i64 y.m.K, .int .i64 y.m.F, .int .i64 y.m.T, .int .i64 y.m.B, .int .i64 y.m.A, .int .i64 y.m.E, .int .i64 y.m.M, .int .i64 y.m.S, .int .i64 y.m.W] 3)) (w.heap.size + 1) y) := Lib.hid (by rw [← e1]; exact ((MsB.new _ y).below (balloc _ _)).below (balloc _ _))
  have e2 : ((w.alloc (.cells #[.int .i64 x.m.K, .int .i64 x.m.F, .int .i64 x.m.T, .int .i64 x.m.B, .string x.m.s, .int .i64 x.m.A, .int .i64 x.m.E, .int .i64 x.m.M, .int .i64 x.m.S, .int .i64 x.m.W, .slice x.P x.m.who.length x.p, .slice x.Q x.m.names.length x.q, .slice x.D x.m.data.length x.d] 26)).alloc (.cells #[.int .i64 y.m.K, .int .i64 y.m.F, .int .i64 y.m.T, .int .i64 y.m.B, .string y.m.s, .int .i64 y.m.A, .int .i64 y.m.E, .int .i64 y.m.M, .int .i64 y.m.S, .int .i64 y.m.W, .slice y.P y.m.who.length y.p, .slice y.Q y.m.names.length y.q, .slice y.D y.m.data.length y.d] 26)).heap.size = w.heap.size + 1 + 1 := by simp
  have e3 : (((w.alloc (.cells #[.int .i64 x.m.K, .int .i64 x.m.F, .int .i64 x.m.T, .int .i64 x.m.B, .string x.m.s, .int .i64 x.m.A, .int .i64 x.m.E, .int .i64 x.m.M, .int .i64 x.m.S, .int .i64 x.m.W, .slice x.P x.m.who.length x.p, .slice x.Q x.m.names.length x.q, .slice x.D x.m.data.length x.d] 26)).alloc (.cells #[.int .i64 y.m.K, .int .i64 y.m.F, .int .i64 y.m.T, .int .i64 y.m.B, .string y.m.s, .int .i64 y.m.A, .int .i64 y.m.E, .int .i64 y.m.M, .int .i64 y.m.S, .int .i64 y.m.W, .slice y.P y.m.who.length y.p, .slice y.Q y.m.names.length y.q, .slice y.D y.m.data.length y.d] 26)).alloc (.cells #[.int .i64 x.m.K, .int .i64 x.m.F, .int .i64 x.m.T, .int .i64 x.m.B, .int .i64 x.m.A, .int .i64 x.m.E, .int .i64 x.m.M, .int .i64 x.m.S, .int .i64 x.m.W] 3)).heap.size = w.heap.size + 1 + 1 + 1 := by simp
  have HI1 : Hid (IntsAt ((((w.alloc (.cells #[.int .i64 x.m.K, .int .i64 x.m.F, .int .i64 x.m.T, .int .i64 x.m.B, .string x.m.s, .int .i64 x.m.A, .int .i64 x.m.E, .int .i64 x.m.M, .int .i64 x.m.S, .int .i64 x.m.W, .slice x.P x.m.who.length x.p, .slice x.Q x.m.names.length x.q, .slice x.D x.m.data.length x.d] 26)).alloc (.cells #[.int .i64 y.m.K, .int .i64 y.m.F, .int .i64 y.m.T, .int .i64 y.m.B, .string y.m.s, .int .i64 y.m.A, .int .i64 y.m.E, .int .i64 y.m.M, .int .i64 y.m.S, .int .i64 y.m.W, .slice y.P y.m.who.length y.p, .slice y.Q y.m.names.length y.q, .slice y.D y.m.data.length y.d] 26)).alloc (.cells #[.int .i64 x.m.K, .int .i64 x.m.F, .int .i64 x.m.T, .int .i64 x.m.B, .int .i64 x.m.A, .int .i64 x.m.E, .int .i64 x.m.M, .int .i64 x.m.S, .int .i64 x.m.W] 3)).alloc (.cells #[.int .i64 y.m.K, .int .i64 y.m.F, .int .i64 y.m.T, .int .i64 y.m.B, .int .i64 y.m.A, .int .i64 y.m.E, .int .i64 y.m.M, .int .i64 y.m.S, .int .i64 y.m.W] 3)) (some ⟨w.heap.size + 1 + 1, 0, none⟩) [x.m.K, x.m.F, x.m.T, x.m.B, x.m.A, x.m.E, x.m.M, x.m.S, x.m.W]) := Lib.hid (by rw [← e2]; exact CellsAt.below (CellsAt.lit _ _ _) (balloc _ _))
  have HI2 : Hid (IntsAt ((((w.alloc (.cells #[.int .i64 x.m.K, .int .i64 x.m.F, .int .i64 x.m.T, .int .i64 x.m.B, .string x.m.s, .int .i64 x.m.A, .int .i64 x.m.E, .int .i64 x.m.M, .int .i64 x.m.S, .int .i64 x.m.W, .slice x.P x.m.who.length x.p, .slice x.Q x.m.names.length x.q, .slice x.D x.m.data.length x.d] 26)).alloc (.cells #[.int .i64 y.m.K, .int .i64 y.m.F, .int .i64 y.m.T, .int .i64 y.m.B, .string y.m.s, .int .i64 y.m.A, .int .i64 y.m.E, .int .i64 y.m.M, .int .i64 y.m.S, .int .i64 y.m.W, .slice y.P y.m.who.length y.p, .slice y.Q y.m.names.length y.q, .slice y.D y.m.data.length y.d] 26)).alloc (.cells #[.int .i64 x.m.K, .int .i64 x.m.F, .int .i64 x.m.T, .int .i64 x.m.B, .int .i64 x.m.A, .int .i64 x.m.E, .int .i64 x.m.M, .int .i64 x.m.S, .int .i64 x.m.W] 3)).alloc (.cells #[.int .i64 y.m.K, .int .i64 y.m.F, .int .i64 y.m.T, .int .i64 y.m.B, .int .i64 y.m.A, .int .i64 y.m.E, .int .i64 y.m.M, .int .i64 y.m.S, .int .i64 y.m.W] 3)) (some ⟨w.heap.size + 1 + 1 + 1, 0, none⟩) [y.m.K, y.m.F, y.m.T, y.m.B, y.m.A, y.m.E, y.m.M, y.m.S, y.m.W]) := Lib.hid (by rw [← e3]; exact CellsAt.lit _ _ _)
  have HB : Hid (Below w.heap.size w ((((w.alloc (.cells #[.int .i64 x.m.K, .int .i64 x.m.F, .int .i64 x.m.T, .int .i64 x.m.B, .string x.m.s, .int .i64 x.m.A, .int .i64 x.m.E, .int .i64 x.m.M, .int .i64 x.m.S, .int .i64 x.m.W, .slice x.P x.m.who.length x.p, .slice x.Q x.m.names.length x.q, .slice x.D x.m.data.length x.d] 26)).alloc (.cells #[.int .i64 y.m.K, .int .i64 y.m.F, .int .i64 y.m.T, .int .i64 y.m.B, .string y.m.s, .int .i64 y.m.A, .int .i64 y.m.E, .int .i64 y.m.M, .int .i64 y.m.S, .int .i64 y.m.W, .slice y.P y.m.who.length y.p, .slice y.Q y.m.names.length y.q, .slice y.D y.m.data.length y.d] 26)).alloc (.cells #[.int .i64 x.m.K, .int .i64 x.m.F, .int .i64 x.m.T, .int .i64 x.m.B, .int .i64 x.m.A, .int .i64 x.m.E, .int .i64 x.m.M, .int .i64 x.m.S, .int .i64 x.m.W] 3)).alloc (.cells #[.int .i64 y.m.K, .int .i64 y.m.F, .int .i64 y.m.T, .int .i64 y.m.B, .int .i64 y.m.A, .int .i64 y.m.E, .int .i64 y.m.M, .int .i64 y.m.S, .int .i64 y.m.W] 3))) := Lib.hid (bstep (bstep (bstep (balloc w _) (balloc _ _)) (balloc _ _)) (balloc _ _))
  clear hx hy e1 e2 e3
  obtain ⟨Z0, hZ0⟩ : ∃ Z, Z = decide ([x.m.K, x.m.F, x.m.T, x.m.B, x.m.A, x.m.E, x.m.M, x.m.S, x.m.W] = [y.m.K, y.m.F, y.m.T, y.m.B, y.m.A, y.m.E, y.m.M, y.m.S, y.m.W]) := ⟨_, rfl⟩
  rw [← hZ0] at HQ
  have C1' : Hid (Calls Try.prog 35 #[.slice (some ⟨w.heap.size + 1 + 1, 0, none⟩) 9 9, .slice (some ⟨w.heap.size + 1 + 1 + 1, 0, none⟩) 9 9] ((((w.alloc (.cells #[.int .i64 x.m.K, .int .i64 x.m.F, .int .i64 x.m.T, .int .i64 x.m.B, .string x.m.s, .int .i64 x.m.A, .int .i64 x.m.E, .int .i64 x.m.M, .int .i64 x.m.S, .int .i64 x.m.W, .slice x.P x.m.who.length x.p, .slice x.Q x.m.names.length x.q, .slice x.D x.m.data.length x.d] 26)).alloc (.cells #[.int .i64 y.m.K, .int .i64 y.m.F, .int .i64 y.m.T, .int .i64 y.m.B, .string y.m.s, .int .i64 y.m.A, .int .i64 y.m.E, .int .i64 y.m.M, .int .i64 y.m.S, .int .i64 y.m.W, .slice y.P y.m.who.length y.p, .slice y.Q y.m.names.length y.q, .slice y.D y.m.data.length y.d] 26)).alloc (.cells #[.int .i64 x.m.K, .int .i64 x.m.F, .int .i64 x.m.T, .int .i64 x.m.B, .int .i64 x.m.A, .int .i64 x.m.E, .int .i64 x.m.M, .int .i64 x.m.S, .int .i64 x.m.W] 3)).alloc (.cells #[.int .i64 y.m.K, .int .i64 y.m.F, .int .i64 y.m.T, .int .i64 y.m.B, .int .i64 y.m.A, .int .i64 y.m.E, .int .i64 y.m.M, .int .i64 y.m.S, .int .i64 y.m.W] 3)) fun e w' => e = .returned (.bool Z0) ∧ ∃ n, w' = (((((w.alloc (.cells #[.int .i64 x.m.K, .int .i64 x.m.F, .int .i64 x.m.T, .int .i64 x.m.B, .string x.m.s, .int .i64 x.m.A, .int .i64 x.m.E, .int .i64 x.m.M, .int .i64 x.m.S, .int .i64 x.m.W, .slice x.P x.m.who.length x.p, .slice x.Q x.m.names.length x.q, .slice x.D x.m.data.length x.d] 26)).alloc (.cells #[.int .i64 y.m.K, .int .i64 y.m.F, .int .i64 y.m.T, .int .i64 y.m.B, .string y.m.s, .int .i64 y.m.A, .int .i64 y.m.E, .int .i64 y.m.M, .int .i64 y.m.S, .int .i64 y.m.W, .slice y.P y.m.who.length y.p, .slice y.Q y.m.names.length y.q, .slice y.D y.m.data.length y.d] 26)).alloc (.cells #[.int .i64 x.m.K, .int .i64 x.m.F, .int .i64 x.m.T, .int .i64 x.m.B, .int .i64 x.m.A, .int .i64 x.m.E, .int .i64 x.m.M, .int .i64 x.m.S, .int .i64 x.m.W] 3)).alloc (.cells #[.int .i64 y.m.K, .int .i64 y.m.F, .int .i64 y.m.T, .int .i64 y.m.B, .int .i64 y.m.A, .int .i64 y.m.E, .int .i64 y.m.M, .int .i64 y.m.S, .int .i64 y.m.W] 3))).drewN n) := Lib.hid (by rw [hZ0]; exact C1.out _ _ _ HI1.out HI2.out)
  clear hZ0 C1 HI1 HI2
  generalize decide (x.m.who = y.m.who) = zI at *
  generalize LabM.sameT x.m.names y.m.names = zS at *
  generalize same x.m.data y.m.data = zB at *
  go_enter Try.func14, Try.ntmps14
  go_wp2_with fail
  refine C1'.out.mono ?_
  rintro e w1 ⟨rfl, hq⟩
  have HB1 := Lib.hid (bstep HB.out (bquiet hq))
  have HP1 := Lib.hid (HP.out.below (bquiet hq))
  have HY1 := Lib.hid (HY.out.below (bquiet hq))
  clear hq HB HP HY C1'
  obtain ⟨p, hp⟩ : ∃ p, p = w.heap.size := ⟨_, rfl⟩
  rw [← hp] at HP1 HY1 ⊢
  clear hp
  cases Z0
  · have : Q = false := by rw [HQ.out]; rfl
    subst this
    clear HQ C2 C3 C4 HP1 HY1
    go_wp2
    go_ret
    exact ⟨rfl, HB1.out⟩
  have a4 := HP1.out.c4; have d4 := HY1.out.c4
  have a10 := HP1.out.c10; have d10 := HY1.out.c10
  cases es : (x.m.s.toList == y.m.s.toList)
  · have : Q = false := by rw [HQ.out, es]; rfl
    subst this
    clear HQ C2 C3 C4 HP1 HY1 a10 d10
    go_wp2
    go_ret
    exact ⟨rfl, HB1.out⟩
  have HQ2 : Hid (Q = (zI && (zS && zB))) := Lib.hid (by rw [HQ.out, es]; rfl)
  clear HQ
  go_wp2_with fail
  refine (C2.out w1 HB1.out).mono ?_
  rintro e w2 ⟨rfl, hq⟩
  have HB2 := Lib.hid (bstep HB1.out (bquiet hq))
  have HP2 := Lib.hid (HP1.out.below (bquiet hq))
  have HY2 := Lib.hid (HY1.out.below (bquiet hq))
  clear hq HB1 HP1 HY1 C2 a4 d4 a10 d10
  cases zI
  · have : Q = false := by rw [HQ2.out]; rfl
    subst this
    clear HQ2 C3 C4 HP2 HY2
    go_wp2
    go_ret
    exact ⟨rfl, HB2.out⟩
  have a11 := HP2.out.c11; have d11 := HY2.out.c11
  go_wp2_with fail
  refine (C3.out w2 HB2.out).mono ?_
  rintro e w3 ⟨rfl, hq⟩
  have HB3 := Lib.hid (bstep HB2.out (bquiet hq))
  have HP3 := Lib.hid (HP2.out.below (bquiet hq))
  have HY3 := Lib.hid (HY2.out.below (bquiet hq))
  clear hq HB2 HP2 HY2 C3 a11 d11
  cases zS
  · have : Q = false := by rw [HQ2.out]; rfl
    subst this
    clear HQ2 C4 HP3 HY3
    go_wp2
    go_ret
    exact ⟨rfl, HB3.out⟩
  have a12 := HP3.out.c12; have d12 := HY3.out.c12
  go_wp2_with fail
  refine (C4.out w3 HB3.out).mono ?_
  rintro e w4 ⟨rfl, hq⟩
  have HB4 := Lib.hid (bstep HB3.out (bquiet hq))
  have : Q = zB := by rw [HQ2.out]; rfl
  subst this
  clear hq HQ2 C4 HP3 HY3 a12 d12 HB3
  go_wp2
  go_ret
  exact ⟨rfl, HB4.out⟩
end Go.Proofs.Ytjoocjkakgjgmaa.R25
