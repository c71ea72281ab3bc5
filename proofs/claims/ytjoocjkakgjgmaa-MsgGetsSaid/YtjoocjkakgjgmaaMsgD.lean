/- package msg: Same -/
import Derived.Test.YtjoocjkakgjgmaaMsgA
import Derived.Test.YtjoocjkakgjgmaaR08
import Derived.Test.YtjoocjkakgjgmaaEqual
set_option maxRecDepth 100000
set_option maxHeartbeats 20000000
namespace Go.Proofs.Ytjoocjkakgjgmaa.Msg
open Go.RowKit MsgM
open R07 (StrsAt Sane RetStrs)

theorem equalI_any (A1 A2 : Option Addr) (l1 l2 : List Int) (c1 c2 : Nat) (w : World)
    (h1 : IntsAt w A1 l1) (h2 : IntsAt w A2 l2) (m1 : l1.length ≤ maxLen) (_m2 : l2.length ≤ maxLen) :
    Calls Try.prog 32 #[.slice A1 l1.length c1, .slice A2 l2.length c2] w
      fun e w' => e = .returned (.bool (decide (l1 = l2))) ∧ ∃ n, w' = w.drewN n := by
  unfold maxLen at m1 _m2
  by_cases hl : l1.length = l2.length
  · have hl' : ((l1.length : Int) != (l2.length : Int)) = false := by rw [hl]; simp
    have HL := Lib.hid hl
    clear hl
    go_enter Try.func32, Try.ntmps32
    go_wp2
    clear hl'
    go_loopw [13] (fun i wr => ∃ k n : Nat, k ≤ l1.length ∧ i = .int .i64 k ∧ (∀ j, j < k → ∀ (g1 : j < l1.length) (g2 : j < l2.length), l1[j] = l2[j]) ∧ wr = w.drewN n)
      (fun i _ => l1.length - (intOf i).toNat)
    case atStart => exact ⟨0, 0, by omega, rfl, fun j hj => absurd hj (by omega), rfl⟩
    case round =>
      obtain ⟨k, n, hk, rfl, hs, hwr⟩ := hrel
      have HW := Lib.hid hwr
      have HS := Lib.hid hs
      have h1 : IntsAt wr A1 l1 := by rw [hwr]; exact h1
      have h2 : IntsAt wr A2 l2 := by rw [hwr]; exact h2
      clear hwr hs
      by_cases hlt : k < l1.length
      · have hlt2 : k < l2.length := by have := HL.out; omega
        obtain ⟨b1, o1, rfl, e1⟩ := h1.at hlt
        obtain ⟨b2, o2, rfl, e2⟩ := h2.at hlt2
        clear h1 h2
        by_cases he : l1[k] = l2[k]
        · have HE := Lib.hid he
          obtain ⟨u, hu⟩ : ∃ u, u = l1[k] := ⟨_, rfl⟩
          rw [← he, ← hu] at e2
          rw [← hu] at e1
          have he' : (u != u) = false := by simp
          clear he hu
          go_wp2
          go_quiet (fail)
          go_wp2
          go_roundw
          case rel =>
            refine ⟨k + 1, n + nq, by omega, by go_num, fun j hj g1 g2 => ?_, by rw [HW.out, World.drewN_drewN]⟩
            by_cases e : j = k
            · subst e; exact HE.out
            · exact HS.out j (by omega) g1 g2
          case measure => simp [intOf] <;> omega
        · have he' : (l1[k] != l2[k]) = true := by simpa using he
          have HE := Lib.hid he
          clear he
          go_wp2
          go_quiet (fail)
          go_wp2
          go_ret
          exact ⟨ret_bool (R08.sameI_at k hlt hlt2 HE.out).symm, n + nq, by rw [HW.out, World.drewN_drewN]⟩
      · go_wp2
        go_ret
        exact ⟨ret_bool (R08.sameI_all HL.out fun i h1 h2 => HS.out i (by omega) h1 h2).symm, n, HW.out⟩
  · have hl' : ((l1.length : Int) != (l2.length : Int)) = true := by rw [bne_iff_ne]; omega
    have HL := Lib.hid hl
    clear hl
    go_enter Try.func32, Try.ntmps32
    go_wp2
    go_ret
    exact ⟨ret_bool (decide_eq_false fun e => HL.out (by rw [e])).symm, 0, rfl⟩
theorem equalS_any (A1 A2 : Option Addr) (a b : List ByteArray) (c1 c2 : Nat) (w : World) (h1 : StrsAt w A1 a) (h2 : StrsAt w A2 b) (_hl1 : a.length ≤ 9223372036854775807) (hl2 : b.length ≤ 9223372036854775807) :
    Calls Try.prog 33 #[.slice A1 a.length c1, .slice A2 b.length c2] w fun e w' => e = .returned (.bool (LabM.sameT a b)) ∧ ∃ n, w' = w.drewN n := by
  by_cases hne : a.length = b.length
  · have q : ((a.length : Int) != (b.length : Int)) = false := by simp [hne]
    have hle : a.length ≤ b.length := by omega
    have HNE := Lib.hid hne
    clear hne
    go_enter Try.func33, Try.ntmps33
    go_wp2
    clear q
    go_loopw [13] (fun i wr => ∃ k n : Nat, k ≤ a.length ∧ i = .int .i64 k ∧ a.take k = b.take k ∧ wr = w.drewN n)
      (fun i _ => a.length - (intOf i).toNat)
    case atStart => exact ⟨0, 0, Nat.zero_le _, rfl, by rw [List.take_zero, List.take_zero], rfl⟩
    case round =>
      obtain ⟨k, n, hk, rfl, hs, hwr⟩ := hrel
      have HW := Lib.hid hwr; have HS := Lib.hid hs
      have h1 : StrsAt wr A1 a := by rw [hwr]; exact h1
      have h2 : StrsAt wr A2 b := by rw [hwr]; exact h2
      clear hwr hs
      by_cases hlt : k < a.length
      · have hlt2 : k < b.length := by omega
        obtain ⟨b1, o1, hA1, e1⟩ := h1.at hlt
        obtain ⟨b2, o2, hA2, e2⟩ := h2.at hlt2
        subst hA1
        subst hA2
        by_cases hab : a[k] = b[k]
        · have q : (a[k].toList == b[k].toList) = true := by rw [hab]; exact beq_self_eq_true _
          have hf : a.take (k + 1) = b.take (k + 1) := by rw [List.take_succ_eq_append_getElem hlt, List.take_succ_eq_append_getElem hlt2, HS.out, hab]
          have HF := Lib.hid hf
          clear hf hab h1 h2
          go_wp2
          go_quiet (fail)
          go_wp2
          go_roundw
          case rel => exact ⟨k + 1, n + nq, by omega, by go_num, HF.out, by rw [HW.out, World.drewN_drewN]⟩
          case measure => simp [intOf] <;> omega
        · have q : (a[k].toList == b[k].toList) = false := R07.str_ne hab
          have hf := LabM.sameT_at hlt hlt2 hab
          have HF := Lib.hid hf
          clear hf hab h1 h2
          go_wp2
          go_quiet (fail)
          go_wp2
          go_ret
          exact ⟨ret_bool HF.out.symm, n + nq, by rw [HW.out, World.drewN_drewN]⟩
      · obtain rfl : k = a.length := by omega
        have hf : LabM.sameT a b = true := by
          have e := HS.out
          rw [List.take_length, List.take_of_length_le (by rw [HNE.out]; exact Nat.le_refl _)] at e
          rw [e]; exact LabM.sameT_self b
        have HF := Lib.hid hf
        clear hf h1 h2
        go_wp2
        go_ret
        exact ⟨ret_bool HF.out.symm, n, HW.out⟩
  · have q : ((a.length : Int) != (b.length : Int)) = true := by rw [bne_iff_ne]; omega
    have hf := LabM.sameT_len hne
    have HF := Lib.hid hf
    clear hne hf
    go_enter Try.func33, Try.ntmps33
    go_wp2
    go_ret
    exact ⟨ret_bool HF.out.symm, 0, rfl⟩


theorem same_ms (x y : Mv) : decide (x.m = y.m) = ((x.m.K == y.m.K) && ((x.m.F == y.m.F) && ((x.m.T == y.m.T) && ((x.m.B == y.m.B) && ((x.m.s.toList == y.m.s.toList) && ((x.m.A == y.m.A) && ((x.m.E == y.m.E) && ((x.m.M == y.m.M) && ((x.m.S == y.m.S) && ((x.m.W == y.m.W) && (decide (x.m.who = y.m.who) && (LabM.sameT x.m.names y.m.names && decide (x.m.data = y.m.data))))))))))))) := by
  obtain ⟨⟨K, F, T, B, s, A, E, M, S, W, who, names, data⟩, P, p, Q, q, D, d⟩ := x
  obtain ⟨⟨K', F', T', B', s', A', E', M', S', W', who', names', data'⟩, P', p', Q', q', D', d'⟩ := y
  simp only [LabM.sameT]
  rw [Bool.eq_iff_iff]
  simp only [Bool.and_eq_true, decide_eq_true_eq, beq_iff_eq, Ms.mk.injEq, ByteArray.toList_eq]
  constructor
  · rintro ⟨rfl, rfl, rfl, rfl, rfl, rfl, rfl, rfl, rfl, rfl, rfl, rfl, rfl⟩
    exact ⟨rfl, rfl, rfl, rfl, rfl, rfl, rfl, rfl, rfl, rfl, rfl, rfl, rfl⟩
  · rintro ⟨e0, e1, e2, e3, e4, e5, e6, e7, e8, e9, e10, e11, e12⟩
    exact ⟨e0, e1, e2, e3, bytes_inj e4, e5, e6, e7, e8, e9, e10, e11, e12⟩
theorem same_any (x y : Mv) (w : World) (hx : Lies w x) (hy : Lies w y) :
    Calls Try.prog 13 #[.agg #[.int .i64 x.m.K, .int .i64 x.m.F, .int .i64 x.m.T, .int .i64 x.m.B, .string x.m.s, .int .i64 x.m.A, .int .i64 x.m.E, .int .i64 x.m.M, .int .i64 x.m.S, .int .i64 x.m.W, .slice x.P x.m.who.length x.p, .slice x.Q x.m.names.length x.q, .slice x.D x.m.data.length x.d], .agg #[.int .i64 y.m.K, .int .i64 y.m.F, .int .i64 y.m.T, .int .i64 y.m.B, .string y.m.s, .int .i64 y.m.A, .int .i64 y.m.E, .int .i64 y.m.M, .int .i64 y.m.S, .int .i64 y.m.W, .slice y.P y.m.who.length y.p, .slice y.Q y.m.names.length y.q, .slice y.D y.m.data.length y.d]] w fun e w' => e = .returned (.bool (decide (x.m = y.m))) ∧ Below w.heap.size w w' := by
  have HQ := Lib.hid (same_ms x y)
  generalize decide (x.m = y.m) = Q at *
  have hb0 := bstep (balloc w (.cells #[.int .i64 x.m.K, .int .i64 x.m.F, .int .i64 x.m.T, .int .i64 x.m.B, .string x.m.s, .int .i64 x.m.A, .int .i64 x.m.E, .int .i64 x.m.M, .int .i64 x.m.S, .int .i64 x.m.W, .slice x.P x.m.who.length x.p, .slice x.Q x.m.names.length x.q, .slice x.D x.m.data.length x.d] 26)) (balloc _ (.cells #[.int .i64 y.m.K, .int .i64 y.m.F, .int .i64 y.m.T, .int .i64 y.m.B, .string y.m.s, .int .i64 y.m.A, .int .i64 y.m.E, .int .i64 y.m.M, .int .i64 y.m.S, .int .i64 y.m.W, .slice y.P y.m.who.length y.p, .slice y.Q y.m.names.length y.q, .slice y.D y.m.data.length y.d] 26))
  have HC1 := Lib.hid (fun W hb => equalI_any x.P y.P x.m.who y.m.who x.p y.p W (hx.below hb).who (hy.below hb).who (Nat.le_trans hx.p hx.p2) (Nat.le_trans hy.p hy.p2))
  have HC2 := Lib.hid (fun W hb => equalS_any x.Q y.Q x.m.names y.m.names x.q y.q W (hx.below hb).names (hy.below hb).names (Nat.le_trans hx.q hx.q2) (Nat.le_trans hy.q hy.q2))
  have HC3 := Lib.hid (fun W hb => Equal.equal_any x.D y.D x.m.data y.m.data x.d y.d W (hx.below hb).data (hy.below hb).data)
  have HB := Lib.hid hb0
  clear hx hy hb0
  generalize decide (x.m.who = y.m.who) = zI at *
  generalize LabM.sameT x.m.names y.m.names = zS at *
  generalize decide (x.m.data = y.m.data) = zB at *
  generalize x.m.who.length = n1 at *
  generalize y.m.who.length = n2 at *
  generalize x.m.names.length = n3 at *
  generalize y.m.names.length = n4 at *
  generalize x.m.data.length = n5 at *
  generalize y.m.data.length = n6 at *
  cases e0 : (x.m.K == y.m.K)
  · have : Q = false := by rw [HQ.out, e0]; rfl
    subst this
    clear HQ HC1 HC2 HC3
    go_enter Try.func13, Try.ntmps13
    go_wp2
    go_ret
    exact ⟨rfl, HB.out⟩
  cases e1 : (x.m.F == y.m.F)
  · have : Q = false := by rw [HQ.out, e0, e1]; rfl
    subst this
    clear HQ HC1 HC2 HC3
    go_enter Try.func13, Try.ntmps13
    go_wp2
    go_ret
    exact ⟨rfl, HB.out⟩
  cases e2 : (x.m.T == y.m.T)
  · have : Q = false := by rw [HQ.out, e0, e1, e2]; rfl
    subst this
    clear HQ HC1 HC2 HC3
    go_enter Try.func13, Try.ntmps13
    go_wp2
    go_ret
    exact ⟨rfl, HB.out⟩
  cases e3 : (x.m.B == y.m.B)
  · have : Q = false := by rw [HQ.out, e0, e1, e2, e3]; rfl
    subst this
    clear HQ HC1 HC2 HC3
    go_enter Try.func13, Try.ntmps13
    go_wp2
    go_ret
    exact ⟨rfl, HB.out⟩
  cases e4 : (x.m.s.toList == y.m.s.toList)
  · have : Q = false := by rw [HQ.out, e0, e1, e2, e3, e4]; rfl
    subst this
    clear HQ HC1 HC2 HC3
    go_enter Try.func13, Try.ntmps13
    go_wp2
    go_ret
    exact ⟨rfl, HB.out⟩
  cases e5 : (x.m.A == y.m.A)
  · have : Q = false := by rw [HQ.out, e0, e1, e2, e3, e4, e5]; rfl
    subst this
    clear HQ HC1 HC2 HC3
    go_enter Try.func13, Try.ntmps13
    go_wp2
    go_ret
    exact ⟨rfl, HB.out⟩
  cases e6 : (x.m.E == y.m.E)
  · have : Q = false := by rw [HQ.out, e0, e1, e2, e3, e4, e5, e6]; rfl
    subst this
    clear HQ HC1 HC2 HC3
    go_enter Try.func13, Try.ntmps13
    go_wp2
    go_ret
    exact ⟨rfl, HB.out⟩
  cases e7 : (x.m.M == y.m.M)
  · have : Q = false := by rw [HQ.out, e0, e1, e2, e3, e4, e5, e6, e7]; rfl
    subst this
    clear HQ HC1 HC2 HC3
    go_enter Try.func13, Try.ntmps13
    go_wp2
    go_ret
    exact ⟨rfl, HB.out⟩
  cases e8 : (x.m.S == y.m.S)
  · have : Q = false := by rw [HQ.out, e0, e1, e2, e3, e4, e5, e6, e7, e8]; rfl
    subst this
    clear HQ HC1 HC2 HC3
    go_enter Try.func13, Try.ntmps13
    go_wp2
    go_ret
    exact ⟨rfl, HB.out⟩
  cases e9 : (x.m.W == y.m.W)
  · have : Q = false := by rw [HQ.out, e0, e1, e2, e3, e4, e5, e6, e7, e8, e9]; rfl
    subst this
    clear HQ HC1 HC2 HC3
    go_enter Try.func13, Try.ntmps13
    go_wp2
    go_ret
    exact ⟨rfl, HB.out⟩
  have HQ2 : Hid (Q = (zI && (zS && zB))) := Lib.hid (by rw [HQ.out, e0, e1, e2, e3, e4, e5, e6, e7, e8, e9]; rfl)
  clear HQ
  go_enter Try.func13, Try.ntmps13
  go_wp2_with fail
  refine (HC1.out _ HB.out).mono ?_
  rintro e w1 ⟨rfl, m1, rfl⟩
  have HB1 := Lib.hid (bstep HB.out (bdraw _ m1))
  clear HC1
  cases zI
  · have : Q = false := by rw [HQ2.out]; rfl
    subst this
    clear HQ2 HC2 HC3
    go_wp2
    go_ret
    exact ⟨rfl, HB1.out⟩
  go_wp2_with fail
  refine (HC2.out _ HB1.out).mono ?_
  rintro e w1 ⟨rfl, m2, rfl⟩
  have HB2 := Lib.hid (bstep HB.out (bdraw _ (m1 + m2)))
  clear HB HB1 HC2
  cases zS
  · have : Q = false := by rw [HQ2.out]; rfl
    subst this
    clear HQ2 HC3
    go_wp2
    go_ret
    exact ⟨rfl, HB2.out⟩
  go_wp2_with fail
  refine (HC3.out _ HB2.out).mono ?_
  rintro e w1 ⟨rfl, rfl⟩
  have : Q = zB := by rw [HQ2.out]; rfl
  subst this
  clear HQ2 HC3
  go_wp2
  go_ret
  exact ⟨rfl, HB2.out⟩
end Go.Proofs.Ytjoocjkakgjgmaa.Msg
