/- the document's own answers of layer 4 -/
import Derived.Test.YtnjghhkebcojnaaMatPost
import Derived.Test.YtnjghhkebcojnaaR01
import Derived.Deep.QuietTactic
import Derived.IntWalk
set_option maxRecDepth 100000
namespace Go.Proofs.Ytnjghhkebcojnaa.R04
open Go.RowKit

/-- whether two lists of lists are the same -/
def sameM (a b : List (List UInt8)) : Bool := decide (a = b)
theorem sameM_self (a : List (List UInt8)) : sameM a a = true := by simp [sameM]
theorem sameM_len {a b : List (List UInt8)} (h : a.length ≠ b.length) : sameM a b = false := by
  unfold sameM; exact decide_eq_false fun e => h (by rw [e])
theorem same_any (A1 A2 : Option Addr) (m1 m2 : List (List UInt8)) (c1 c2 : Nat) (w : World) (h1 : RowsAt w A1 m1) (h2 : RowsAt w A2 m2) (_hl : m1.length ≤ 1099511627) (hl2 : m2.length ≤ 1099511627) :
    Calls Try.prog 19 #[.slice A1 m1.length c1, .slice A2 m2.length c2] w fun e w' => e = .returned (.bool (sameM m1 m2)) ∧ ∃ n, w' = w.drewN n := by
  by_cases hne : m1.length = m2.length
  · have q : ((m1.length : Int) != (m2.length : Int)) = false := by simp [hne]
    have hle : m1.length ≤ m2.length := by omega
    have HE := Lib.hid hne
    clear hne
    go_enter Try.func19, Try.ntmps19
    go_wp2
    clear q
    go_loopw [5] (fun i wr => ∃ k n : Nat, k ≤ m1.length ∧ i = .int .i64 k ∧ m1.take k = m2.take k ∧ wr = w.drewN n)
      (fun i _ => m1.length - (intOf i).toNat)
    case atStart => exact ⟨0, 0, Nat.zero_le _, rfl, by rw [List.take_zero, List.take_zero], rfl⟩
    case round =>
      obtain ⟨k, n, hk, rfl, hs, hwr⟩ := hrel
      have HW := Lib.hid hwr; have HS := Lib.hid hs
      have h1 : RowsAt wr A1 m1 := by rw [hwr]; exact h1
      have h2 : RowsAt wr A2 m2 := by rw [hwr]; exact h2
      clear hwr hs
      by_cases hlt : k < m1.length
      · obtain ⟨b, o, B, cb, rfl, e1, l1, l1', p1⟩ := h1.row hlt
        obtain ⟨b2, o2, B2, cb2, rfl, e2, l2, l2', p2⟩ := h2.row (show k < m2.length by omega)
        have g1 : m1[k] = m2[k] → m1.take (k + 1) = m2.take (k + 1) := fun e => by
          rw [List.take_succ_eq_append_getElem hlt, List.take_succ_eq_append_getElem (show k < m2.length by omega), HS.out, e]
        have g2 : m1[k] ≠ m2[k] → sameM m1 m2 = false := fun e => by
          unfold sameM; exact decide_eq_false fun e' => e (by subst e'; rfl)
        have G1 := Lib.hid g1; have G2 := Lib.hid g2
        have P1 := Lib.hid p1; have P2 := Lib.hid p2
        clear g1 g2 h1 h2 p1 p2
        generalize m1[k] = x at *
        generalize m2[k] = y at *
        have C : ∀ W, BytesAt W B x → BytesAt W B2 y → Calls Try.prog 37 #[.slice B x.length cb, .slice B2 y.length cb2] W fun e w' => e = .returned (.bool (same x y)) ∧ ∃ n, w' = W.drewN n := fun W q1 q2 =>
          R01.same_any B B2 x y cb cb2 W q1 q2 (by omega) (by omega)
        by_cases hxy : x = y
        · have hf := G1.out hxy
          have HF := Lib.hid hf
          have hsm : same x y = true := by rw [hxy]; exact same_self y
          rw [hsm] at C
          have HC := Lib.hid C
          clear hxy hf hsm C
          go_wp2
          go_quiet ((go_at_call 37; exact Calls.quiet_of (HC.out _ (P1.out.drewN _) (P2.out.drewN _))))
          go_wp2
          go_roundw
          case rel => exact ⟨k + 1, n + nq, by omega, by go_num, HF.out, by rw [HW.out, World.drewN_drewN]⟩
          case measure => simp [intOf] <;> omega
        · have hf := G2.out hxy
          have HF := Lib.hid hf
          have hsm : same x y = false := by unfold same; exact decide_eq_false hxy
          rw [hsm] at C
          have HC := Lib.hid C
          clear hxy hf hsm C
          go_wp2
          go_quiet ((go_at_call 37; exact Calls.quiet_of (HC.out _ (P1.out.drewN _) (P2.out.drewN _))))
          go_wp2
          go_ret
          exact ⟨ret_bool HF.out.symm, n + nq, by rw [HW.out, World.drewN_drewN]⟩
      · obtain rfl : k = m1.length := by omega
        have hs : sameM m1 m2 = true := by
          have e := HS.out
          rw [List.take_length, List.take_of_length_le (by rw [HE.out]; exact Nat.le_refl _)] at e
          rw [e]; exact sameM_self m2
        have HF := Lib.hid hs
        clear hs h1 h2
        go_wp2
        go_ret
        exact ⟨ret_bool HF.out.symm, n, HW.out⟩
  · have q : ((m1.length : Int) != (m2.length : Int)) = true := by rw [bne_iff_ne]; omega
    have hf := sameM_len hne
    have HF := Lib.hid hf
    clear hne hf
    go_enter Try.func19, Try.ntmps19
    go_wp2
    go_ret
    exact ⟨ret_bool HF.out.symm, 0, rfl⟩

theorem same_eq (A1 A2 : Option Addr) (m1 m2 : List (List UInt8)) (c1 c2 : Nat) (w : World) (h1 : RowsAt w A1 m1) (h2 : RowsAt w A2 m2) (hl : m1.length ≤ 1099511627) (he : m1 = m2) :
    Calls Try.prog 19 #[.slice A1 m1.length c1, .slice A2 m2.length c2] w fun e w' => e = .returned (.bool true) ∧ ∃ n, w' = w.drewN n := by
  subst he
  have := same_any A1 A2 m1 m1 c1 c2 w h1 h2 hl hl
  rw [sameM_self] at this
  exact this
/-- what Mul tells -/
def MulRes (w : World) (a b : List (List UInt8)) (e : Ending) (w' : World) : Prop :=
  (MatM.mulOk a b = true ∧ ∃ A c, e = .returned (.tuple #[.slice A (MatM.mulL a b).length c, .bool true]) ∧ (MatM.mulL a b).length ≤ c ∧ c ≤ maxLen ∧ RowsAt w' A (MatM.mulL a b) ∧ Below w.heap.size w w' ∧ New w A)
  ∨ (MatM.mulOk a b = false ∧ e = .returned (.tuple #[.slice none 0 0, .bool false]) ∧ Below w.heap.size w w')
theorem mulL_take (a b : List (List UInt8)) (k : Nat) (h : k < a.length) : MatM.mulL (a.take (k + 1)) b = MatM.mulL (a.take k) b ++ [MatM.mulRow b a[k]] := MatM.map_take_succ _ _ _ h

end Go.Proofs.Ytnjghhkebcojnaa.R04
