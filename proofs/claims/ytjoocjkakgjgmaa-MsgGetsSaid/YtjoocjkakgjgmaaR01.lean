/- the document's own answers of layer 1 -/
import Derived.Test.YtjoocjkakgjgmaaGf
import Derived.Test.YtjoocjkakgjgmaaBytes
set_option maxRecDepth 100000
namespace Go.Proofs.Ytjoocjkakgjgmaa.R01
open Go.RowKit

theorem bit_test (b k : Nat) (hb : b < 9223372036854775808) : (bits BinOp.and IntKind.i64 ((b : Int) / 2 ^ k) 1 == 1) = b.testBit k := by
  have e : ((b : Int) / 2 ^ k) = ((b / 2 ^ k : Nat) : Int) := by rw [Int.natCast_ediv, Int.natCast_pow]; rfl
  have hd : b / 2 ^ k ≤ b := Nat.div_le_self _ _
  have h := i64_and_nat (b / 2 ^ k) 1 (by omega) (by omega)
  rw [e, show (1 : Int) = ((1 : Nat) : Int) from rfl, h, Nat.testBit_eq_decide_div_mod_eq, Nat.and_one_is_mod]
  rw [Bool.eq_iff_iff]; simp only [beq_iff_eq, decide_eq_true_eq]; omega

theorem same_any (A1 A2 : Option Addr) (l1 l2 : List UInt8) (c1 c2 : Nat) (w : World)
    (h1 : BytesAt w A1 l1) (h2 : BytesAt w A2 l2) (m1 : l1.length ≤ maxLen) (_m2 : l2.length ≤ maxLen) :
    Calls Try.prog 17 #[.slice A1 l1.length c1, .slice A2 l2.length c2] w
      fun e w' => e = .returned (.bool (same l1 l2)) ∧ ∃ n, w' = w.drewN n := by
  unfold maxLen at m1
  by_cases hl : l1.length = l2.length
  · have hl' : ((l1.length : Int) != (l2.length : Int)) = false := by rw [hl]; simp
    have HL := Lib.hid hl
    clear hl
    go_enter Try.func17, Try.ntmps17
    go_wp2
    clear hl'
    go_loopw [5] (fun i wr => ∃ k n : Nat, k ≤ l1.length ∧ i = .int .i64 k ∧ (∀ j, j < k → ∀ (g1 : j < l1.length) (g2 : j < l2.length), l1[j] = l2[j]) ∧ wr = w.drewN n)
      (fun i _ => l1.length - (intOf i).toNat)
    case atStart => exact ⟨0, 0, by omega, rfl, fun j hj => absurd hj (by omega), rfl⟩
    case round =>
      obtain ⟨k, n, hk, rfl, hs, hwr⟩ := hrel
      have HW := Lib.hid hwr
      have HS := Lib.hid hs
      have h1 : BytesAt wr A1 l1 := by rw [hwr]; exact h1
      have h2 : BytesAt wr A2 l2 := by rw [hwr]; exact h2
      clear hwr hs
      by_cases hlt : k < l1.length
      · have hlt2 : k < l2.length := by have := HL.out; omega
        obtain ⟨b1, o1, rfl, e1⟩ := h1 k hlt
        obtain ⟨b2, o2, rfl, e2⟩ := h2 k hlt2
        have hb := toNat_bne l1[k] l2[k]
        clear h1 h2
        by_cases he : l1[k] = l2[k]
        · have he' : ((l1[k].toNat : Int) != (l2[k].toNat : Int)) = false := by rw [hb, he]; simp
          have HE := Lib.hid he
          clear hb he
          go_wp2
          go_quiet (fail)
          go_wp2
          go_roundw
          case rel =>
            refine ⟨k + 1, n + nq, by omega, by go_num, fun j hj g1 g2 => ?_, by rw [HW.out, World.drewN_drewN]⟩
            by_cases e : j = k
            · subst e; exact HE.out
            · exact HS.out j (by omega) g1 g2
          case measure => simp [intOf] <;> omega
        · have he' : ((l1[k].toNat : Int) != (l2[k].toNat : Int)) = true := by rw [hb]; simpa using he
          have HE := Lib.hid he
          clear hb he
          go_wp2
          go_quiet (fail)
          go_wp2
          go_ret
          exact ⟨ret_bool (same_at k hlt hlt2 HE.out).symm, n + nq, by rw [HW.out, World.drewN_drewN]⟩
      · go_wp2
        go_ret
        exact ⟨ret_bool (same_all HL.out fun i h1 => HS.out i (by omega) h1 (by have := HL.out; omega)).symm, n, HW.out⟩
  · have hl' : ((l1.length : Int) != (l2.length : Int)) = true := by rw [bne_iff_ne]; omega
    have HL := Lib.hid hl
    clear hl
    go_enter Try.func17, Try.ntmps17
    go_wp2
    go_ret
    exact ⟨ret_bool (same_len HL.out).symm, 0, rfl⟩
theorem same_eq (A1 A2 : Option Addr) (l1 l2 : List UInt8) (c1 c2 : Nat) (w : World)
    (h1 : BytesAt w A1 l1) (h2 : BytesAt w A2 l2) (m1 : l1.length ≤ maxLen) (he : l1 = l2) :
    Calls Try.prog 17 #[.slice A1 l1.length c1, .slice A2 l2.length c2] w
      fun e w' => e = .returned (.bool true) ∧ ∃ n, w' = w.drewN n := by
  subst he
  have := same_any A1 A2 l1 l1 c1 c2 w h1 h2 m1 m1
  rw [same_self] at this
  exact this
end Go.Proofs.Ytjoocjkakgjgmaa.R01
