/- the document's own answers of layer 1 -/
import Derived.Test.YtompeiemioeohaaGf
import Derived.Test.YtompeiemioeohaaBytes
set_option maxRecDepth 100000
namespace Go.Proofs.Ytompeiemioeohaa.R01
open Go.RowKit

theorem bit_test (b k : Nat) (hb : b < 9223372036854775808) : (bits BinOp.and IntKind.i64 ((b : Int) / 2 ^ k) 1 == 1) = b.testBit k := by
  have e : ((b : Int) / 2 ^ k) = ((b / 2 ^ k : Nat) : Int) := by rw [Int.natCast_ediv, Int.natCast_pow]; rfl
  have hd : b / 2 ^ k ≤ b := Nat.div_le_self _ _
  have h := i64_and_nat (b / 2 ^ k) 1 (by omega) (by omega)
  rw [e, show (1 : Int) = ((1 : Nat) : Int) from rfl, h, Nat.testBit_eq_decide_div_mod_eq, Nat.and_one_is_mod]
  rw [Bool.eq_iff_iff]; simp only [beq_iff_eq, decide_eq_true_eq]; omega

theorem mul_any (a b : UInt8) (w : World) :
    Calls Try.prog 48 #[.int .u8 (a.toNat : Nat), .int .u8 (b.toNat : Nat)] w fun e w' => e = .returned (.int .u8 ((GfM.mul a b).toNat : Nat)) ∧ w = w' := by
  have ha := GfM.lt a
  have hb := GfM.lt b
  go_enter Try.func48, Try.ntmps48
  go_wp2
  go_loop [5, 6, 7] (fun s x i => ∃ k : Nat, k ≤ 8 ∧ i = .int .i64 k ∧ s = .int .i64 (GfM.mulTo k a.toNat b.toNat : Nat) ∧ x = .int .i64 (GfM.xpow k a.toNat : Nat))
    (fun _ _ i => 8 - (intOf i).toNat)
  case atStart => exact ⟨0, by omega, rfl, rfl, rfl⟩
  case round =>
    obtain ⟨k, hk, rfl, rfl, rfl⟩ := hrel
    have hm := GfM.mulTo_lt k a.toNat b.toNat ha
    have hx := GfM.xpow_lt k a.toNat ha
    by_cases hlt : k < 8
    · have hs : GfM.mulTo (k + 1) a.toNat b.toNat = GfM.mulTo k a.toNat b.toNat ^^^ (if b.toNat.testBit k then GfM.xpow k a.toNat else 0) := rfl
      have hp : GfM.xpow (k + 1) a.toNat = GfM.xt (GfM.xpow k a.toNat) := rfl
      have hbt := bit_test b.toNat k (by omega)
      generalize b.toNat.testBit k = t at *
      generalize GfM.mulTo k a.toNat b.toNat = m at *
      generalize GfM.xpow k a.toNat = x at *
      have e1 := i64_xor_nat m x (by omega) (by omega)
      have e2 := i64_xor_nat (x * 2) 283 (by omega) (by omega)
      have HS := Lib.hid hs; clear hs
      have HP := Lib.hid hp; clear hp
      have E1 := Lib.hid e1; clear e1
      have E2 := Lib.hid e2; clear e2
      cases t
      all_goals
        go_wp2
        all_goals
          go_round
          case rel =>
            refine ⟨k + 1, by omega, by go_num, ?_, ?_⟩
            · rw [HS.out]; first | (rw [E1.out]; rfl) | (simp; done)
            · rw [HP.out]; unfold GfM.xt
              first
                | (rw [if_neg (by omega), Nat.mul_comm 2 x, ← E2.out]; rfl)
                | (rw [if_pos (by omega), Nat.mul_comm 2 x]; rfl)
          case measure => simp [intOf]; omega
    · obtain rfl : k = 8 := by omega
      have hf : (GfM.mul a b).toNat = GfM.mulTo 8 a.toNat b.toNat := GfM.mul_toNat a b
      have HF := Lib.hid hf; clear hf
      go_wp2
      go_ret
      exact ⟨ret_int (by rw [HF.out]), rfl⟩

set_option maxRecDepth 100000 in
theorem inv_any (a : UInt8) (w : World) :
    Calls Try.prog 87 #[.int .u8 (a.toNat : Nat)] w fun e w' => e = .returned (.int .u8 ((GfM.inv a).toNat : Nat)) ∧ w = w' := by
  go_enter Try.func87, Try.ntmps87
  go_wp2
  go_loop [3] (fun i => ∃ k : Nat, 1 ≤ k ∧ k ≤ 256 ∧ i = .int .i64 k ∧ ∀ j : Nat, 1 ≤ j → j < k → GfM.mul a (UInt8.ofNat j) ≠ 1)
    (fun i => 256 - (intOf i).toNat)
  case atStart => exact ⟨1, by omega, by omega, rfl, fun j h1 h2 => by omega⟩
  case round =>
    obtain ⟨k, hk1, hk, rfl, hno⟩ := hrel
    by_cases hlt : k < 256
    · have hk8 : ((UInt8.ofNat k).toNat : Int) = k := by rw [UInt8.toNat_ofNat_of_lt' hlt]
      have hcall := mul_any a (UInt8.ofNat k) w
      rw [hk8] at hcall
      by_cases hm : GfM.mul a (UInt8.ofNat k) = 1
      · have hm' : (((GfM.mul a (UInt8.ofNat k)).toNat : Int) == 1) = true := by rw [hm]; rfl
        have hi : GfM.inv a = UInt8.ofNat k := (GfM.inv_eq hm).symm
        have HI := Lib.hid hi; have HC := Lib.hid hcall; have H8 := Lib.hid hk8
        clear hi hm hcall hk8 hno
        go_wp2_with (go_at_call 48; refine HC.out.mono ?_; rintro e w' ⟨rfl, rfl⟩)
        go_ret
        exact ⟨ret_int (by rw [HI.out, H8.out]), rfl⟩
      · have hm' : (((GfM.mul a (UInt8.ofNat k)).toNat : Int) == 1) = false := by
          have := toNat_beq (GfM.mul a (UInt8.ofNat k)) 1
          rw [show (((1 : UInt8).toNat : Nat) : Int) = 1 from rfl] at this
          rw [this]; simpa using hm
        have HN := Lib.hid hno; have HM := Lib.hid hm; have HC := Lib.hid hcall
        clear hno hm hcall hk8
        go_wp2_with (go_at_call 48; refine HC.out.mono ?_; rintro e w' ⟨rfl, rfl⟩)
        go_round
        case rel =>
          refine ⟨k + 1, by omega, by omega, by go_num, fun j h1 h2 => ?_⟩
          by_cases e : j = k
          · subst e; exact HM.out
          · exact HN.out j h1 (by omega)
        case measure => simp [intOf]; omega
    · obtain rfl : k = 256 := by omega
      have hi : GfM.inv a = 0 := by
        by_cases a0 : a = 0
        · rw [a0, GfM.inv_zero]
        · have h1 := GfM.mul_inv_cancel a0
          have h2 := hno (GfM.inv a).toNat (by have := GfM.ne_zero (GfM.inv_ne a0); omega) (GfM.lt _)
          rw [UInt8.ofNat_toNat] at h2
          exact absurd h1 h2
      have HI := Lib.hid hi
      clear hno hi
      go_wp2
      go_ret
      exact ⟨ret_int (by rw [HI.out]; rfl), rfl⟩

theorem mul_q (a b : UInt8) (w : World) :
    Calls Try.prog 48 #[.int .u8 (a.toNat : Nat), .int .u8 (b.toNat : Nat)] w fun e w' => e = .returned (.int .u8 ((GfM.mul a b).toNat : Nat)) ∧ w' = w :=
  (mul_any a b w).mono fun _ _ ⟨h1, h2⟩ => ⟨h1, h2.symm⟩

theorem same_any (A1 A2 : Option Addr) (l1 l2 : List UInt8) (c1 c2 : Nat) (w : World)
    (h1 : BytesAt w A1 l1) (h2 : BytesAt w A2 l2) (m1 : l1.length ≤ maxLen) (_m2 : l2.length ≤ maxLen) :
    Calls Try.prog 13 #[.slice A1 l1.length c1, .slice A2 l2.length c2] w
      fun e w' => e = .returned (.bool (same l1 l2)) ∧ ∃ n, w' = w.drewN n := by
  unfold maxLen at m1
  by_cases hl : l1.length = l2.length
  · have hl' : ((l1.length : Int) != (l2.length : Int)) = false := by rw [hl]; simp
    have HL := Lib.hid hl
    clear hl
    go_enter Try.func13, Try.ntmps13
    go_wp2
    clear hl'
    go_loopw [5] (fun i wr => ∃ k n : Nat, k ≤ l1.length ∧ i = .int .i64 k ∧ (∀ j, j < k → ∀ (g1 : j < l1.length) (g2 : j < l2.length), l1[j] = l2[j]) ∧ wr = w.drewN n)
      (fun i _ => l1.length - (intOf i).toNat)
    case atStart => exact ⟨0, 0, by omega, rfl, fun j hj => absurd hj (by omega), rfl⟩
    case round =>
      obtain ⟨k, n, hk, rfl, hs, hwr⟩ := hrel
      have HW := Lib.hid hwr
      have HS := Lib.hid hs
      have h1 : BytesAt wr A1 l1 := by rw [hwr]; exact h1
      have h2 : BytesAt wr A2 l2 := by rw [hwr]; exact h2
      clear hwr hs
      by_cases hlt : k < l1.length
      · have hlt2 : k < l2.length := by have := HL.out; omega
        obtain ⟨b1, o1, rfl, e1⟩ := h1 k hlt
        obtain ⟨b2, o2, rfl, e2⟩ := h2 k hlt2
        have hb := toNat_bne l1[k] l2[k]
        clear h1 h2
        by_cases he : l1[k] = l2[k]
        · have he' : ((l1[k].toNat : Int) != (l2[k].toNat : Int)) = false := by rw [hb, he]; simp
          have HE := Lib.hid he
          clear hb he
          go_wp2
          go_quiet (fail)
          go_wp2
          go_roundw
          case rel =>
            refine ⟨k + 1, n + nq, by omega, by go_num, fun j hj g1 g2 => ?_, by rw [HW.out, World.drewN_drewN]⟩
            by_cases e : j = k
            · subst e; exact HE.out
            · exact HS.out j (by omega) g1 g2
          case measure => simp [intOf] <;> omega
        · have he' : ((l1[k].toNat : Int) != (l2[k].toNat : Int)) = true := by rw [hb]; simpa using he
          have HE := Lib.hid he
          clear hb he
          go_wp2
          go_quiet (fail)
          go_wp2
          go_ret
          exact ⟨ret_bool (same_at k hlt hlt2 HE.out).symm, n + nq, by rw [HW.out, World.drewN_drewN]⟩
      · go_wp2
        go_ret
        exact ⟨ret_bool (same_all HL.out fun i h1 => HS.out i (by omega) h1 (by have := HL.out; omega)).symm, n, HW.out⟩
  · have hl' : ((l1.length : Int) != (l2.length : Int)) = true := by rw [bne_iff_ne]; omega
    have HL := Lib.hid hl
    clear hl
    go_enter Try.func13, Try.ntmps13
    go_wp2
    go_ret
    exact ⟨ret_bool (same_len HL.out).symm, 0, rfl⟩
theorem same_eq (A1 A2 : Option Addr) (l1 l2 : List UInt8) (c1 c2 : Nat) (w : World)
    (h1 : BytesAt w A1 l1) (h2 : BytesAt w A2 l2) (m1 : l1.length ≤ maxLen) (he : l1 = l2) :
    Calls Try.prog 13 #[.slice A1 l1.length c1, .slice A2 l2.length c2] w
      fun e w' => e = .returned (.bool true) ∧ ∃ n, w' = w.drewN n := by
  subst he
  have := same_any A1 A2 l1 l1 c1 c2 w h1 h2 m1 m1
  rw [same_self] at this
  exact this
end Go.Proofs.Ytompeiemioeohaa.R01
