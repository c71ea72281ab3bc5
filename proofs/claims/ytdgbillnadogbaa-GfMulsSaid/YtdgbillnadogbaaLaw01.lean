/- the walks of the laws of layer 1 -/
import Derived.Test.YtdgbillnadogbaaR01
namespace Go.Proofs.Ytdgbillnadogbaa.Law01
open Go.RowKit
open Go.Proofs.Ytdgbillnadogbaa

theorem alive_any (w : World) :
    Calls Try.prog 14 #[] w fun e w' => e = .returned (.bool true) ∧ Below w.heap.size w w' := by
  have e1 : ((GfM.mul 2 128).toNat : Int) = 27 := by decide +kernel
  have e2 : ((GfM.inv 2).toNat : Int) = 141 := by decide +kernel
  have e3 : bits BinOp.xor IntKind.u8 5 3 = 6 := by decide +kernel
  have e4 : ((GfM.powI 3 255).toNat : Int) = 1 := by decide +kernel
  have e5 : ((GfM.mul 27 (GfM.inv 2)).toNat : Int) = 128 := by decide +kernel
  go_enter Try.func14, Try.ntmps14
  go_wp2_with fail
  refine (Gf.new_any w).mono ?_
  rintro e w1 ⟨rfl, ht, hb, _⟩
  go_wp2_with fail
  refine (Gf.mul_any _ 2 128 _ ht).mono ?_
  rintro e w2 ⟨rfl, n2, rfl⟩
  go_wp2_with fail
  refine (Gf.inv_any _ 2 _ (ht.drewN _)).mono ?_
  rintro e w2 ⟨rfl, n3, rfl⟩
  go_wp2_with fail
  refine (Gf.add_any 5 3 _).mono ?_
  rintro e w2 ⟨rfl, rfl⟩
  go_wp2_with fail
  refine (Gf.pow_any _ 3 255 _ (ht.drewN _) (by omega)).mono ?_
  rintro e w2 ⟨rfl, n4, rfl⟩
  go_wp2_with fail
  refine (Gf.div_any _ 27 2 _ (ht.drewN _)).mono ?_
  rintro e w2 ⟨rfl, n5, rfl⟩
  go_wp2_with fail
  go_ret
  exact ⟨rfl, below_drewN hb _⟩

theorem GfMuls (a b : UInt8) (w : World) :
    Calls Try.prog 3 #[.int .u8 (a.toNat : Nat), .int .u8 (b.toNat : Nat)] w fun e w' => e = .returned (.bool true) ∧ Below w.heap.size w w' := by
  go_enter Try.func3, Try.ntmps3
  go_wp2_with fail
  refine (Gf.new_any w).mono ?_
  rintro e w1 ⟨rfl, ht, hb, _⟩
  go_wp2_with fail
  refine (Gf.add_u8 a b _).mono ?_
  rintro e w2 ⟨rfl, rfl⟩
  go_wp2_with fail
  refine (Gf.mul_any _ a b _ ht).mono ?_
  rintro e w2 ⟨rfl, n2, rfl⟩
  go_wp2_with fail
  refine (R01.mul_any a b _).mono ?_
  rintro e w2 ⟨rfl, rfl⟩
  go_wp2_with fail
  refine (Gf.inv_any _ a _ (ht.drewN _)).mono ?_
  rintro e w2 ⟨rfl, n3, rfl⟩
  go_wp2_with fail
  refine (R01.inv_any a _).mono ?_
  rintro e w2 ⟨rfl, rfl⟩
  go_wp2_with fail
  refine (Gf.div_any _ a b _ (ht.drewN _)).mono ?_
  rintro e w2 ⟨rfl, n5, rfl⟩
  go_wp2_with fail
  refine (R01.inv_any b _).mono ?_
  rintro e w2 ⟨rfl, rfl⟩
  go_wp2_with fail
  refine (R01.mul_any a (GfM.inv b) _).mono ?_
  rintro e w2 ⟨rfl, rfl⟩
  go_wp2_with fail
  refine (alive_any _).mono ?_
  rintro e w3 ⟨rfl, hb3⟩
  go_wp2_with fail
  go_ret
  exact ⟨rfl, (below_drewN hb _).trans (hb3.mono (by simpa using hb.size))⟩

set_option maxHeartbeats 4000000 in
set_option maxRecDepth 100000 in
theorem GfField (a b c : UInt8) (w : World) :
    Calls Try.prog 4 #[.int .u8 (a.toNat : Nat), .int .u8 (b.toNat : Nat), .int .u8 (c.toNat : Nat)] w fun e w' => e = .returned (.bool true) ∧ Below w.heap.size w w' := by
  have q1 : (((GfM.mul a (GfM.mul b c)).toNat : Int) != ((GfM.mul (GfM.mul a b) c).toNat : Int)) = false := by rw [GfM.mula]; simp
  have q2 : (((GfM.mul a b).toNat : Int) != ((GfM.mul b a).toNat : Int)) = false := by rw [GfM.mulc a b]; simp
  have q3 : (((GfM.mul a (GfM.add b c)).toNat : Int) != ((GfM.add (GfM.mul a b) (GfM.mul a c)).toNat : Int)) = false := by unfold GfM.add; rw [GfM.muld]; simp
  have q4 : (((GfM.mul a 1).toNat : Int) != (a.toNat : Int)) = false := by rw [GfM.mul1]; simp
  have q5 : (((GfM.mul a 0).toNat : Int) != 0) = false := by rw [GfM.mul0]; decide
  have q6 : (((GfM.add a a).toNat : Int) != 0) = false := by unfold GfM.add; simp
  have q70 : (((GfM.mul a b).toNat : Int) == 0) = ((a == 0) || (b == 0)) := by
    rw [toNat_eq0, Bool.eq_iff_iff]; simp [GfM.mul_eq_zero]
  by_cases a0 : a = 0 <;> by_cases b0 : b = 0
  all_goals
    (first
      | (have hA : ((a.toNat : Int) == 0) = true := by rw [toNat_eq0, a0]; rfl)
      | (have hA : ((a.toNat : Int) == 0) = false := by rw [toNat_eq0]; simpa using a0))
    (first
      | (have hB : ((b.toNat : Int) == 0) = true := by rw [toNat_eq0, b0]; rfl)
      | (have hB : ((b.toNat : Int) == 0) = false := by rw [toNat_eq0]; simpa using b0))
    (first
      | (have hA' : ((a.toNat : Int) != 0) = true := by rw [bne, hA]; rfl)
      | (have hA' : ((a.toNat : Int) != 0) = false := by rw [bne, hA]; rfl))
    (first
      | (have q8 : (((GfM.mul a (GfM.inv a)).toNat : Int) != 1) = false := by rw [GfM.mul_inv_cancel a0]; rfl)
      | skip)
    (first
      | (have q9 : (((GfM.mul (GfM.mul a (GfM.inv b)) b).toNat : Int) == (a.toNat : Int)) = true := by
          rw [GfM.mula, GfM.mulc (GfM.inv b) b, GfM.mul_inv_cancel b0, GfM.mul1]; simp)
      | skip)
    (first
      | (have q7 : (((GfM.mul a b).toNat : Int) == 0) = true := by rw [q70]; simp [a0, b0]; done)
      | (have q7 : (((GfM.mul a b).toNat : Int) == 0) = false := by rw [q70]; simp [a0, b0]; done))
    clear a0 b0 q70
    go_enter Try.func4, Try.ntmps4
    go_wp2_with fail
    refine (Gf.new_any w).mono ?_
    rintro e w1 ⟨rfl, ht, hb, _⟩
    go_wp2_with fail
    refine (Gf.mul_any _ b c _ ht).mono ?_
    rintro e w2 ⟨rfl, n2, rfl⟩
    go_wp2_with fail
    refine (Gf.mul_any _ a _ _ (ht.drewN _)).mono ?_
    rintro e w2 ⟨rfl, n3, rfl⟩
    go_wp2_with fail
    refine (Gf.mul_any _ a b _ (ht.drewN _)).mono ?_
    rintro e w2 ⟨rfl, n4, rfl⟩
    go_wp2_with fail
    refine (Gf.mul_any _ _ c _ (ht.drewN _)).mono ?_
    rintro e w2 ⟨rfl, n5, rfl⟩
    go_wp2_with fail
    refine (Gf.mul_any _ a b _ (ht.drewN _)).mono ?_
    rintro e w2 ⟨rfl, n6, rfl⟩
    go_wp2_with fail
    refine (Gf.mul_any _ b a _ (ht.drewN _)).mono ?_
    rintro e w2 ⟨rfl, n7, rfl⟩
    go_wp2_with fail
    refine (Gf.add_u8 b c _).mono ?_
    rintro e w2 ⟨rfl, rfl⟩
    go_wp2_with fail
    refine (Gf.mul_any _ a _ _ (ht.drewN _)).mono ?_
    rintro e w2 ⟨rfl, n8, rfl⟩
    go_wp2_with fail
    refine (Gf.mul_any _ a b _ (ht.drewN _)).mono ?_
    rintro e w2 ⟨rfl, n9, rfl⟩
    go_wp2_with fail
    refine (Gf.mul_any _ a c _ (ht.drewN _)).mono ?_
    rintro e w2 ⟨rfl, n10, rfl⟩
    go_wp2_with fail
    refine (Gf.add_u8 _ _ _).mono ?_
    rintro e w2 ⟨rfl, rfl⟩
    go_wp2_with fail
    refine (Gf.mul_any _ a 1 _ (ht.drewN _)).mono ?_
    rintro e w2 ⟨rfl, n11, rfl⟩
    go_wp2_with fail
    try
      (go_at_call 11
       refine (Gf.inv_any _ a _ (ht.drewN _)).mono ?_
       rintro e w2 ⟨rfl, n12, rfl⟩
       go_wp2_with fail
       refine (Gf.mul_any _ a _ _ (ht.drewN _)).mono ?_
       rintro e w2 ⟨rfl, n13, rfl⟩
       go_wp2_with fail)
    refine (Gf.mul_any _ a 0 _ (ht.drewN _)).mono ?_
    rintro e w2 ⟨rfl, n14, rfl⟩
    go_wp2_with fail
    refine (Gf.add_u8 a a _).mono ?_
    rintro e w2 ⟨rfl, rfl⟩
    go_wp2_with fail
    refine (Gf.mul_any _ a b _ (ht.drewN _)).mono ?_
    rintro e w2 ⟨rfl, n15, rfl⟩
    go_wp2_with fail
    try
      (go_at_call 13
       refine (Gf.div_any _ a b _ (ht.drewN _)).mono ?_
       rintro e w2 ⟨rfl, n16, rfl⟩
       go_wp2_with fail
       refine (Gf.mul_any _ _ b _ (ht.drewN _)).mono ?_
       rintro e w2 ⟨rfl, n17, rfl⟩
       go_wp2_with fail)
    refine (alive_any _).mono ?_
    rintro e w3 ⟨rfl, hb3⟩
    go_wp2_with fail
    go_ret
    exact ⟨rfl, (below_drewN hb _).trans (hb3.mono (by simpa using hb.size))⟩

theorem GfPowers (a : UInt8) (n m : Int) (w : World) (hn : -9223372036854775808 ≤ n ∧ n ≤ 9223372036854775807) (hm : -32768 ≤ m ∧ m ≤ 32767) :
    Calls Try.prog 5 #[.int .u8 (a.toNat : Nat), .int .i64 n, .int .i16 m] w fun e w' => e = .returned (.bool true) ∧ Below w.heap.size w w' := by
  by_cases a0 : a = 0
  · have hA : ((a.toNat : Int) == 0) = true := by rw [toNat_eq0, a0]; rfl
    clear a0
    go_enter Try.func5, Try.ntmps5
    go_wp2_with fail
    refine (Gf.new_any w).mono ?_
    rintro e w1 ⟨rfl, ht, hb, _⟩
    go_wp2_with fail
    refine (Gf.pow_any _ a n _ ht hn).mono ?_
    rintro e w2 ⟨rfl, n2, rfl⟩
    go_wp2_with fail
    refine (R01.raise_any a n _ hn).mono ?_
    rintro e w2 ⟨rfl, rfl⟩
    go_wp2_with fail
    refine (alive_any _).mono ?_
    rintro e w3 ⟨rfl, hb3⟩
    go_wp2_with fail
    go_ret
    exact ⟨rfl, (below_drewN hb _).trans (hb3.mono (by simpa using hb.size))⟩
  · have hA : ((a.toNat : Int) == 0) = false := by rw [toNat_eq0]; simpa using a0
    have hp : (((GfM.mul (GfM.powI a m) (GfM.powI a 7)).toNat : Int) == ((GfM.powI a (m + 7)).toNat : Int)) = true := by rw [GfM.powI_add a0]; simp
    clear a0
    go_enter Try.func5, Try.ntmps5
    go_wp2_with fail
    refine (Gf.new_any w).mono ?_
    rintro e w1 ⟨rfl, ht, hb, _⟩
    go_wp2_with fail
    refine (Gf.pow_any _ a n _ ht hn).mono ?_
    rintro e w2 ⟨rfl, n2, rfl⟩
    go_wp2_with fail
    refine (R01.raise_any a n _ hn).mono ?_
    rintro e w2 ⟨rfl, rfl⟩
    go_wp2_with fail
    refine (Gf.pow_any _ a m _ (ht.drewN _) (by omega)).mono ?_
    rintro e w2 ⟨rfl, n3, rfl⟩
    go_wp2_with fail
    refine (Gf.pow_any _ a 7 _ (ht.drewN _) (by omega)).mono ?_
    rintro e w2 ⟨rfl, n4, rfl⟩
    go_wp2_with fail
    refine (Gf.mul_any _ _ _ _ (ht.drewN _)).mono ?_
    rintro e w2 ⟨rfl, n5, rfl⟩
    go_wp2_with fail
    refine (Gf.pow_any _ a (m + 7) _ (ht.drewN _) (by omega)).mono ?_
    rintro e w2 ⟨rfl, n6, rfl⟩
    go_wp2_with fail
    refine (alive_any _).mono ?_
    rintro e w3 ⟨rfl, hb3⟩
    go_wp2_with fail
    go_ret
    exact ⟨rfl, (below_drewN hb _).trans (hb3.mono (by simpa using hb.size))⟩

theorem GfDots (A1 : Option Addr) (l1 : List UInt8) (c1 : Nat) (A2 : Option Addr) (l2 : List UInt8) (c2 : Nat) (w : World)
    (h1 : BytesAt w A1 l1) (x1 : l1.length ≤ c1) (y1 : c1 ≤ maxLen) (h2 : BytesAt w A2 l2) (x2 : l2.length ≤ c2) (y2 : c2 ≤ maxLen) :
    Calls Try.prog 6 #[.slice A1 l1.length c1, .slice A2 l2.length c2] w fun e w' => e = .returned (.bool true) ∧ Below w.heap.size w w' := by
  have m1 : l1.length ≤ maxLen := Nat.le_trans x1 y1
  have m2 : l2.length ≤ maxLen := Nat.le_trans x2 y2
  by_cases hl : 300 < l1.length ∨ 300 < l2.length
  · by_cases g1 : 300 < l1.length
    all_goals
      go_enter Try.func6, Try.ntmps6
      go_wp2_with fail
      refine (alive_any _).mono ?_
      rintro e w3 ⟨rfl, hb3⟩
      go_wp2_with fail
      go_ret
      exact ⟨rfl, hb3⟩
  · have g1 : l1.length ≤ 300 := by omega
    have g2 : l2.length ≤ 300 := by omega
    go_enter Try.func6, Try.ntmps6
    go_wp2_with fail
    refine (Gf.new_any w).mono ?_
    rintro e w1 ⟨rfl, ht, hb, _⟩
    go_wp2_with fail
    refine (Gf.dot_any _ A1 A2 l1 l2 _ _ _ ht (h1.below hb) (h2.below hb) m1 m2).mono ?_
    rintro e w2 ⟨rfl, n2, rfl⟩
    go_wp2_with fail
    refine (R01.dot_any A1 A2 l1 l2 _ _ _ ((h1.below hb).drewN _) ((h2.below hb).drewN _) m1 m2).mono ?_
    rintro e w2 ⟨rfl, n3, rfl⟩
    go_wp2_with fail
    refine (Gf.dot_nil A1 A2 l1 l2 _ _ _ ((h1.below hb).drewN _) ((h2.below hb).drewN _) m1 m2).mono ?_
    rintro e w2 ⟨rfl, n4, rfl⟩
    go_wp2_with fail
    refine (Gf.mul_nil _ _ _).mono ?_
    rintro e w2 ⟨rfl, n5, rfl⟩
    go_wp2_with fail
    refine (Gf.inv_nil _ _).mono ?_
    rintro e w2 ⟨rfl, n6, rfl⟩
    go_wp2_with fail
    refine (Gf.pow_nil _ _ _).mono ?_
    rintro e w2 ⟨rfl, n7, rfl⟩
    go_wp2_with fail
    refine (Gf.div_nil _ _ _).mono ?_
    rintro e w2 ⟨rfl, n8, rfl⟩
    go_wp2_with fail
    refine (alive_any _).mono ?_
    rintro e w3 ⟨rfl, hb3⟩
    go_wp2_with fail
    go_ret
    exact ⟨rfl, (below_drewN hb _).trans (hb3.mono (by simpa using hb.size))⟩
end Go.Proofs.Ytdgbillnadogbaa.Law01
