/- the document's own answers of layer 5 -/
import Derived.Test.YteiemkaeeghhhaaMats
import Derived.Test.YteiemkaeeghhhaaR01
import Derived.Test.YteiemkaeeghhhaaCrcMath
import Derived.Deep.QuietTactic
import Derived.IntWalk
import Derived.Laws.BitsAllLaws
set_option maxRecDepth 100000
namespace Go.Proofs.Yteiemkaeeghhhaa.R05
open Go.RowKit

/-- a number's bytes, one by one -/
theorem and255 (x k : Nat) (hx : x < 4294967296) : bits .and .u32 ((x : Int) / (2 ^ k : Nat)) 255 = ((x / 2 ^ k % 256 : Nat) : Int) := by
  have hd : x / 2 ^ k ≤ x := Nat.div_le_self _ _
  have := u32_and_nat (x / 2 ^ k) 255 (by omega) (by omega)
  rw [show (255 : Nat) = 2 ^ 8 - 1 from rfl, Nat.and_two_pow_sub_one_eq_mod] at this
  exact this
theorem xor_bit (y : UInt8) (r : Nat) (h : r < 8) : bits .xor .u8 (y.toNat : Int) (2 ^ r % 256) = ((y ^^^ UInt8.ofNat (2 ^ r)).toNat : Nat) := by
  have hp : 2 ^ r < 256 := by
    have : 2 ^ r < 2 ^ 8 := Nat.pow_lt_pow_right (by omega) h
    exact this
  have e : ((2 : Int) ^ r % 256) = ((2 ^ r : Nat) : Int) := by
    have g : ∀ p : Nat, p < 256 → (p : Int) % 256 = (p : Int) := fun p h => by omega
    have := g _ hp
    rw [Int.natCast_pow] at this ⊢
    exact this
  rw [e, u8_xor_nat _ _ y.toNat_lt hp, UInt8.toNat_xor, UInt8.toNat_ofNat_of_lt' (by simp only [UInt8.size]; exact hp)]
/-- the document's Turn; of first below 0: nothing -/
def turnI (l : List UInt8) (first : Int) (mask : Nat) : List UInt8 := if first < 0 then l else CrcM.turn l first.toNat mask
theorem turnI_len (l : List UInt8) (first : Int) (mask : Nat) : (turnI l first mask).length = l.length := by
  unfold turnI; split
  · rfl
  · exact CrcM.turn_len _ _ _
set_option maxHeartbeats 1000000 in
set_option maxRecDepth 100000 in
theorem turn_any (A : Option Addr) (l : List UInt8) (c : Nat) (first : Int) (mask : Nat) (w : World) (h : BytesAt w A l) (hl : l.length ≤ 1099511627) (hf : -9223372036854775808 ≤ first ∧ first ≤ 9223372036854775807) (hm : mask < 4294967296) :
    Calls Try.prog 33 #[.slice A l.length c, .int .i64 first, .int .u32 (mask : Nat)] w (RetNew w (turnI l first mask)) := by
  have H := Lib.hid h
  clear h
  go_enter Try.func33, Try.ntmps33
  go_wp2_with (at_builtin; refine wpList_append_bytes rfl (.tmp 10) (.tmp 11) rfl w.heap.size (.slice (some ⟨w.heap.size, 0, none⟩) 0 0) [] l rfl (Own.empty w _ (Nat.le_refl _)) A l.length c rfl rfl (H.out.alloc _) (by simp; omega) (by simp) ?_; intro v1 w1 hown1 hb1; have hb1 : Below w.heap.size w w1 := (balloc w _).trans hb1; have HO := Lib.hid hown1; clear hown1)
  have hnl : ([] ++ l : List UInt8) = l := rfl
  rw [hnl] at HO
  clear hnl
  obtain ⟨A1, c1, hv1, hl1, hl1', _⟩ := HO.out.bytes
  subst hv1
  by_cases hneg : first < 0
  · have hres : turnI l first mask = l := by unfold turnI; rw [if_pos hneg]
    have HRES := Lib.hid hres
    clear hres
    go_loopw [8] (fun i wr => ∃ k : Nat, k ≤ 32 ∧ i = .int .i64 k ∧ wr = w1)
      (fun i _ => 32 - (intOf i).toNat)
    case atStart => exact ⟨0, by omega, rfl, rfl⟩
    case round =>
      obtain ⟨k, hk, rfl, rfl⟩ := hrel
      by_cases hlt : k < 32
      · go_wp2
        all_goals
          go_roundw
          case rel => exact ⟨k + 1, by omega, by go_num, by trivial⟩
          case measure => simp [intOf] <;> omega
      · go_wp2
        go_ret
        rw [HRES.out]
        exact RetNew.of_own HO.out hb1
  · obtain ⟨f, rfl⟩ := Int.eq_ofNat_of_zero_le (show 0 ≤ first by omega)
    have hres : turnI l f mask = CrcM.turnTo l f mask 32 := by unfold turnI; rw [if_neg (by omega)]; rfl
    have HRES := Lib.hid hres
    clear hres
    go_loopw [8] (fun i wr => ∃ k : Nat, k ≤ 32 ∧ i = .int .i64 k ∧ Own wr w.heap.size (.slice A1 l.length c1) (CrcM.turnTo l f mask k) ∧ Below w.heap.size w wr)
      (fun i _ => 32 - (intOf i).toNat)
    case atStart => exact ⟨0, by omega, rfl, HO.out, hb1⟩
    case round =>
      obtain ⟨k, hk, rfl, hown, hb⟩ := hrel
      have HOW := Lib.hid hown
      have hz := hb.size
      clear hown
      by_cases hlt : k < 32
      · have hts : CrcM.turnTo l f mask (k + 1) = if mask.testBit k ∧ f + k < 8 * l.length then CrcM.turn1 (CrcM.turnTo l f mask k) (f + k) else CrcM.turnTo l f mask k := rfl
        have hbit : bits .and .u32 ((mask : Int) / 2 ^ k) 1 = (CrcM.bit mask k : Nat) := by
          have hd : mask / 2 ^ k ≤ mask := Nat.div_le_self _ _
          have := u32_and_nat (mask / 2 ^ k) 1 (by omega) (by omega)
          rw [Nat.and_one_is_mod, Int.natCast_ediv, Int.natCast_pow] at this
          exact this
        have htb : mask.testBit k = decide (CrcM.bit mask k = 1) := by rw [Nat.testBit_eq_decide_div_mod_eq]; rfl
        have hb2 := CrcM.bit_lt mask k
        have HTS := Lib.hid hts
        clear hts
        by_cases h1 : CrcM.bit mask k = 1
        · have q : (bits .and .u32 ((mask : Int) / 2 ^ k) 1 == 0) = false := by rw [hbit, h1]; rfl
          by_cases h2 : f + k < 8 * l.length
          · have hs : CrcM.turnTo l f mask (k + 1) = CrcM.turn1 (CrcM.turnTo l f mask k) (f + k) := by rw [HTS.out, if_pos ⟨by rw [htb, h1]; rfl, h2⟩]
            have HS := Lib.hid hs
            have q2 : decide (8 * (l.length : Int) - 1 - k < f) = false := by simp; omega
            clear hs hbit htb h1
            obtain ⟨a, ha⟩ : ∃ a, a = f + k := ⟨_, rfl⟩
            have ha8 : a < 8 * l.length := by omega
            have hlen := CrcM.turnTo_len l f mask k
            obtain ⟨g, cap, hv, hg1, hg2, hcell, hfr, hset⟩ := HOW.out.place (i := a / 8) (by rw [hlen]; omega)
            injection hv with hv1 hv2 hv3
            subst hv1; subst hv3
            rw [← ha] at HS
            have hy : (CrcM.turnTo l f mask k)[a / 8]'(by rw [hlen]; omega) = (CrcM.turnTo l f mask k).getD (a / 8) 0 := by
              rw [← List.getElem_eq_getD (h := by rw [hlen]; omega)]
            rw [hy] at hcell
            have ht1 : CrcM.turn1 (CrcM.turnTo l f mask k) a = (CrcM.turnTo l f mask k).set (a / 8) ((CrcM.turnTo l f mask k).getD (a / 8) 0 ^^^ UInt8.ofNat (2 ^ (a % 8))) := rfl
            rw [ht1] at HS
            clear hy ht1
            obtain ⟨d, hd⟩ : ∃ d, d = a / 8 := ⟨_, rfl⟩
            obtain ⟨r, hr⟩ : ∃ r, r = a % 8 := ⟨_, rfl⟩
            have i1 : ((f : Int) + k) = (a : Int) := by omega
            have i2 : ((a : Int) / 8) = (d : Int) := by omega
            have i3 : d < l.length := by omega
            have i4 : ((a : Int)).tdiv 8 = (d : Int) := by rw [hd]; rfl
            have i5 : ((a : Int)).tmod 8 = (r : Int) := by rw [hr]; rfl
            have i6 : ((a : Int) % 8) = (r : Int) := by omega
            have i7 : r < 8 := by omega
            rw [← hd] at hcell hfr hset HS
            rw [← hr] at HS
            generalize (CrcM.turnTo l f mask k).getD d 0 = y at *
            have HLEN := Lib.hid hlen; have HSET := Lib.hid hset; have HA := Lib.hid ha
            clear hlen hset hv2 ha hd hr
            go_wp2_with fail
            go_region
            all_goals
              go_wp2
              go_roundw
              case rel =>
                refine ⟨k + 1, by omega, by go_num, ?_, ?_⟩
                · rw [HS.out, xor_bit y r i7]; exact (HSET.out 0 (y ^^^ UInt8.ofNat (2 ^ r))).drewN 1
                · exact (hb.setCell hg1 _).drew
              case measure => simp [intOf] <;> omega
          · have hs : CrcM.turnTo l f mask (k + 1) = CrcM.turnTo l f mask k := by rw [HTS.out, if_neg (fun h => h2 h.2)]
            have HS := Lib.hid hs
            have q2 : decide (8 * (l.length : Int) - 1 - k < f) = true := by simp; omega
            clear hs hbit htb h1
            go_wp2
            go_roundw
            case rel => exact ⟨k + 1, by omega, by go_num, by rw [HS.out]; exact HOW.out, hb⟩
            case measure => simp [intOf] <;> omega
        · have q : (bits .and .u32 ((mask : Int) / 2 ^ k) 1 == 0) = true := by rw [hbit, beq_iff_eq]; omega
          have hs : CrcM.turnTo l f mask (k + 1) = CrcM.turnTo l f mask k := by rw [HTS.out, if_neg (fun h => h1 (by have := h.1; rw [htb] at this; exact of_decide_eq_true this))]
          have HS := Lib.hid hs
          clear hs hbit htb h1
          go_wp2
          go_roundw
          case rel => exact ⟨k + 1, by omega, by go_num, by rw [HS.out]; exact HOW.out, hb⟩
          case measure => simp [intOf] <;> omega
      · obtain rfl : k = 32 := by omega
        go_wp2
        go_ret
        rw [HRES.out]
        exact RetNew.of_own HOW.out hb
end Go.Proofs.Yteiemkaeeghhhaa.R05
