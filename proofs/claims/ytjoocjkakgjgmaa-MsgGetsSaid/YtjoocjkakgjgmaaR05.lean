/- the document's own answers of layer 5 -/
import Derived.Test.YtjoocjkakgjgmaaMats
import Derived.Test.YtjoocjkakgjgmaaR01
import Derived.Test.YtjoocjkakgjgmaaMMA
import Derived.Deep.QuietTactic
import Derived.IntWalk
import Derived.Laws.BitsAllLaws
set_option maxRecDepth 100000
namespace Go.Proofs.Ytjoocjkakgjgmaa.R05
open Go.RowKit

theorem sum_any (A : Option Addr) (l : List UInt8) (c : Nat) (w : World) (h : BytesAt w A l) (hl : l.length ≤ 1099511627776) :
    Calls Try.prog 41 #[.slice A l.length c] w fun e w' => e = .returned (.int .u32 (CrcM.sum l : Nat)) ∧ w = w' := by
  go_enter Try.func41, Try.ntmps41
  go_wp2
  go_loop [3, 4] (fun x i => ∃ k : Nat, k ≤ l.length ∧ i = .int .i64 k ∧ x = .int .u32 (CrcM.feed CrcM.full (l.take k) : Nat))
    (fun _ i => l.length - (intOf i).toNat)
  case atStart => exact ⟨0, Nat.zero_le _, rfl, by rw [List.take_zero, CrcM.feed_nil]; rfl⟩
  case round =>
    obtain ⟨k, hk, rfl, rfl⟩ := hrel
    have hf := CrcM.feed_lt CrcM.full (by unfold CrcM.full; omega) (l.take k)
    by_cases hlt : k < l.length
    · obtain ⟨b, o, rfl, e⟩ := h k hlt
      have hs := CrcM.feed_take CrcM.full l k hlt
      have hc := l[k].toNat_lt
      have HS := Lib.hid hs
      clear hs h
      generalize l[k].toNat = c at *
      generalize CrcM.feed CrcM.full (l.take k) = x at *
      go_wp2
      go_loop [3, 5] (fun y j => ∃ t : Nat, t ≤ 8 ∧ j = .int .i64 t ∧ y = .int .u32 (CrcM.fbits x c t : Nat))
        (fun _ j => 8 - (intOf j).toNat)
      case atStart => exact ⟨0, Nat.zero_le _, rfl, by rw [CrcM.fbits_zero]⟩
      case round =>
        obtain ⟨t, ht, rfl, rfl⟩ := hrel
        have hy := CrcM.fbits_lt x c t hf hc
        by_cases hlt2 : t < 8
        · have g1 := CrcM.fbits_same x c t
          have g2 := CrcM.fbits_other x c t
          have G1 := Lib.hid g1; have G2 := Lib.hid g2
          clear g1 g2
          generalize CrcM.fbits x c t = y at *
          have b1 : bits .and .u32 (y : Int) 1 = ((y % 2 : Nat) : Int) := by
            have := u32_and_nat y 1 hy (by omega)
            rwa [Nat.and_one_is_mod] at this
          have b2 : bits .and .u32 ((c : Int) / 2 ^ t) 1 = (CrcM.bit c t : Nat) := by
            have hd : c / 2 ^ t ≤ c := Nat.div_le_self _ _
            have := u32_and_nat (c / 2 ^ t) 1 (by omega) (by omega)
            rw [Nat.and_one_is_mod, Int.natCast_ediv, Int.natCast_pow] at this
            exact this
          have hx : bits .xor .u32 ((y : Int) / 2) 3988292384 = ((y / 2 ^^^ CrcM.pol : Nat) : Int) := by
            have := u32_xor_nat (y / 2) CrcM.pol (by omega) (by unfold CrcM.pol; omega)
            rw [Int.natCast_ediv] at this
            exact this
          have HX := Lib.hid hx
          by_cases hb : y % 2 = CrcM.bit c t
          · have q : (bits .and .u32 (y : Int) 1 != bits .and .u32 ((c : Int) / 2 ^ t) 1) = false := by rw [b1, b2, hb]; simp
            have hf := G1.out hb
            have HF := Lib.hid hf
            clear b1 b2 hb hf hx
            go_wp2
            go_round
            case rel => exact ⟨t + 1, by omega, by go_num, by rw [HF.out]; rfl⟩
            case measure => simp [intOf] <;> omega
          · have q : (bits .and .u32 (y : Int) 1 != bits .and .u32 ((c : Int) / 2 ^ t) 1) = true := by rw [b1, b2, bne_iff_ne]; omega
            have hf := G2.out hb
            have HF := Lib.hid hf
            clear b1 b2 hb hf hx
            go_wp2
            go_round
            case rel => exact ⟨t + 1, by omega, by go_num, by rw [HF.out, HX.out]⟩
            case measure => simp [intOf] <;> omega
        · obtain rfl : t = 8 := by omega
          go_wp2
          go_round
          case rel => exact ⟨k + 1, by omega, by go_num, by rw [HS.out]⟩
          case measure => simp [intOf] <;> omega
    · obtain rfl : k = l.length := by omega
      rw [List.take_length] at *
      have hx : bits .xor .u32 (CrcM.feed CrcM.full l : Int) 4294967295 = ((CrcM.sum l : Nat) : Int) := u32_xor_nat (CrcM.feed CrcM.full l) CrcM.full hf (by unfold CrcM.full; omega)
      have HX := Lib.hid hx
      clear hx
      go_wp2
      go_ret
      exact ⟨ret_int (by rw [HX.out]), rfl⟩

/-- a number's bytes, one by one -/
theorem and255 (x k : Nat) (hx : x < 4294967296) : bits .and .u32 ((x : Int) / (2 ^ k : Nat)) 255 = ((x / 2 ^ k % 256 : Nat) : Int) := by
  have hd : x / 2 ^ k ≤ x := Nat.div_le_self _ _
  have := u32_and_nat (x / 2 ^ k) 255 (by omega) (by omega)
  rw [show (255 : Nat) = 2 ^ 8 - 1 from rfl, Nat.and_two_pow_sub_one_eq_mod] at this
  exact this
theorem seal_any (A : Option Addr) (l : List UInt8) (c : Nat) (w : World) (h : BytesAt w A l) (hl : l.length ≤ 1099511627) :
    Calls Try.prog 19 #[.slice A l.length c] w (RetNew w (CrcM.seal_ l)) := by
  have hs := CrcM.sum_lt l
  go_enter Try.func19, Try.ntmps19
  go_wp2_with fail
  refine (sum_any A l c w h (by omega)).mono ?_
  rintro e w' ⟨rfl, rfl⟩
  rename World => w0
  have H := Lib.hid h
  clear h
  obtain ⟨x, hx⟩ : ∃ x, x = CrcM.sum l := ⟨_, rfl⟩
  rw [← hx] at hs ⊢
  have HX := Lib.hid hx
  clear hx
  go_wp2_with (at_builtin; refine wpList_append_bytes rfl (.tmp 8) (.tmp 9) rfl w0.heap.size (.slice (some ⟨w0.heap.size, 0, none⟩) 0 0) [] l rfl (Own.empty w0 _ (Nat.le_refl _)) A l.length c rfl rfl (H.out.alloc _) (by simp; omega) (by simp) ?_; intro v1 w1 hown1 hb1; have hb1 : Below w0.heap.size w0 w1 := (balloc w0 _).trans hb1; have HO := Lib.hid hown1; clear hown1)
  go_loopw [4, 5] (fun v i wr => ∃ k : Nat, k ≤ 4 ∧ i = .int .i64 k ∧ Own wr w0.heap.size v (l ++ (CrcM.four x).take k) ∧ Below w0.heap.size w0 wr)
    (fun _ i _ => 4 - (intOf i).toNat)
  case atStart => exact ⟨0, by omega, rfl, by have := HO.out; simpa using this, hb1⟩
  case round =>
    obtain ⟨k, hk, rfl, hown, hb⟩ := hrel
    have hz := hb.size
    have HR := Lib.hid hown
    clear hown HO
    by_cases hlt : k < 4
    · have hfs := CrcM.four_succ x k hlt
      obtain ⟨y, hy⟩ : ∃ y, y = UInt8.ofNat (x / 2 ^ (8 * k) % 256) := ⟨_, rfl⟩
      have hq : bits .and .u32 ((x : Int) / 2 ^ (8 * k)) 255 % 256 = (y.toNat : Nat) := by
        have := and255 x (8 * k) hs
        rw [Int.natCast_pow] at this
        rw [show ((2 : Nat) : Int) = 2 from rfl] at this
        rw [this, hy, UInt8.toNat_ofNat_of_lt' (by simp only [UInt8.size]; omega)]
        omega
      rw [← hy] at hfs
      have HFS := Lib.hid hfs
      have hlen : (l ++ (CrcM.four x).take k).length ≤ l.length + 4 := by rw [List.length_append, List.length_take, CrcM.four_len]; omega
      clear hfs hy
      go_wp2_with (at_builtin; refine wpList_append_u8 rfl _ _ rfl w0.heap.size _ _ rfl (HR.out.alloc _) wr.heap.size 1 y rfl (by simp) (by omega) (by simp; omega) ?_; intro v' w7 hown1 hb7)
      go_roundw
      case rel => exact ⟨k + 1, by omega, by go_num, by rw [HFS.out, ← List.append_assoc]; exact hown1, (hb.alloc hz _).trans hb7⟩
      case measure => simp [intOf] <;> omega
    · obtain rfl : k = 4 := by omega
      have ho := HR.out
      rw [List.take_of_length_le (by rw [CrcM.four_len]; omega), HX.out] at ho
      have HO := Lib.hid ho
      clear ho
      go_wp2
      go_ret
      exact RetNew.of_own HO.out hb

theorem good_any (A : Option Addr) (l : List UInt8) (c : Nat) (w : World) (h : BytesAt w A l) (hc : l.length ≤ c) (hl : l.length ≤ 1099511627) (_hc2 : c ≤ maxLen) :
    Calls Try.prog 42 #[.slice A l.length c] w fun e w' => e = .returned (.bool (CrcM.good l)) ∧ Below w.heap.size w w' := by
  unfold maxLen at _hc2
  by_cases h4 : l.length < 4
  · have hf := CrcM.good_short l h4
    have HF := Lib.hid hf
    clear hf h
    go_enter Try.func42, Try.ntmps42
    go_wp2
    go_ret
    exact ⟨ret_bool HF.out.symm, Below.refl _ _⟩
  · have htl : (l.take (l.length - 4)).length = l.length - 4 := by rw [List.length_take]; omega
    have hcl := CrcM.seal_cut_len l (by omega)
    have H := Lib.hid h; have HTL := Lib.hid htl; have HCL := Lib.hid hcl
    have e1 : ((l.length - 4 : Nat) : Int) = (l.length : Int) - 4 := by omega
    clear htl hcl
    go_enter Try.func42, Try.ntmps42
    go_wp2_with fail
    have C := seal_any A (l.take (l.length - 4)) c w (H.out.take _) (by rw [HTL.out]; omega)
    rw [HTL.out] at C
    refine C.mono ?_
    clear C e1
    rintro e w1 ⟨S, d, rfl, hd1, hd2, hS, hb1, _⟩
    rw [HCL.out]
    have H1 := Lib.hid (H.out.below hb1)
    have hse : CrcM.seal_ (l.take (l.length - 4)) = l → CrcM.good l = true := (CrcM.good_iff l (by omega)).2
    have hsn := CrcM.good_not l
    have HSE := Lib.hid hse; have HSN := Lib.hid hsn
    clear hse hsn HTL h hd1
    generalize CrcM.seal_ (l.take (l.length - 4)) = s at *
    have HS := Lib.hid hS
    clear hS
    go_wp2_with fail
    go_loopw [4] (fun i wr => ∃ k n : Nat, k ≤ l.length ∧ i = .int .i64 k ∧ s.take k = l.take k ∧ wr = w1.drewN n)
      (fun i _ => l.length - (intOf i).toNat)
    case atStart => exact ⟨0, 0, Nat.zero_le _, rfl, by rw [List.take_zero, List.take_zero], rfl⟩
    case round =>
      obtain ⟨k, n, hk, rfl, ht, hwr⟩ := hrel
      rename World => w2
      have HW := Lib.hid hwr; have HTK := Lib.hid ht
      have p1 : BytesAt w2 A l := by rw [hwr]; exact H1.out.drewN n
      have p2 : BytesAt w2 S s := by rw [hwr]; exact HS.out.drewN n
      clear hwr ht
      by_cases hlt : k < l.length
      · have hls : k < s.length := by rw [HCL.out]; exact hlt
        obtain ⟨b1, o1, rfl, f1⟩ := p1 k hlt
        obtain ⟨b2, o2, rfl, f2⟩ := p2 k hls
        have g1 : s[k] = l[k] → s.take (k + 1) = l.take (k + 1) := fun e => by
          rw [List.take_succ_eq_append_getElem hls, List.take_succ_eq_append_getElem hlt, HTK.out, e]
        have g2 : s[k] ≠ l[k] → CrcM.good l = false := fun e => HSN.out fun e' => e (by subst e'; rfl)
        have G1 := Lib.hid g1; have G2 := Lib.hid g2
        have hq := toNat_bne s[k] l[k]
        clear g1 g2 p1 p2
        generalize s[k] = x at *
        generalize l[k] = y at *
        clear hls
        by_cases hxy : x = y
        · have q : ((x.toNat : Int) != (y.toNat : Int)) = false := by rw [hq, hxy]; simp
          have hf := G1.out hxy
          have HF := Lib.hid hf
          clear hq hxy hf
          go_wp2
          go_quiet (fail)
          go_wp2
          go_roundw
          case rel => exact ⟨k + 1, n + nq, by omega, by go_num, HF.out, by rw [HW.out, World.drewN_drewN]⟩
          case measure => simp [intOf] <;> omega
        · have q : ((x.toNat : Int) != (y.toNat : Int)) = true := by rw [hq]; simpa using hxy
          have hf := G2.out hxy
          have HF := Lib.hid hf
          clear hq hxy hf
          go_wp2
          go_quiet (fail)
          go_wp2
          go_ret
          exact ⟨ret_bool HF.out.symm, bstep hb1 (bquiet ⟨n + nq, by rw [HW.out, World.drewN_drewN]⟩)⟩
      · obtain rfl : k = l.length := by omega
        have hf : CrcM.good l = true := HSE.out (by
          have := HTK.out
          rwa [List.take_length, List.take_of_length_le (by rw [HCL.out]; exact Nat.le_refl _)] at this)
        have HF := Lib.hid hf
        clear hf p1 p2
        go_wp2
        go_ret
        exact ⟨ret_bool HF.out.symm, bstep hb1 (bquiet ⟨n, HW.out⟩)⟩

theorem xor_bit (y : UInt8) (r : Nat) (h : r < 8) : bits .xor .u8 (y.toNat : Int) (2 ^ r % 256) = ((y ^^^ UInt8.ofNat (2 ^ r)).toNat : Nat) := by
  have hp : 2 ^ r < 256 := by
    have : 2 ^ r < 2 ^ 8 := Nat.pow_lt_pow_right (by omega) h
    exact this
  have e : ((2 : Int) ^ r % 256) = ((2 ^ r : Nat) : Int) := by
    have g : ∀ p : Nat, p < 256 → (p : Int) % 256 = (p : Int) := fun p h => by omega
    have := g _ hp
    rw [Int.natCast_pow] at this ⊢
    exact this
  rw [e, u8_xor_nat _ _ y.toNat_lt hp, UInt8.toNat_xor, UInt8.toNat_ofNat_of_lt' (by simp only [UInt8.size]; exact hp)]
/-- the document's Turn; of first below 0: nothing -/
def turnI (l : List UInt8) (first : Int) (mask : Nat) : List UInt8 := if first < 0 then l else CrcM.turn l first.toNat mask
theorem turnI_len (l : List UInt8) (first : Int) (mask : Nat) : (turnI l first mask).length = l.length := by
  unfold turnI; split
  · rfl
  · exact CrcM.turn_len _ _ _
set_option maxHeartbeats 1000000 in
set_option maxRecDepth 100000 in
theorem turn_any (A : Option Addr) (l : List UInt8) (c : Nat) (first : Int) (mask : Nat) (w : World) (h : BytesAt w A l) (hl : l.length ≤ 1099511627) (hf : -9223372036854775808 ≤ first ∧ first ≤ 9223372036854775807) (hm : mask < 4294967296) :
    Calls Try.prog 21 #[.slice A l.length c, .int .i64 first, .int .u32 (mask : Nat)] w (RetNew w (turnI l first mask)) := by
  have H := Lib.hid h
  clear h
  go_enter Try.func21, Try.ntmps21
  go_wp2_with (at_builtin; refine wpList_append_bytes rfl (.tmp 10) (.tmp 11) rfl w.heap.size (.slice (some ⟨w.heap.size, 0, none⟩) 0 0) [] l rfl (Own.empty w _ (Nat.le_refl _)) A l.length c rfl rfl (H.out.alloc _) (by simp; omega) (by simp) ?_; intro v1 w1 hown1 hb1; have hb1 : Below w.heap.size w w1 := (balloc w _).trans hb1; have HO := Lib.hid hown1; clear hown1)
  have hnl : ([] ++ l : List UInt8) = l := rfl
  rw [hnl] at HO
  clear hnl
  obtain ⟨A1, c1, hv1, hl1, hl1', _⟩ := HO.out.bytes
  subst hv1
  by_cases hneg : first < 0
  · have hres : turnI l first mask = l := by unfold turnI; rw [if_pos hneg]
    have HRES := Lib.hid hres
    clear hres
    go_loopw [8] (fun i wr => ∃ k : Nat, k ≤ 32 ∧ i = .int .i64 k ∧ wr = w1)
      (fun i _ => 32 - (intOf i).toNat)
    case atStart => exact ⟨0, by omega, rfl, rfl⟩
    case round =>
      obtain ⟨k, hk, rfl, rfl⟩ := hrel
      by_cases hlt : k < 32
      · go_wp2
        all_goals
          go_roundw
          case rel => exact ⟨k + 1, by omega, by go_num, by trivial⟩
          case measure => simp [intOf] <;> omega
      · go_wp2
        go_ret
        rw [HRES.out]
        exact RetNew.of_own HO.out hb1
  · obtain ⟨f, rfl⟩ := Int.eq_ofNat_of_zero_le (show 0 ≤ first by omega)
    have hres : turnI l f mask = CrcM.turnTo l f mask 32 := by unfold turnI; rw [if_neg (by omega)]; rfl
    have HRES := Lib.hid hres
    clear hres
    go_loopw [8] (fun i wr => ∃ k : Nat, k ≤ 32 ∧ i = .int .i64 k ∧ Own wr w.heap.size (.slice A1 l.length c1) (CrcM.turnTo l f mask k) ∧ Below w.heap.size w wr)
      (fun i _ => 32 - (intOf i).toNat)
    case atStart => exact ⟨0, by omega, rfl, HO.out, hb1⟩
    case round =>
      obtain ⟨k, hk, rfl, hown, hb⟩ := hrel
      have HOW := Lib.hid hown
      have hz := hb.size
      clear hown
      by_cases hlt : k < 32
      · have hts : CrcM.turnTo l f mask (k + 1) = if mask.testBit k ∧ f + k < 8 * l.length then CrcM.turn1 (CrcM.turnTo l f mask k) (f + k) else CrcM.turnTo l f mask k := rfl
        have hbit : bits .and .u32 ((mask : Int) / 2 ^ k) 1 = (CrcM.bit mask k : Nat) := by
          have hd : mask / 2 ^ k ≤ mask := Nat.div_le_self _ _
          have := u32_and_nat (mask / 2 ^ k) 1 (by omega) (by omega)
          rw [Nat.and_one_is_mod, Int.natCast_ediv, Int.natCast_pow] at this
          exact this
        have htb : mask.testBit k = decide (CrcM.bit mask k = 1) := by rw [Nat.testBit_eq_decide_div_mod_eq]; rfl
        have hb2 := CrcM.bit_lt mask k
        have HTS := Lib.hid hts
        clear hts
        by_cases h1 : CrcM.bit mask k = 1
        · have q : (bits .and .u32 ((mask : Int) / 2 ^ k) 1 == 0) = false := by rw [hbit, h1]; rfl
          by_cases h2 : f + k < 8 * l.length
          · have hs : CrcM.turnTo l f mask (k + 1) = CrcM.turn1 (CrcM.turnTo l f mask k) (f + k) := by rw [HTS.out, if_pos ⟨by rw [htb, h1]; rfl, h2⟩]
            have HS := Lib.hid hs
            have q2 : decide (8 * (l.length : Int) - 1 - k < f) = false := by simp; omega
            clear hs hbit htb h1
            obtain ⟨a, ha⟩ : ∃ a, a = f + k := ⟨_, rfl⟩
            have ha8 : a < 8 * l.length := by omega
            have hlen := CrcM.turnTo_len l f mask k
            obtain ⟨g, cap, hv, hg1, hg2, hcell, hfr, hset⟩ := HOW.out.place (i := a / 8) (by rw [hlen]; omega)
            injection hv with hv1 hv2 hv3
            subst hv1; subst hv3
            rw [← ha] at HS
            have hy : (CrcM.turnTo l f mask k)[a / 8]'(by rw [hlen]; omega) = (CrcM.turnTo l f mask k).getD (a / 8) 0 := by
              rw [← List.getElem_eq_getD (h := by rw [hlen]; omega)]
            rw [hy] at hcell
            have ht1 : CrcM.turn1 (CrcM.turnTo l f mask k) a = (CrcM.turnTo l f mask k).set (a / 8) ((CrcM.turnTo l f mask k).getD (a / 8) 0 ^^^ UInt8.ofNat (2 ^ (a % 8))) := rfl
            rw [ht1] at HS
            clear hy ht1
            obtain ⟨d, hd⟩ : ∃ d, d = a / 8 := ⟨_, rfl⟩
            obtain ⟨r, hr⟩ : ∃ r, r = a % 8 := ⟨_, rfl⟩
            have i1 : ((f : Int) + k) = (a : Int) := by omega
            have i2 : ((a : Int) / 8) = (d : Int) := by omega
            have i3 : d < l.length := by omega
            have i4 : ((a : Int)).tdiv 8 = (d : Int) := by rw [hd]; rfl
            have i5 : ((a : Int)).tmod 8 = (r : Int) := by rw [hr]; rfl
            have i6 : ((a : Int) % 8) = (r : Int) := by omega
            have i7 : r < 8 := by omega
            rw [← hd] at hcell hfr hset HS
            rw [← hr] at HS
            generalize (CrcM.turnTo l f mask k).getD d 0 = y at *
            have HLEN := Lib.hid hlen; have HSET := Lib.hid hset; have HA := Lib.hid ha
            clear hlen hset hv2 ha hd hr
            go_wp2_with fail
            go_region
            all_goals
              go_wp2
              go_roundw
              case rel =>
                refine ⟨k + 1, by omega, by go_num, ?_, ?_⟩
                · rw [HS.out, xor_bit y r i7]; exact (HSET.out 0 (y ^^^ UInt8.ofNat (2 ^ r))).drewN 1
                · exact (hb.setCell hg1 _).drew
              case measure => simp [intOf] <;> omega
          · have hs : CrcM.turnTo l f mask (k + 1) = CrcM.turnTo l f mask k := by rw [HTS.out, if_neg (fun h => h2 h.2)]
            have HS := Lib.hid hs
            have q2 : decide (8 * (l.length : Int) - 1 - k < f) = true := by simp; omega
            clear hs hbit htb h1
            go_wp2
            go_roundw
            case rel => exact ⟨k + 1, by omega, by go_num, by rw [HS.out]; exact HOW.out, hb⟩
            case measure => simp [intOf] <;> omega
        · have q : (bits .and .u32 ((mask : Int) / 2 ^ k) 1 == 0) = true := by rw [hbit, beq_iff_eq]; omega
          have hs : CrcM.turnTo l f mask (k + 1) = CrcM.turnTo l f mask k := by rw [HTS.out, if_neg (fun h => h1 (by have := h.1; rw [htb] at this; exact of_decide_eq_true this))]
          have HS := Lib.hid hs
          clear hs hbit htb h1
          go_wp2
          go_roundw
          case rel => exact ⟨k + 1, by omega, by go_num, by rw [HS.out]; exact HOW.out, hb⟩
          case measure => simp [intOf] <;> omega
      · obtain rfl : k = 32 := by omega
        go_wp2
        go_ret
        rw [HRES.out]
        exact RetNew.of_own HOW.out hb
end Go.Proofs.Ytjoocjkakgjgmaa.R05
