/- the walks of layer 5's laws -/
import Derived.Test.YtlgkkenndnohdaaCrc
import Derived.Test.YtlgkkenndnohdaaR05
import Derived.Lib.SmallJoins
namespace Go.Proofs.Ytlgkkenndnohdaa.Law05
open Go.RowKit

theorem alive_any (w : World) : Calls Try.prog 5 #[] w fun e w' => e = .returned (.bool true) ∧ Below w.heap.size w w' := by
  have e1 : CrcM.sum ([[49, 50, 51, 52], [53, 54, 55, 56, 57]] : List (List UInt8)).flatten = 3421780262 := by decide +kernel
  have e2 : CrcM.good [97, 98, 99, 100] = false := by decide +kernel
  have E1 := Lib.hid e1; have E2 := Lib.hid e2
  clear e1 e2
  have kc := fun (w : World) (C : Array Value) (n c : Nat) => Lib.run_convert_bytes_const (P := Try.prog) w 22 5 C n c Try.underlying22 Try.underlying5
  go_enter Try.func5, Try.ntmps5
  go_wp2_with fail
  refine (Crc.new_any _).mono ?_
  rintro e w1 ⟨b, rfl, ht, hb1⟩
  have HT := Lib.hid ht
  clear ht
  have kc2 := fun (C : Array Value) (n c : Nat) => Joins.run_convert_bytes_const_at (P := Try.prog) (w1.alloc (.cells #[.int .u8 49, .int .u8 50, .int .u8 51, .int .u8 52] 5 (4, 5))) 22 5 C n c (w1.heap.size + 1) (by simp) Try.underlying22 Try.underlying5
  have r1 : BytesAt ((w1.alloc (.cells (cells [49, 50, 51, 52]) 5 (4, 5))).alloc (.cells (cells [53, 54, 55, 56, 57]) 5 (5, 6))) (some ⟨w1.heap.size, 0, none⟩) [49, 50, 51, 52] := (bytes_mark w1 [49, 50, 51, 52] (4, 5) _ rfl).alloc _
  have r2 : BytesAt ((w1.alloc (.cells (cells [49, 50, 51, 52]) 5 (4, 5))).alloc (.cells (cells [53, 54, 55, 56, 57]) 5 (5, 6))) (some ⟨w1.heap.size + 1, 0, none⟩) [53, 54, 55, 56, 57] := bytes_mark _ [53, 54, 55, 56, 57] (5, 6) _ (by simp)
  have r3 := RowsAt.lit2 (c := 4) (d := 5) r1 (by decide) (by unfold maxLen; omega) r2 (by decide) (by unfold maxLen; omega)
  rw [show ((w1.alloc (.cells (cells [49, 50, 51, 52]) 5 (4, 5))).alloc (.cells (cells [53, 54, 55, 56, 57]) 5 (5, 6))).heap.size = w1.heap.size + 1 + 1 from by simp] at r3
  have R3 := Lib.hid r3
  clear r1 r2 r3
  go_wp2_with fail
  have C := Crc.sum_any b _ _ 2 _ (((HT.out.below (balloc _ _)).below (balloc _ _)).below (balloc _ _)) R3.out (by decide) (fun i hi => by
    match i, hi with
    | 0, _ => show 4 ≤ 1099511627; omega
    | 1, _ => show 5 ≤ 1099511627; omega)
  rw [E1.out] at C
  refine C.mono ?_
  clear C R3 kc2
  rintro e w2 ⟨rfl, hb2⟩
  have hb2 : Below w1.heap.size w1 w2 := bstep (balloc _ _) (bstep (balloc _ _) (bstep (balloc _ _) hb2))
  have HT := Lib.hid (HT.out.below hb2)
  go_wp2_with fail
  refine (Crc.seal_any b (some ⟨w2.heap.size, 0, none⟩) [97, 98] 2 (w2.alloc (.cells (cells [97, 98]) 5 (2, 3))) (HT.out.below (balloc _ _)) (bytes_mark w2 [97, 98] (2, 3) _ rfl) (by decide) (by unfold maxLen; omega) (by decide)).mono ?_
  rintro e w3 ⟨S, d, rfl, hd1, hd2, hS, hb3, _⟩
  have hb3 : Below w2.heap.size w2 w3 := bstep (balloc _ _) hb3
  have HT := Lib.hid (HT.out.below hb3)
  go_wp2_with fail
  have C := Crc.good_any b S (CrcM.seal_ [97, 98]) d w3 HT.out hS hd1 hd2 (by decide +kernel)
  rw [CrcM.seal_good] at C
  refine C.mono ?_
  clear C
  rintro e w4 ⟨rfl, hb4⟩
  have HT := Lib.hid (HT.out.below hb4)
  clear hS
  go_wp2_with fail
  have C := Crc.good_any b (some ⟨w4.heap.size, 0, none⟩) [97, 98, 99, 100] 4 (w4.alloc (.cells (cells [97, 98, 99, 100]) 5 (4, 5))) (HT.out.below (balloc _ _)) (bytes_mark w4 [97, 98, 99, 100] (4, 5) _ rfl) (by decide) (by unfold maxLen; omega) (by decide)
  rw [E2.out] at C
  refine C.mono ?_
  clear C
  rintro e w5 ⟨rfl, hb5⟩
  have hb5 : Below w4.heap.size w4 w5 := bstep (balloc _ _) hb5
  go_wp2
  go_ret
  exact ⟨rfl, bstep hb1 (bstep hb2 (bstep hb3 (bstep hb4 hb5)))⟩

set_option maxHeartbeats 2000000 in
theorem sums_any (A1 : Option Addr) (a : List UInt8) (c1 : Nat) (A2 : Option Addr) (b : List UInt8) (c2 : Nat) (w : World) (h1 : BytesAt w A1 a) (k1 : a.length ≤ c1) (m1 : c1 ≤ maxLen) (h2 : BytesAt w A2 b) (k2 : b.length ≤ c2) (m2 : c2 ≤ maxLen) :
    Calls Try.prog 3 #[.slice A1 a.length c1, .slice A2 b.length c2] w fun e w' => e = .returned (.bool true) ∧ Below w.heap.size w w' := by
  have M1 := Lib.hid m1; have M2 := Lib.hid m2
  unfold maxLen at m1 m2
  by_cases hl1 : 200 < a.length
  · go_enter Try.func3, Try.ntmps3
    go_wp2_with fail
    refine (alive_any _).mono ?_
    rintro e w9 ⟨rfl, hb9⟩
    go_wp2
    go_ret
    exact ⟨rfl, hb9⟩
  by_cases hl2 : 200 < b.length
  · go_enter Try.func3, Try.ntmps3
    go_wp2_with fail
    refine (alive_any _).mono ?_
    rintro e w9 ⟨rfl, hb9⟩
    go_wp2
    go_ret
    exact ⟨rfl, hb9⟩
  go_enter Try.func3, Try.ntmps3
  go_wp2_with fail
  refine (Crc.new_any _).mono ?_
  rintro e w1 ⟨t, rfl, ht, hb1⟩
  have HT := Lib.hid ht; have H1 := Lib.hid (h1.below hb1); have H2 := Lib.hid (h2.below hb1)
  clear ht h1 h2
  go_wp2_with (first
    | (at_builtin; refine wpList_append_bytes rfl (.tmp 18) (.tmp 19) rfl w1.heap.size (.slice (some ⟨w1.heap.size, 0, none⟩) 0 0) [] a rfl (Own.empty w1 _ (Nat.le_refl _)) A1 a.length c1 rfl rfl (H1.out.alloc _) (by simp; omega) (by simp) ?_; intro v1 w2 hown1 hb2; have hb2 : Below w1.heap.size w1 w2 := (balloc w1 _).trans hb2; have HO1 := Lib.hid hown1; clear hown1)
    | (at_builtin; refine wpList_append_bytes rfl (.tmp 20) (.tmp 21) rfl w1.heap.size v1 ([] ++ a) b rfl HO1.out A2 b.length c2 rfl rfl (H2.out.below hb2) (by simp; omega) hb2.size ?_; intro v2 w3 hown2 hb3; have hb3 : Below w1.heap.size w1 w3 := hb2.trans hb3; obtain ⟨L, hL⟩ : ∃ L, L = [] ++ a ++ b := ⟨_, rfl⟩; rw [← hL] at hown2; have HL := Lib.hid hL; clear hL; obtain ⟨X, cx, hv2, hx1, hx2, hX, _⟩ := hown2.new; subst hv2; have HX := Lib.hid hX; clear hX hown2)
    | fail)
  have hfl : ([a, b] : List (List UInt8)).flatten = L := by rw [HL.out]; simp
  have hLl : L.length ≤ 400 := by rw [HL.out]; simp; omega
  have H1 := Lib.hid (H1.out.below hb3); have H2 := Lib.hid (H2.out.below hb3); have HT := Lib.hid (HT.out.below hb3)
  have HFL := Lib.hid hfl
  clear hfl HO1
  have hcg : (CrcM.good L == CrcM.good L) = true := by simp
  have hsl : (CrcM.seal_ L).length ≤ 404 := by rw [CrcM.seal_len]; omega
  have R1 := Lib.hid (RowsAt.lit2 H1.out k1 M1.out H2.out k2 M2.out)
  go_wp2_with fail
  have C := Crc.sum_any t _ [a, b] 2 _ (HT.out.below (balloc _ _)) R1.out (by simp) (fun i hi => by
    match i, hi with
    | 0, _ => show a.length ≤ 1099511627; omega
    | 1, _ => show b.length ≤ 1099511627; omega)
  rw [HFL.out] at C
  refine C.mono ?_
  clear C R1
  rintro e w4 ⟨rfl, hb4⟩
  have hb4 : Below w3.heap.size w3 w4 := bstep (balloc _ _) hb4
  have HX := Lib.hid (HX.out.below hb4); have HT := Lib.hid (HT.out.below hb4); have H1 := Lib.hid (H1.out.below hb4)
  go_wp2_with fail
  refine (R05.sum_any X L cx w4 HX.out (by omega)).mono ?_
  rintro e w' ⟨rfl, rfl⟩
  rename World => w4
  go_wp2_with fail
  refine (Crc.seal_any t X L cx w4 HT.out HX.out hx1 hx2 (by omega)).mono ?_
  rintro e w5 ⟨S, d, rfl, hd1, hd2, hS, hb5, _⟩
  have HX := Lib.hid (HX.out.below hb5); have HT := Lib.hid (HT.out.below hb5); have H1 := Lib.hid (H1.out.below hb5); have HS := Lib.hid hS
  clear hS
  go_wp2_with fail
  refine (R05.seal_any X L cx w5 HX.out (by omega)).mono ?_
  rintro e w6 ⟨Q, f, rfl, hf1, hf2, hQ, hb6, _⟩
  have HX := Lib.hid (HX.out.below hb6); have HT := Lib.hid (HT.out.below hb6); have H1 := Lib.hid (H1.out.below hb6); have HS := Lib.hid (HS.out.below hb6)
  go_wp2_with fail
  refine (R01.same_eq S Q _ _ d f w6 HS.out hQ (by unfold maxLen; omega) rfl).mono ?_
  rintro e w7 ⟨rfl, hq⟩
  have hb7 := bquiet hq
  clear hq hQ HS
  have HX := Lib.hid (HX.out.below hb7); have HT := Lib.hid (HT.out.below hb7); have H1 := Lib.hid (H1.out.below hb7)
  go_wp2_with fail
  refine (Crc.good_any t X L cx w7 HT.out HX.out hx1 hx2 (by omega)).mono ?_
  rintro e w8 ⟨rfl, hb8⟩
  have HX := Lib.hid (HX.out.below hb8); have HT := Lib.hid (HT.out.below hb8); have H1 := Lib.hid (H1.out.below hb8)
  go_wp2_with fail
  refine (R05.good_any X L cx w8 HX.out hx1 (by omega) hx2).mono ?_
  rintro e w9 ⟨rfl, hb9⟩
  have HX := Lib.hid (HX.out.below hb9); have HT := Lib.hid (HT.out.below hb9); have H1 := Lib.hid (H1.out.below hb9)
  generalize CrcM.good L = G at *
  go_wp2_with fail
  refine (R05.seal_any X L cx w9 HX.out (by omega)).mono ?_
  rintro e w10 ⟨Q, f, rfl, hf1, hf2, hQ, hb10, _⟩
  have HX := Lib.hid (HX.out.below hb10); have HT := Lib.hid (HT.out.below hb10); have H1 := Lib.hid (H1.out.below hb10)
  go_wp2_with fail
  have C := Crc.good_any t Q (CrcM.seal_ L) f w10 HT.out hQ hf1 hf2 (by omega)
  rw [CrcM.seal_good] at C
  refine C.mono ?_
  clear C hQ
  rintro e w11 ⟨rfl, hb11⟩
  have HX := Lib.hid (HX.out.below hb11); have H1 := Lib.hid (H1.out.below hb11)
  go_wp2_with fail
  refine (Crc.sum_nil _ [a] 1 _).mono ?_
  rintro e w12 ⟨rfl, hb12⟩
  have hb12 : Below w11.heap.size w11 w12 := bstep (balloc _ _) hb12
  have HX := Lib.hid (HX.out.below hb12); have H1 := Lib.hid (H1.out.below hb12)
  go_wp2_with fail
  refine (Crc.good_nil X L cx w12).mono ?_
  rintro e w13 ⟨rfl, hb13⟩
  have H1 := Lib.hid (H1.out.below hb13)
  go_wp2_with fail
  refine (Crc.seal_nil A1 a c1 w13 H1.out k1 M1.out (by omega)).mono ?_
  rintro e w14 ⟨Z, g, rfl, hg1, hg2, hZ, hb14, _⟩
  have H1 := Lib.hid (H1.out.below hb14)
  go_wp2_with fail
  refine (R01.same_eq Z A1 a a g c1 w14 hZ H1.out (by unfold maxLen; omega) rfl).mono ?_
  rintro e w15 ⟨rfl, hq⟩
  have hb15 := bquiet hq
  clear hq hZ
  go_wp2_with fail
  refine (alive_any _).mono ?_
  rintro e w16 ⟨rfl, hb16⟩
  go_wp2
  go_ret
  exact ⟨rfl, bstep hb1 (bstep hb3 (bstep hb4 (bstep hb5 (bstep hb6 (bstep hb7 (bstep hb8 (bstep hb9 (bstep hb10 (bstep hb11 (bstep hb12 (bstep hb13 (bstep hb14 (bstep hb15 hb16)))))))))))))⟩

set_option maxHeartbeats 1000000 in
theorem bursts_any (A1 : Option Addr) (a : List UInt8) (c1 : Nat) (first : Int) (mask : Nat) (w : World) (h1 : BytesAt w A1 a) (k1 : a.length ≤ c1) (m1 : c1 ≤ maxLen) (hf : -9223372036854775808 ≤ first ∧ first ≤ 9223372036854775807) (hm : mask < 4294967296) :
    Calls Try.prog 4 #[.slice A1 a.length c1, .int .i64 first, .int .u32 (mask : Nat)] w fun e w' => e = .returned (.bool true) ∧ Below w.heap.size w w' := by
  have M1 := Lib.hid m1
  unfold maxLen at m1
  by_cases hl1 : 200 < a.length
  · go_enter Try.func4, Try.ntmps4
    go_wp2_with fail
    refine (alive_any _).mono ?_
    rintro e w9 ⟨rfl, hb9⟩
    go_wp2
    go_ret
    exact ⟨rfl, hb9⟩
  have hgood : CrcM.good (R05.turnI (CrcM.seal_ a) first mask) = same (R05.turnI (CrcM.seal_ a) first mask) (CrcM.seal_ a) := by
    unfold R05.turnI same
    split
    · rw [CrcM.seal_good]; simp
    · exact CrcM.burst_turn _ _ _
  have htl : (R05.turnI (CrcM.seal_ a) first mask).length ≤ 204 := by rw [R05.turnI_len, CrcM.seal_len]; omega
  have hsl : (CrcM.seal_ a).length ≤ 204 := by rw [CrcM.seal_len]; omega
  have HG := Lib.hid hgood
  clear hgood
  go_enter Try.func4, Try.ntmps4
  go_wp2_with fail
  refine (Crc.new_any _).mono ?_
  rintro e w1 ⟨t, rfl, ht, hb1⟩
  have HT := Lib.hid ht; have H1 := Lib.hid (h1.below hb1)
  clear ht h1
  go_wp2_with fail
  refine (Crc.seal_any t A1 a c1 w1 HT.out H1.out k1 M1.out (by omega)).mono ?_
  rintro e w2 ⟨S, d, rfl, hd1, hd2, hS, hb2, _⟩
  have HT := Lib.hid (HT.out.below hb2); have HS := Lib.hid hS
  clear hS
  go_wp2_with fail
  refine (R05.turn_any S (CrcM.seal_ a) d first mask w2 HS.out (by omega) hf hm).mono ?_
  rintro e w3 ⟨X, f, rfl, hf1, hf2, hX, hb3, _⟩
  have HT := Lib.hid (HT.out.below hb3); have HS := Lib.hid (HS.out.below hb3); have HX := Lib.hid hX
  clear hX
  go_wp2_with fail
  have C := Crc.good_any t S (CrcM.seal_ a) d w3 HT.out HS.out hd1 hd2 (by omega)
  rw [CrcM.seal_good] at C
  refine C.mono ?_
  clear C
  rintro e w4 ⟨rfl, hb4⟩
  have HT := Lib.hid (HT.out.below hb4); have HS := Lib.hid (HS.out.below hb4); have HX := Lib.hid (HX.out.below hb4)
  go_wp2_with fail
  have C := Crc.good_any t X (R05.turnI (CrcM.seal_ a) first mask) f w4 HT.out HX.out hf1 hf2 (by omega)
  rw [HG.out] at C
  refine C.mono ?_
  clear C
  rintro e w5 ⟨rfl, hb5⟩
  have HS := Lib.hid (HS.out.below hb5); have HX := Lib.hid (HX.out.below hb5)
  go_wp2_with fail
  refine (R01.same_any X S _ _ f d w5 HX.out HS.out (by unfold maxLen; omega) (by unfold maxLen; omega)).mono ?_
  rintro e w6 ⟨rfl, hq⟩
  have hb6 := bquiet hq
  clear hq HG
  generalize same (R05.turnI (CrcM.seal_ a) first mask) (CrcM.seal_ a) = G at *
  have hcg : (G == G) = true := by simp
  go_wp2_with fail
  refine (alive_any _).mono ?_
  rintro e w9 ⟨rfl, hb9⟩
  go_wp2
  go_ret
  exact ⟨rfl, bstep hb1 (bstep hb2 (bstep hb3 (bstep hb4 (bstep hb5 (bstep hb6 hb9)))))⟩
theorem bursts_law (A1 : Option Addr) (a : List UInt8) (c1 : Nat) (first mask : Int) (w : World) (h1 : BytesAt w A1 a) (k1 : a.length ≤ c1) (m1 : c1 ≤ maxLen) (hf : -9223372036854775808 ≤ first ∧ first ≤ 9223372036854775807) (hm : 0 ≤ mask ∧ mask ≤ 4294967295) :
    Calls Try.prog 4 #[.slice A1 a.length c1, .int .i64 first, .int .u32 mask] w fun e w' => e = .returned (.bool true) ∧ Below w.heap.size w w' := by
  obtain ⟨n, rfl⟩ := Int.eq_ofNat_of_zero_le hm.1
  exact bursts_any A1 a c1 first n w h1 k1 m1 hf (by omega)
end Go.Proofs.Ytlgkkenndnohdaa.Law05
