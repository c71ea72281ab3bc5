/- the walks of layer 15's laws -/
import Derived.Test.YtiibdebkihhikaaMSE
import Derived.Test.YtiibdebkihhikaaR15
import Derived.Test.YtiibdebkihhikaaR01
set_option maxRecDepth 100000
namespace Go.Proofs.Ytiibdebkihhikaa.Law15
open Go.RowKit Sector

theorem alive_any (w : World) : Calls Try.prog 5 #[] w fun e w' => e = .returned (.bool true) ∧ Below w.heap.size w w' := by
  have HL : Hid ((sealOf []).length = 64) := Lib.hid (SecM.sec_len [] (Nat.zero_le _))
  have HC : Hid (SecM.clear_ (sealOf []) = false) := Lib.hid (SecM.sec_clear [] (Nat.zero_le _))
  have HC2 : Hid (SecM.clear_ (SecM.noughts 64) = true) := Lib.hid (decide_eq_true rfl)
  have HS := Lib.hid (fun b V (hT : Crc.Tab V b) => seal_any b none [] 0 V hT (BytesAt.nil _ _))
  generalize sealOf [] = Z at *
  go_enter Try.func5, Try.ntmps5
  go_wp2_with fail
  refine (Crc.new_any _).mono ?_
  rintro e w1 ⟨b, rfl, ht, hb1⟩
  have HT := Lib.hid ht
  clear ht
  go_wp2_with fail
  refine (HS.out b w1 HT.out).mono ?_
  rintro e w2 ⟨X, d, rfl, g1, g2, g3, hb2, _⟩
  have HX := Lib.hid g3
  have q : (((Z.length : Nat) : Int) == 64) = true := by rw [HL.out]; rfl
  clear g3
  go_wp2_with fail
  refine (clear_any X Z d w2 HX.out).mono ?_
  rintro e w3 ⟨rfl, hb3⟩
  rw [HC.out]
  go_wp2_with fail
  refine (zero_any w3).mono ?_
  rintro e w4 ⟨Y, d2, rfl, _, _, g4, hb4, _⟩
  have HY := Lib.hid g4
  clear g4
  go_wp2_with fail
  refine (clear_any Y _ d2 w4 HY.out).mono ?_
  rintro e w5 ⟨rfl, hb5⟩
  rw [HC2.out]
  go_wp2
  go_ret
  exact ⟨rfl, bstep hb1 (bstep hb2 (bstep hb3 (bstep hb4 hb5)))⟩

set_option maxHeartbeats 2000000 in
theorem seals_any (A1 : Option Addr) (a : List UInt8) (c1 : Nat) (A2 : Option Addr) (b : List UInt8) (c2 : Nat) (w : World) (h1 : BytesAt w A1 a) (_k1 : a.length ≤ c1) (m1 : c1 ≤ maxLen) (h2 : BytesAt w A2 b) (k2 : b.length ≤ c2) (m2 : c2 ≤ maxLen) :
    Calls Try.prog 3 #[.slice A1 a.length c1, .slice A2 b.length c2] w fun e w' => e = .returned (.bool true) ∧ Below w.heap.size w w' := by
  have M1 := Lib.hid m1; have M2 := Lib.hid m2
  unfold maxLen at m1 m2
  by_cases hl1 : 100 < a.length
  · go_enter Try.func3, Try.ntmps3
    go_wp2_with fail
    refine (alive_any _).mono ?_
    rintro e w9 ⟨rfl, hb9⟩
    go_wp2
    go_ret
    exact ⟨rfl, hb9⟩
  by_cases hl2 : 100 < b.length
  · go_enter Try.func3, Try.ntmps3
    go_wp2_with fail
    refine (alive_any _).mono ?_
    rintro e w9 ⟨rfl, hb9⟩
    go_wp2
    go_ret
    exact ⟨rfl, hb9⟩
  have HZ0 : Hid (60 < a.length → sealOf a = []) := Lib.hid (fun h => if_neg (by omega))
  have HZ1 : Hid (¬ 60 < a.length → sealOf a = SecM.sec a) := Lib.hid (fun h => if_pos (by omega))
  have HZl : Hid (¬ 60 < a.length → (SecM.sec a).length = 64) := Lib.hid (fun h => SecM.sec_len a (by omega))
  have HZo : Hid (¬ 60 < a.length → SecM.opens (SecM.sec a) = true) := Lib.hid (fun h => SecM.sec_opens a (by omega))
  have HZc : Hid (¬ 60 < a.length → SecM.clear_ (SecM.sec a) = false) := Lib.hid (fun h => SecM.sec_clear a (by omega))
  have HZt : Hid (¬ 60 < a.length → ((SecM.sec a).take 60).take a.length = a) := Lib.hid (fun h => by rw [SecM.sec_take a (by omega), SecM.pad_take])
  have HS := Lib.hid (fun t V (hT : Crc.Tab V t) (h : BytesAt V A1 a) => seal_any t A1 a c1 V hT h)
  have HO : Hid (∀ t X d l V, Crc.Tab V t → BytesAt V X l → Calls Try.prog 8 #[.pointer (some ⟨t, 0, none⟩), .slice X l.length d] V (RetWord V (openOf l) (SecM.opens l))) := Lib.hid (fun t X d l V hT h => open_any t X l d V hT h)
  have HR := Lib.hid (fun V (h : BytesAt V A2 b) => R15.open_any A2 b c2 V h k2 (by omega) M2.out)
  have HRS := Lib.hid (fun V (h : BytesAt V A1 a) (hl : a.length ≤ 60) => R15.seal_any A1 a c1 V h hl)
  have HCl := Lib.hid (fun V (h : BytesAt V A2 b) => clear_any A2 b c2 V h)
  have HRC := Lib.hid (fun V (h : BytesAt V A2 b) => R15.clear_any A2 b c2 V h (by omega))
  have HOO : Hid (R15.openOf b = openOf b) := Lib.hid rfl
  have HOL := Lib.hid (openOf_len b)
  rw [HOO.out] at HR
  have hob : (SecM.opens b != SecM.opens b) = false := by simp
  have hcb : (SecM.clear_ b != SecM.clear_ b) = false := by simp
  have HO1 := Lib.hid (fun t V => HO.out t A2 c2 b V)
  generalize openOf b = O at *
  generalize SecM.opens b = ok at *
  generalize SecM.clear_ b = cl at *
  generalize sealOf a = Z at *
  have hl1' : a.length ≤ 100 := by omega
  go_enter Try.func3, Try.ntmps3
  go_wp2_with fail
  refine (Crc.new_any _).mono ?_
  rintro e w1 ⟨t, rfl, ht, hb1⟩
  have HT := Lib.hid ht; have H1 := Lib.hid (h1.below hb1); have H2 := Lib.hid (h2.below hb1)
  clear ht h1 h2
  go_wp2_with fail
  refine (HS.out t w1 HT.out H1.out).mono ?_
  rintro e w2 ⟨S, d, rfl, gs1, gs2, gs3, hb2, _⟩
  have HT := Lib.hid (HT.out.below hb2); have H1 := Lib.hid (H1.out.below hb2); have H2 := Lib.hid (H2.out.below hb2); have HSB := Lib.hid gs3
  have GS1 := Lib.hid gs1; have GS2 := Lib.hid gs2
  clear gs1 gs2 gs3
  go_wp2_with fail
  refine (HO1.out t w2 HT.out H2.out).mono ?_
  rintro e w3 ⟨X, dx, rfl, _, _, gx, hb3, _⟩
  have HT := Lib.hid (HT.out.below hb3); have H1 := Lib.hid (H1.out.below hb3); have H2 := Lib.hid (H2.out.below hb3); have HSB := Lib.hid (HSB.out.below hb3); have HX := Lib.hid gx
  clear gx
  go_wp2_with fail
  refine (HR.out w3 H2.out).mono ?_
  rintro e w4 ⟨Y, dy, rfl, _, _, gy, hb4⟩
  have HT := Lib.hid (HT.out.below hb4); have H1 := Lib.hid (H1.out.below hb4); have H2 := Lib.hid (H2.out.below hb4); have HSB := Lib.hid (HSB.out.below hb4); have HX := Lib.hid (HX.out.below hb4); have HY := Lib.hid gy
  clear gy
  go_wp2_with fail
  refine (R01.same_eq X Y O O dx dy w4 HX.out HY.out (by have := HOL.out; unfold maxLen; omega) rfl).mono ?_
  rintro e w5 ⟨rfl, hq⟩
  have hb5 := bquiet hq
  have HT := Lib.hid (HT.out.below hb5); have H1 := Lib.hid (H1.out.below hb5); have H2 := Lib.hid (H2.out.below hb5); have HSB := Lib.hid (HSB.out.below hb5)
  clear hq HX HY
  go_wp2_with fail
  refine (HCl.out w5 H2.out).mono ?_
  rintro e w6 ⟨rfl, hb6⟩
  have HT := Lib.hid (HT.out.below hb6); have H1 := Lib.hid (H1.out.below hb6); have H2 := Lib.hid (H2.out.below hb6); have HSB := Lib.hid (HSB.out.below hb6)
  go_wp2_with fail
  refine (HRC.out w6 H2.out).mono ?_
  rintro e w7 ⟨rfl, hb7⟩
  have HT := Lib.hid (HT.out.below hb7); have H1 := Lib.hid (H1.out.below hb7); have HSB := Lib.hid (HSB.out.below hb7)
  have HB := Lib.hid (bstep hb1 (bstep hb2 (bstep hb3 (bstep hb4 (bstep hb5 (bstep hb6 hb7))))))
  clear hb1 hb2 hb3 hb4 hb5 hb6 hb7 H2 HCl HRC HR HS HO1
  by_cases h60 : 60 < a.length
  · have hz := HZ0.out h60
    subst hz
    clear HO HRS
    go_wp2_with fail
    refine (alive_any _).mono ?_
    rintro e w9 ⟨rfl, hb9⟩
    go_wp2
    go_ret
    exact ⟨rfl, bstep HB.out hb9⟩
  have hz := HZ1.out h60
  rw [← hz] at HZl HZo HZc HZt
  have HZ := Lib.hid hz
  have HZl := Lib.hid (HZl.out h60); have HZo := Lib.hid (HZo.out h60); have HZc := Lib.hid (HZc.out h60); have HZt := Lib.hid (HZt.out h60)
  have HO2 := Lib.hid (fun V => HO.out t S d Z V)
  have he : openOf Z = Z.take 60 := by unfold openOf; rw [HZo.out, if_pos rfl]
  have hT6 : (Z.take 60).length = 60 := by rw [List.length_take, HZl.out]; rfl
  rw [he, HZo.out] at HO2
  unfold RetWord at HO2
  rw [hT6] at HO2
  have HT6 := Lib.hid hT6
  have HR2 := Lib.hid (fun V h => HRS.out V h (by omega))
  rw [← hz] at HR2
  have hd64 : 64 ≤ d := by have := GS1.out; rw [HZl.out] at this; exact this
  have HE60 := Lib.hid (show 60 = (Z.take 60).length from hT6.symm)
  clear hz he hT6 HZ0 HZ1 HO HRS HOO HOL
  go_wp2_with fail
  refine (HO2.out w7 HT.out HSB.out).mono ?_
  rintro e w8 ⟨P, dp, rfl, gp1, gp2, gp3, hb8, _⟩
  have H1 := Lib.hid (H1.out.below hb8); have HSB := Lib.hid (HSB.out.below hb8); have HP := Lib.hid gp3
  have HB8 := Lib.hid (bstep HB.out hb8)
  clear gp3 hb8 HB
  have HZm := Lib.hid (show Z.length ≤ maxLen from by rw [HZl.out]; unfold maxLen; omega)
  have ha60 : a.length ≤ 60 := by omega
  go_wp2_with fail
  refine (HR2.out w8 H1.out).mono ?_
  rintro e w9 ⟨Q, dq, rfl, _, _, gq, hb9, _⟩
  have H1 := Lib.hid (H1.out.below hb9); have HSB := Lib.hid (HSB.out.below hb9); have HP := Lib.hid (HP.out.below hb9); have HQ := Lib.hid gq
  have HB9 := Lib.hid (bstep HB8.out hb9)
  clear gq hb9 HB8 HR2 HO2
  go_wp2_with fail
  refine (R01.same_eq S Q Z Z d dq w9 HSB.out HQ.out HZm.out rfl).mono ?_
  rintro e w10 ⟨rfl, hq⟩
  have hb10 := bquiet hq
  have H1 := Lib.hid (H1.out.below hb10); have HSB := Lib.hid (HSB.out.below hb10); have HP := Lib.hid (HP.out.below hb10)
  have HB10 := Lib.hid (bstep HB9.out hb10)
  clear hq hb10 HB9 HQ
  have C1 := Lib.hid (fun V (h1 : BytesAt V P (Z.take 60)) (h2 : BytesAt V S (Z.take 60)) => R01.same_eq P S (Z.take 60) (Z.take 60) dp d V h1 h2 (by rw [HT6.out]; unfold maxLen; omega) rfl)
  rw [HT6.out] at C1
  go_wp2_with fail
  refine (C1.out w10 HP.out (HSB.out.prefix 60)).mono ?_
  rintro e w11 ⟨rfl, hq⟩
  have hb11 := bquiet hq
  have H1 := Lib.hid (H1.out.below hb11); have HSB := Lib.hid (HSB.out.below hb11); have HP := Lib.hid (HP.out.below hb11)
  have HB11 := Lib.hid (bstep HB10.out hb11)
  clear hq hb11 HB10 C1
  have HPA : Hid (BytesAt w11 P a) := Lib.hid (by have := HP.out.prefix a.length; rw [HZt.out] at this; exact this)
  go_wp2_with fail
  refine (R01.same_eq P A1 a a dp c1 w11 HPA.out H1.out (by unfold maxLen; omega) rfl).mono ?_
  rintro e w12 ⟨rfl, hq⟩
  have hb12 := bquiet hq
  have HSB := Lib.hid (HSB.out.below hb12)
  have HB12 := Lib.hid (bstep HB11.out hb12)
  clear hq hb12 HB11 HP HPA
  go_wp2_with fail
  refine (clear_any S Z d w12 HSB.out).mono ?_
  rintro e w13 ⟨rfl, hb13⟩
  rw [HZc.out]
  have HB13 := Lib.hid (bstep HB12.out hb13)
  clear hb13 HB12
  go_wp2_with fail
  refine (alive_any _).mono ?_
  rintro e w14 ⟨rfl, hb14⟩
  go_wp2
  go_ret
  exact ⟨rfl, bstep HB13.out hb14⟩

set_option maxHeartbeats 1000000 in
theorem bursts_any (A1 : Option Addr) (a : List UInt8) (c1 : Nat) (first : Int) (mask : Nat) (w : World) (h1 : BytesAt w A1 a) (hf : -9223372036854775808 ≤ first ∧ first ≤ 9223372036854775807) (hm : mask < 4294967296) :
    Calls Try.prog 4 #[.slice A1 a.length c1, .int .i64 first, .int .u32 (mask : Nat)] w fun e w' => e = .returned (.bool true) ∧ Below w.heap.size w w' := by
  by_cases hl1 : 60 < a.length
  · go_enter Try.func4, Try.ntmps4
    go_wp2_with fail
    refine (alive_any _).mono ?_
    rintro e w9 ⟨rfl, hb9⟩
    go_wp2
    go_ret
    exact ⟨rfl, hb9⟩
  have hz : sealOf a = SecM.sec a := if_pos (by omega)
  have hlen := SecM.sec_len a (by omega)
  have hop : SecM.opens (R05.turnI (SecM.sec a) first mask) = same (R05.turnI (SecM.sec a) first mask) (SecM.sec a) := by
    unfold R05.turnI same
    split
    · rw [SecM.sec_opens a (by omega)]; simp
    · exact SecM.sec_burst a (by omega) _ _
  have HS := Lib.hid (fun t V (hT : Crc.Tab V t) (h : BytesAt V A1 a) => seal_any t A1 a c1 V hT h)
  rw [hz] at HS
  have htl : (R05.turnI (SecM.sec a) first mask).length = 64 := by rw [R05.turnI_len, hlen]
  have HTU := Lib.hid (fun S d V (h : BytesAt V S (SecM.sec a)) => R05.turn_any S (SecM.sec a) d first mask V h (by omega) hf hm)
  have HOP := Lib.hid (fun t X d V (hT : Crc.Tab V t) h => open_any t X (R05.turnI (SecM.sec a) first mask) d V hT h)
  rw [hop] at HOP
  have HSA := Lib.hid (fun X S d e V (hX : BytesAt V X (R05.turnI (SecM.sec a) first mask)) (hS : BytesAt V S (SecM.sec a)) => R01.same_any X S _ _ d e V hX hS (by rw [htl]; unfold maxLen; omega) (by rw [hlen]; unfold maxLen; omega))
  have HL := Lib.hid hlen
  generalize same (R05.turnI (SecM.sec a) first mask) (SecM.sec a) = G at *
  generalize R05.turnI (SecM.sec a) first mask = U at *
  generalize SecM.sec a = Z at *
  have hcg : (G == G) = true := by simp
  clear hop htl hlen hz
  go_enter Try.func4, Try.ntmps4
  go_wp2_with fail
  refine (Crc.new_any _).mono ?_
  rintro e w1 ⟨t, rfl, ht, hb1⟩
  have HT := Lib.hid ht; have H1 := Lib.hid (h1.below hb1)
  clear ht h1
  go_wp2_with fail
  refine (HS.out t w1 HT.out H1.out).mono ?_
  rintro e w2 ⟨S, d, rfl, _, _, gs, hb2, _⟩
  have HT := Lib.hid (HT.out.below hb2); have HSB := Lib.hid gs
  clear gs
  go_wp2_with fail
  refine (HTU.out S d w2 HSB.out).mono ?_
  rintro e w3 ⟨X, f, rfl, _, _, gx, hb3, _⟩
  have HT := Lib.hid (HT.out.below hb3); have HSB := Lib.hid (HSB.out.below hb3); have HX := Lib.hid gx
  clear gx
  go_wp2_with fail
  refine (HOP.out t X f w3 HT.out HX.out).mono ?_
  rintro e w4 ⟨Y, f2, rfl, _, _, _, hb4, _⟩
  have HSB := Lib.hid (HSB.out.below hb4); have HX := Lib.hid (HX.out.below hb4)
  have q : (((Z.length : Nat) : Int) == 64) = true := by rw [HL.out]; rfl
  go_wp2_with fail
  refine (HSA.out X S f d w4 HX.out HSB.out).mono ?_
  rintro e w5 ⟨rfl, hq⟩
  have hb5 := bquiet hq
  clear hq
  go_wp2_with fail
  refine (alive_any _).mono ?_
  rintro e w9 ⟨rfl, hb9⟩
  go_wp2
  go_ret
  exact ⟨rfl, bstep hb1 (bstep hb2 (bstep hb3 (bstep hb4 (bstep hb5 hb9))))⟩
theorem bursts_law (A1 : Option Addr) (a : List UInt8) (c1 : Nat) (first mask : Int) (w : World) (h1 : BytesAt w A1 a) (_k1 : a.length ≤ c1) (_m1 : c1 ≤ maxLen) (hf : -9223372036854775808 ≤ first ∧ first ≤ 9223372036854775807) (hm : 0 ≤ mask ∧ mask ≤ 4294967295) :
    Calls Try.prog 4 #[.slice A1 a.length c1, .int .i64 first, .int .u32 mask] w fun e w' => e = .returned (.bool true) ∧ Below w.heap.size w w' := by
  obtain ⟨n, rfl⟩ := Int.eq_ofNat_of_zero_le hm.1
  exact bursts_any A1 a c1 first n w h1 hf (by omega)
end Go.Proofs.Ytiibdebkihhikaa.Law15
