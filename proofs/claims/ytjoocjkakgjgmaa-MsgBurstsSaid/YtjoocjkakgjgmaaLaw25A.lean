/- the law MsgBursts -/
import Derived.Test.YtjoocjkakgjgmaaLaw25
import Derived.Test.YtjoocjkakgjgmaaR25B
import Derived.Test.YtjoocjkakgjgmaaR05
import Derived.Test.YtjoocjkakgjgmaaR01
set_option maxRecDepth 100000
set_option maxHeartbeats 20000000
namespace Go.Proofs.Ytjoocjkakgjgmaa.Law25
open Go.RowKit MsgM Msg

theorem burst_e (m : Ms) (hm : m.May) (first : Int) (mask : Nat) : (getE (R05.turnI m.put first mask) = 0 ∧ R05.turnI m.put first mask = m.put) ∨ (getE (R05.turnI m.put first mask) = 4 ∧ R05.turnI m.put first mask ≠ m.put) := by
  have hg : CrcM.good (R05.turnI m.put first mask) = decide (R05.turnI m.put first mask = m.put) := by
    unfold R05.turnI
    split
    · rw [put_good]; simp
    · exact CrcM.burst_turn m.text _ _
  by_cases h : R05.turnI m.put first mask = m.put
  · exact .inl ⟨by rw [h]; exact (get_put hm).2, h⟩
  · rw [decide_eq_false h] at hg
    exact .inr ⟨(get_sum hg).2, h⟩
theorem bursts_any (x : Mv) (first : Int) (mask : Nat) (w : World) (hf : Fits x.m) (hx : Lies w x) (hfi : -9223372036854775808 ≤ first ∧ first ≤ 9223372036854775807) (hma : mask < 4294967296) :
    Calls Try.prog 5 #[.agg #[.int .i64 x.m.K, .int .i64 x.m.F, .int .i64 x.m.T, .int .i64 x.m.B, .string x.m.s, .int .i64 x.m.A, .int .i64 x.m.E, .int .i64 x.m.M, .int .i64 x.m.S, .int .i64 x.m.W, .slice x.P x.m.who.length x.p, .slice x.Q x.m.names.length x.q, .slice x.D x.m.data.length x.d], .int .i64 first, .int .u32 (mask : Nat)] w fun e w' => e = .returned (.bool true) ∧ Below w.heap.size w w' := by
  have CF := Lib.hid (fun W h => R25.far_any x hf W h)
  have CAL := Lib.hid (fun W => alive_any W)
  have HX := Lib.hid hx
  have HR0 : Hid (MsB (w.alloc (.cells #[.int .i64 x.m.K, .int .i64 x.m.F, .int .i64 x.m.T, .int .i64 x.m.B, .string x.m.s, .int .i64 x.m.A, .int .i64 x.m.E, .int .i64 x.m.M, .int .i64 x.m.S, .int .i64 x.m.W, .slice x.P x.m.who.length x.p, .slice x.Q x.m.names.length x.q, .slice x.D x.m.data.length x.d] 26)) w.heap.size x) := Lib.hid (MsB.new w x)
  have HB0 := Lib.hid (balloc w (.cells #[.int .i64 x.m.K, .int .i64 x.m.F, .int .i64 x.m.T, .int .i64 x.m.B, .string x.m.s, .int .i64 x.m.A, .int .i64 x.m.E, .int .i64 x.m.M, .int .i64 x.m.S, .int .i64 x.m.W, .slice x.P x.m.who.length x.p, .slice x.Q x.m.names.length x.q, .slice x.D x.m.data.length x.d] 26))
  have CRR := Lib.hid (fun W h hl => R25.right_any x hf W h hl)
  have CP := Lib.hid (fun t W ht h => put_any t x hf W ht h)
  have HFS : Hid (R25.farM x.m = false → x.m.who.length ≤ 1048576) := Lib.hid fun h => by have := R25.far_small h; omega
  have HMY : Hid (x.m.right = true → x.m.May) := Lib.hid (right_iff _).1
  clear hf hx
  go_enter Try.func5, Try.ntmps5
  go_wp2_with ((with_reducible show wpList _ _ _ (_ :: _) _ _); refine wpList_load_ms rfl _ rfl w.heap.size rfl x HR0.out ?_)
  obtain ⟨p, hp⟩ : ∃ p, p = w.heap.size := ⟨_, rfl⟩
  rw [← hp] at HR0 ⊢
  clear hp
  obtain ⟨w0, hw0⟩ : ∃ w0, w0 = w.alloc (.cells #[.int .i64 x.m.K, .int .i64 x.m.F, .int .i64 x.m.T, .int .i64 x.m.B, .string x.m.s, .int .i64 x.m.A, .int .i64 x.m.E, .int .i64 x.m.M, .int .i64 x.m.S, .int .i64 x.m.W, .slice x.P x.m.who.length x.p, .slice x.Q x.m.names.length x.q, .slice x.D x.m.data.length x.d] 26) := ⟨_, rfl⟩
  rw [← hw0] at HR0 HB0 ⊢
  clear hw0
  refine (CF.out w0 (HX.out.below HB0.out)).mono ?_
  rintro e w1 ⟨rfl, hb⟩
  have HR1 := Lib.hid (HR0.out.below hb)
  have HB1 := Lib.hid (bstep HB0.out hb)
  clear hb HR0 HB0 CF
  rcases hfar : R25.farM x.m with _ | _
  rotate_left
  · clear hfar HFS HMY CRR CP HX HR1
    go_wp2_with fail
    refine (CAL.out _).mono ?_
    rintro e w2 ⟨rfl, hb⟩
    have HB2 := Lib.hid (bstep HB1.out hb)
    clear hb CAL
    go_wp2
    go_ret
    exact ⟨rfl, HB2.out⟩
  have hwl := HFS.out hfar
  have C := Lib.hid (CRR.out w1 (HX.out.below HB1.out) hwl)
  clear hfar HFS hwl CRR
  go_wp2_with ((with_reducible show wpList _ _ _ (_ :: _) _ _); refine wpList_load_msw rfl _ rfl p rfl x HR1.out ?_)
  refine C.out.mono ?_
  rintro e w2 ⟨rfl, hb⟩
  have HR2 := Lib.hid (HR1.out.below hb)
  have HB2 := Lib.hid (bstep HB1.out hb)
  clear hb HR1 HB1 C
  rcases hri : x.m.right with _ | _
  · clear hri HMY CP HX HR2
    go_wp2_with fail
    refine (CAL.out _).mono ?_
    rintro e w3 ⟨rfl, hb⟩
    have HB3 := Lib.hid (bstep HB2.out hb)
    clear hb CAL
    go_wp2
    go_ret
    exact ⟨rfl, HB3.out⟩
  have hm := HMY.out hri
  rw [putV_may hm, putE_may hm] at CP
  have hbe := burst_e x.m hm first mask
  have hpl : x.m.put.length = x.m.text.length + 4 := CrcM.seal_len _
  have htl := text_len hm
  have hlen : 0 < x.m.put.length ∧ x.m.put.length ≤ 1048576 := by omega
  have CT := Lib.hid (fun W X d h => R05.turn_any X x.m.put d first mask W h (by omega) hfi hma)
  have CG := Lib.hid (fun t A c W ht h h1 h2 => get_any t A (R05.turnI x.m.put first mask) c W ht h h1 h2 (by rw [R05.turnI_len]; omega))
  have hTL : (R05.turnI x.m.put first mask).length = x.m.put.length := R05.turnI_len _ _ _
  unfold RetGot at CG
  clear hri HMY hm hpl htl hfi hma
  generalize getV (R05.turnI x.m.put first mask) = GV at *
  generalize getE (R05.turnI x.m.put first mask) = GE at *
  obtain ⟨TB, hTB⟩ : ∃ TB, TB = R05.turnI x.m.put first mask := ⟨_, rfl⟩
  rw [← hTB] at CT CG hTL hbe
  clear hTB
  obtain ⟨PB, hPB⟩ : ∃ PB, PB = x.m.put := ⟨_, rfl⟩
  rw [← hPB] at CT CP hTL hbe hlen
  clear hPB
  have CS := Lib.hid (fun W X Y c d h k (m1 : TB.length ≤ maxLen) (m2 : PB.length ≤ maxLen) => R01.same_any X Y TB PB c d W h k m1 m2)
  have HLE := Lib.hid hlen; have HTL := Lib.hid hTL; have HBE := Lib.hid hbe
  clear hlen hTL hbe
  go_wp2_with fail
  refine (Crc.new_any w2).mono ?_
  rintro e w3 ⟨t, rfl, ht, hb⟩
  have HT := Lib.hid ht
  have HR3 := Lib.hid (HR2.out.below hb)
  have HB3 := Lib.hid (bstep HB2.out hb)
  clear ht hb HR2 HB2
  go_wp2_with ((with_reducible show wpList _ _ _ (_ :: _) _ _); refine wpList_load_ms rfl _ rfl p rfl x HR3.out ?_)
  refine (CP.out t w3 HT.out (HX.out.below HB3.out)).mono ?_
  rintro e w4 ⟨X, d, rfl, x1, x2, x3, hb, -⟩
  have HXX := Lib.hid x3
  have HT4 := Lib.hid (HT.out.below hb)
  have HB4 := Lib.hid (bstep HB3.out hb)
  have HX1 := Lib.hid (And.intro x1 x2)
  clear x1 x2 x3 hb HT HR3 HB3 CP HX
  have C := Lib.hid (CT.out w4 X d HXX.out)
  have hlen := HLE.out
  obtain ⟨pn, hpn⟩ : ∃ pn, pn = PB.length := ⟨_, rfl⟩
  have HPN := Lib.hid hpn
  rw [← hpn] at C hlen ⊢
  clear hpn
  go_wp2_with fail
  refine C.out.mono ?_
  rintro e w5 ⟨Y, c, rfl, y1, y2, y3, hb, -⟩
  have HYY := Lib.hid y3
  have HXX5 := Lib.hid (HXX.out.below hb)
  have HT5 := Lib.hid (HT4.out.below hb)
  have HB5 := Lib.hid (bstep HB4.out hb)
  have C2 := Lib.hid (CG.out t Y c w5 HT5.out HYY.out y1 y2)
  have HY1 := Lib.hid (And.intro y1 y2)
  clear y1 y2 y3 hb C HXX HT4 HB4 CT CG
  obtain ⟨tn, htn⟩ : ∃ tn, tn = TB.length := ⟨_, rfl⟩
  have HTN := Lib.hid htn
  rw [← htn] at C2 ⊢
  clear htn
  go_wp2_with fail
  refine C2.out.mono ?_
  rintro e w6 ⟨y, hy, rfl, hl, hb⟩
  have HXX6 := Lib.hid (HXX5.out.below hb)
  have HYY6 := Lib.hid (HYY.out.below hb)
  have HB6 := Lib.hid (bstep HB5.out hb)
  have HN0 : Hid (MsB (w6.alloc (.cells #[.int .i64 0, .int .i64 0, .int .i64 0, .int .i64 0, .string ⟨#[]⟩, .int .i64 0, .int .i64 0, .int .i64 0, .int .i64 0, .int .i64 0, .slice none 0 0, .slice none 0 0, .slice none 0 0] 26)) w6.heap.size mv0) := Lib.hid (MsB.new w6 mv0)
  have HBN := Lib.hid (balloc w6 (.cells #[.int .i64 0, .int .i64 0, .int .i64 0, .int .i64 0, .string ⟨#[]⟩, .int .i64 0, .int .i64 0, .int .i64 0, .int .i64 0, .int .i64 0, .slice none 0 0, .slice none 0 0, .slice none 0 0] 26))
  clear hy hl hb HXX5 HYY HT5 HB5 C2
  rcases HBE.out with ⟨rfl, hq⟩ | ⟨rfl, hq⟩
  · have hsame : same TB PB = true := by rw [hq]; exact same_self _
    have hp0 : (pn : Int) > 0 := by omega
    clear HBE
    go_wp2_with ((with_reducible show wpList _ _ _ (_ :: _) _ _); refine wpList_store_ms rfl _ _ rfl w6.heap.size y rfl rfl mv0 HN0.out ?_; intro w7 hr7 hk7; have HK7 := Lib.hid hk7; clear hr7 hk7)
    have HB7 : Hid (Below w.heap.size w w7) := Lib.hid (below_keeps (bstep HB6.out HBN.out) HK7.out (fun i e => by have := HB6.out.size; omega) (bstep HB6.out HBN.out).size)
    have HXX7 : Hid (BytesAt w7 X PB) := Lib.hid (HK7.out.bytes' (HXX6.out.below HBN.out) (fun h0 a e h => by have := HXX6.out.lt h0 a e; omega))
    have HYY7 : Hid (BytesAt w7 Y TB) := Lib.hid (HK7.out.bytes' (HYY6.out.below HBN.out) (fun h0 a e h => by have := HYY6.out.lt h0 a e; omega))
    have C3 := Lib.hid (CS.out w7 Y X c d HYY7.out HXX7.out (Nat.le_trans HY1.out.1 HY1.out.2) (Nat.le_trans HX1.out.1 HX1.out.2))
    rw [hsame, ← HTN.out, ← HPN.out] at C3
    clear hsame hq HK7 HN0 HBN HB6 HXX6 HYY6
    refine C3.out.mono ?_
    rintro e w8 ⟨rfl, hq⟩
    have HB8 := Lib.hid (bstep HB7.out (bquiet hq))
    clear hq C3 HB7 HXX7 HYY7
    go_wp2_with fail
    refine (CAL.out _).mono ?_
    rintro e w9 ⟨rfl, hb⟩
    have HB9 := Lib.hid (bstep HB8.out hb)
    clear hb CAL
    go_wp2
    go_ret
    exact ⟨rfl, HB9.out⟩
  · have hsame : same TB PB = false := decide_eq_false hq
    have hp0 : (pn : Int) > 0 := by omega
    clear HBE
    go_wp2_with ((with_reducible show wpList _ _ _ (_ :: _) _ _); refine wpList_store_ms rfl _ _ rfl w6.heap.size y rfl rfl mv0 HN0.out ?_; intro w7 hr7 hk7; have HK7 := Lib.hid hk7; clear hr7 hk7)
    have HB7 : Hid (Below w.heap.size w w7) := Lib.hid (below_keeps (bstep HB6.out HBN.out) HK7.out (fun i e => by have := HB6.out.size; omega) (bstep HB6.out HBN.out).size)
    have HXX7 : Hid (BytesAt w7 X PB) := Lib.hid (HK7.out.bytes' (HXX6.out.below HBN.out) (fun h0 a e h => by have := HXX6.out.lt h0 a e; omega))
    have HYY7 : Hid (BytesAt w7 Y TB) := Lib.hid (HK7.out.bytes' (HYY6.out.below HBN.out) (fun h0 a e h => by have := HYY6.out.lt h0 a e; omega))
    have C3 := Lib.hid (CS.out w7 Y X c d HYY7.out HXX7.out (Nat.le_trans HY1.out.1 HY1.out.2) (Nat.le_trans HX1.out.1 HX1.out.2))
    rw [hsame, ← HTN.out, ← HPN.out] at C3
    clear hsame hq HK7 HN0 HBN HB6 HXX6 HYY6
    refine C3.out.mono ?_
    rintro e w8 ⟨rfl, hq⟩
    have HB8 := Lib.hid (bstep HB7.out (bquiet hq))
    clear hq C3 HB7 HXX7 HYY7
    go_wp2_with fail
    refine (CAL.out _).mono ?_
    rintro e w9 ⟨rfl, hb⟩
    have HB9 := Lib.hid (bstep HB8.out hb)
    clear hb CAL
    go_wp2
    go_ret
    exact ⟨rfl, HB9.out⟩
theorem bursts_law (x : Mv) (first mask : Int) (w : World) (hf : Fits x.m) (hx : Lies w x) (hfi : -9223372036854775808 ≤ first ∧ first ≤ 9223372036854775807) (hma : 0 ≤ mask ∧ mask ≤ 4294967295) :
    Calls Try.prog 5 #[.agg #[.int .i64 x.m.K, .int .i64 x.m.F, .int .i64 x.m.T, .int .i64 x.m.B, .string x.m.s, .int .i64 x.m.A, .int .i64 x.m.E, .int .i64 x.m.M, .int .i64 x.m.S, .int .i64 x.m.W, .slice x.P x.m.who.length x.p, .slice x.Q x.m.names.length x.q, .slice x.D x.m.data.length x.d], .int .i64 first, .int .u32 mask] w fun e w' => e = .returned (.bool true) ∧ Below w.heap.size w w' := by
  obtain ⟨m, rfl⟩ : ∃ m : Nat, mask = m := ⟨mask.toNat, by omega⟩
  exact bursts_any x first m w hf hx hfi (by omega)
end Go.Proofs.Ytjoocjkakgjgmaa.Law25
