/- the walks of layer 4's laws -/
import Derived.Test.YtmkadcnommoihaaMatrix
import Derived.Test.YtmkadcnommoihaaR04
import Derived.Test.YtmkadcnommoihaaR03
import Derived.Test.YtmkadcnommoihaaLagr
import Derived.Test.YtmkadcnommoihaaOpenM
namespace Go.Proofs.Ytmkadcnommoihaa.Law04
open Go.RowKit

theorem few_any (A : Option Addr) (m : List (List UInt8)) (c : Nat) (w : World) (h : RowsAt w A m) (hl : m.length ≤ 9223372036854775807) :
    Calls Try.prog 6 #[.slice A m.length c] w fun e w' => e = .returned (.bool (MatM.fewB m)) ∧ w = w' := by
  go_enter Try.func6, Try.ntmps6
  go_wp2
  go_loop [7] (fun i => ∃ k : Nat, k ≤ m.length ∧ i = .int .i64 k ∧ ∀ j, (h : j < m.length) → j < k → m[j].length ≤ 8)
    (fun i => m.length - (intOf i).toNat)
  case atStart => exact ⟨0, Nat.zero_le _, rfl, fun j _ h => by omega⟩
  case round =>
    obtain ⟨k, hk, rfl, hw⟩ := hrel
    by_cases hlt : k < m.length
    · obtain ⟨b, o, B, cb, hA, e1, hc1, hc2, _⟩ := h.row hlt
      subst hA
      have hl1 : m[k].length ≤ 9223372036854775807 := by unfold maxLen at hc2; omega
      have g1 : m[k].length ≤ 8 → ∀ j, (h : j < m.length) → j < k + 1 → m[j].length ≤ 8 := fun hx j hj hjk => by
        by_cases e : j = k
        · subst e; exact hx
        · exact hw j hj (by omega)
      have g2 : ¬ m[k].length ≤ 8 → MatM.fewB m = false := fun hx => by
        rcases hb : MatM.fewB m with _ | _
        · rfl
        · exact absurd (((MatM.fewB_iff m).1 hb).1 k hlt) hx
      have G1 := Lib.hid g1; have G2 := Lib.hid g2
      clear g1 g2 hw h
      generalize m[k].length = x at *
      by_cases hx : 8 < x
      · have hf := G2.out (by omega)
        have HF := Lib.hid hf
        clear hf
        go_wp2
        go_ret
        exact ⟨ret_bool HF.out.symm, rfl⟩
      · have hf := G1.out (by omega)
        have HF := Lib.hid hf
        clear hf
        go_wp2
        go_round
        case rel => exact ⟨k + 1, by omega, by go_num, HF.out⟩
        case measure => simp [intOf] <;> omega
    · obtain rfl : k = m.length := by omega
      have hf : MatM.fewB m = decide ((m.length : Int) ≤ 8) := by
        rw [Bool.eq_iff_iff, MatM.fewB_iff, decide_eq_true_eq]
        constructor
        · rintro ⟨_, h2⟩; omega
        · intro h2; exact ⟨fun i hi => hw i hi hi, by omega⟩
      have HF := Lib.hid hf
      clear hf hw
      go_wp2
      go_ret
      exact ⟨ret_bool HF.out.symm, rfl⟩

theorem exL_ok : MatM.invOk [[1, 1], [0, 1]] = true := by decide +kernel
theorem exL_sq : MatM.Sq [[1, 1], [0, 1]] 2 := ⟨rfl, by decide⟩
theorem exL_undo : MatM.Undo 2 (MatM.mat [[1, 1], [0, 1]]) (MatM.mat [[1, 1], [0, 1]]) := by
  have e : ∀ i j, i < 2 → j < 2 → MatM.mm 2 (MatM.mat [[1, 1], [0, 1]]) (MatM.mat [[1, 1], [0, 1]]) i j = MatM.one i j := by
    intro i j hi hj
    have hi : i = 0 ∨ i = 1 := by omega
    have hj : j = 0 ∨ j = 1 := by omega
    rcases hi with rfl | rfl <;> rcases hj with rfl | rfl <;> decide +kernel
  exact ⟨e, e⟩
/-- the document's example, as a literal lays it -/
def exW (w : World) : World := ((w.alloc (.cells (cells [1, 1]) 5)).alloc (.cells (cells [0, 1]) 5)).alloc (.cells #[.slice (some ⟨w.heap.size, 0, none⟩) 2 2, .slice (some ⟨w.heap.size + 1, 0, none⟩) 2 2] 23)
theorem exW_below (w : World) : Below w.heap.size w (exW w) := bstep (balloc _ _) (bstep (balloc _ _) (balloc _ _))
theorem exW_rows (w : World) : RowsAt (exW w) (some ⟨w.heap.size + 2, 0, none⟩) [[1, 1], [0, 1]] := by
  have r0 : Row (exW w) w.heap.size [1, 1] := ((Row.new w [1, 1]).alloc _).alloc _
  have r1 : Row (exW w) (w.heap.size + 1) [0, 1] := by
    have := (Row.new (w.alloc (.cells (cells [1, 1]) 5)) [0, 1]).alloc (.cells #[.slice (some ⟨w.heap.size, 0, none⟩) 2 2, .slice (some ⟨w.heap.size + 1, 0, none⟩) 2 2] 23)
    rw [show (w.alloc (.cells (cells [1, 1]) 5)).heap.size = w.heap.size + 1 from by simp] at this
    exact this
  have c : ∀ i : Nat, (exW w).cell? ⟨w.heap.size + 2, i, none⟩ = (#[.slice (some ⟨w.heap.size, 0, none⟩) 2 2, .slice (some ⟨w.heap.size + 1, 0, none⟩) 2 2] : Array Value)[i]? := fun i => by
    unfold exW; rw [World.cell?_alloc_at _ _ _ _ (by simp)]
  intro i hi
  match i, hi with
  | 0, _ => exact ⟨w.heap.size + 2, 0, .slice (some ⟨w.heap.size, 0, none⟩) 2 2, rfl, c 0, some ⟨w.heap.size, 0, none⟩, 2, rfl, Nat.le_refl _, by unfold maxLen; omega, r0.bytes⟩
  | 1, _ => exact ⟨w.heap.size + 2, 0, .slice (some ⟨w.heap.size + 1, 0, none⟩) 2 2, rfl, c 1, some ⟨w.heap.size + 1, 0, none⟩, 2, rfl, Nat.le_refl _, by unfold maxLen; omega, r1.bytes⟩
theorem alive_any (w : World) : Calls Try.prog 7 #[] w fun e w' => e = .returned (.bool true) ∧ Below w.heap.size w w' := by
  go_enter Try.func7, Try.ntmps7
  go_wp2_with fail
  refine (Gf.new_any _).mono ?_
  rintro e w1 ⟨rfl, ht, hb1, hs1⟩
  have hb1' : Below (exW w).heap.size (exW w) w1 := hb1
  have hr1 : RowsAt w1 (some ⟨w.heap.size + 1 + 1, 0, none⟩) [[1, 1], [0, 1]] := (exW_rows w).below hb1'
  have ht : Gf.Tab w1 (w.heap.size + 1 + 1 + 1) := by
    have e : (exW w).heap.size = w.heap.size + 1 + 1 + 1 := by simp [exW]
    rw [← e]; exact ht
  have hbw1 := bstep (exW_below w) hb1'
  clear hb1 hb1'
  go_wp2_with fail
  refine (Matrix.inverse_any (w.heap.size + 1 + 1 + 1) (some ⟨w.heap.size + 1 + 1, 0, none⟩) [[1, 1], [0, 1]] 2 w1 ht hr1 (by decide)).mono ?_
  rintro e w2 ⟨B, c, b, rfl, hB, hb2, hyes, _⟩
  obtain ⟨hsq, hu⟩ := hyes exL_ok
  obtain rfl : b = [[1, 1], [0, 1]] := hsq.ext exL_sq (MatM.undo_unique hu exL_undo)
  have hr2 := hr1.below hb2
  have q := exL_ok
  rw [q]
  clear hsq hu q hyes
  go_wp2_with fail
  have C := R04.same_any (some ⟨w.heap.size + 1 + 1, 0, none⟩) B [[1, 1], [0, 1]] [[1, 1], [0, 1]] 2 c w2 hr2 hB (by decide) (by decide)
  rw [R04.sameM_self] at C
  refine C.mono ?_
  clear C
  rintro e w3 ⟨rfl, hq⟩
  have hb3 := bquiet hq
  clear hq
  go_wp2_with fail
  refine (Matrix.unit_any 3 w3 (by omega)).mono ?_
  rintro e w4 ⟨D, d, rfl, _, _, _, hb4, _⟩
  have q : (MatM.unitL 3).length = 3 := MatM.unitL_len 3
  rw [q]
  clear q
  go_wp2
  go_ret
  exact ⟨rfl, bstep hbw1 (bstep hb2 (bstep hb3 hb4))⟩

/-! MatrixMuls -/
theorem allW_succ (m : List (List UInt8)) (n k : Nat) (h : k < m.length) : MatM.allW (m.take (k + 1)) n = (MatM.allW (m.take k) n && (m[k].length == n)) := by
  unfold MatM.allW
  rw [List.take_succ_eq_append_getElem h, List.all_append]
  simp

theorem muls_few (A1 : Option Addr) (a : List (List UInt8)) (c1 : Nat) (A2 : Option Addr) (b : List (List UInt8)) (c2 : Nat) (A3 : Option Addr) (v : List UInt8) (c3 : Nat) (w : World) (h1 : RowsAt w A1 a) (h2 : RowsAt w A2 b) (hl1 : a.length ≤ 9223372036854775807) (hl2 : b.length ≤ 9223372036854775807) (hl3 : v.length ≤ 9223372036854775807)
    (hx : MatM.fewB a = false ∨ (MatM.fewB a = true ∧ MatM.fewB b = false) ∨ (MatM.fewB a = true ∧ MatM.fewB b = true ∧ 8 < v.length)) :
    Calls Try.prog 3 #[.slice A1 a.length c1, .slice A2 b.length c2, .slice A3 v.length c3] w fun e w' => e = .returned (.bool true) ∧ Below w.heap.size w w' := by
  rcases hx with hx | ⟨hx, hy⟩ | ⟨hx, hy, hz⟩
  · have HX := Lib.hid hx
    clear hx
    go_enter Try.func3, Try.ntmps3
    go_wp2_with fail
    have C := few_any A1 a c1 w h1 hl1
    rw [HX.out] at C
    refine C.mono ?_
    clear C
    rintro e w' ⟨rfl, rfl⟩
    go_wp2_with fail
    refine (alive_any _).mono ?_
    rintro e w9 ⟨rfl, hb9⟩
    go_wp2
    go_ret
    exact ⟨rfl, hb9⟩
  · have HX := Lib.hid hx; have HY := Lib.hid hy
    clear hx hy
    go_enter Try.func3, Try.ntmps3
    go_wp2_with fail
    have C := few_any A1 a c1 w h1 hl1
    rw [HX.out] at C
    refine C.mono ?_
    clear C
    rintro e w' ⟨rfl, rfl⟩
    go_wp2_with fail
    have C := few_any A2 b c2 w h2 hl2
    rw [HY.out] at C
    refine C.mono ?_
    clear C
    rintro e w' ⟨rfl, rfl⟩
    go_wp2_with fail
    refine (alive_any _).mono ?_
    rintro e w9 ⟨rfl, hb9⟩
    go_wp2
    go_ret
    exact ⟨rfl, hb9⟩
  · have HX := Lib.hid hx; have HY := Lib.hid hy
    clear hx hy
    go_enter Try.func3, Try.ntmps3
    go_wp2_with fail
    have C := few_any A1 a c1 w h1 hl1
    rw [HX.out] at C
    refine C.mono ?_
    clear C
    rintro e w' ⟨rfl, rfl⟩
    go_wp2_with fail
    have C := few_any A2 b c2 w h2 hl2
    rw [HY.out] at C
    refine C.mono ?_
    clear C
    rintro e w' ⟨rfl, rfl⟩
    go_wp2_with fail
    refine (alive_any _).mono ?_
    rintro e w9 ⟨rfl, hb9⟩
    go_wp2
    go_ret
    exact ⟨rfl, hb9⟩

set_option maxHeartbeats 4000000 in
set_option maxRecDepth 100000 in
theorem muls_no (A1 : Option Addr) (a : List (List UInt8)) (c1 : Nat) (A2 : Option Addr) (b : List (List UInt8)) (c2 : Nat) (A3 : Option Addr) (v : List UInt8) (c3 : Nat) (w : World) (h1 : RowsAt w A1 a) (h2 : RowsAt w A2 b) (h3 : BytesAt w A3 v) (fa : MatM.fewB a = true) (fb : MatM.fewB b = true) (hl3 : v.length ≤ 8) (hfit : MatM.allW a v.length = false) :
    Calls Try.prog 3 #[.slice A1 a.length c1, .slice A2 b.length c2, .slice A3 v.length c3] w fun e w' => e = .returned (.bool true) ∧ Below w.heap.size w w' := by
  have hl1 := ((MatM.fewB_iff a).1 fa).2
  have hl2 := ((MatM.fewB_iff b).1 fb).2
  have hwb := MatM.fewB_wd fb
  have hwa := MatM.fewB_wd fa
  have HX := Lib.hid fa; have HY := Lib.hid fb; have HF := Lib.hid hfit
  clear fa fb hfit
  go_enter Try.func3, Try.ntmps3
  go_wp2_with fail
  have C := few_any A1 a c1 w h1 (by omega)
  rw [HX.out] at C
  refine C.mono ?_
  clear C
  rintro e w' ⟨rfl, rfl⟩
  rename World => w0
  go_wp2_with fail
  have C := few_any A2 b c2 w0 h2 (by omega)
  rw [HY.out] at C
  refine C.mono ?_
  clear C
  rintro e w' ⟨rfl, rfl⟩
  rename World => w0
  go_wp2_with fail
  refine (Gf.new_any _).mono ?_
  rintro e w1 ⟨rfl, ht, hb1, _⟩
  have HA := Lib.hid (h1.below hb1); have HB := Lib.hid (h2.below hb1); have HV := Lib.hid (h3.below hb1); have HT := Lib.hid ht
  clear h1 h2 h3 ht
  go_wp2_with fail
  refine (Matrix.mul_any w0.heap.size A1 A2 a b c1 c2 w1 HT.out HA.out HB.out (by omega) (by omega) (by omega)).mono ?_
  rintro e w2 ⟨M, d2, rfl, hM, hb2⟩
  have HA := Lib.hid (HA.out.below hb2); have HB := Lib.hid (HB.out.below hb2); have HV := Lib.hid (HV.out.below hb2); have HT := Lib.hid (HT.out.below hb2); have HM := Lib.hid hM
  clear hM
  go_wp2_with fail
  refine (R04.mul_post A1 A2 a b c1 c2 w2 HA.out HB.out (by omega) (by omega) (by omega)).mono ?_
  rintro e w3 ⟨N, d3, rfl, hN, hb3⟩
  have HA := Lib.hid (HA.out.below hb3); have HV := Lib.hid (HV.out.below hb3); have HT := Lib.hid (HT.out.below hb3); have HM := Lib.hid (HM.out.below hb3); have HN := Lib.hid hN
  clear hN
  go_wp2_with fail
  have C := Matrix.apply_any w0.heap.size A1 A3 a v c1 c3 w3 HT.out HA.out HV.out (by omega) (by omega)
  unfold ApplyPost at C
  rw [HF.out] at C
  refine C.mono ?_
  clear C
  rintro e w4 ⟨X, d4, rfl, hXB, hb4⟩
  have HA := Lib.hid (HA.out.below hb4); have HV := Lib.hid (HV.out.below hb4); have HT := Lib.hid (HT.out.below hb4); have HM := Lib.hid (HM.out.below hb4); have HN := Lib.hid (HN.out.below hb4); have HXB := Lib.hid hXB
  clear hXB
  have hml : (MatM.mulV a b).length ≤ 8 := by unfold MatM.mulV; split <;> simp [MatM.mulL_len] <;> omega
  have hxl := MatM.applyV_len a v
  rw [HF.out] at hxl
  have HXL := Lib.hid hxl
  clear hxl
  obtain ⟨OK, hOK⟩ : ∃ x, x = MatM.mulOk a b := ⟨_, rfl⟩
  rw [← hOK]
  have qok : (OK != OK) = false := by cases OK <;> rfl
  clear hOK
  go_wp2_with fail
  have C := R04.same_any M N _ _ d2 d3 w4 HM.out HN.out (by omega) (by omega)
  rw [R04.sameM_self] at C
  refine C.mono ?_
  clear C
  rintro e w5 ⟨rfl, hq⟩
  have hb5 := bquiet hq
  clear hq HM HN qok
  have HA := Lib.hid (HA.out.below hb5); have HV := Lib.hid (HV.out.below hb5); have HT := Lib.hid (HT.out.below hb5); have HXB := Lib.hid (HXB.out.below hb5)
  have hxlen := HXL.out
  rw [if_neg (by simp)] at hxlen
  rw [hxlen]
  clear hxlen HXL HXB
  go_wp2_with fail
  go_loopw [14, 66] (fun q i wr => ∃ k n : Nat, k ≤ a.length ∧ i = .int .i64 k ∧ q = .bool (MatM.allW (a.take k) v.length) ∧ wr = w5.drewN n)
    (fun _ i _ => a.length - (intOf i).toNat)
  case atStart => exact ⟨0, 0, Nat.zero_le _, rfl, rfl, rfl⟩
  case round =>
    obtain ⟨k, n, hk, rfl, rfl, hwr⟩ := hrel
    rename World => w6
    have HW := Lib.hid hwr
    have HA := Lib.hid (show RowsAt w6 A1 a by rw [hwr]; exact HA.out.drewN n)
    have HT := Lib.hid (show Gf.Tab w6 w0.heap.size by rw [hwr]; exact HT.out.drewN n)
    clear hwr HV
    by_cases hlt : k < a.length
    · obtain ⟨b1, o1, B1, e1, hA, f1, _, _, p1⟩ := HA.out.row hlt
      subst hA
      have hs := allW_succ a v.length k hlt
      have HS := Lib.hid hs
      clear hs p1
      have hlx : a[k].length ≤ 8 := ((MatM.fewB_iff a).1 HX.out).1 k hlt
      generalize MatM.allW (a.take k) v.length = V at *
      by_cases hx : a[k].length = v.length
      all_goals
        first
          | (have q1 : ((a[k].length : Int) == (v.length : Int)) = true := by simp [hx])
          | (have q1 : ((a[k].length : Int) == (v.length : Int)) = false := by rw [beq_eq_false_iff_ne]; omega)
        first
          | (have q2 : (a[k].length == v.length) = true := by simp [hx])
          | (have q2 : (a[k].length == v.length) = false := by rw [beq_eq_false_iff_ne]; exact hx)
        have Q2 := Lib.hid q2
        clear q2 hx
        generalize a[k].length = x at *
        cases V
        all_goals
          go_wp2
          go_quiet (fail)
          go_wp2
          go_roundw
          case rel => exact ⟨k + 1, n + nq, by omega, by go_num, by rw [HS.out, Q2.out]; rfl, by rw [HW.out, World.drewN_drewN]⟩
          case measure => simp [intOf] <;> omega
    · obtain rfl : k = a.length := by omega
      have hb6 : Below w5.heap.size w5 w6 := bquiet ⟨n, HW.out⟩
      rw [List.take_length, HF.out]
      clear HW hlt
      rcases hW : MatM.allW a (MatM.wd a) with _ | _
      · have hwd := MatM.width_bad hW
        have HWD := Lib.hid hwd
        clear hW hwd
        go_wp2_with fail
        have C := R04.width_any A1 a c1 _ HA.out (by omega)
        rw [HWD.out] at C
        refine C.mono ?_
        clear C
        rintro e y1 ⟨rfl, hq⟩
        have hc1 := bquiet hq
        clear hq
        have HA := Lib.hid (HA.out.below hc1); have HT := Lib.hid (HT.out.below hc1)
        go_wp2_with fail
        refine (Matrix.unit_any v.length _ (by omega)).mono ?_
        rintro e z1 ⟨U1, f1, rfl, _, _, hU1, hd1, _⟩
        go_wp2_with fail
        refine (R04.unit_any v.length z1 (by omega)).mono ?_
        rintro e z2 ⟨U2, f2, rfl, _, _, hU2, hd2, _⟩
        go_wp2_with fail
        have C := R04.same_any U1 U2 _ _ f1 f2 z2 (hU1.below hd2) hU2 (by rw [MatM.unitL_len]; omega) (by rw [MatM.unitL_len]; omega)
        rw [R04.sameM_self] at C
        refine C.mono ?_
        clear C
        rintro e z3 ⟨rfl, hq⟩
        have hd3 := bquiet hq
        clear hq hU1 hU2
        go_wp2_with fail
        refine (alive_any _).mono ?_
        rintro e w9 ⟨rfl, hb9⟩
        go_wp2
        go_ret
        exact ⟨rfl, bstep hb1 (bstep hb2 (bstep hb3 (bstep hb4 (bstep hb5 (bstep hb6 (bstep hc1 (bstep hd1 (bstep hd2 (bstep hd3 (hb9))))))))))⟩
      · have hwd := MatM.width_of hW
        have HWD := Lib.hid hwd; have HALL := Lib.hid hW
        clear hW hwd
        by_cases h0 : a.length = 0
        · have g0 : ¬ 0 < a.length := by omega
          clear h0
          go_wp2_with fail
          have C := R04.width_any A1 a c1 _ HA.out (by omega)
          rw [HWD.out] at C
          refine C.mono ?_
          clear C
          rintro e y1 ⟨rfl, hq⟩
          have hc1 := bquiet hq
          clear hq
          have HA := Lib.hid (HA.out.below hc1); have HT := Lib.hid (HT.out.below hc1)
          go_wp2_with fail
          refine (Matrix.unit_any v.length _ (by omega)).mono ?_
          rintro e z1 ⟨U1, f1, rfl, _, _, hU1, hd1, _⟩
          go_wp2_with fail
          refine (R04.unit_any v.length z1 (by omega)).mono ?_
          rintro e z2 ⟨U2, f2, rfl, _, _, hU2, hd2, _⟩
          go_wp2_with fail
          have C := R04.same_any U1 U2 _ _ f1 f2 z2 (hU1.below hd2) hU2 (by rw [MatM.unitL_len]; omega) (by rw [MatM.unitL_len]; omega)
          rw [R04.sameM_self] at C
          refine C.mono ?_
          clear C
          rintro e z3 ⟨rfl, hq⟩
          have hd3 := bquiet hq
          clear hq hU1 hU2
          go_wp2_with fail
          refine (alive_any _).mono ?_
          rintro e w9 ⟨rfl, hb9⟩
          go_wp2
          go_ret
          exact ⟨rfl, bstep hb1 (bstep hb2 (bstep hb3 (bstep hb4 (bstep hb5 (bstep hb6 (bstep hc1 (bstep hd1 (bstep hd2 (bstep hd3 (hb9))))))))))⟩
        · have g0 : 0 < a.length := by omega
          clear h0
          go_wp2_with fail
          have C := R04.width_any A1 a c1 _ HA.out (by omega)
          rw [HWD.out] at C
          refine C.mono ?_
          clear C
          rintro e y1 ⟨rfl, hq⟩
          have hc1 := bquiet hq
          clear hq
          have HA := Lib.hid (HA.out.below hc1); have HT := Lib.hid (HT.out.below hc1)
          go_wp2_with fail
          refine (Matrix.unit_any (MatM.wd a) _ (by omega)).mono ?_
          rintro e y2 ⟨U, d2, rfl, _, _, hU, hc2, _⟩
          have HA := Lib.hid (HA.out.below hc2); have HT := Lib.hid (HT.out.below hc2)
          go_wp2_with fail
          refine (Matrix.mul_any w0.heap.size A1 U a (MatM.unitL (MatM.wd a)) c1 d2 y2 HT.out HA.out hU (by omega) (by rw [MatM.unitL_len]; omega) (by rw [(MatM.Sq.unit _).wd]; omega)).mono ?_
          rintro e y3 ⟨V, d3, rfl, hV, hc3⟩
          have hm := MatM.mulV_unit HALL.out
          rw [hm.1, hm.2]
          rw [hm.2] at hV
          clear hm hU
          have HA := Lib.hid (HA.out.below hc3)
          go_wp2_with fail
          have C := R04.same_any V A1 a a d3 c1 y3 hV HA.out (by omega) (by omega)
          rw [R04.sameM_self] at C
          refine C.mono ?_
          clear C
          rintro e y4 ⟨rfl, hq⟩
          have hc4 := bquiet hq
          clear hq hV
          go_wp2_with fail
          refine (Matrix.unit_any v.length _ (by omega)).mono ?_
          rintro e z1 ⟨U1, f1, rfl, _, _, hU1, hd1, _⟩
          go_wp2_with fail
          refine (R04.unit_any v.length z1 (by omega)).mono ?_
          rintro e z2 ⟨U2, f2, rfl, _, _, hU2, hd2, _⟩
          go_wp2_with fail
          have C := R04.same_any U1 U2 _ _ f1 f2 z2 (hU1.below hd2) hU2 (by rw [MatM.unitL_len]; omega) (by rw [MatM.unitL_len]; omega)
          rw [R04.sameM_self] at C
          refine C.mono ?_
          clear C
          rintro e z3 ⟨rfl, hq⟩
          have hd3 := bquiet hq
          clear hq hU1 hU2
          go_wp2_with fail
          refine (alive_any _).mono ?_
          rintro e w9 ⟨rfl, hb9⟩
          go_wp2
          go_ret
          exact ⟨rfl, bstep hb1 (bstep hb2 (bstep hb3 (bstep hb4 (bstep hb5 (bstep hb6 (bstep hc1 (bstep hc2 (bstep hc3 (bstep hc4 (bstep hd1 (bstep hd2 (bstep hd3 (hb9)))))))))))))⟩

set_option maxHeartbeats 4000000 in
set_option maxRecDepth 100000 in
theorem muls_yes (A1 : Option Addr) (a : List (List UInt8)) (c1 : Nat) (A2 : Option Addr) (b : List (List UInt8)) (c2 : Nat) (A3 : Option Addr) (v : List UInt8) (c3 : Nat) (w : World) (h1 : RowsAt w A1 a) (h2 : RowsAt w A2 b) (h3 : BytesAt w A3 v) (fa : MatM.fewB a = true) (fb : MatM.fewB b = true) (hl3 : v.length ≤ 8) (hfit : MatM.allW a v.length = true) :
    Calls Try.prog 3 #[.slice A1 a.length c1, .slice A2 b.length c2, .slice A3 v.length c3] w fun e w' => e = .returned (.bool true) ∧ Below w.heap.size w w' := by
  have hl1 := ((MatM.fewB_iff a).1 fa).2
  have hl2 := ((MatM.fewB_iff b).1 fb).2
  have hwb := MatM.fewB_wd fb
  have hwa := MatM.fewB_wd fa
  have HX := Lib.hid fa; have HY := Lib.hid fb; have HF := Lib.hid hfit
  clear fa fb hfit
  go_enter Try.func3, Try.ntmps3
  go_wp2_with fail
  have C := few_any A1 a c1 w h1 (by omega)
  rw [HX.out] at C
  refine C.mono ?_
  clear C
  rintro e w' ⟨rfl, rfl⟩
  rename World => w0
  go_wp2_with fail
  have C := few_any A2 b c2 w0 h2 (by omega)
  rw [HY.out] at C
  refine C.mono ?_
  clear C
  rintro e w' ⟨rfl, rfl⟩
  rename World => w0
  go_wp2_with fail
  refine (Gf.new_any _).mono ?_
  rintro e w1 ⟨rfl, ht, hb1, _⟩
  have HA := Lib.hid (h1.below hb1); have HB := Lib.hid (h2.below hb1); have HV := Lib.hid (h3.below hb1); have HT := Lib.hid ht
  clear h1 h2 h3 ht
  go_wp2_with fail
  refine (Matrix.mul_any w0.heap.size A1 A2 a b c1 c2 w1 HT.out HA.out HB.out (by omega) (by omega) (by omega)).mono ?_
  rintro e w2 ⟨M, d2, rfl, hM, hb2⟩
  have HA := Lib.hid (HA.out.below hb2); have HB := Lib.hid (HB.out.below hb2); have HV := Lib.hid (HV.out.below hb2); have HT := Lib.hid (HT.out.below hb2); have HM := Lib.hid hM
  clear hM
  go_wp2_with fail
  refine (R04.mul_post A1 A2 a b c1 c2 w2 HA.out HB.out (by omega) (by omega) (by omega)).mono ?_
  rintro e w3 ⟨N, d3, rfl, hN, hb3⟩
  have HA := Lib.hid (HA.out.below hb3); have HV := Lib.hid (HV.out.below hb3); have HT := Lib.hid (HT.out.below hb3); have HM := Lib.hid (HM.out.below hb3); have HN := Lib.hid hN
  clear hN
  go_wp2_with fail
  have C := Matrix.apply_any w0.heap.size A1 A3 a v c1 c3 w3 HT.out HA.out HV.out (by omega) (by omega)
  unfold ApplyPost at C
  rw [HF.out] at C
  refine C.mono ?_
  clear C
  rintro e w4 ⟨X, d4, rfl, hXB, hb4⟩
  have HA := Lib.hid (HA.out.below hb4); have HV := Lib.hid (HV.out.below hb4); have HT := Lib.hid (HT.out.below hb4); have HM := Lib.hid (HM.out.below hb4); have HN := Lib.hid (HN.out.below hb4); have HXB := Lib.hid hXB
  clear hXB
  have hml : (MatM.mulV a b).length ≤ 8 := by unfold MatM.mulV; split <;> simp [MatM.mulL_len] <;> omega
  have hxl := MatM.applyV_len a v
  rw [HF.out] at hxl
  have HXL := Lib.hid hxl
  clear hxl
  obtain ⟨OK, hOK⟩ : ∃ x, x = MatM.mulOk a b := ⟨_, rfl⟩
  rw [← hOK]
  have qok : (OK != OK) = false := by cases OK <;> rfl
  clear hOK
  go_wp2_with fail
  have C := R04.same_any M N _ _ d2 d3 w4 HM.out HN.out (by omega) (by omega)
  rw [R04.sameM_self] at C
  refine C.mono ?_
  clear C
  rintro e w5 ⟨rfl, hq⟩
  have hb5 := bquiet hq
  clear hq HM HN qok
  have HA := Lib.hid (HA.out.below hb5); have HV := Lib.hid (HV.out.below hb5); have HT := Lib.hid (HT.out.below hb5); have HXB := Lib.hid (HXB.out.below hb5)
  have hxlen := HXL.out
  rw [if_pos trivial] at hxlen
  have hel : ∀ k, (h : k < a.length) → (h' : k < (MatM.applyV a v).length) → (MatM.applyV a v)[k] = GfM.dot a[k] v := fun k h h' => by
    have e : MatM.applyV a v = a.map fun r => GfM.dot r v := by unfold MatM.applyV; rw [if_pos HF.out]
    simp only [e, List.getElem_map]
  have hrl := fun k h => (MatM.allW_iff a v.length).1 HF.out k h
  have HEL := Lib.hid hel; have HRL := Lib.hid hrl
  clear hel hrl HXL
  rw [hxlen]
  generalize MatM.applyV a v = xs at *
  have HXN := Lib.hid hxlen
  clear hxlen
  go_wp2_with fail
  go_loopw [14, 66] (fun q i wr => ∃ k n : Nat, k ≤ a.length ∧ i = .int .i64 k ∧ q = .bool true ∧ wr = w5.drewN n)
    (fun _ i _ => a.length - (intOf i).toNat)
  case atStart => exact ⟨0, 0, Nat.zero_le _, rfl, rfl, rfl⟩
  case round =>
    obtain ⟨k, n, hk, rfl, rfl, hwr⟩ := hrel
    rename World => w6
    have HW := Lib.hid hwr
    have HA := Lib.hid (show RowsAt w6 A1 a by rw [hwr]; exact HA.out.drewN n)
    have HV := Lib.hid (show BytesAt w6 A3 v by rw [hwr]; exact HV.out.drewN n)
    have HT := Lib.hid (show Gf.Tab w6 w0.heap.size by rw [hwr]; exact HT.out.drewN n)
    have HXB := Lib.hid (show BytesAt w6 X xs by rw [hwr]; exact HXB.out.drewN n)
    clear hwr
    by_cases hlt : k < a.length
    · obtain ⟨b1, o1, B1, e1, hA, f1, _, _, p1⟩ := HA.out.row hlt
      obtain ⟨b2, o2, hX, f2⟩ := HXB.out k (by rw [HXN.out]; exact hlt)
      subst hA; subst hX
      rw [HEL.out k hlt (by rw [HXN.out]; exact hlt)] at f2
      rw [HRL.out k hlt] at f1
      have C : ∀ W, BytesAt W B1 a[k] → BytesAt W A3 v → Calls Try.prog 13 #[.slice B1 v.length e1, .slice A3 v.length c3] W fun e w' => e = .returned (.int .u8 ((GfM.dot a[k] v).toNat : Nat)) ∧ ∃ n, w' = W.drewN n := fun W q1 q2 => by
        have := R01.dot_any B1 A3 a[k] v e1 c3 W q1 q2 (by rw [HRL.out k hlt]; unfold maxLen; omega) (by unfold maxLen; omega)
        rwa [HRL.out k hlt] at this
      have HC := Lib.hid C; have P1 := Lib.hid p1
      clear C p1
      generalize GfM.dot a[k] v = y at *
      have q1 : ((v.length : Int) == (v.length : Int)) = true := by simp
      have q2 : ((y.toNat : Int) != (y.toNat : Int)) = false := by simp
      go_wp2
      go_quiet ((go_at_call 13; exact Calls.quiet_of (HC.out _ (P1.out.drewN _) (HV.out.drewN _))))
      go_wp2
      go_roundw
      case rel => exact ⟨k + 1, n + nq, by omega, by go_num, rfl, by rw [HW.out, World.drewN_drewN]⟩
      case measure => simp [intOf] <;> omega
    · obtain rfl : k = a.length := by omega
      have hb6 : Below w5.heap.size w5 w6 := bquiet ⟨n, HW.out⟩
      have q1 : ((a.length : Int) != (a.length : Int)) = false := by simp
      clear HW hlt
      rcases hW : MatM.allW a (MatM.wd a) with _ | _
      · have hwd := MatM.width_bad hW
        have HWD := Lib.hid hwd
        clear hW hwd
        go_wp2_with fail
        have C := R04.width_any A1 a c1 _ HA.out (by omega)
        rw [HWD.out] at C
        refine C.mono ?_
        clear C
        rintro e y1 ⟨rfl, hq⟩
        have hc1 := bquiet hq
        clear hq
        have HA := Lib.hid (HA.out.below hc1); have HT := Lib.hid (HT.out.below hc1)
        go_wp2_with fail
        refine (Matrix.unit_any v.length _ (by omega)).mono ?_
        rintro e z1 ⟨U1, f1, rfl, _, _, hU1, hd1, _⟩
        go_wp2_with fail
        refine (R04.unit_any v.length z1 (by omega)).mono ?_
        rintro e z2 ⟨U2, f2, rfl, _, _, hU2, hd2, _⟩
        go_wp2_with fail
        have C := R04.same_any U1 U2 _ _ f1 f2 z2 (hU1.below hd2) hU2 (by rw [MatM.unitL_len]; omega) (by rw [MatM.unitL_len]; omega)
        rw [R04.sameM_self] at C
        refine C.mono ?_
        clear C
        rintro e z3 ⟨rfl, hq⟩
        have hd3 := bquiet hq
        clear hq hU1 hU2
        go_wp2_with fail
        refine (alive_any _).mono ?_
        rintro e w9 ⟨rfl, hb9⟩
        go_wp2
        go_ret
        exact ⟨rfl, bstep hb1 (bstep hb2 (bstep hb3 (bstep hb4 (bstep hb5 (bstep hb6 (bstep hc1 (bstep hd1 (bstep hd2 (bstep hd3 (hb9))))))))))⟩
      · have hwd := MatM.width_of hW
        have HWD := Lib.hid hwd; have HALL := Lib.hid hW
        clear hW hwd
        by_cases h0 : a.length = 0
        · have g0 : ¬ 0 < a.length := by omega
          clear h0
          go_wp2_with fail
          have C := R04.width_any A1 a c1 _ HA.out (by omega)
          rw [HWD.out] at C
          refine C.mono ?_
          clear C
          rintro e y1 ⟨rfl, hq⟩
          have hc1 := bquiet hq
          clear hq
          have HA := Lib.hid (HA.out.below hc1); have HT := Lib.hid (HT.out.below hc1)
          go_wp2_with fail
          refine (Matrix.unit_any v.length _ (by omega)).mono ?_
          rintro e z1 ⟨U1, f1, rfl, _, _, hU1, hd1, _⟩
          go_wp2_with fail
          refine (R04.unit_any v.length z1 (by omega)).mono ?_
          rintro e z2 ⟨U2, f2, rfl, _, _, hU2, hd2, _⟩
          go_wp2_with fail
          have C := R04.same_any U1 U2 _ _ f1 f2 z2 (hU1.below hd2) hU2 (by rw [MatM.unitL_len]; omega) (by rw [MatM.unitL_len]; omega)
          rw [R04.sameM_self] at C
          refine C.mono ?_
          clear C
          rintro e z3 ⟨rfl, hq⟩
          have hd3 := bquiet hq
          clear hq hU1 hU2
          go_wp2_with fail
          refine (alive_any _).mono ?_
          rintro e w9 ⟨rfl, hb9⟩
          go_wp2
          go_ret
          exact ⟨rfl, bstep hb1 (bstep hb2 (bstep hb3 (bstep hb4 (bstep hb5 (bstep hb6 (bstep hc1 (bstep hd1 (bstep hd2 (bstep hd3 (hb9))))))))))⟩
        · have g0 : 0 < a.length := by omega
          clear h0
          go_wp2_with fail
          have C := R04.width_any A1 a c1 _ HA.out (by omega)
          rw [HWD.out] at C
          refine C.mono ?_
          clear C
          rintro e y1 ⟨rfl, hq⟩
          have hc1 := bquiet hq
          clear hq
          have HA := Lib.hid (HA.out.below hc1); have HT := Lib.hid (HT.out.below hc1)
          go_wp2_with fail
          refine (Matrix.unit_any (MatM.wd a) _ (by omega)).mono ?_
          rintro e y2 ⟨U, d2, rfl, _, _, hU, hc2, _⟩
          have HA := Lib.hid (HA.out.below hc2); have HT := Lib.hid (HT.out.below hc2)
          go_wp2_with fail
          refine (Matrix.mul_any w0.heap.size A1 U a (MatM.unitL (MatM.wd a)) c1 d2 y2 HT.out HA.out hU (by omega) (by rw [MatM.unitL_len]; omega) (by rw [(MatM.Sq.unit _).wd]; omega)).mono ?_
          rintro e y3 ⟨V, d3, rfl, hV, hc3⟩
          have hm := MatM.mulV_unit HALL.out
          rw [hm.1, hm.2]
          rw [hm.2] at hV
          clear hm hU
          have HA := Lib.hid (HA.out.below hc3)
          go_wp2_with fail
          have C := R04.same_any V A1 a a d3 c1 y3 hV HA.out (by omega) (by omega)
          rw [R04.sameM_self] at C
          refine C.mono ?_
          clear C
          rintro e y4 ⟨rfl, hq⟩
          have hc4 := bquiet hq
          clear hq hV
          go_wp2_with fail
          refine (Matrix.unit_any v.length _ (by omega)).mono ?_
          rintro e z1 ⟨U1, f1, rfl, _, _, hU1, hd1, _⟩
          go_wp2_with fail
          refine (R04.unit_any v.length z1 (by omega)).mono ?_
          rintro e z2 ⟨U2, f2, rfl, _, _, hU2, hd2, _⟩
          go_wp2_with fail
          have C := R04.same_any U1 U2 _ _ f1 f2 z2 (hU1.below hd2) hU2 (by rw [MatM.unitL_len]; omega) (by rw [MatM.unitL_len]; omega)
          rw [R04.sameM_self] at C
          refine C.mono ?_
          clear C
          rintro e z3 ⟨rfl, hq⟩
          have hd3 := bquiet hq
          clear hq hU1 hU2
          go_wp2_with fail
          refine (alive_any _).mono ?_
          rintro e w9 ⟨rfl, hb9⟩
          go_wp2
          go_ret
          exact ⟨rfl, bstep hb1 (bstep hb2 (bstep hb3 (bstep hb4 (bstep hb5 (bstep hb6 (bstep hc1 (bstep hc2 (bstep hc3 (bstep hc4 (bstep hd1 (bstep hd2 (bstep hd3 (hb9)))))))))))))⟩

theorem muls_any (A1 : Option Addr) (a : List (List UInt8)) (c1 : Nat) (A2 : Option Addr) (b : List (List UInt8)) (c2 : Nat) (A3 : Option Addr) (v : List UInt8) (c3 : Nat) (w : World) (h1 : RowsAt w A1 a) (x1 : a.length ≤ c1) (y1 : c1 ≤ maxLen) (h2 : RowsAt w A2 b) (x2 : b.length ≤ c2) (y2 : c2 ≤ maxLen) (h3 : BytesAt w A3 v) (x3 : v.length ≤ c3) (y3 : c3 ≤ maxLen) :
    Calls Try.prog 3 #[.slice A1 a.length c1, .slice A2 b.length c2, .slice A3 v.length c3] w fun e w' => e = .returned (.bool true) ∧ Below w.heap.size w w' := by
  unfold maxLen at y1 y2 y3
  have k1 : a.length ≤ 9223372036854775807 := by omega
  have k2 : b.length ≤ 9223372036854775807 := by omega
  have k3 : v.length ≤ 9223372036854775807 := by omega
  rcases ha : MatM.fewB a with _ | _
  · exact muls_few A1 a c1 A2 b c2 A3 v c3 w h1 h2 k1 k2 k3 (.inl ha)
  rcases hb : MatM.fewB b with _ | _
  · exact muls_few A1 a c1 A2 b c2 A3 v c3 w h1 h2 k1 k2 k3 (.inr (.inl ⟨ha, hb⟩))
  by_cases hv : 8 < v.length
  · exact muls_few A1 a c1 A2 b c2 A3 v c3 w h1 h2 k1 k2 k3 (.inr (.inr ⟨ha, hb, hv⟩))
  rcases hf : MatM.allW a v.length with _ | _
  · exact muls_no A1 a c1 A2 b c2 A3 v c3 w h1 h2 h3 ha hb (by omega) hf
  · exact muls_yes A1 a c1 A2 b c2 A3 v c3 w h1 h2 h3 ha hb (by omega) hf

/-! MatrixInverts -/
theorem width_sq (a : List (List UInt8)) : MatM.width a = a.length ↔ MatM.allW a a.length = true := by
  rcases Nat.eq_zero_or_pos a.length with h0 | h0
  · have : a = [] := List.eq_nil_of_length_eq_zero h0
    subst this; simp [MatM.width, MatM.allW]
  · constructor
    · intro h
      rcases hw : MatM.allW a (MatM.wd a) with _ | _
      · rw [MatM.width_bad hw] at h; omega
      · rw [MatM.width_of hw] at h
        have : MatM.wd a = a.length := by omega
        rwa [this] at hw
    · intro h
      have hwd : MatM.wd a = a.length := (show MatM.Sq a a.length from ⟨rfl, h⟩).wd
      rw [MatM.width_of (by rw [hwd]; exact h), hwd]
theorem invOk_not {a : List (List UInt8)} (h : MatM.allW a a.length = false ∨ MatM.det a.length (MatM.mat a) = 0) : MatM.invOk a = false := by
  unfold MatM.invOk
  rcases h with h | h
  · rw [h]; rfl
  · rw [h]; simp

theorem inverts_any (A1 : Option Addr) (a : List (List UInt8)) (c1 : Nat) (w : World) (h1 : RowsAt w A1 a) (x1 : a.length ≤ c1) (y1 : c1 ≤ maxLen) :
    Calls Try.prog 4 #[.slice A1 a.length c1] w fun e w' => e = .returned (.bool true) ∧ Below w.heap.size w w' := by
  unfold maxLen at y1
  have k1 : a.length ≤ 9223372036854775807 := by omega
  rcases hf : MatM.fewB a with _ | _
  · have HX := Lib.hid hf
    clear hf
    go_enter Try.func4, Try.ntmps4
    go_wp2_with fail
    have C := few_any A1 a c1 w h1 k1
    rw [HX.out] at C
    refine C.mono ?_
    clear C
    rintro e w' ⟨rfl, rfl⟩
    go_wp2_with fail
    refine (alive_any _).mono ?_
    rintro e w9 ⟨rfl, hb9⟩
    go_wp2
    go_ret
    exact ⟨rfl, hb9⟩
  by_cases hl5 : 5 < a.length
  · have HX := Lib.hid hf
    clear hf
    go_enter Try.func4, Try.ntmps4
    go_wp2_with fail
    have C := few_any A1 a c1 w h1 k1
    rw [HX.out] at C
    refine C.mono ?_
    clear C
    rintro e w' ⟨rfl, rfl⟩
    go_wp2_with fail
    refine (alive_any _).mono ?_
    rintro e w9 ⟨rfl, hb9⟩
    go_wp2
    go_ret
    exact ⟨rfl, hb9⟩
  rcases hs : MatM.allW a a.length with _ | _
  · have hno := invOk_not (.inl hs)
    have hwn : ((MatM.width a) != (a.length : Int)) = true := by
      rw [bne_iff_ne]; intro e; rw [(width_sq a).1 e] at hs; cases hs
    have hwr := MatM.width_range a
    have hwd := MatM.fewB_wd hf
    have HX := Lib.hid hf; have HN := Lib.hid hno
    clear hf hs hno
    go_enter Try.func4, Try.ntmps4
    go_wp2_with fail
    have C := few_any A1 a c1 w h1 k1
    rw [HX.out] at C
    refine C.mono ?_
    clear C
    rintro e w' ⟨rfl, rfl⟩
    rename World => w0
    go_wp2_with fail
    refine (Gf.new_any _).mono ?_
    rintro e w1 ⟨rfl, ht, hb1, _⟩
    go_wp2_with fail
    refine (Matrix.inverse_any w0.heap.size A1 a c1 w1 ht (h1.below hb1) (by omega)).mono ?_
    rintro e w2 ⟨B, c, b, rfl, _, hb2, _, hn⟩
    obtain ⟨rfl, _⟩ := hn HN.out
    clear hn
    rw [HN.out]
    go_wp2_with fail
    refine (R04.width_any A1 a c1 w2 ((h1.below hb1).below hb2) (by omega)).mono ?_
    rintro e w3 ⟨rfl, hq⟩
    have hb3 := bquiet hq
    clear hq
    go_wp2_with fail
    refine (alive_any _).mono ?_
    rintro e w9 ⟨rfl, hb9⟩
    go_wp2
    go_ret
    exact ⟨rfl, bstep hb1 (bstep hb2 (bstep hb3 (hb9)))⟩
  have hwn : MatM.width a = a.length := (width_sq a).2 hs
  have hsq : MatM.Sq a a.length := ⟨rfl, hs⟩
  by_cases hd : MatM.det a.length (MatM.mat a) = 0
  · have hno := invOk_not (.inr hd)
    have HX := Lib.hid hf; have HN := Lib.hid hno; have HW := Lib.hid hwn; have HD := Lib.hid hd; have HSQ := Lib.hid hsq
    clear hf hs hno hwn hd hsq
    go_enter Try.func4, Try.ntmps4
    go_wp2_with fail
    have C := few_any A1 a c1 w h1 k1
    rw [HX.out] at C
    refine C.mono ?_
    clear C
    rintro e w' ⟨rfl, rfl⟩
    rename World => w0
    go_wp2_with fail
    refine (Gf.new_any _).mono ?_
    rintro e w1 ⟨rfl, ht, hb1, _⟩
    go_wp2_with fail
    refine (Matrix.inverse_any w0.heap.size A1 a c1 w1 ht (h1.below hb1) (by omega)).mono ?_
    rintro e w2 ⟨B, c, b, rfl, _, hb2, _, hn⟩
    obtain ⟨rfl, _⟩ := hn HN.out
    clear hn
    rw [HN.out]
    go_wp2_with fail
    have C := R04.width_any A1 a c1 w2 ((h1.below hb1).below hb2) (by omega)
    rw [HW.out] at C
    refine C.mono ?_
    clear C
    rintro e w3 ⟨rfl, hq⟩
    have hb3 := bquiet hq
    clear hq
    go_wp2_with fail
    have C := R04.det_any a.length A1 a c1 w3 HSQ.out (by omega) (((h1.below hb1).below hb2).below hb3)
    rw [HD.out] at C
    refine C.mono ?_
    clear C
    rintro e w4 ⟨rfl, hb4⟩
    go_wp2_with fail
    refine (alive_any _).mono ?_
    rintro e w9 ⟨rfl, hb9⟩
    go_wp2
    go_ret
    exact ⟨rfl, bstep hb1 (bstep hb2 (bstep hb3 (bstep hb4 (hb9))))⟩
  · have hyes : MatM.invOk a = true := by unfold MatM.invOk; rw [hs, decide_eq_true hd]; rfl
    have qd : (((MatM.det a.length (MatM.mat a)).toNat : Int) == 0) = false := by rw [toNat_eq0]; simpa using hd
    have HX := Lib.hid hf; have HN := Lib.hid hyes; have HW := Lib.hid hwn; have HSQ := Lib.hid hsq
    clear hf hs hyes hwn hd hsq
    go_enter Try.func4, Try.ntmps4
    go_wp2_with fail
    have C := few_any A1 a c1 w h1 k1
    rw [HX.out] at C
    refine C.mono ?_
    clear C
    rintro e w' ⟨rfl, rfl⟩
    rename World => w0
    go_wp2_with fail
    refine (Gf.new_any _).mono ?_
    rintro e w1 ⟨rfl, ht, hb1, _⟩
    have HA := Lib.hid (h1.below hb1)
    clear h1
    go_wp2_with fail
    refine (Matrix.inverse_any w0.heap.size A1 a c1 w1 ht HA.out (by omega)).mono ?_
    rintro e w2 ⟨B, c, b, rfl, hB, hb2, hn, _⟩
    obtain ⟨hsb, hu⟩ := hn HN.out
    clear hn
    rw [HN.out]
    obtain ⟨hu1, hu2⟩ := MatM.Sq.undo HSQ.out hsb hu
    have ok1 := MatM.Sq.mulOk HSQ.out hsb
    have ok2 := MatM.Sq.mulOk hsb HSQ.out
    have mv1 : MatM.mulV a b = MatM.unitL a.length := by unfold MatM.mulV; rw [if_pos ok1, hu1]
    have mv2 : MatM.mulV b a = MatM.unitL a.length := by unfold MatM.mulV; rw [if_pos ok2, hu2]
    have hbl : b.length ≤ 5 := by rw [hsb.1]; omega
    have hbw : MatM.wd b ≤ 5 := by rw [hsb.wd]; omega
    have haw : MatM.wd a ≤ 5 := by rw [HSQ.out.wd]; omega
    have M1 := Lib.hid mv1; have M2 := Lib.hid mv2; have K1 := Lib.hid ok1; have K2 := Lib.hid ok2
    have HA := Lib.hid (HA.out.below hb2); have HB := Lib.hid hB
    clear hsb hu hu1 hu2 ok1 ok2 mv1 mv2 hB
    go_wp2_with fail
    have C := R04.width_any A1 a c1 w2 HA.out (by omega)
    rw [HW.out] at C
    refine C.mono ?_
    clear C
    rintro e w3 ⟨rfl, hq⟩
    have hb3 := bquiet hq
    clear hq
    have HA := Lib.hid (HA.out.below hb3); have HB := Lib.hid (HB.out.below hb3)
    go_wp2_with fail
    refine (R04.det_any a.length A1 a c1 w3 HSQ.out (by omega) HA.out).mono ?_
    rintro e w4 ⟨rfl, hb4⟩
    have HA := Lib.hid (HA.out.below hb4); have HB := Lib.hid (HB.out.below hb4)
    go_wp2_with fail
    have C := R04.mul_post A1 B a b c1 c w4 HA.out HB.out (by omega) (by omega) (by omega)
    unfold MulPost at C
    rw [M1.out, K1.out] at C
    refine C.mono ?_
    clear C
    rintro e w5 ⟨P, f1, rfl, hP, hb5⟩
    have HA := Lib.hid (HA.out.below hb5); have HB := Lib.hid (HB.out.below hb5); have HP := Lib.hid hP
    clear hP
    go_wp2_with fail
    have C := R04.mul_post B A1 b a c c1 w5 HB.out HA.out (by omega) (by omega) (by omega)
    unfold MulPost at C
    rw [M2.out, K2.out] at C
    refine C.mono ?_
    clear C
    rintro e w6 ⟨Q, f2, rfl, hQ, hb6⟩
    have HP := Lib.hid (HP.out.below hb6); have HQ := Lib.hid hQ
    clear hQ
    go_wp2_with fail
    refine (R04.unit_any a.length w6 (by omega)).mono ?_
    rintro e w7 ⟨U, f3, rfl, _, _, hU, hb7, _⟩
    have HP := Lib.hid (HP.out.below hb7); have HQ := Lib.hid (HQ.out.below hb7)
    go_wp2_with fail
    have C := R04.same_any P U _ _ f1 f3 w7 HP.out hU (by rw [MatM.unitL_len]; omega) (by rw [MatM.unitL_len]; omega)
    rw [R04.sameM_self] at C
    refine C.mono ?_
    clear C
    rintro e w8 ⟨rfl, hq⟩
    have hb8 := bquiet hq
    clear hq hU
    have HQ := Lib.hid (HQ.out.below hb8)
    go_wp2_with fail
    refine (R04.unit_any a.length w8 (by omega)).mono ?_
    rintro e y1 ⟨V, f4, rfl, _, _, hV, hd1, _⟩
    have HQ := Lib.hid (HQ.out.below hd1)
    go_wp2_with fail
    have C := R04.same_any Q V _ _ f2 f4 y1 HQ.out hV (by rw [MatM.unitL_len]; omega) (by rw [MatM.unitL_len]; omega)
    rw [R04.sameM_self] at C
    refine C.mono ?_
    clear C
    rintro e y2 ⟨rfl, hq⟩
    have hd2 := bquiet hq
    clear hq hV
    go_wp2_with fail
    refine (alive_any _).mono ?_
    rintro e w9 ⟨rfl, hb9⟩
    go_wp2
    go_ret
    exact ⟨rfl, bstep hb1 (bstep hb2 (bstep hb3 (bstep hb4 (bstep hb5 (bstep hb6 (bstep hb7 (bstep hb8 (bstep hd1 (bstep hd2 (hb9))))))))))⟩

/-! MatrixPowers -/
theorem powers_ok {xs : List UInt8} (hk : MatM.invOk (MatM.powL xs xs.length) = false → (MatM.allW (MatM.powL xs xs.length) (MatM.powL xs xs.length).length = true → ∃ (x : Nat → UInt8) (c : Nat), c < (MatM.powL xs xs.length).length ∧ x c = 1 ∧ ∀ i, i < (MatM.powL xs xs.length).length → MatM.mv (MatM.powL xs xs.length).length (MatM.mat (MatM.powL xs xs.length)) x i = 0)) :
    MatM.invOk (MatM.powL xs xs.length) = LagrM.unl xs := by
  have hl : (MatM.powL xs xs.length).length = xs.length := MatM.powL_len _ _
  rcases hu : LagrM.unl xs with _ | _
  · refine invOk_not (.inr ?_)
    rw [hl, MatM.det_congr (MatM.powL_mat xs)]
    exact MatM.vand_dup hu
  · rcases hi : MatM.invOk (MatM.powL xs xs.length) with _ | _
    · obtain ⟨x, c, hc, hx, hz⟩ := hk hi (by rw [hl]; exact (MatM.powL_sq xs).2)
      rw [hl] at hc hz
      have h0 := MatM.vand_kernel ((LagrM.unl_iff xs).1 hu) x (fun i hi => by
        rw [← hz i hi]; exact (MatM.mv_congr (MatM.powL_mat xs) (fun _ _ => rfl) hi).symm) c hc
      rw [hx] at h0
      exact absurd h0 (by decide)
    · rfl

set_option maxHeartbeats 1000000 in
theorem powers_any (A1 : Option Addr) (xs : List UInt8) (c1 : Nat) (A2 : Option Addr) (ys : List UInt8) (c2 : Nat) (w : World) (h1 : BytesAt w A1 xs) (k1 : xs.length ≤ c1) (m1 : c1 ≤ maxLen) (h2 : BytesAt w A2 ys) (k2 : ys.length ≤ c2) (m2 : c2 ≤ maxLen) :
    Calls Try.prog 5 #[.slice A1 xs.length c1, .slice A2 ys.length c2] w fun e w' => e = .returned (.bool true) ∧ Below w.heap.size w w' := by
  unfold maxLen at m1 m2
  by_cases hl1 : 7 < xs.length
  · go_enter Try.func5, Try.ntmps5
    go_wp2_with fail
    refine (alive_any _).mono ?_
    rintro e w9 ⟨rfl, hb9⟩
    go_wp2
    go_ret
    exact ⟨rfl, hb9⟩
  by_cases hl2 : 7 < ys.length
  · go_enter Try.func5, Try.ntmps5
    go_wp2_with fail
    refine (alive_any _).mono ?_
    rintro e w9 ⟨rfl, hb9⟩
    go_wp2
    go_ret
    exact ⟨rfl, hb9⟩
  go_enter Try.func5, Try.ntmps5
  go_wp2_with fail
  refine (Gf.new_any _).mono ?_
  rintro e w1 ⟨rfl, ht, hb1, _⟩
  have P1 := Lib.hid (h1.below hb1); have P2 := Lib.hid (h2.below hb1)
  clear h1 h2
  go_wp2_with fail
  refine (Matrix.powers_any w.heap.size A1 xs c1 xs.length w1 ht P1.out (by omega) (by omega)).mono ?_
  rintro e w2 ⟨M, d, rfl, hd1, hd2, hM, hb2, _⟩
  have P1 := Lib.hid (P1.out.below hb2); have P2 := Lib.hid (P2.out.below hb2); have HT := Lib.hid (ht.below hb2); have HM := Lib.hid hM
  have hml : (MatM.powL xs xs.length).length = xs.length := MatM.powL_len _ _
  rw [hml]
  have HML := Lib.hid hml
  clear hM ht hml hd1
  go_wp2_with fail
  go_loopw [32] (fun i wr => ∃ k n : Nat, k ≤ xs.length ∧ i = .int .i64 k ∧ wr = w2.drewN n)
    (fun i _ => xs.length - (intOf i).toNat)
  case atStart => exact ⟨0, 0, Nat.zero_le _, rfl, rfl⟩
  case round =>
    obtain ⟨k, n, hk, rfl, hwr⟩ := hrel
    rename World => w3
    have HW := Lib.hid hwr
    have HM := Lib.hid (show RowsAt w3 M (MatM.powL xs xs.length) by rw [hwr]; exact HM.out.drewN n)
    have P1 := Lib.hid (show BytesAt w3 A1 xs by rw [hwr]; exact P1.out.drewN n)
    have P2 := Lib.hid (show BytesAt w3 A2 ys by rw [hwr]; exact P2.out.drewN n)
    have HT := Lib.hid (show Gf.Tab w3 w.heap.size by rw [hwr]; exact HT.out.drewN n)
    clear hwr
    by_cases hlt : k < xs.length
    · obtain ⟨b1, o1, B1, e1, hA, f1, _, _, p1⟩ := HM.out.row (show k < (MatM.powL xs xs.length).length by rw [HML.out]; exact hlt)
      obtain ⟨b2, o2, hX, f2⟩ := P1.out k hlt
      subst hA; subst hX
      have hrow : (MatM.powL xs xs.length)[k]'(by rw [HML.out]; exact hlt) = PolyM.tab xs.length (GfM.npow xs[k]) := by
        rw [← MatM.rowAt_get _ _ (by rw [HML.out]; exact hlt), MatM.powL_row _ _ _ hlt]
      rw [hrow] at f1 p1
      rw [PolyM.tab_len] at f1
      have R1 := Lib.hid p1
      clear hrow p1
      generalize xs[k] = u at *
      go_wp2
      go_loopw [40] (fun j wr => ∃ t m : Nat, t ≤ xs.length ∧ j = .int .i64 t ∧ wr = w2.drewN m)
        (fun j _ => xs.length - (intOf j).toNat)
      case atStart => exact ⟨0, n, Nat.zero_le _, rfl, HW.out⟩
      case round =>
        obtain ⟨t, m, ht, rfl, hwq⟩ := hrel
        rename World => w4
        have HQ := Lib.hid hwq
        have f1 : w4.cell? ⟨b1, o1 + k, none⟩ = some (.slice B1 xs.length e1) := by rw [hwq]; rw [HW.out] at f1; exact f1
        have f2 : w4.cell? ⟨b2, o2 + k, none⟩ = some (.int .u8 (u.toNat : Nat)) := by rw [hwq]; rw [HW.out] at f2; exact f2
        have r1 : BytesAt w4 B1 (PolyM.tab xs.length (GfM.npow u)) := by rw [hwq]; have := R1.out; rw [HW.out] at this; exact this
        clear hwq
        by_cases hlt2 : t < xs.length
        · obtain ⟨b3, o3, hB, f3⟩ := r1 t (by rw [PolyM.tab_len]; exact hlt2)
          subst hB
          rw [PolyM.tab_get] at f3
          have q1 : ((xs.length : Int) != (xs.length : Int)) = false := by simp
          have q2 : (((GfM.npow u t).toNat : Int) != ((GfM.npow u t).toNat : Int)) = false := by simp
          clear r1
          go_wp2
          go_quiet ((go_at_call 20; exact Calls.quiet_of_same ((R01.pow_any u t _ (by omega)).mono fun _ _ h => ⟨h.1, h.2.symm⟩)))
          go_wp2
          go_roundw
          case rel => exact ⟨t + 1, m + nq, by omega, by go_num, by rw [HQ.out, World.drewN_drewN]⟩
          case measure => simp [intOf] <;> omega
        · obtain rfl : t = xs.length := by omega
          clear r1
          go_wp2
          go_roundw
          case rel => exact ⟨k + 1, m, by omega, by go_num, HQ.out⟩
          case measure => simp [intOf] <;> omega
    · have hb3 : Below w2.heap.size w2 w3 := bquiet ⟨n, HW.out⟩
      obtain rfl : k = xs.length := by omega
      clear HW
      go_wp2_with fail
      have C := Matrix.inverse_any w.heap.size M (MatM.powL xs xs.length) d w3 HT.out HM.out (by rw [HML.out]; omega)
      rw [HML.out] at C
      refine C.mono ?_
      clear C
      rintro e w4 ⟨B, c, b, rfl, hB, hb4, hy, hno⟩
      have hok := powers_ok (xs := xs) fun h1 h2 => (hno h1).2 h2
      rw [hok] at hy ⊢
      rw [HML.out] at hy
      have P1 := Lib.hid (P1.out.below hb4); have P2 := Lib.hid (P2.out.below hb4); have HT := Lib.hid (HT.out.below hb4); have HB := Lib.hid hB
      clear hok hno hB
      go_wp2_with fail
      refine (R03.unlike_any A1 xs c1 w4 P1.out (by omega)).mono ?_
      rintro e w5 ⟨rfl, hq⟩
      have hb5 := bquiet hq
      clear hq
      have P1 := Lib.hid (P1.out.below hb5); have P2 := Lib.hid (P2.out.below hb5); have HT := Lib.hid (HT.out.below hb5); have HB := Lib.hid (HB.out.below hb5)
      have qq : ((xs.length : Int) != (xs.length : Int)) = false := by simp
      rcases hu : LagrM.unl xs with _ | _
      · clear hu hy
        go_wp2_with fail
        refine (alive_any _).mono ?_
        rintro e w9 ⟨rfl, hb9⟩
        go_wp2
        go_ret
        exact ⟨rfl, bstep hb1 (bstep hb2 (bstep hb3 (bstep hb4 (bstep hb5 hb9))))⟩
      · obtain ⟨hsb, hun⟩ := hy hu
        by_cases hle : xs.length = ys.length
        · have q3 : ((xs.length : Int) != (ys.length : Int)) = false := by simp [hle]
          have hap := MatM.powers_back ((LagrM.unl_iff xs).1 hu) ys hle hsb hun
          have hall : MatM.allW b ys.length = true := by rw [← hle]; exact hsb.2
          have hbl : b.length ≤ 7 := by rw [hsb.1]; omega
          have HAP := Lib.hid hap; have HAL := Lib.hid hall; have HU := Lib.hid hu; have HLE := Lib.hid hle
          have htl : (LagrM.thr xs ys).length ≤ 7 := by rw [LagrM.thr_len]; omega
          clear hy hsb hun hap hall hu hle
          go_wp2_with fail
          have C := Matrix.apply_any w.heap.size B A2 b ys c c2 w5 HT.out HB.out P2.out (by omega) (by omega)
          unfold ApplyPost at C
          rw [HAP.out, HAL.out] at C
          refine C.mono ?_
          clear C
          rintro e w6 ⟨X, f, rfl, hX, hb6⟩
          have P1 := Lib.hid (P1.out.below hb6); have P2 := Lib.hid (P2.out.below hb6); have HT := Lib.hid (HT.out.below hb6); have HX := Lib.hid hX
          clear hX
          go_wp2_with fail
          refine (Lagr.through_yes w.heap.size A1 A2 xs ys c1 c2 w6 HT.out P1.out P2.out (by omega) HLE.out HU.out).mono ?_
          rintro e w7 ⟨Y, g, rfl, hY, hb7, _, hg⟩
          have HX := Lib.hid (HX.out.below hb7)
          go_wp2_with fail
          refine (R01.same_eq X Y _ _ f g w7 HX.out hY (by unfold maxLen; omega) rfl).mono ?_
          rintro e w8 ⟨rfl, hq⟩
          have hb8 := bquiet hq
          clear hq hY
          go_wp2_with fail
          refine (alive_any _).mono ?_
          rintro e w9 ⟨rfl, hb9⟩
          go_wp2
          go_ret
          exact ⟨rfl, bstep hb1 (bstep hb2 (bstep hb3 (bstep hb4 (bstep hb5 (bstep hb6 (bstep hb7 (bstep hb8 hb9)))))))⟩
        · have q3 : ((xs.length : Int) != (ys.length : Int)) = true := by rw [bne_iff_ne]; omega
          clear hu hy hsb hun hle
          go_wp2_with fail
          refine (alive_any _).mono ?_
          rintro e w9 ⟨rfl, hb9⟩
          go_wp2
          go_ret
          exact ⟨rfl, bstep hb1 (bstep hb2 (bstep hb3 (bstep hb4 (bstep hb5 hb9))))⟩
end Go.Proofs.Ytmkadcnommoihaa.Law04
