/- the walks of layer 2's laws -/
import Derived.Test.YtamhhlobndjhoaaPoly
import Derived.Test.YtamhhlobndjhoaaR02
namespace Go.Proofs.Ytamhhlobndjhoaa.Law02
open Go.RowKit

theorem alive_any (w : World) : Calls Try.prog 7 #[] w fun e w' => e = .returned (.bool true) ∧ Below w.heap.size w w' := by
  have e1 : PolyM.proot [1, 2] = [2, 3, 1] := by decide +kernel
  have e2 : ((PolyM.ev [2, 3, 1] 1).toNat : Int) = 0 := by decide +kernel
  have e3 : PolyM.deg [0, 4, 0] = 1 := by decide +kernel
  have E1 := Lib.hid e1; have E2 := Lib.hid e2; have E3 := Lib.hid e3
  clear e1 e2 e3
  go_enter Try.func7, Try.ntmps7
  go_wp2_with fail
  refine (Gf.new_any _).mono ?_
  rintro e w1 ⟨rfl, ht, hb1, hs1⟩
  go_wp2_with fail
  have C := Poly.root_any w.heap.size (some ⟨w1.heap.size, 0, none⟩) [1, 2] 2 (w1.alloc (.cells (cells [1, 2]) 5)) (ht.below (balloc _ _)) (Row.new w1 [1, 2]).bytes (by decide)
  rw [E1.out] at C
  refine C.mono ?_
  clear C
  rintro e w2 ⟨A, c, rfl, hc1, hc2, hB, hb2⟩
  have hb2 : Below w1.heap.size w1 w2 := bstep (balloc _ _) hb2
  go_wp2_with fail
  refine (R01.same_eq A (some ⟨w2.heap.size, 0, none⟩) [2, 3, 1] [2, 3, 1] c 3 _ (hB.alloc _) (Row.new w2 [2, 3, 1]).bytes (by decide) rfl).mono ?_
  rintro e w3 ⟨rfl, hq⟩
  have hb3 : Below w2.heap.size w2 w3 := bstep (balloc _ _) (bquiet hq)
  clear hq
  have ht3 : Gf.Tab w3 w.heap.size := ht.below (bstep hb2 hb3)
  go_wp2_with fail
  have C := Poly.eval_any w.heap.size (some ⟨w3.heap.size, 0, none⟩) [2, 3, 1] 3 1 (w3.alloc (.cells (cells [2, 3, 1]) 5)) (ht3.below (balloc _ _)) (Row.new w3 [2, 3, 1]).bytes (by decide)
  rw [E2.out] at C
  refine C.mono ?_
  clear C
  rintro e w4 ⟨rfl, hq⟩
  have hb4 : Below w3.heap.size w3 w4 := bstep (balloc _ _) (bquiet hq)
  clear hq
  go_wp2_with fail
  have C := Poly.degree_any (some ⟨w4.heap.size, 0, none⟩) [0, 4, 0] 3 (w4.alloc (.cells (cells [0, 4, 0]) 5)) (Row.new w4 [0, 4, 0]).bytes (by decide)
  rw [E3.out] at C
  refine C.mono ?_
  clear C
  rintro e w5 ⟨rfl, rfl⟩
  go_wp2_with fail
  go_ret
  exact ⟨rfl, bstep hb1 (bstep hb2 (bstep hb3 (bstep hb4 (balloc _ _))))⟩

theorem evals_any (A1 : Option Addr) (l1 : List UInt8) (c1 : Nat) (A2 : Option Addr) (l2 : List UInt8) (c2 : Nat) (x : UInt8) (w : World) (h1 : BytesAt w A1 l1) (k1 : l1.length ≤ c1) (m1 : c1 ≤ maxLen) (h2 : BytesAt w A2 l2) (k2 : l2.length ≤ c2) (m2 : c2 ≤ maxLen) :
    Calls Try.prog 3 #[.slice A1 l1.length c1, .slice A2 l2.length c2, .int .u8 (x.toNat : Nat)] w fun e w' => e = .returned (.bool true) ∧ Below w.heap.size w w' := by
  unfold maxLen at m1 m2
  by_cases hl1 : 60 < l1.length
  · go_enter Try.func3, Try.ntmps3
    go_wp2_with fail
    refine (alive_any _).mono ?_
    rintro e w' ⟨rfl, hb⟩
    go_wp2
    go_ret
    exact ⟨rfl, hb⟩
  by_cases hl2 : 60 < l2.length
  · go_enter Try.func3, Try.ntmps3
    go_wp2_with fail
    refine (alive_any _).mono ?_
    rintro e w' ⟨rfl, hb⟩
    go_wp2
    go_ret
    exact ⟨rfl, hb⟩
  go_enter Try.func3, Try.ntmps3
  go_wp2_with fail
  refine (Gf.new_any _).mono ?_
  rintro e w1 ⟨rfl, ht, hb1, hs1⟩
  have p1 := h1.below hb1
  have p2 := h2.below hb1
  go_wp2_with fail
  refine (Poly.eval_any w.heap.size A1 l1 c1 x w1 ht p1 (by omega)).mono ?_
  rintro e w2 ⟨rfl, hq⟩
  have hb2 := bquiet hq
  clear hq
  have ht := ht.below hb2
  have p1 := p1.below hb2
  have p2 := p2.below hb2
  go_wp2_with fail
  refine (R02.eval_any A1 l1 c1 x w2 p1 (by omega)).mono ?_
  rintro e w' ⟨rfl, rfl⟩
  go_wp2_with fail
  refine (Poly.degree_any A1 l1 c1 w2 p1 (by omega)).mono ?_
  rintro e w' ⟨rfl, rfl⟩
  go_wp2_with fail
  refine (R02.degree_any A1 l1 c1 w2 p1 (by omega)).mono ?_
  rintro e w' ⟨rfl, rfl⟩
  go_wp2_with fail
  refine (Poly.sum_any A1 A2 l1 l2 c1 c2 w2 p1 p2 (by omega) (by omega)).mono ?_
  rintro e w3 ⟨B, d, rfl, hd1, hd2, hB, hb3⟩
  have ht := ht.below hb3
  have p1 := p1.below hb3
  have p2 := p2.below hb3
  go_wp2_with fail
  refine (R02.sum_any A1 A2 l1 l2 c1 c2 w3 p1 p2 (by omega) (by omega)).mono ?_
  rintro e w4 ⟨B', d', rfl, hd1', hd2', hB', hb4⟩
  have hB := hB.below hb4
  have ht := ht.below hb4
  have p1 := p1.below hb4
  go_wp2_with fail
  refine (R01.same_eq B B' _ _ d d' w4 hB hB' (by omega) rfl).mono ?_
  rintro e w5 ⟨rfl, hq⟩
  have hb5 := bquiet hq
  clear hq
  have ht := ht.below hb5
  have p1 := p1.below hb5
  go_wp2_with fail
  refine (Poly.scale_any w.heap.size A1 l1 c1 x w5 ht p1 (by omega)).mono ?_
  rintro e w6 ⟨C, f, rfl, hf1, hf2, hC, hb6⟩
  have p1 := p1.below hb6
  go_wp2_with fail
  refine (R02.scale_any A1 l1 c1 x w6 p1 (by omega)).mono ?_
  rintro e w7 ⟨C', f', rfl, hf1', hf2', hC', hb7⟩
  have hC := hC.below hb7
  go_wp2_with fail
  refine (R01.same_eq C C' _ _ f f' w7 hC hC' (by omega) rfl).mono ?_
  rintro e w8 ⟨rfl, hq⟩
  have hb8 := bquiet hq
  clear hq
  go_wp2_with fail
  refine (alive_any _).mono ?_
  rintro e w9 ⟨rfl, hb9⟩
  go_wp2
  go_ret
  exact ⟨rfl, bstep hb1 (bstep hb2 (bstep hb3 (bstep hb4 (bstep hb5 (bstep hb6 (bstep hb7 (bstep hb8 hb9)))))))⟩

theorem muls_any (A1 : Option Addr) (l1 : List UInt8) (c1 : Nat) (A2 : Option Addr) (l2 : List UInt8) (c2 : Nat) (x : UInt8) (w : World) (h1 : BytesAt w A1 l1) (k1 : l1.length ≤ c1) (m1 : c1 ≤ maxLen) (h2 : BytesAt w A2 l2) (k2 : l2.length ≤ c2) (m2 : c2 ≤ maxLen) :
    Calls Try.prog 4 #[.slice A1 l1.length c1, .slice A2 l2.length c2, .int .u8 (x.toNat : Nat)] w fun e w' => e = .returned (.bool true) ∧ Below w.heap.size w w' := by
  unfold maxLen at m1 m2
  by_cases hl1 : 40 < l1.length
  · go_enter Try.func4, Try.ntmps4
    go_wp2_with fail
    refine (alive_any _).mono ?_
    rintro e w' ⟨rfl, hb⟩
    go_wp2
    go_ret
    exact ⟨rfl, hb⟩
  by_cases hl2 : 40 < l2.length
  · go_enter Try.func4, Try.ntmps4
    go_wp2_with fail
    refine (alive_any _).mono ?_
    rintro e w' ⟨rfl, hb⟩
    go_wp2
    go_ret
    exact ⟨rfl, hb⟩
  go_enter Try.func4, Try.ntmps4
  go_wp2_with fail
  refine (Gf.new_any _).mono ?_
  rintro e w1 ⟨rfl, ht, hb1, hs1⟩
  have p1 := h1.below hb1
  have p2 := h2.below hb1
  go_wp2_with fail
  refine (Poly.mul_any w.heap.size A1 A2 l1 l2 c1 c2 w1 ht p1 p2 (by omega) (by omega)).mono ?_
  rintro e w2 ⟨M, d, rfl, hd1, hd2, hM, hb2⟩
  have ht := ht.below hb2
  have p1 := p1.below hb2
  have p2 := p2.below hb2
  go_wp2_with fail
  refine (R02.mul_any A1 A2 l1 l2 c1 c2 w2 p1 p2 (by omega) (by omega)).mono ?_
  rintro e w3 ⟨M', d', rfl, hd1', hd2', hM', hb3⟩
  have hM := hM.below hb3
  have ht := ht.below hb3
  have p1 := p1.below hb3
  have p2 := p2.below hb3
  go_wp2_with fail
  refine (R01.same_eq M M' _ _ d d' w3 hM hM' (by omega) rfl).mono ?_
  rintro e w4 ⟨rfl, hq⟩
  have hb4 := bquiet hq
  clear hq
  have hM := hM.below hb4
  have ht := ht.below hb4
  have p1 := p1.below hb4
  have p2 := p2.below hb4
  go_wp2_with fail
  refine (Poly.sum_any A1 A2 l1 l2 c1 c2 w4 p1 p2 (by omega) (by omega)).mono ?_
  rintro e w5 ⟨S, f, rfl, hf1, hf2, hS, hb5⟩
  have hM := hM.below hb5
  have ht := ht.below hb5
  have p1 := p1.below hb5
  have p2 := p2.below hb5
  go_wp2_with fail
  have hlenS : (PolyM.padd l1 l2).length ≤ 40 := by simp only [PolyM.padd, PolyM.tab_len]; omega
  have C := Poly.eval_any w.heap.size S _ f x w5 ht hS (by omega)
  rw [PolyM.ev_padd] at C
  refine C.mono ?_
  clear C
  rintro e w6 ⟨rfl, hq⟩
  have hb6 := bquiet hq
  clear hq
  have hM := hM.below hb6
  have ht := ht.below hb6
  have p1 := p1.below hb6
  have p2 := p2.below hb6
  go_wp2_with fail
  refine (Poly.eval_any w.heap.size A1 l1 c1 x w6 ht p1 (by omega)).mono ?_
  rintro e w7 ⟨rfl, hq⟩
  have hb7 := bquiet hq
  clear hq
  have hM := hM.below hb7
  have ht := ht.below hb7
  have p1 := p1.below hb7
  have p2 := p2.below hb7
  go_wp2_with fail
  refine (Poly.eval_any w.heap.size A2 l2 c2 x w7 ht p2 (by omega)).mono ?_
  rintro e w8 ⟨rfl, hq⟩
  have hb8 := bquiet hq
  clear hq
  have hM := hM.below hb8
  have ht := ht.below hb8
  have p1 := p1.below hb8
  have p2 := p2.below hb8
  go_wp2_with fail
  have hlenM : (PolyM.pmul l1 l2).length ≤ 80 := by rw [PolyM.pmul_len]; split <;> omega
  have C := Poly.eval_any w.heap.size M _ d x w8 ht hM (by omega)
  rw [PolyM.ev_pmul] at C
  refine C.mono ?_
  clear C
  rintro e w9 ⟨rfl, hq⟩
  have hb9 := bquiet hq
  clear hq
  have p1 := p1.below hb9
  have p2 := p2.below hb9
  go_wp2_with fail
  refine (R02.eval_any A1 l1 c1 x w9 p1 (by omega)).mono ?_
  rintro e w' ⟨rfl, rfl⟩
  go_wp2_with fail
  refine (R02.eval_any A2 l2 c2 x w9 p2 (by omega)).mono ?_
  rintro e w' ⟨rfl, rfl⟩
  go_wp2_with fail
  refine (R01.mul_any _ _ w9).mono ?_
  rintro e w' ⟨rfl, rfl⟩
  go_wp2_with fail
  refine (alive_any _).mono ?_
  rintro e w10 ⟨rfl, hb10⟩
  go_wp2
  go_ret
  exact ⟨rfl, bstep hb1 (bstep hb2 (bstep hb3 (bstep hb4 (bstep hb5 (bstep hb6 (bstep hb7 (bstep hb8 (bstep hb9 hb10))))))))⟩

set_option maxHeartbeats 1000000 in
theorem overs_any (A1 : Option Addr) (l1 : List UInt8) (c1 : Nat) (x : UInt8) (w : World) (h1 : BytesAt w A1 l1) (k1 : l1.length ≤ c1) (m1 : c1 ≤ maxLen) :
    Calls Try.prog 5 #[.slice A1 l1.length c1, .int .u8 (x.toNat : Nat)] w fun e w' => e = .returned (.bool true) ∧ Below w.heap.size w w' := by
  unfold maxLen at m1
  by_cases hl1 : 60 < l1.length
  · go_enter Try.func5, Try.ntmps5
    go_wp2_with fail
    refine (alive_any _).mono ?_
    rintro e w' ⟨rfl, hb⟩
    go_wp2
    go_ret
    exact ⟨rfl, hb⟩
  have hq : ∃ m : Int, (l1.length = 0 → m = 0) ∧ (l1.length ≠ 0 → m = (l1.length : Int) - 1) ∧ (((PolyM.quo l1 x).length : Int) != m) = false :=
    ⟨((PolyM.quo l1 x).length : Int), by rw [PolyM.quo_len]; omega, by rw [PolyM.quo_len]; omega, by simp⟩
  have hql : (PolyM.quo l1 x).length ≤ 60 := by rw [PolyM.quo_len]; omega
  have hback := PolyM.over_back l1 x
  have hblen : (PolyM.padd (PolyM.pmul (PolyM.quo l1 x) [x, 1]) [PolyM.ev l1 x]).length ≤ 100 := by
    simp only [PolyM.padd, PolyM.tab_len, PolyM.pmul_len, List.length_cons, List.length_nil]; split <;> omega
  have hml : (PolyM.pmul (PolyM.quo l1 x) [x, 1]).length ≤ 100 := by rw [PolyM.pmul_len]; split <;> simp <;> omega
  have HB := Lib.hid hback
  clear hback
  obtain ⟨m, hm0, hm1, hq⟩ := hq
  rcases Nat.lt_or_ge 0 l1.length with h0 | h0
  · have hm := hm1 (by omega)
    rw [hm] at hq
    clear hm hm0 hm1
    go_enter Try.func5, Try.ntmps5
    go_wp2_with fail
    refine (Gf.new_any _).mono ?_
    rintro e w1 ⟨rfl, ht, hb1, hs1⟩
    have p1 := h1.below hb1
    go_wp2_with fail
    refine (Poly.over_any w.heap.size A1 l1 c1 x w1 ht p1 (by omega)).mono ?_
    rintro e w2 ⟨Q, d, rfl, hQ, hb2⟩
    have p1 := p1.below hb2
    go_wp2_with fail
    refine (R02.eval_any A1 l1 c1 x w2 p1 (by omega)).mono ?_
    rintro e w' ⟨rfl, rfl⟩
    go_wp2_with fail
    refine (R02.mul_any Q (some ⟨w2.heap.size, 0, none⟩) (PolyM.quo l1 x) [x, 1] d 2 (w2.alloc (.cells (cells [x, 1]) 5)) (hQ.alloc _) (Row.new w2 [x, 1]).bytes (by omega) (by simp)).mono ?_
    rintro e w3 ⟨M, f, rfl, hf1, hf2, hM, hb3⟩
    have hb3 : Below w2.heap.size w2 w3 := bstep (balloc _ _) hb3
    have p1 := p1.below hb3
    go_wp2_with fail
    refine (R02.sum_any M (some ⟨w3.heap.size, 0, none⟩) (PolyM.pmul (PolyM.quo l1 x) [x, 1]) [PolyM.ev l1 x] f 1 (w3.alloc (.cells (cells [PolyM.ev l1 x]) 5)) (hM.alloc _) (Row.new w3 [PolyM.ev l1 x]).bytes (by omega) (by simp)).mono ?_
    rintro e w4 ⟨K, g, rfl, hg1, hg2, hK, hb4⟩
    have hb4 : Below w3.heap.size w3 w4 := bstep (balloc _ _) hb4
    have p1 := p1.below hb4
    generalize PolyM.padd (PolyM.pmul (PolyM.quo l1 x) [x, 1]) [PolyM.ev l1 x] = bk at *
    clear hq
    go_wp2_with fail
    go_loop [9] (fun i => ∃ k : Nat, k ≤ l1.length + bk.length ∧ i = .int .i64 k)
      (fun i => l1.length + bk.length - (intOf i).toNat)
    case atStart => exact ⟨0, Nat.zero_le _, rfl⟩
    case round =>
      obtain ⟨k, hk, rfl⟩ := hrel
      by_cases hlt : k < l1.length + bk.length
      · have C1 := R02.at_any K bk g k w4 hK (by omega) (by omega)
        rw [HB.out] at C1
        have H1 := Lib.hid C1
        clear C1
        go_wp2_with (first
          | (go_at_call 22; ((with_reducible refine H1.out.mono ?_); rintro e w' ⟨rfl, rfl⟩))
          | (go_at_call 22; ((with_reducible refine (R02.at_any A1 l1 c1 k _ p1 (by omega) (by omega)).mono ?_); rintro e w' ⟨rfl, rfl⟩)))
        go_round
        case rel => exact ⟨k + 1, by omega, by go_num⟩
        case measure => simp [intOf] <;> omega
      · go_wp2_with fail
        refine (alive_any _).mono ?_
        rintro e w5 ⟨rfl, hb5⟩
        go_wp2
        go_ret
        exact ⟨rfl, bstep hb1 (bstep hb2 (bstep hb3 (bstep hb4 hb5)))⟩
  · have hm := hm0 (by omega)
    rw [hm] at hq
    clear hm hm0 hm1
    go_enter Try.func5, Try.ntmps5
    go_wp2_with fail
    refine (Gf.new_any _).mono ?_
    rintro e w1 ⟨rfl, ht, hb1, hs1⟩
    have p1 := h1.below hb1
    go_wp2_with fail
    refine (Poly.over_any w.heap.size A1 l1 c1 x w1 ht p1 (by omega)).mono ?_
    rintro e w2 ⟨Q, d, rfl, hQ, hb2⟩
    have p1 := p1.below hb2
    go_wp2_with fail
    refine (R02.eval_any A1 l1 c1 x w2 p1 (by omega)).mono ?_
    rintro e w' ⟨rfl, rfl⟩
    go_wp2_with fail
    refine (R02.mul_any Q (some ⟨w2.heap.size, 0, none⟩) (PolyM.quo l1 x) [x, 1] d 2 (w2.alloc (.cells (cells [x, 1]) 5)) (hQ.alloc _) (Row.new w2 [x, 1]).bytes (by omega) (by simp)).mono ?_
    rintro e w3 ⟨M, f, rfl, hf1, hf2, hM, hb3⟩
    have hb3 : Below w2.heap.size w2 w3 := bstep (balloc _ _) hb3
    have p1 := p1.below hb3
    go_wp2_with fail
    refine (R02.sum_any M (some ⟨w3.heap.size, 0, none⟩) (PolyM.pmul (PolyM.quo l1 x) [x, 1]) [PolyM.ev l1 x] f 1 (w3.alloc (.cells (cells [PolyM.ev l1 x]) 5)) (hM.alloc _) (Row.new w3 [PolyM.ev l1 x]).bytes (by omega) (by simp)).mono ?_
    rintro e w4 ⟨K, g, rfl, hg1, hg2, hK, hb4⟩
    have hb4 : Below w3.heap.size w3 w4 := bstep (balloc _ _) hb4
    have p1 := p1.below hb4
    generalize PolyM.padd (PolyM.pmul (PolyM.quo l1 x) [x, 1]) [PolyM.ev l1 x] = bk at *
    clear hq
    go_wp2_with fail
    go_loop [9] (fun i => ∃ k : Nat, k ≤ l1.length + bk.length ∧ i = .int .i64 k)
      (fun i => l1.length + bk.length - (intOf i).toNat)
    case atStart => exact ⟨0, Nat.zero_le _, rfl⟩
    case round =>
      obtain ⟨k, hk, rfl⟩ := hrel
      by_cases hlt : k < l1.length + bk.length
      · have C1 := R02.at_any K bk g k w4 hK (by omega) (by omega)
        rw [HB.out] at C1
        have H1 := Lib.hid C1
        clear C1
        go_wp2_with (first
          | (go_at_call 22; ((with_reducible refine H1.out.mono ?_); rintro e w' ⟨rfl, rfl⟩))
          | (go_at_call 22; ((with_reducible refine (R02.at_any A1 l1 c1 k _ p1 (by omega) (by omega)).mono ?_); rintro e w' ⟨rfl, rfl⟩)))
        go_round
        case rel => exact ⟨k + 1, by omega, by go_num⟩
        case measure => simp [intOf] <;> omega
      · go_wp2_with fail
        refine (alive_any _).mono ?_
        rintro e w5 ⟨rfl, hb5⟩
        go_wp2
        go_ret
        exact ⟨rfl, bstep hb1 (bstep hb2 (bstep hb3 (bstep hb4 hb5)))⟩

def has (l : List UInt8) (x : UInt8) : Bool := decide (x ∈ l)
theorem has_nil (x : UInt8) : has [] x = false := by simp [has]
theorem has_succ (l : List UInt8) (x : UInt8) (k : Nat) (h : k < l.length) : has (l.take (k + 1)) x = (has (l.take k) x || (l[k] == x)) := by
  unfold has
  rw [PolyM.take_snoc l k h, Bool.eq_iff_iff]
  simp only [List.mem_append, List.mem_singleton, Bool.or_eq_true, decide_eq_true_eq, beq_iff_eq]
  exact or_congr Iff.rfl eq_comm
theorem has_root (l : List UInt8) (x : UInt8) : (((PolyM.ev (PolyM.proot l) x).toNat : Int) == 0) = has l x := by
  rw [toNat_eq0, Bool.eq_iff_iff]
  unfold has
  simp [PolyM.ev_proot]

set_option maxRecDepth 100000 in
theorem roots_any (A1 : Option Addr) (l1 : List UInt8) (c1 : Nat) (x : UInt8) (w : World) (h1 : BytesAt w A1 l1) (k1 : l1.length ≤ c1) (m1 : c1 ≤ maxLen) :
    Calls Try.prog 6 #[.slice A1 l1.length c1, .int .u8 (x.toNat : Nat)] w fun e w' => e = .returned (.bool true) ∧ Below w.heap.size w w' := by
  unfold maxLen at m1
  by_cases hl1 : 30 < l1.length
  · go_enter Try.func6, Try.ntmps6
    go_wp2_with fail
    refine (alive_any _).mono ?_
    rintro e w' ⟨rfl, hb⟩
    go_wp2
    go_ret
    exact ⟨rfl, hb⟩
  have hlen : (PolyM.proot l1).length ≤ 31 := by rw [PolyM.proot_len]; omega
  go_enter Try.func6, Try.ntmps6
  go_wp2_with fail
  refine (Gf.new_any _).mono ?_
  rintro e w1 ⟨rfl, ht, hb1, hs1⟩
  have p1 := h1.below hb1
  go_wp2_with fail
  refine (Poly.root_any w.heap.size A1 l1 c1 w1 ht p1 (by omega)).mono ?_
  rintro e w2 ⟨P, d, rfl, hd1, hd2, hP, hb2⟩
  have ht := ht.below hb2
  have p1 := p1.below hb2
  go_wp2_with fail
  go_loop [7, 22] (fun v i => ∃ k : Nat, k ≤ l1.length ∧ i = .int .i64 k ∧ v = .bool (has (l1.take k) x))
    (fun _ i => l1.length - (intOf i).toNat)
  case atStart => exact ⟨0, Nat.zero_le _, rfl, by rw [List.take_zero, has_nil]⟩
  case round =>
    obtain ⟨k, hk, rfl, rfl⟩ := hrel
    by_cases hlt : k < l1.length
    · obtain ⟨b, o, hA, e⟩ := p1 k hlt
      subst hA
      have hs := has_succ l1 x k hlt
      have hbq := toNat_beq l1[k] x
      have HS := Lib.hid hs
      have HQ := Lib.hid hbq
      clear hs hbq
      generalize has (l1.take k) x = v at *
      cases v
      all_goals
        go_wp2
        go_round
        case rel => exact ⟨k + 1, by omega, by go_num, by rw [HS.out, ← HQ.out]; rfl⟩
        case measure => simp [intOf] <;> omega
    · obtain rfl : k = l1.length := by omega
      rw [List.take_length]
      have hr := has_root l1 x
      have hd := PolyM.deg_proot l1
      have HD := Lib.hid hd
      clear hd
      generalize has l1 x = v at *
      go_wp2_with fail
      refine (Poly.over_any w.heap.size P (PolyM.proot l1) d x w2 ht hP (by omega)).mono ?_
      rintro e w3 ⟨Q, f, rfl, _, hb3⟩
      have ht := ht.below hb3
      have p1 := p1.below hb3
      have hP := hP.below hb3
      go_wp2_with fail
      refine (R02.root_any A1 l1 c1 w3 p1 (by omega)).mono ?_
      rintro e w4 ⟨R, g, rfl, hg1, hg2, hR, hb4⟩
      have ht := ht.below hb4
      have hP := hP.below hb4
      go_wp2_with fail
      refine (R01.same_eq P R _ _ d g w4 hP hR (by omega) rfl).mono ?_
      rintro e w5 ⟨rfl, hq⟩
      have hb5 := bquiet hq
      clear hq
      have ht := ht.below hb5
      have hP := hP.below hb5
      go_wp2_with fail
      refine (Poly.eval_any w.heap.size P (PolyM.proot l1) d x w5 ht hP (by omega)).mono ?_
      rintro e w6 ⟨rfl, hq⟩
      have hb6 := bquiet hq
      clear hq
      have hP := hP.below hb6
      cases v
      all_goals
        go_wp2_with fail
        have C := Poly.degree_any P (PolyM.proot l1) d w6 hP (by omega)
        rw [HD.out] at C
        refine C.mono ?_
        clear C
        rintro e w' ⟨rfl, rfl⟩
        go_wp2_with fail
        refine (alive_any _).mono ?_
        rintro e w7 ⟨rfl, hb7⟩
        go_wp2
        go_ret
        exact ⟨rfl, bstep hb1 (bstep hb2 (bstep hb3 (bstep hb4 (bstep hb5 (bstep hb6 hb7)))))⟩
end Go.Proofs.Ytamhhlobndjhoaa.Law02
