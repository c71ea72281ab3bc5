/- the walks of layer 3's laws -/
import Derived.Test.YtbdhnpnlgpegpaaLagr
import Derived.Test.YtbdhnpnlgpegpaaR03
namespace Go.Proofs.Ytbdhnpnlgpegpaa.Law03
open Go.RowKit

theorem alive_any (w : World) : Calls Try.prog 6 #[] w fun e w' => e = .returned (.bool true) ∧ Below w.heap.size w w' := by
  have e1 : LagrM.thr [0, 1] [5, 4] = [5, 1] := by decide +kernel
  have e2 : LagrM.unl [0, 1] = true := by decide +kernel
  have e3 : LagrM.unl [1, 1] = false := by decide +kernel
  have E1 := Lib.hid e1; have E2 := Lib.hid e2; have E3 := Lib.hid e3
  clear e1 e2 e3
  go_enter Try.func6, Try.ntmps6
  go_wp2_with fail
  refine (Gf.new_any _).mono ?_
  rintro e w1 ⟨rfl, ht, hb1, hs1⟩
  go_wp2_with fail
  have C := Lagr.through_yes w.heap.size (some ⟨w1.heap.size, 0, none⟩) (some ⟨w1.heap.size + 1, 0, none⟩) [0, 1] [5, 4] 2 2 ((w1.alloc (.cells (cells [0, 1]) 5)).alloc (.cells (cells [5, 4]) 5)) ((ht.below (balloc _ _)).below (balloc _ _)) ((Row.new w1 [0, 1]).bytes.alloc _)
    (by have := (Row.new (w1.alloc (.cells (cells [0, 1]) 5)) [5, 4]).bytes; rw [show (w1.alloc (.cells (cells [0, 1]) 5)).heap.size = w1.heap.size + 1 from by simp] at this; exact this) (by decide) rfl E2.out
  rw [E1.out] at C
  refine C.mono ?_
  clear C
  rintro e w2 ⟨B, d, rfl, hB, hb2, _, _⟩
  have hb2 : Below w1.heap.size w1 w2 := bstep (balloc _ _) (bstep (balloc _ _) hb2)
  have HB := Lib.hid hB
  clear hB
  go_wp2_with fail
  refine (Gf.new_any _).mono ?_
  rintro e w3 ⟨rfl, ht3, hb3, hs3⟩
  have HB := Lib.hid (HB.out.below hb3)
  go_wp2_with fail
  refine (Lagr.through_no w2.heap.size (some ⟨w3.heap.size, 0, none⟩) (some ⟨w3.heap.size + 1, 0, none⟩) [1, 1] [5, 4] 2 2 ((w3.alloc (.cells (cells [1, 1]) 5)).alloc (.cells (cells [5, 4]) 5)) ((Row.new w3 [1, 1]).bytes.alloc _) (by decide) (by decide) (.inr E3.out)).mono ?_
  rintro e w4 ⟨rfl, hb4⟩
  have hb4 : Below w3.heap.size w3 w4 := bstep (balloc _ _) (bstep (balloc _ _) hb4)
  have HB := Lib.hid (HB.out.below hb4)
  go_wp2_with fail
  refine (R01.same_eq B (some ⟨w4.heap.size, 0, none⟩) [5, 1] [5, 1] d 2 _ (HB.out.alloc _) (Row.new w4 [5, 1]).bytes (by decide) rfl).mono ?_
  rintro e w5 ⟨rfl, hq⟩
  have hb5 : Below w4.heap.size w4 w5 := bstep (balloc _ _) (bquiet hq)
  clear hq
  go_wp2
  go_ret
  exact ⟨rfl, bstep hb1 (bstep hb2 (bstep hb3 (bstep hb4 hb5)))⟩

theorem throughs_no (A1 : Option Addr) (xs : List UInt8) (c1 : Nat) (A2 : Option Addr) (ys : List UInt8) (c2 : Nat) (x : UInt8) (w : World) (h1 : BytesAt w A1 xs) (h2 : BytesAt w A2 ys) (hl1 : xs.length ≤ 20) (hl2 : ys.length ≤ 25)
    (hu : xs.length ≠ ys.length ∨ LagrM.unl xs = false) :
    Calls Try.prog 3 #[.slice A1 xs.length c1, .slice A2 ys.length c2, .int .u8 (x.toNat : Nat)] w fun e w' => e = .returned (.bool true) ∧ Below w.heap.size w w' := by
  have q : LagrM.unl xs = true → ((xs.length : Int) != (ys.length : Int)) = true := fun h => by
    rw [bne_iff_ne]; rcases hu with h' | h'
    · omega
    · rw [h] at h'; cases h'
  have HU := Lib.hid hu
  clear hu
  go_enter Try.func3, Try.ntmps3
  go_wp2_with fail
  refine (Gf.new_any _).mono ?_
  rintro e w1 ⟨rfl, ht, hb1, hs1⟩
  have p1 := h1.below hb1; have p2 := h2.below hb1
  go_wp2_with fail
  refine (Lagr.through_no w.heap.size A1 A2 xs ys c1 c2 w1 p1 (by omega) (by omega) HU.out).mono ?_
  rintro e w2 ⟨rfl, hb2⟩
  have ht := ht.below hb2; have p1 := p1.below hb2; have p2 := p2.below hb2
  go_wp2_with fail
  refine (Lagr.at_no w.heap.size A1 A2 xs ys c1 c2 x w2 ht p1 p2 (by omega) (by omega) HU.out).mono ?_
  rintro e w3 ⟨rfl, hb3⟩
  have p1 := p1.below hb3
  go_wp2_with fail
  refine (R03.unlike_any A1 xs c1 w3 p1 (by omega)).mono ?_
  rintro e w4 ⟨rfl, hq⟩
  have hb4 := bquiet hq
  clear hq p1 p2 h1 h2
  rcases hv : LagrM.unl xs with _ | _
  · clear hv q
    go_wp2_with fail
    refine (alive_any _).mono ?_
    rintro e w5 ⟨rfl, hb5⟩
    go_wp2
    go_ret
    exact ⟨rfl, bstep hb1 (bstep hb2 (bstep hb3 (bstep hb4 hb5)))⟩
  · have q := q hv
    clear hv
    go_wp2_with fail
    refine (alive_any _).mono ?_
    rintro e w5 ⟨rfl, hb5⟩
    go_wp2
    go_ret
    exact ⟨rfl, bstep hb1 (bstep hb2 (bstep hb3 (bstep hb4 hb5)))⟩

theorem throughs_yes (A1 : Option Addr) (xs : List UInt8) (c1 : Nat) (A2 : Option Addr) (ys : List UInt8) (c2 : Nat) (x : UInt8) (w : World) (h1 : BytesAt w A1 xs) (h2 : BytesAt w A2 ys) (hl1 : xs.length ≤ 20) (hl2 : ys.length ≤ 25)
    (he : xs.length = ys.length) (hu : LagrM.unl xs = true) :
    Calls Try.prog 3 #[.slice A1 xs.length c1, .slice A2 ys.length c2, .int .u8 (x.toNat : Nat)] w fun e w' => e = .returned (.bool true) ∧ Below w.heap.size w w' := by
  have q : ((xs.length : Int) != (ys.length : Int)) = false := by simp [he]
  have hlt : (LagrM.thr xs ys).length ≤ 20 := by rw [LagrM.thr_len]; exact hl1
  have hv : ∀ k, (h : k < xs.length) → (h2 : k < ys.length) → PolyM.ev (LagrM.thr xs ys) xs[k] = ys[k] := fun k h h2 => by
    have := LagrM.thr_ev ((LagrM.unl_iff xs).1 hu) ys k h
    rwa [PolyM.co_get _ _ h, PolyM.co_get _ _ h2] at this
  have hle : xs.length ≤ ys.length := by omega
  have HU := Lib.hid hu; have HE := Lib.hid he; have HV := Lib.hid hv
  clear hu hv
  clear he
  go_enter Try.func3, Try.ntmps3
  go_wp2_with fail
  refine (Gf.new_any _).mono ?_
  rintro e w1 ⟨rfl, ht, hb1, hs1⟩
  have p1 := h1.below hb1; have p2 := h2.below hb1
  go_wp2_with fail
  refine (Lagr.through_yes w.heap.size A1 A2 xs ys c1 c2 w1 ht p1 p2 (by omega) HE.out HU.out).mono ?_
  rintro e w2 ⟨B, d, rfl, hB, hb2, _, hdm⟩
  have ht := ht.below hb2; have p1 := p1.below hb2; have p2 := p2.below hb2
  go_wp2_with fail
  refine (Lagr.at_yes w.heap.size A1 A2 xs ys c1 c2 x w2 ht p1 p2 (by omega) HE.out HU.out).mono ?_
  rintro e w3 ⟨rfl, hb3⟩
  have hB := hB.below hb3; have p1 := p1.below hb3; have p2 := p2.below hb3
  go_wp2_with fail
  have C := R03.unlike_any A1 xs c1 w3 p1 (by omega)
  rw [HU.out] at C
  refine C.mono ?_
  clear C
  rintro e w4 ⟨rfl, hq⟩
  have hb4 := bquiet hq
  clear hq
  have hB := hB.below hb4; have p1 := p1.below hb4; have p2 := p2.below hb4
  go_wp2_with fail
  refine (R03.through_any A1 A2 xs ys c1 c2 w4 p1 p2 (by omega) hle).mono ?_
  rintro e w5 ⟨D, f, rfl, hf1, hf2, hD, hb5⟩
  have hB := hB.below hb5; have p1 := p1.below hb5; have p2 := p2.below hb5
  go_wp2_with fail
  refine (R01.same_eq B D _ _ d f w5 hB hD (by unfold maxLen; omega) rfl).mono ?_
  rintro e w6 ⟨rfl, hq⟩
  have hb6 := bquiet hq
  clear hq hD
  have hB := hB.below hb6; have p1 := p1.below hb6; have p2 := p2.below hb6
  go_wp2_with fail
  refine (R02.eval_any B (LagrM.thr xs ys) d x w6 hB (by omega)).mono ?_
  rintro e w' ⟨rfl, rfl⟩
  go_wp2_with fail
  have HB := Lib.hid hB; have P1 := Lib.hid p1; have P2 := Lib.hid p2
  clear hB p1 p2 h1 h2 q
  go_loopw [89] (fun i wr => ∃ k n : Nat, k ≤ xs.length ∧ i = .int .i64 k ∧ wr = w6.drewN n)
    (fun i _ => xs.length - (intOf i).toNat)
  case atStart => exact ⟨0, 0, Nat.zero_le _, rfl, rfl⟩
  case round =>
    obtain ⟨k, n, hk, rfl, hwr⟩ := hrel
    have HW := Lib.hid hwr
    have hB : BytesAt wr B (LagrM.thr xs ys) := by rw [hwr]; exact HB.out
    have p1 : BytesAt wr A1 xs := by rw [hwr]; exact P1.out
    have p2 : BytesAt wr A2 ys := by rw [hwr]; exact P2.out
    clear hwr HB P1 P2
    by_cases hlt1 : k < xs.length
    · obtain ⟨b1, o1, rfl, e1⟩ := p1 k hlt1
      obtain ⟨b2, o2, rfl, e2⟩ := p2 k (by omega)
      have hky : k < ys.length := by omega
      have hv := HV.out k hlt1 hky
      have HB := Lib.hid hB; have HV1 := Lib.hid hv
      have C : ∀ W, BytesAt W B (LagrM.thr xs ys) → Calls Try.prog 13 #[.slice B (LagrM.thr xs ys).length d, .int .u8 (xs[k].toNat : Nat)] W fun e w' => e = .returned (.int .u8 (ys[k].toNat : Nat)) ∧ w' = W := fun W h => by
        rw [← HV1.out]; exact (R02.eval_any B (LagrM.thr xs ys) d xs[k] W h (by omega)).mono fun _ _ h => ⟨h.1, h.2.symm⟩
      have HC := Lib.hid C
      clear hB hv C p1 p2
      generalize xs[k] = u at *
      generalize ys[k] = v at *
      have q : ((v.toNat : Int) != (v.toNat : Int)) = false := by simp
      go_wp2
      go_quiet ((go_at_call 13; exact Calls.quiet_of_same (HC.out _ (HB.out.drewN _))))
      go_wp2
      go_roundw
      case rel => exact ⟨k + 1, n + nq, by omega, by go_num, by rw [HW.out, World.drewN_drewN]⟩
      case measure => simp [intOf] <;> omega
    · have hbw : Below w6.heap.size w6 wr := bquiet ⟨n, HW.out⟩
      clear p1 p2 hB
      go_wp2_with fail
      refine (alive_any _).mono ?_
      rintro e w7 ⟨rfl, hb7⟩
      go_wp2
      go_ret
      exact ⟨rfl, bstep hb1 (bstep hb2 (bstep hb3 (bstep hb4 (bstep hb5 (bstep hb6 (bstep hbw hb7))))))⟩

theorem throughs_any (A1 : Option Addr) (xs : List UInt8) (c1 : Nat) (A2 : Option Addr) (ys : List UInt8) (c2 : Nat) (x : UInt8) (w : World) (h1 : BytesAt w A1 xs) (k1 : xs.length ≤ c1) (m1 : c1 ≤ maxLen) (h2 : BytesAt w A2 ys) (k2 : ys.length ≤ c2) (m2 : c2 ≤ maxLen) :
    Calls Try.prog 3 #[.slice A1 xs.length c1, .slice A2 ys.length c2, .int .u8 (x.toNat : Nat)] w fun e w' => e = .returned (.bool true) ∧ Below w.heap.size w w' := by
  unfold maxLen at m1 m2
  by_cases hl1 : 20 < xs.length
  · go_enter Try.func3, Try.ntmps3
    go_wp2_with fail
    refine (alive_any _).mono ?_
    rintro e w' ⟨rfl, hb⟩
    go_wp2
    go_ret
    exact ⟨rfl, hb⟩
  by_cases hl2 : 25 < ys.length
  · go_enter Try.func3, Try.ntmps3
    go_wp2_with fail
    refine (alive_any _).mono ?_
    rintro e w' ⟨rfl, hb⟩
    go_wp2
    go_ret
    exact ⟨rfl, hb⟩
  rcases hu : LagrM.unl xs with _ | _
  · exact throughs_no A1 xs c1 A2 ys c2 x w h1 h2 (by omega) (by omega) (.inr hu)
  · by_cases he : xs.length = ys.length
    · exact throughs_yes A1 xs c1 A2 ys c2 x w h1 h2 (by omega) (by omega) he hu
    · exact throughs_no A1 xs c1 A2 ys c2 x w h1 h2 (by omega) (by omega) (.inl he)

theorem weights_any (A1 : Option Addr) (xs : List UInt8) (c1 : Nat) (A2 : Option Addr) (p : List UInt8) (c2 : Nat) (x : UInt8) (w : World) (h1 : BytesAt w A1 xs) (k1 : xs.length ≤ c1) (m1 : c1 ≤ maxLen) (h2 : BytesAt w A2 p) (k2 : p.length ≤ c2) (m2 : c2 ≤ maxLen) :
    Calls Try.prog 4 #[.slice A1 xs.length c1, .slice A2 p.length c2, .int .u8 (x.toNat : Nat)] w fun e w' => e = .returned (.bool true) ∧ Below w.heap.size w w' := by
  unfold maxLen at m1 m2
  by_cases hl1 : 20 < xs.length
  · go_enter Try.func4, Try.ntmps4
    go_wp2_with fail
    refine (alive_any _).mono ?_
    rintro e w' ⟨rfl, hb⟩
    go_wp2
    go_ret
    exact ⟨rfl, hb⟩
  by_cases hl2 : 20 < p.length
  · go_enter Try.func4, Try.ntmps4
    go_wp2_with fail
    refine (alive_any _).mono ?_
    rintro e w' ⟨rfl, hb⟩
    go_wp2
    go_ret
    exact ⟨rfl, hb⟩
  rcases hu : LagrM.unl xs with _ | _
  · have HU := Lib.hid hu
    clear hu
    go_enter Try.func4, Try.ntmps4
    go_wp2_with fail
    refine (Gf.new_any _).mono ?_
    rintro e w1 ⟨rfl, ht, hb1, hs1⟩
    have p1 := h1.below hb1
    go_wp2_with fail
    refine (Lagr.weights_no w.heap.size A1 xs c1 x w1 p1 (by omega) HU.out).mono ?_
    rintro e w2 ⟨rfl, hb2⟩
    have p1 := p1.below hb2
    go_wp2_with fail
    have C := R03.unlike_any A1 xs c1 w2 p1 (by omega)
    rw [HU.out] at C
    refine C.mono ?_
    clear C
    rintro e w3 ⟨rfl, hq⟩
    have hb3 := bquiet hq
    clear hq
    go_wp2_with fail
    refine (alive_any _).mono ?_
    rintro e w4 ⟨rfl, hb4⟩
    go_wp2
    go_ret
    exact ⟨rfl, bstep hb1 (bstep hb2 (bstep hb3 hb4))⟩
  · have HU := Lib.hid hu
    have hlw : (LagrM.wgts xs x).length ≤ 20 := by rw [LagrM.wgts_len]; omega
    have hd := fun h => LagrM.dot_vals ((LagrM.unl_iff xs).1 hu) p h x
    have HD := Lib.hid hd
    clear hu hd
    have hlp : (decide (xs.length < p.length) = false ∧ p.length ≤ xs.length) ∨ (decide (xs.length < p.length) = true ∧ xs.length < p.length) := by simp; omega
    rcases hlp with ⟨q, hlp⟩ | ⟨q, hlp⟩
    all_goals
      go_enter Try.func4, Try.ntmps4
      go_wp2_with fail
      refine (Gf.new_any _).mono ?_
      rintro e w1 ⟨rfl, ht, hb1, hs1⟩
      have p1 := h1.below hb1; have p2 := h2.below hb1
      go_wp2_with fail
      refine (Lagr.weights_yes w.heap.size A1 xs c1 x w1 ht p1 (by omega) HU.out).mono ?_
      rintro e w2 ⟨B, d, rfl, hB, hb2, _, _, hdm⟩
      have p1 := p1.below hb2; have p2 := p2.below hb2
      go_wp2_with fail
      have C := R03.unlike_any A1 xs c1 w2 p1 (by omega)
      rw [HU.out] at C
      refine C.mono ?_
      clear C
      rintro e w3 ⟨rfl, hq⟩
      have hb3 := bquiet hq
      clear hq
      have hB := hB.below hb3; have p1 := p1.below hb3; have p2 := p2.below hb3
      go_wp2_with fail
      refine (R03.weights_any A1 xs c1 x w3 p1 (by omega)).mono ?_
      rintro e w4 ⟨D, f, rfl, hf1, hf2, hD, hb4⟩
      have hB := hB.below hb4; have p1 := p1.below hb4; have p2 := p2.below hb4
      go_wp2_with fail
      refine (R01.same_eq B D _ _ d f w4 hB hD (by unfold maxLen; omega) rfl).mono ?_
      rintro e w5 ⟨rfl, hq⟩
      have hb5 := bquiet hq
      clear hq hD
      have hB := hB.below hb5; have p1 := p1.below hb5; have p2 := p2.below hb5
      go_wp2_with fail
    · have HB := Lib.hid hB; have P1 := Lib.hid p1; have P2 := Lib.hid p2
      clear hB p1 p2 h1 h2 ht
      go_loopw [10, 61] (fun v i wr => ∃ k : Nat, k ≤ xs.length ∧ i = .int .i64 k ∧ Own wr w5.heap.size v (LagrM.vals p xs k) ∧ Below w5.heap.size w5 wr)
        (fun _ i _ => xs.length - (intOf i).toNat)
      case atStart => exact ⟨0, Nat.zero_le _, rfl, Own.nil _ _, Below.refl _ _⟩
      case round =>
        obtain ⟨k, hk, rfl, hown, hb⟩ := hrel
        have hz := hb.size
        have HO := Lib.hid hown
        clear hown
        by_cases hlt : k < xs.length
        · obtain ⟨b, o, hA, e⟩ := P1.out.below hb k hlt
          subst hA
          have hs := LagrM.vals_succ p xs k hlt
          have hvl := LagrM.vals_len p xs k
          have HS := Lib.hid hs; have HL := Lib.hid hvl
          have p2 := P2.out.below hb
          have P2' := Lib.hid p2
          clear hs hvl p2
          generalize xs[k] = u at *
          go_wp2_with (first
            | (go_at_call 13; refine (R02.eval_any A2 p c2 u wr P2'.out (by omega)).mono ?_; rintro e w' ⟨rfl, rfl⟩)
            | (at_builtin; refine wpList_append_u8 rfl _ _ rfl w5.heap.size _ _ rfl (HO.out.alloc _) wr.heap.size 1 (PolyM.ev p u) rfl (by simp) (by rw [HL.out]; omega) (by simp; omega) ?_; intro v' w7 hown1 hb7))
          go_roundw
          case rel => exact ⟨k + 1, by omega, by go_num, by rw [HS.out]; exact hown1, (hb.alloc hz _).trans hb7⟩
          case measure => simp [intOf] <;> omega
        · obtain rfl : k = xs.length := by omega
          obtain ⟨Y, cy, rfl, hy1, hy2, hY⟩ := HO.out.bytes
          have hvl := LagrM.vals_len p xs xs.length
          have hB := HB.out.below hb; have p2 := P2.out.below hb
          have hly : (LagrM.vals p xs xs.length).length ≤ maxLen := by rw [hvl]; unfold maxLen; omega
          have HL := Lib.hid hvl
          clear hvl HO
          go_wp2_with fail
          have C := R01.dot_any B Y (LagrM.wgts xs x) (LagrM.vals p xs xs.length) d cy wr hB hY (by unfold maxLen; omega) hly
          rw [HD.out hlp] at C
          refine C.mono ?_
          clear C
          rintro e w8 ⟨rfl, hq⟩
          have hb8 := bquiet hq
          clear hq
          go_wp2_with fail
          refine (R02.eval_any A2 p c2 x w8 (p2.below hb8) (by omega)).mono ?_
          rintro e w' ⟨rfl, rfl⟩
          go_wp2_with fail
          refine (alive_any _).mono ?_
          rintro e w9 ⟨rfl, hb9⟩
          go_wp2
          go_ret
          exact ⟨rfl, bstep hb1 (bstep hb2 (bstep hb3 (bstep hb4 (bstep hb5 (bstep hb (bstep hb8 hb9))))))⟩
    · refine (alive_any _).mono ?_
      rintro e w6 ⟨rfl, hb6⟩
      go_wp2
      go_ret
      exact ⟨rfl, bstep hb1 (bstep hb2 (bstep hb3 (bstep hb4 (bstep hb5 hb6))))⟩

theorem once_any (A1 : Option Addr) (xs : List UInt8) (c1 : Nat) (A2 : Option Addr) (p : List UInt8) (c2 : Nat) (w : World) (h1 : BytesAt w A1 xs) (k1 : xs.length ≤ c1) (m1 : c1 ≤ maxLen) (h2 : BytesAt w A2 p) (k2 : p.length ≤ c2) (m2 : c2 ≤ maxLen) :
    Calls Try.prog 5 #[.slice A1 xs.length c1, .slice A2 p.length c2] w fun e w' => e = .returned (.bool true) ∧ Below w.heap.size w w' := by
  unfold maxLen at m1 m2
  by_cases hl1 : 20 < xs.length
  · go_enter Try.func5, Try.ntmps5
    go_wp2_with fail
    refine (alive_any _).mono ?_
    rintro e w' ⟨rfl, hb⟩
    go_wp2
    go_ret
    exact ⟨rfl, hb⟩
  by_cases hl2 : xs.length < p.length
  · go_enter Try.func5, Try.ntmps5
    go_wp2_with fail
    refine (alive_any _).mono ?_
    rintro e w' ⟨rfl, hb⟩
    go_wp2
    go_ret
    exact ⟨rfl, hb⟩
  rcases hu : LagrM.unl xs with _ | _
  · have HU := Lib.hid hu
    clear hu
    go_enter Try.func5, Try.ntmps5
    go_wp2_with fail
    have C := R03.unlike_any A1 xs c1 w h1 (by omega)
    rw [HU.out] at C
    refine C.mono ?_
    clear C
    rintro e w1 ⟨rfl, hq⟩
    have hb1 := bquiet hq
    clear hq
    go_wp2_with fail
    refine (alive_any _).mono ?_
    rintro e w4 ⟨rfl, hb4⟩
    go_wp2
    go_ret
    exact ⟨rfl, bstep hb1 hb4⟩
  · have HU := Lib.hid hu
    have hth := fun h => LagrM.thr_vals ((LagrM.unl_iff xs).1 hu) p h
    have HT := Lib.hid hth
    clear hu hth
    go_enter Try.func5, Try.ntmps5
    go_wp2_with fail
    have C := R03.unlike_any A1 xs c1 w h1 (by omega)
    rw [HU.out] at C
    refine C.mono ?_
    clear C
    rintro e w5 ⟨rfl, hq⟩
    have hb1 := bquiet hq
    clear hq
    have P1 := Lib.hid (h1.below hb1); have P2 := Lib.hid (h2.below hb1)
    clear h1 h2
    go_wp2_with fail
    go_loopw [5, 29] (fun v i wr => ∃ k : Nat, k ≤ xs.length ∧ i = .int .i64 k ∧ Own wr w5.heap.size v (LagrM.vals p xs k) ∧ Below w5.heap.size w5 wr)
      (fun _ i _ => xs.length - (intOf i).toNat)
    case atStart => exact ⟨0, Nat.zero_le _, rfl, Own.nil _ _, Below.refl _ _⟩
    case round =>
      obtain ⟨k, hk, rfl, hown, hb⟩ := hrel
      have hz := hb.size
      have HO := Lib.hid hown
      clear hown
      by_cases hlt : k < xs.length
      · obtain ⟨b, o, hA, e⟩ := P1.out.below hb k hlt
        subst hA
        have hs := LagrM.vals_succ p xs k hlt
        have hvl := LagrM.vals_len p xs k
        have HS := Lib.hid hs; have HL := Lib.hid hvl
        have p2 := P2.out.below hb
        have P2' := Lib.hid p2
        clear hs hvl p2
        generalize xs[k] = u at *
        go_wp2_with (first
          | (go_at_call 13; refine (R02.eval_any A2 p c2 u wr P2'.out (by omega)).mono ?_; rintro e w' ⟨rfl, rfl⟩)
          | (at_builtin; refine wpList_append_u8 rfl _ _ rfl w5.heap.size _ _ rfl (HO.out.alloc _) wr.heap.size 1 (PolyM.ev p u) rfl (by simp) (by rw [HL.out]; omega) (by simp; omega) ?_; intro v' w7 hown1 hb7))
        go_roundw
        case rel => exact ⟨k + 1, by omega, by go_num, by rw [HS.out]; exact hown1, (hb.alloc hz _).trans hb7⟩
        case measure => simp [intOf] <;> omega
      · obtain rfl : k = xs.length := by omega
        obtain ⟨Y, cy, rfl, hy1, hy2, hY⟩ := HO.out.bytes
        have hvl := LagrM.vals_len p xs xs.length
        have p1 := P1.out.below hb; have p2 := P2.out.below hb
        have htl : (LagrM.thr xs (LagrM.vals p xs xs.length)).length = xs.length := LagrM.thr_len _ _
        have HL := Lib.hid hvl; have HTL := Lib.hid htl
        have P1 := Lib.hid p1; have P2 := Lib.hid p2; have HY := Lib.hid hY
        clear hvl htl HO p1 p2 hY
        generalize LagrM.vals p xs xs.length = ys at *
        go_wp2_with fail
        refine (Gf.new_any _).mono ?_
        rintro e w6 ⟨rfl, ht, hb6, hs6⟩
        go_wp2_with fail
        refine (Lagr.through_yes wr.heap.size A1 Y xs ys c1 cy w6 ht (P1.out.below hb6) (HY.out.below hb6) (by omega) HL.out.symm HU.out).mono ?_
        rintro e w7 ⟨Z, dz, rfl, hZ, hb7, _, _⟩
        have p2 := (P2.out.below hb6).below hb7
        have HZ := Lib.hid hZ; have P2 := Lib.hid p2
        have HT := Lib.hid (HT.out (by omega))
        clear hZ p2 ht
        have q : (((LagrM.thr xs ys).length : Int) == (xs.length : Int)) = true := by rw [HTL.out]; simp
        have htl : (LagrM.thr xs ys).length ≤ 20 := by rw [HTL.out]; omega
        go_wp2_with fail
        go_loop [51] (fun i => ∃ k : Nat, k ≤ xs.length ∧ i = .int .i64 k)
          (fun i => xs.length - (intOf i).toNat)
        case atStart => exact ⟨0, Nat.zero_le _, rfl⟩
        case round =>
          obtain ⟨k, hk, rfl⟩ := hrel
          by_cases hlt2 : k < xs.length
          · have C1 := R02.at_any Z (LagrM.thr xs ys) dz k w7 HZ.out (by omega) (by omega)
            rw [HT.out] at C1
            have H1 := Lib.hid C1
            have C2 := R02.at_any A2 p c2 k w7 P2.out (by omega) (by omega)
            have H2 := Lib.hid C2
            clear C1 C2
            go_wp2_with (first
              | (go_at_call 17; ((with_reducible refine H1.out.mono ?_); rintro e w' ⟨rfl, rfl⟩))
              | (go_at_call 17; ((with_reducible refine H2.out.mono ?_); rintro e w' ⟨rfl, rfl⟩)))
            go_round
            case rel => exact ⟨k + 1, by omega, by go_num⟩
            case measure => simp [intOf] <;> omega
          · go_wp2_with fail
            refine (alive_any _).mono ?_
            rintro e w8 ⟨rfl, hb8⟩
            go_wp2
            go_ret
            exact ⟨rfl, bstep hb1 (bstep hb (bstep hb6 (bstep hb7 hb8)))⟩
end Go.Proofs.Ytbdhnpnlgpegpaa.Law03
