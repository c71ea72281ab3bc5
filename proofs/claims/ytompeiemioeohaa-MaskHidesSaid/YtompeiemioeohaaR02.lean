/- the document's own answers of layer 2 -/
import Derived.Test.YtompeiemioeohaaR01
import Derived.Test.YtompeiemioeohaaMA
import Derived.Deep.QuietTactic
set_option maxRecDepth 100000
namespace Go.Proofs.Ytompeiemioeohaa.R02
open Go.RowKit

theorem at_any (A : Option Addr) (l : List UInt8) (c : Nat) (k : Nat) (w : World) (h : BytesAt w A l) (_hl : l.length ≤ 1099511627776) (hk : k ≤ 1099511627776) :
    Calls Try.prog 60 #[.slice A l.length c, .int .i64 (k : Nat)] w fun e w' => e = .returned (.int .u8 ((PolyM.co l k).toNat : Nat)) ∧ w = w' := by
  by_cases hlt : k < l.length
  · rw [PolyM.co_get l k hlt]
    obtain ⟨b, o, rfl, e⟩ := h k hlt
    clear h
    go_enter Try.func60, Try.ntmps60
    go_wp2
    go_ret
    exact ⟨rfl, rfl⟩
  · rw [PolyM.co_ge l k (by omega)]
    clear h
    go_enter Try.func60, Try.ntmps60
    go_wp2
    go_ret
    exact ⟨rfl, rfl⟩

theorem eval_any (A : Option Addr) (l : List UInt8) (c : Nat) (x : UInt8) (w : World) (h : BytesAt w A l) (hl : l.length ≤ 1099511627776) :
    Calls Try.prog 16 #[.slice A l.length c, .int .u8 (x.toNat : Nat)] w fun e w' => e = .returned (.int .u8 ((PolyM.ev l x).toNat : Nat)) ∧ w = w' := by
  go_enter Try.func16, Try.ntmps16
  go_wp2
  go_loop [5, 6, 7] (fun s p i => ∃ k : Nat, k ≤ l.length ∧ i = .int .i64 k ∧ s = .int .i64 ((PolyM.ev (l.take k) x).toNat : Nat) ∧ p = .int .u8 ((GfM.npow x k).toNat : Nat))
    (fun _ _ i => l.length - (intOf i).toNat)
  case atStart => exact ⟨0, Nat.zero_le _, rfl, rfl, rfl⟩
  case round =>
    obtain ⟨k, hk, rfl, rfl, rfl⟩ := hrel
    by_cases hlt : k < l.length
    · obtain ⟨b, o, rfl, e⟩ := h k hlt
      have hd := PolyM.ev_take_succ l x k hlt
      have hx := xor_i64 (PolyM.ev (l.take k) x) (GfM.mul l[k] (GfM.npow x k))
      have HD := Lib.hid hd; have HX := Lib.hid hx
      have hp : GfM.npow x (k + 1) = GfM.mul (GfM.npow x k) x := rfl
      have HP := Lib.hid hp
      have hb1 := GfM.lt (GfM.mul l[k] (GfM.npow x k))
      have hb2 := GfM.lt (PolyM.ev (l.take k) x)
      clear h hd hx hp
      go_wp2_with (go_at_call 48; refine (R01.mul_any _ _ _).mono ?_; rintro e w' ⟨rfl, rfl⟩)
      go_round
      case rel => exact ⟨k + 1, by omega, by go_num, by rw [HD.out, HX.out], by rw [HP.out]⟩
      case measure => simp [intOf] <;> omega
    · obtain rfl : k = l.length := by omega
      rw [List.take_length] at *
      have hb := GfM.lt (PolyM.ev l x)
      go_wp2
      go_ret
      exact ⟨rfl, rfl⟩

theorem sum_new (A1 A2 : Option Addr) (l1 l2 : List UInt8) (c1 c2 : Nat) (w : World) (h1 : BytesAt w A1 l1) (h2 : BytesAt w A2 l2) (m1 : l1.length ≤ 1099511627) (m2 : l2.length ≤ 1099511627) :
    Calls Try.prog 32 #[.slice A1 l1.length c1, .slice A2 l2.length c2] w (RetNew w (PolyM.padd l1 l2)) := by
  go_enter Try.func32, Try.ntmps32
  go_wp2
  go_loopw [5, 6] (fun v i wr => ∃ k : Nat, k ≤ max l1.length l2.length ∧ i = .int .i64 k ∧ Own wr w.heap.size v (PolyM.tab k fun j => GfM.add (PolyM.co l1 j) (PolyM.co l2 j)) ∧ Below w.heap.size w wr)
    (fun _ i _ => max l1.length l2.length - (intOf i).toNat)
  case atStart => exact ⟨0, Nat.zero_le _, rfl, Own.nil _ _, Below.refl _ _⟩
  case round =>
    obtain ⟨k, hk, rfl, hown, hb⟩ := hrel
    have h1 : BytesAt wr A1 l1 := h1.below hb
    have h2 : BytesAt wr A2 l2 := h2.below hb
    have hz := hb.size
    by_cases hlt : k < max l1.length l2.length
    · have hsnoc := PolyM.tab_succ k fun j => GfM.add (PolyM.co l1 j) (PolyM.co l2 j)
      have HS := Lib.hid hsnoc
      have HO := Lib.hid hown
      clear hsnoc hown
      by_cases hl1 : k < l1.length
      all_goals
        go_wp2_with (first
          | (go_at_call 60; refine (at_any _ _ _ _ _ (by assumption) (by omega) (by omega)).mono ?_; rintro e w' ⟨rfl, rfl⟩)
          | (at_builtin; refine wpList_append_u8 rfl _ _ rfl w.heap.size _ _ rfl (HO.out.alloc _) wr.heap.size 1 (GfM.add (PolyM.co l1 k) (PolyM.co l2 k)) rfl (by simp) (by simp; omega) (by simp; omega) ?_; intro v' w1 hown1 hb1))
        go_roundw
        case rel => exact ⟨k + 1, by omega, by go_num, by rw [HS.out]; exact hown1, (hb.alloc hz _).trans hb1⟩
        case measure => simp [intOf] <;> omega
    · obtain rfl : k = max l1.length l2.length := by omega
      have HO := Lib.hid hown
      clear hown h1 h2
      have g1 : decide (((max l1.length l2.length : Nat) : Int) < (l1.length : Int)) = false := by simp; omega
      have g2 : decide (((max l1.length l2.length : Nat) : Int) < (l2.length : Int)) = false := by simp; omega
      go_wp2
      go_ret
      exact RetNew.of_own HO.out hb
theorem sum_any (A1 A2 : Option Addr) (l1 l2 : List UInt8) (c1 c2 : Nat) (w : World) (h1 : BytesAt w A1 l1) (h2 : BytesAt w A2 l2) (m1 : l1.length ≤ 1099511627) (m2 : l2.length ≤ 1099511627) :
    Calls Try.prog 32 #[.slice A1 l1.length c1, .slice A2 l2.length c2] w (RetBytes w (PolyM.padd l1 l2)) := (sum_new A1 A2 l1 l2 c1 c2 w h1 h2 m1 m2).mono fun _ _ h => h.bytes
theorem scale_new (A : Option Addr) (l : List UInt8) (c : Nat) (x : UInt8) (w : World) (h : BytesAt w A l) (hl : l.length ≤ 1099511627) :
    Calls Try.prog 86 #[.slice A l.length c, .int .u8 (x.toNat : Nat)] w (RetNew w (PolyM.scale x l)) := by
  go_enter Try.func86, Try.ntmps86
  go_wp2
  go_loopw [5, 6] (fun v i wr => ∃ k : Nat, k ≤ l.length ∧ i = .int .i64 k ∧ Own wr w.heap.size v (PolyM.tab k fun j => GfM.mul x (PolyM.co l j)) ∧ Below w.heap.size w wr)
    (fun _ i _ => l.length - (intOf i).toNat)
  case atStart => exact ⟨0, Nat.zero_le _, rfl, Own.nil _ _, Below.refl _ _⟩
  case round =>
    obtain ⟨k, hk, rfl, hown, hb⟩ := hrel
    have hz := hb.size
    have HO := Lib.hid hown
    by_cases hlt : k < l.length
    · obtain ⟨b, o, hA, e⟩ := h.below hb k hlt
      subst hA
      have hsnoc := PolyM.tab_succ k fun j => GfM.mul x (PolyM.co l j)
      simp only [PolyM.co_get l k hlt] at hsnoc
      have HS := Lib.hid hsnoc
      clear hsnoc hown
      go_wp2_with (first
        | (go_at_call 48; refine (R01.mul_any _ _ _).mono ?_; rintro e w' ⟨rfl, rfl⟩)
        | (at_builtin; refine wpList_append_u8 rfl _ _ rfl w.heap.size _ _ rfl (HO.out.alloc _) wr.heap.size 1 (GfM.mul x l[k]) rfl (by simp) (by simp; omega) (by simp; omega) ?_; intro v' w1 hown1 hb1))
      go_roundw
      case rel => exact ⟨k + 1, by omega, by go_num, by rw [HS.out]; exact hown1, (hb.alloc hz _).trans hb1⟩
      case measure => simp [intOf] <;> omega
    · obtain rfl : k = l.length := by omega
      clear hown
      go_wp2
      go_ret
      exact RetNew.of_own HO.out hb
theorem scale_any (A : Option Addr) (l : List UInt8) (c : Nat) (x : UInt8) (w : World) (h : BytesAt w A l) (hl : l.length ≤ 1099511627) :
    Calls Try.prog 86 #[.slice A l.length c, .int .u8 (x.toNat : Nat)] w (RetBytes w (PolyM.scale x l)) := (scale_new A l c x w h hl).mono fun _ _ h => h.bytes
theorem mul_none (A1 A2 : Option Addr) (l1 l2 : List UInt8) (c1 c2 : Nat) (w : World) (h0 : l1.length = 0 ∨ l2.length = 0) :
    Calls Try.prog 88 #[.slice A1 l1.length c1, .slice A2 l2.length c2] w (RetNew w (PolyM.pmul l1 l2)) := by
  have hp : PolyM.pmul l1 l2 = [] := by unfold PolyM.pmul; rw [if_pos h0]
  rw [hp]
  clear hp
  by_cases h1 : l1.length = 0
  · rw [h1]
    clear h1 h0
    go_enter Try.func88, Try.ntmps88
    go_wp2
    go_ret
    exact RetNew.of_nil (Below.refl _ _)
  · have h2 : l2.length = 0 := by omega
    rw [h2]
    have e1 : ((l1.length : Int) == 0) = false := by rw [beq_eq_false_iff_ne]; omega
    clear h2 h0
    go_enter Try.func88, Try.ntmps88
    go_wp2
    go_ret
    exact RetNew.of_nil (Below.refl _ _)

set_option maxHeartbeats 1000000 in
theorem mul_new (A1 A2 : Option Addr) (l1 l2 : List UInt8) (c1 c2 : Nat) (w : World) (h1 : BytesAt w A1 l1) (h2 : BytesAt w A2 l2) (m1 : l1.length ≤ 1099511627) (m2 : l2.length ≤ 1099511627) :
    Calls Try.prog 88 #[.slice A1 l1.length c1, .slice A2 l2.length c2] w (RetNew w (PolyM.pmul l1 l2)) := by
  by_cases h0 : l1.length = 0 ∨ l2.length = 0
  · exact mul_none A1 A2 l1 l2 c1 c2 w h0
  have n1 : ((l1.length : Int) == 0) = false := by rw [beq_eq_false_iff_ne]; omega
  have n2 : ((l2.length : Int) == 0) = false := by rw [beq_eq_false_iff_ne]; omega
  have hp : 1 ≤ l1.length ∧ 1 ≤ l2.length := by omega
  obtain ⟨p1, p2⟩ := hp
  have H0 := Lib.hid h0
  clear h0
  go_enter Try.func88, Try.ntmps88
  go_wp2
  clear n1 n2
  go_loopw [5, 6] (fun v i wr => ∃ k : Nat, k ≤ l1.length + l2.length - 1 ∧ i = .int .i64 k ∧ Own wr w.heap.size v (PolyM.tab k (PolyM.conv l1 l2)) ∧ Below w.heap.size w wr)
    (fun _ i _ => l1.length + l2.length - 1 - (intOf i).toNat)
  case atStart => exact ⟨0, Nat.zero_le _, rfl, Own.nil _ _, Below.refl _ _⟩
  case round =>
    obtain ⟨k, hk, rfl, hown, hb⟩ := hrel
    have hz := hb.size
    have HO := Lib.hid hown
    have h1 : BytesAt wr A1 l1 := h1.below hb
    have h2 : BytesAt wr A2 l2 := h2.below hb
    by_cases hlt : k < l1.length + l2.length - 1
    · have hsnoc := PolyM.tab_succ k (PolyM.conv l1 l2)
      have HS := Lib.hid hsnoc
      have i2 : (k : Int) < (l1.length : Int) + l2.length - 1 := by omega
      clear hsnoc hown
      go_wp2
      go_loop [7, 8] (fun s j => ∃ t : Nat, t ≤ k + 1 ∧ j = .int .i64 t ∧ s = .int .i64 ((PolyM.xsum (fun t => GfM.mul (PolyM.co l1 t) (PolyM.co l2 (k - t))) t).toNat : Nat))
        (fun _ j => k + 1 - (intOf j).toNat)
      case atStart => exact ⟨0, Nat.zero_le _, rfl, rfl⟩
      case round =>
        obtain ⟨t, ht, rfl, rfl⟩ := hrel
        by_cases hlt2 : t < k + 1
        · have hc1 := at_any A1 l1 c1 t wr h1 (by omega) (by omega)
          have hc2 := at_any A2 l2 c2 (k - t) wr h2 (by omega) (by omega)
          rw [show ((k - t : Nat) : Int) = (k : Int) - t from by omega] at hc2
          have hx := xor_i64 (PolyM.xsum (fun t => GfM.mul (PolyM.co l1 t) (PolyM.co l2 (k - t))) t) (GfM.mul (PolyM.co l1 t) (PolyM.co l2 (k - t)))
          have hn : PolyM.xsum (fun t => GfM.mul (PolyM.co l1 t) (PolyM.co l2 (k - t))) (t + 1) = GfM.add (PolyM.xsum (fun t => GfM.mul (PolyM.co l1 t) (PolyM.co l2 (k - t))) t) (GfM.mul (PolyM.co l1 t) (PolyM.co l2 (k - t))) := rfl
          have hb1 := GfM.lt (PolyM.xsum (fun t => GfM.mul (PolyM.co l1 t) (PolyM.co l2 (k - t))) t)
          have hb2 := GfM.lt (GfM.mul (PolyM.co l1 t) (PolyM.co l2 (k - t)))
          generalize PolyM.xsum (fun t => GfM.mul (PolyM.co l1 t) (PolyM.co l2 (k - t))) t = s at *
          generalize PolyM.co l2 (k - t) = y at *
          have HX := Lib.hid hx; have HN := Lib.hid hn; have C1 := Lib.hid hc1; have C2 := Lib.hid hc2
          have hle : (t : Int) ≤ k := by omega
          clear hx hn hc1 hc2 h1 h2
          go_wp2_with (first
            | (go_at_call 60; ((with_reducible refine C1.out.mono ?_); rintro e w' ⟨rfl, rfl⟩))
            | (go_at_call 60; ((with_reducible refine C2.out.mono ?_); rintro e w' ⟨rfl, rfl⟩))
            | (go_at_call 48; refine (R01.mul_any _ _ _).mono ?_; rintro e w' ⟨rfl, rfl⟩))
          go_round
          case rel => exact ⟨t + 1, by omega, by go_num, by rw [HN.out, HX.out]⟩
          case measure => simp [intOf] <;> omega
        · obtain rfl : t = k + 1 := by omega
          have hcv : PolyM.xsum (fun t => GfM.mul (PolyM.co l1 t) (PolyM.co l2 (k - t))) (k + 1) = PolyM.conv l1 l2 k := rfl
          rw [hcv]
          have hb1 := GfM.lt (PolyM.conv l1 l2 k)
          clear hcv h1 h2
          go_wp2_with (at_builtin; refine wpList_append_u8 rfl _ _ rfl w.heap.size _ _ rfl (HO.out.alloc _) wr.heap.size 1 (PolyM.conv l1 l2 k) rfl (by simp) (by simp; omega) (by simp; omega) ?_; intro v' w1 hown1 hb1)
          go_roundw
          case rel => exact ⟨k + 1, by omega, by go_num, by rw [HS.out]; exact hown1, (hb.alloc hz _).trans hb1⟩
          case measure => simp [intOf] <;> omega
    · obtain rfl : k = l1.length + l2.length - 1 := by omega
      have g : decide (((l1.length + l2.length - 1 : Nat) : Int) < (l1.length : Int) + l2.length - 1) = false := by simp; omega
      clear hown h1 h2
      go_wp2
      go_ret
      have := RetNew.of_own HO.out hb
      unfold PolyM.pmul
      rw [if_neg H0.out]
      exact this

theorem mul_any (A1 A2 : Option Addr) (l1 l2 : List UInt8) (c1 c2 : Nat) (w : World) (h1 : BytesAt w A1 l1) (h2 : BytesAt w A2 l2) (m1 : l1.length ≤ 1099511627) (m2 : l2.length ≤ 1099511627) :
    Calls Try.prog 88 #[.slice A1 l1.length c1, .slice A2 l2.length c2] w (RetBytes w (PolyM.pmul l1 l2)) :=
  (mul_new A1 A2 l1 l2 c1 c2 w h1 h2 m1 m2).mono fun _ _ h => h.bytes

theorem root_any (A : Option Addr) (l : List UInt8) (c : Nat) (w : World) (h : BytesAt w A l) (hl : l.length ≤ 1048576) :
    Calls Try.prog 58 #[.slice A l.length c] w (RetBytes w (PolyM.proot l)) := by
  go_enter Try.func58, Try.ntmps58
  go_wp2
  go_loopw [3, 4] (fun v i wr => ∃ (k : Nat) (B : Option Addr) (d : Nat), k ≤ l.length ∧ i = .int .i64 k ∧ v = .slice B (PolyM.proot (l.take k)).length d ∧ (PolyM.proot (l.take k)).length ≤ d ∧ d ≤ maxLen ∧ BytesAt wr B (PolyM.proot (l.take k)) ∧ Below w.heap.size w wr)
    (fun _ i _ => l.length - (intOf i).toNat)
  case atStart =>
    refine ⟨0, some ⟨w.heap.size, 0, none⟩, 1, Nat.zero_le _, rfl, rfl, Nat.le_refl _, by unfold maxLen; omega, ?_, (Below.refl _ _).alloc (Nat.le_refl _) _⟩
    exact (Row.new w [1]).bytes
  case round =>
    obtain ⟨k, B, d, hk, rfl, rfl, hd1, hd2, hB, hb⟩ := hrel
    by_cases hlt : k < l.length
    · obtain ⟨b, o, hA, e⟩ := h.below hb k hlt
      subst hA
      have hs := PolyM.proot_take_succ l k hlt
      have hn : (PolyM.proot (l.take k)).length ≤ 1048577 := by rw [PolyM.proot_len, List.length_take]; omega
      have HS := Lib.hid hs
      have HB := Lib.hid hB
      clear hs hB
      generalize PolyM.proot (l.take k) = r at *
      go_wp2_with fail
      refine (mul_any B (some ⟨wr.heap.size, 0, none⟩) r [l[k], 1] d 2 _ (HB.out.alloc _) (Row.new wr [l[k], 1]).bytes (by omega) (by simp)).mono ?_
      rintro e' w' ⟨B', d', rfl, hd1', hd2', hB', hb'⟩
      have hb2 : Below w.heap.size w w' := (hb.alloc (hb.size) _).trans (hb'.mono (by have := hb.size; simp; omega))
      rw [← HS.out] at hB' hd1'
      have HB' := Lib.hid hB'
      have e2 : (PolyM.pmul r [l[k], 1]).length = (PolyM.proot (l.take (k + 1))).length := by rw [HS.out]
      rw [e2]
      clear hB' e2
      go_wp2
      go_roundw
      case rel => exact ⟨k + 1, B', d', by omega, by go_num, rfl, hd1', hd2', HB'.out, hb2⟩
      case measure => simp [intOf] <;> omega
    · obtain rfl : k = l.length := by omega
      rw [List.take_length] at *
      have HB := Lib.hid hB
      clear hB
      go_wp2
      go_ret
      exact ⟨B, d, rfl, hd1, hd2, HB.out, hb⟩
end Go.Proofs.Ytompeiemioeohaa.R02
