/- the contracts of package poly -/
import Derived.Test.YtompeiemioeohaaGf
import Derived.Test.YtompeiemioeohaaBytes
import Derived.Test.YtompeiemioeohaaMA
import Derived.Deep.QuietTactic
import Derived.Deep.RegionHeld3
import Derived.Laws.CopyOwn
import Derived.IntWalk
import Derived.Deep.DrawnRows
set_option maxRecDepth 100000
namespace Go.Proofs.Ytompeiemioeohaa.Poly
open Go.RowKit
attribute [local go_sem ↓] Go.wp_at_zero Go.wp_at_succ

theorem eval_any (b0 : Nat) (A : Option Addr) (l : List UInt8) (c : Nat) (x : UInt8) (w : World) (ht : Gf.Tab w b0) (h : BytesAt w A l) (hl : l.length ≤ 1099511627776) :
    Calls Try.prog 104 #[.pointer (some ⟨b0, 0, none⟩), .slice A l.length c, .int .u8 (x.toNat : Nat)] w
      fun e w' => e = .returned (.int .u8 ((PolyM.ev l x).toNat : Nat)) ∧ ∃ n, w' = w.drewN n := by
  go_enter Try.func104, Try.ntmps104
  go_wp2
  go_loopw [7, 8] (fun s i wr => ∃ k n : Nat, k ≤ l.length ∧ i = .int .i64 ((k : Int) - 1) ∧ s = .int .u8 ((PolyM.ev (l.drop k) x).toNat : Nat) ∧ wr = w.drewN n)
    (fun _ i _ => (intOf i + 1).toNat)
  case atStart => exact ⟨l.length, 0, Nat.le_refl _, rfl, by rw [List.drop_length]; rfl, rfl⟩
  case round =>
    obtain ⟨k, n, hk, rfl, rfl, hwr⟩ := hrel
    have HW := Lib.hid hwr
    have ht : Gf.Tab wr b0 := by rw [hwr]; exact ht.drewN n
    have h : BytesAt wr A l := by rw [hwr]; exact h
    clear hwr
    by_cases hk0 : k = 0
    · subst hk0
      go_wp2
      go_ret
      exact ⟨ret_int (by rw [List.drop_zero]), n, HW.out⟩
    · obtain ⟨j, rfl⟩ : ∃ j, k = j + 1 := ⟨k - 1, by omega⟩
      have hj : j < l.length := by omega
      obtain ⟨b, o, rfl, e⟩ := h j hj
      have e1 : ((j + 1 : Nat) : Int) - 1 = (j : Int) := by omega
      rw [e1]
      have hd := PolyM.ev_drop l x j hj
      have HD := Lib.hid hd; have HT := Lib.hid ht
      clear hd h e1 ht
      go_wp2
      go_quiet ((first
        | (go_at_call 105; exact Calls.quiet_of (Gf.mul_any _ _ _ _ (HT.out.drewN _)))
        | (go_at_call 42; exact Calls.quiet_of_same (Gf.add_q _ _ _))))
      go_wp2
      go_roundw
      case rel => exact ⟨j, n + nq, by omega, rfl, by rw [HD.out], by rw [HW.out, World.drewN_drewN]⟩
      case measure => simp [intOf] <;> omega

theorem scale_new (b0 : Nat) (A : Option Addr) (l : List UInt8) (c : Nat) (x : UInt8) (w : World) (ht : Gf.Tab w b0) (h : BytesAt w A l) (hl : l.length ≤ 1099511627776) :
    Calls Try.prog 84 #[.pointer (some ⟨b0, 0, none⟩), .slice A l.length c, .int .u8 (x.toNat : Nat)] w (RetNew w (PolyM.scale x l)) := by
  have hmk := fun W => make_u8 l.length hl W
  go_enter Try.func84, Try.ntmps84
  go_wp2
  clear hmk
  go_loopw [15] (fun i wr => ∃ k : Nat, k ≤ l.length ∧ i = .int .i64 k ∧ Row wr w.heap.size (PolyM.scTo x l k) ∧ Below w.heap.size w wr)
    (fun i _ => l.length - (intOf i).toNat)
  case atStart => exact ⟨0, Nat.zero_le _, rfl, by rw [PolyM.scTo_zero]; exact Row.new _ _, (Below.refl _ _).alloc (Nat.le_refl _) _⟩
  case round =>
    obtain ⟨k, hk, rfl, hr, hb⟩ := hrel
    have ht : Gf.Tab wr b0 := ht.below hb
    have h : BytesAt wr A l := h.below hb
    by_cases hlt : k < l.length
    · obtain ⟨b, o, rfl, e⟩ := h k hlt
      have hs := PolyM.scTo_succ x l k hlt
      have HS := Lib.hid hs
      have hc := hr.cell k (by rw [PolyM.scTo_len]; exact hlt)
      have hf := hr.frozen k
      have HR := Lib.hid hr; have HT := Lib.hid ht
      have hz := hr.lt
      clear hs hr ht h
      go_wp2_with (go_at_call 105; refine (Gf.mul_any _ _ _ _ HT.out).mono ?_; rintro e w' ⟨rfl, n, rfl⟩)
      go_roundw
      case rel =>
        refine ⟨k + 1, by omega, by go_num, ?_, ?_⟩
        · rw [← HS.out]; exact (HR.out.drewN n).set k _
        · exact (below_drewN hb n).setCell (Nat.le_refl _) _
      case measure => simp [intOf] <;> omega
    · obtain rfl : k = l.length := by omega
      have HR := Lib.hid hr
      go_wp2
      go_ret
      have hr := HR.out
      rw [PolyM.scTo_done] at hr
      have hlen : (PolyM.scale x l).length = l.length := by simp [PolyM.scale]
      have := RetNew.of_row hr hb (by rw [hlen]; unfold maxLen; omega) (Nat.le_refl _)
      rw [hlen] at this
      exact this

theorem over_any (b0 : Nat) (A : Option Addr) (l : List UInt8) (c : Nat) (x : UInt8) (w : World) (ht : Gf.Tab w b0) (h : BytesAt w A l) (hl : l.length ≤ 1099511627776) :
    Calls Try.prog 82 #[.pointer (some ⟨b0, 0, none⟩), .slice A l.length c, .int .u8 (x.toNat : Nat)] w
      fun e w' => ∃ B d, e = .returned (.tuple #[.slice B (PolyM.quo l x).length d, .int .u8 ((PolyM.ev l x).toNat : Nat)]) ∧ BytesAt w' B (PolyM.quo l x) ∧ Below w.heap.size w w' := by
  by_cases hz0 : l.length = 0
  · have : l = [] := List.eq_nil_of_length_eq_zero hz0
    subst this
    go_enter Try.func82, Try.ntmps82
    go_wp2
    go_ret2
    exact ⟨_, _, rfl, BytesAt.nil _ _, Below.refl _ _⟩
  · have hmk := fun W => make_u8 (l.length - 1) (by omega) W
    have e1 : ((l.length - 1 : Nat) : Int) = (l.length : Int) - 1 := by omega
    simp only [e1] at hmk
    have hq : (PolyM.quo l x).length = l.length - 1 := PolyM.quo_len l x
    have HQ := Lib.hid hq
    have hne : ((l.length : Int) == 0) = false := by simpa using hz0
    clear hq e1
    go_enter Try.func82, Try.ntmps82
    go_wp2
    clear hmk hne
    go_loopw [9, 10] (fun s i wr => ∃ k : Nat, k ≤ l.length - 1 ∧ i = .int .i64 k ∧ s = .int .u8 ((PolyM.ev (l.drop (k + 1)) x).toNat : Nat) ∧ Row wr w.heap.size (PolyM.quoTo l x k) ∧ Below w.heap.size w wr)
      (fun _ i _ => (intOf i).toNat)
    case atStart =>
      refine ⟨l.length - 1, Nat.le_refl _, by go_num, ?_, by rw [PolyM.quoTo_start]; exact Row.new _ _, (Below.refl _ _).alloc (Nat.le_refl _) _⟩
      rw [List.drop_eq_nil_of_le (by omega)]; rfl
    case round =>
      obtain ⟨k, hk, rfl, rfl, hr, hb⟩ := hrel
      have ht : Gf.Tab wr b0 := ht.below hb
      have h : BytesAt wr A l := h.below hb
      by_cases hk0 : k = 0
      · subst hk0
        obtain ⟨b, o, rfl, e⟩ := h 0 (by omega)
        have hpos : 0 < l.length := by omega
        have hd := PolyM.ev_drop l x 0 (by omega)
        rw [List.drop_zero] at hd
        rw [Nat.add_zero] at e
        generalize PolyM.ev (l.drop (0 + 1)) x = t at *
        have HD := Lib.hid hd; have HT := Lib.hid ht; have HR := Lib.hid hr
        clear hd h ht hr
        go_wp2
        go_quiet ((first
          | (go_at_call 105; exact Calls.quiet_of (Gf.mul_any _ _ _ _ (HT.out.drewN _)))
          | (go_at_call 42; exact Calls.quiet_of_same (Gf.add_q _ _ _))))
        go_wp2
        go_ret2
        refine ⟨some ⟨w.heap.size, 0, none⟩, l.length - 1, ret2 (by rw [HQ.out]; try rfl) (by rw [HD.out]; try rfl), ?_, below_drewN hb _⟩
        have hr := HR.out
        rw [PolyM.quoTo_done] at hr
        exact hr.bytes.drewN _
      · obtain ⟨j, rfl⟩ : ∃ j, k = j + 1 := ⟨k - 1, by omega⟩
        have hj : j + 1 < l.length := by omega
        obtain ⟨b, o, rfl, e⟩ := h (j + 1) hj
        have hd := PolyM.ev_drop l x (j + 1) hj
        have hs := PolyM.quoTo_step l x j (by omega)
        have hc := hr.cell j (by rw [PolyM.quoTo_len]; omega)
        have hf := hr.frozen j
        have hz := hr.lt
        have HD := Lib.hid hd; have HT := Lib.hid ht; have HR := Lib.hid hr; have HS := Lib.hid hs
        clear hd h ht hr hs
        go_wp2
        go_quiet ((first
          | (go_at_call 105; exact Calls.quiet_of (Gf.mul_any _ _ _ _ (HT.out.drewN _)))
          | (go_at_call 42; exact Calls.quiet_of_same (Gf.add_q _ _ _))))
        go_wp2
        go_roundw
        case rel =>
          refine ⟨j, by omega, by go_num, by rw [HD.out], ?_, ?_⟩
          · rw [← HS.out, HD.out]; exact (HR.out.drewN nq).set j _
          · exact (below_drewN hb _).setCell (Nat.le_refl _) _
        case measure => simp [intOf] <;> omega

theorem mul_none (b0 : Nat) (A1 A2 : Option Addr) (l1 l2 : List UInt8) (c1 c2 : Nat) (w : World) (h0 : l1.length = 0 ∨ l2.length = 0) :
    Calls Try.prog 114 #[.pointer (some ⟨b0, 0, none⟩), .slice A1 l1.length c1, .slice A2 l2.length c2] w (RetNew w (PolyM.pmul l1 l2)) := by
  have hp : PolyM.pmul l1 l2 = [] := by unfold PolyM.pmul; rw [if_pos h0]
  rw [hp]
  clear hp
  by_cases h1 : l1.length = 0
  · rw [h1]
    have e1 : ((0 : Nat) : Int) = 0 := rfl
    clear h1 h0
    go_enter Try.func114, Try.ntmps114
    go_wp2
    go_ret
    exact RetNew.of_nil (Below.refl _ _)
  · have h2 : l2.length = 0 := by omega
    rw [h2]
    have e1 : ((l1.length : Int) == 0) = false := by simpa using h1
    clear h2 h0
    go_enter Try.func114, Try.ntmps114
    go_wp2
    go_ret
    exact RetNew.of_nil (Below.refl _ _)

set_option maxHeartbeats 1000000 in
theorem mul_new (b0 : Nat) (A1 A2 : Option Addr) (l1 l2 : List UInt8) (c1 c2 : Nat) (w : World) (ht : Gf.Tab w b0) (h1 : BytesAt w A1 l1) (h2 : BytesAt w A2 l2) (m1 : l1.length ≤ 1099511627) (m2 : l2.length ≤ 1099511627) :
    Calls Try.prog 114 #[.pointer (some ⟨b0, 0, none⟩), .slice A1 l1.length c1, .slice A2 l2.length c2] w (RetNew w (PolyM.pmul l1 l2)) := by
  by_cases h0 : l1.length = 0 ∨ l2.length = 0
  · exact mul_none b0 A1 A2 l1 l2 c1 c2 w h0
  have n1 : ((l1.length : Int) == 0) = false := by rw [beq_eq_false_iff_ne]; omega
  have n2 : ((l2.length : Int) == 0) = false := by rw [beq_eq_false_iff_ne]; omega
  obtain ⟨N, hN⟩ : ∃ N, N = l1.length + l2.length - 1 := ⟨_, rfl⟩
  have hmk := fun W => make_u8 N (by omega) W
  have e1 : (N : Int) = (l1.length : Int) + l2.length - 1 := by omega
  rw [e1] at hmk
  have hN' : N + 1 = l1.length + l2.length := by omega
  have HN := Lib.hid hN
  have hp : 1 ≤ l1.length ∧ 1 ≤ l2.length := by omega
  obtain ⟨p1, p2⟩ := hp
  clear h0 e1 hN hN'
  go_enter Try.func114, Try.ntmps114
  go_wp2
  have hN := HN.out
  clear hmk n1 n2
  go_loopw [29] (fun i wr => ∃ k : Nat, k ≤ l1.length ∧ i = .int .i64 k ∧ Row wr w.heap.size (PolyM.mulTo l1 l2 k 0) ∧ Below w.heap.size w wr)
    (fun i _ => l1.length - (intOf i).toNat)
  case atStart => exact ⟨0, Nat.zero_le _, rfl, by rw [PolyM.mulTo_zero, ← hN]; exact Row.new _ _, (Below.refl _ _).alloc (Nat.le_refl _) _⟩
  case round =>
    obtain ⟨i, hi, rfl, hr, hb⟩ := hrel
    by_cases hlt : i < l1.length
    · obtain ⟨b, o, hA1, e⟩ := h1.below hb i hlt
      subst hA1
      have HR := Lib.hid hr
      clear hr
      clear hN
      go_wp2
      have hN := HN.out
      go_loopw [36] (fun j wr => ∃ k : Nat, k ≤ l2.length ∧ j = .int .i64 k ∧ Row wr w.heap.size (PolyM.mulTo l1 l2 i k) ∧ Below w.heap.size w wr)
        (fun j _ => l2.length - (intOf j).toNat)
      case atStart => exact ⟨0, Nat.zero_le _, rfl, HR.out, hb⟩
      case round =>
        obtain ⟨k, hk, rfl, hr, hb'⟩ := hrel
        have ht : Gf.Tab wr b0 := ht.below hb'
        by_cases hlt2 : k < l2.length
        · obtain ⟨b2, o2, hA2, e2⟩ := h2.below hb' k hlt2
          subst hA2
          have hlen : i + k < (PolyM.mulTo l1 l2 i k).length := by rw [PolyM.mulTo_len]; omega
          have hc := hr.cell (i + k) hlen
          rw [PolyM.mulTo_get] at hc
          have hf := hr.frozen (i + k)
          have hz := hr.lt
          have hs := PolyM.mulTo_succ l1 l2 i k hlt hlt2
          have HR := Lib.hid hr; have HT := Lib.hid ht; have HS := Lib.hid hs
          have i1 : (0 : Int) ≤ (i : Int) + k := by omega
          have i2 : (i : Int) + k < (N : Int) := by omega
          have i3 : ((i : Int) + k).toNat = i + k := by omega
          have i4 : IntKind.i64.wrap ((i : Int) + k) = (i : Int) + k := IntWalk.i64_in _ (by omega)
          clear hr ht hs hlen hN
          go_wp2
          go_region_law ((first
              | (go_simp; go_at_call 105; refine (Gf.mul_any _ _ _ _ (HT.out.drewN _)).mono ?_; rintro e w' ⟨rfl, n, rfl⟩)
              | (go_simp; go_at_call 42; refine (Gf.add_u8 _ _ _).mono ?_; rintro e w' ⟨rfl, rfl⟩)))
          all_goals
            try go_wp2
            go_roundw
            case rel =>
              refine ⟨k + 1, by omega, by go_num, ?_, ?_⟩
              · rw [← HS.out]; exact HR.out.set (i + k) _
              · exact (below_drewN hb' _).setCell (Nat.le_refl _) _
            case measure => simp [intOf] <;> omega
        · obtain rfl : k = l2.length := by omega
          have HR := Lib.hid hr
          clear hN
          go_wp2
          go_roundw
          case rel => exact ⟨i + 1, by omega, by go_num, by rw [← PolyM.mulTo_next]; exact HR.out, hb'⟩
          case measure => simp [intOf] <;> omega
    · obtain rfl : i = l1.length := by omega
      have HR := Lib.hid hr
      clear hN
      go_wp2
      go_ret
      have hr := HR.out
      rw [PolyM.mulTo_done _ _ (by omega) (by omega)] at hr
      have hlen : (PolyM.pmul l1 l2).length = N := by rw [PolyM.pmul_len, if_neg (by omega), HN.out]
      have := RetNew.of_row hr hb (by rw [hlen, HN.out]; unfold maxLen; omega) (Nat.le_refl _)
      rw [hlen] at this
      exact this

set_option maxHeartbeats 1000000 in
/-- the shorter one, added onto a copy of the longer one -/
theorem sum_new (A1 A2 : Option Addr) (l1 l2 : List UInt8) (c1 c2 : Nat) (w : World) (h1 : BytesAt w A1 l1) (h2 : BytesAt w A2 l2) (m1 : l1.length ≤ 1099511627) (m2 : l2.length ≤ 1099511627) :
    Calls Try.prog 50 #[.slice A1 l1.length c1, .slice A2 l2.length c2] w (RetNew w (PolyM.padd l1 l2)) := by
  by_cases hlt : l1.length < l2.length
  · have hmk := fun W => make_u8 l2.length (by omega) W
    go_enter Try.func50, Try.ntmps50
    go_wp2_with (with_reducible refine wpList_copy_u8 rfl (.tmp 18) (.tmp 19) rfl (some ⟨w.heap.size, 0, none⟩) l2.length l2.length A2 l2 c2 rfl rfl w.heap.size 0 (List.replicate l2.length 0) (Row.new _ _) (fun _ => rfl) (h2.alloc _) (by simp) ?_; intro w1 hr1 hb1)
    clear hmk
    rw [splice_all _ _ (by simp)] at hr1
    have hb1 : Below w.heap.size w w1 := ((Below.refl _ _).alloc (Nat.le_refl _) _).trans hb1
    go_loopw [23] (fun i wr => ∃ k : Nat, k ≤ l1.length ∧ i = .int .i64 k ∧ Row wr w.heap.size (PolyM.addTo l2 l1 k) ∧ Below w.heap.size w wr)
      (fun i _ => l1.length - (intOf i).toNat)
    case atStart => exact ⟨0, Nat.zero_le _, rfl, by rw [PolyM.addTo_zero]; exact hr1, hb1⟩
    case round =>
      obtain ⟨k, hk, rfl, hr, hb⟩ := hrel
      clear hr1 hb1
      by_cases hlt2 : k < l1.length
      · obtain ⟨b, o, hA, e⟩ := h1.below hb k hlt2
        subst hA
        have hkp : k < l2.length := by omega
        have hs := PolyM.addTo_succ l2 l1 k hkp hlt2
        have hlen : k < (PolyM.addTo l2 l1 k).length := by rw [PolyM.addTo_len]; exact hkp
        have hc := hr.cell k hlen
        rw [PolyM.addTo_get _ _ _ hkp] at hc
        have hf := hr.frozen k
        have hz := hr.lt
        have HR := Lib.hid hr; have HS := Lib.hid hs
        clear hr hs hlen
        go_wp2_with (go_at_call 42; refine (Gf.add_u8 _ _ _).mono ?_; rintro e w' ⟨rfl, rfl⟩)
        go_roundw
        case rel =>
          refine ⟨k + 1, by omega, by go_num, ?_, ?_⟩
          · rw [← HS.out]; exact HR.out.set k _
          · exact hb.setCell (Nat.le_refl _) _
        case measure => simp [intOf] <;> omega
      · obtain rfl : k = l1.length := by omega
        have HR := Lib.hid hr
        go_wp2
        go_ret
        have hr := HR.out
        rw [PolyM.addTo_done _ _ (by omega)] at hr
        have hlen : (PolyM.padd l2 l1).length = l2.length := by rw [← PolyM.addTo_done _ _ (by omega), PolyM.addTo_len]
        have := RetNew.of_row hr hb (by rw [hlen]; unfold maxLen; omega) (Nat.le_refl _)
        rw [hlen] at this
        rw [PolyM.padd_comm]; exact this
  · have hmk := fun W => make_u8 l1.length (by omega) W
    go_enter Try.func50, Try.ntmps50
    go_wp2_with (with_reducible refine wpList_copy_u8 rfl (.tmp 18) (.tmp 19) rfl (some ⟨w.heap.size, 0, none⟩) l1.length l1.length A1 l1 c1 rfl rfl w.heap.size 0 (List.replicate l1.length 0) (Row.new _ _) (fun _ => rfl) (h1.alloc _) (by simp) ?_; intro w1 hr1 hb1)
    clear hmk
    rw [splice_all _ _ (by simp)] at hr1
    have hb1 : Below w.heap.size w w1 := ((Below.refl _ _).alloc (Nat.le_refl _) _).trans hb1
    go_loopw [23] (fun i wr => ∃ k : Nat, k ≤ l2.length ∧ i = .int .i64 k ∧ Row wr w.heap.size (PolyM.addTo l1 l2 k) ∧ Below w.heap.size w wr)
      (fun i _ => l2.length - (intOf i).toNat)
    case atStart => exact ⟨0, Nat.zero_le _, rfl, by rw [PolyM.addTo_zero]; exact hr1, hb1⟩
    case round =>
      obtain ⟨k, hk, rfl, hr, hb⟩ := hrel
      clear hr1 hb1
      by_cases hlt2 : k < l2.length
      · obtain ⟨b, o, hA, e⟩ := h2.below hb k hlt2
        subst hA
        have hkp : k < l1.length := by omega
        have hs := PolyM.addTo_succ l1 l2 k hkp hlt2
        have hlen : k < (PolyM.addTo l1 l2 k).length := by rw [PolyM.addTo_len]; exact hkp
        have hc := hr.cell k hlen
        rw [PolyM.addTo_get _ _ _ hkp] at hc
        have hf := hr.frozen k
        have hz := hr.lt
        have HR := Lib.hid hr; have HS := Lib.hid hs
        clear hr hs hlen
        go_wp2_with (go_at_call 42; refine (Gf.add_u8 _ _ _).mono ?_; rintro e w' ⟨rfl, rfl⟩)
        go_roundw
        case rel =>
          refine ⟨k + 1, by omega, by go_num, ?_, ?_⟩
          · rw [← HS.out]; exact HR.out.set k _
          · exact hb.setCell (Nat.le_refl _) _
        case measure => simp [intOf] <;> omega
      · obtain rfl : k = l2.length := by omega
        have HR := Lib.hid hr
        go_wp2
        go_ret
        have hr := HR.out
        rw [PolyM.addTo_done _ _ (by omega)] at hr
        have hlen : (PolyM.padd l1 l2).length = l1.length := by rw [← PolyM.addTo_done _ _ (by omega), PolyM.addTo_len]
        have := RetNew.of_row hr hb (by rw [hlen]; unfold maxLen; omega) (Nat.le_refl _)
        rw [hlen] at this
        exact this

theorem root_new (b0 : Nat) (A : Option Addr) (l : List UInt8) (c : Nat) (w : World) (ht : Gf.Tab w b0) (h : BytesAt w A l) (hl : l.length ≤ 1048576) :
    Calls Try.prog 102 #[.pointer (some ⟨b0, 0, none⟩), .slice A l.length c] w (RetNew w (PolyM.proot l)) := by
  go_enter Try.func102, Try.ntmps102
  go_wp2
  go_loopw [5, 11] (fun v i wr => ∃ (k : Nat) (B : Option Addr) (d : Nat), k ≤ l.length ∧ i = .int .i64 k ∧ v = .slice B (PolyM.proot (l.take k)).length d ∧ (PolyM.proot (l.take k)).length ≤ d ∧ d ≤ maxLen ∧ BytesAt wr B (PolyM.proot (l.take k)) ∧ Below w.heap.size w wr ∧ New w B)
    (fun _ i _ => l.length - (intOf i).toNat)
  case atStart =>
    refine ⟨0, some ⟨w.heap.size, 0, none⟩, 1, Nat.zero_le _, rfl, rfl, Nat.le_refl _, by unfold maxLen; omega, ?_, (Below.refl _ _).alloc (Nat.le_refl _) _, New.at w (Nat.le_refl _)⟩
    exact (Row.new w [1]).bytes
  case round =>
    obtain ⟨k, B, d, hk, rfl, rfl, hd1, hd2, hB, hb, hnew⟩ := hrel
    by_cases hlt : k < l.length
    · obtain ⟨b, o, hA, e⟩ := h.below hb k hlt
      subst hA
      have hs := PolyM.proot_take_succ l k hlt
      have hn : (PolyM.proot (l.take k)).length ≤ 1048577 := by rw [PolyM.proot_len, List.length_take]; omega
      have HS := Lib.hid hs
      have ht : Gf.Tab wr b0 := ht.below hb
      have HT := Lib.hid ht
      have HB := Lib.hid hB
      clear hs ht hB
      generalize PolyM.proot (l.take k) = r at *
      go_wp2_with fail
      refine (mul_new b0 B (some ⟨wr.heap.size, 0, none⟩) r [l[k], 1] d 2 _ (HT.out.below ((Below.refl _ _).alloc (Nat.le_refl _) _)) (HB.out.alloc _) (Row.new wr [l[k], 1]).bytes (by omega) (by simp)).mono ?_
      rintro e' w' ⟨B', d', rfl, hd1', hd2', hB', hb', hnew'⟩
      have hnew' : New w B' := hnew'.mono (by have := hb.size; simp; omega)
      have hb2 : Below w.heap.size w w' := (hb.alloc (hb.size) _).trans (hb'.mono (by have := hb.size; simp; omega))
      rw [← HS.out] at hB' hd1'
      have HB' := Lib.hid hB'
      have e2 : (PolyM.pmul r [l[k], 1]).length = (PolyM.proot (l.take (k + 1))).length := by rw [HS.out]
      rw [e2]
      clear hB' e2
      go_wp2
      go_roundw
      case rel => exact ⟨k + 1, B', d', by omega, by go_num, rfl, hd1', hd2', HB'.out, hb2, hnew'⟩
      case measure => simp [intOf] <;> omega
    · obtain rfl : k = l.length := by omega
      rw [List.take_length] at *
      have HB := Lib.hid hB
      clear hB
      go_wp2
      go_ret
      exact ⟨B, d, rfl, hd1, hd2, HB.out, hb, hnew⟩
theorem scale_any (b0 : Nat) (A : Option Addr) (l : List UInt8) (c : Nat) (x : UInt8) (w : World) (ht : Gf.Tab w b0) (h : BytesAt w A l) (hl : l.length ≤ 1099511627776) :
    Calls Try.prog 84 #[.pointer (some ⟨b0, 0, none⟩), .slice A l.length c, .int .u8 (x.toNat : Nat)] w (RetBytes w (PolyM.scale x l)) :=
  (scale_new b0 A l c x w ht h hl).mono fun _ _ h => h.bytes
theorem mul_any (b0 : Nat) (A1 A2 : Option Addr) (l1 l2 : List UInt8) (c1 c2 : Nat) (w : World) (ht : Gf.Tab w b0) (h1 : BytesAt w A1 l1) (h2 : BytesAt w A2 l2) (m1 : l1.length ≤ 1099511627) (m2 : l2.length ≤ 1099511627) :
    Calls Try.prog 114 #[.pointer (some ⟨b0, 0, none⟩), .slice A1 l1.length c1, .slice A2 l2.length c2] w (RetBytes w (PolyM.pmul l1 l2)) :=
  (mul_new b0 A1 A2 l1 l2 c1 c2 w ht h1 h2 m1 m2).mono fun _ _ h => h.bytes
theorem sum_any (A1 A2 : Option Addr) (l1 l2 : List UInt8) (c1 c2 : Nat) (w : World) (h1 : BytesAt w A1 l1) (h2 : BytesAt w A2 l2) (m1 : l1.length ≤ 1099511627) (m2 : l2.length ≤ 1099511627) :
    Calls Try.prog 50 #[.slice A1 l1.length c1, .slice A2 l2.length c2] w (RetBytes w (PolyM.padd l1 l2)) :=
  (sum_new A1 A2 l1 l2 c1 c2 w h1 h2 m1 m2).mono fun _ _ h => h.bytes
theorem root_any (b0 : Nat) (A : Option Addr) (l : List UInt8) (c : Nat) (w : World) (ht : Gf.Tab w b0) (h : BytesAt w A l) (hl : l.length ≤ 1048576) :
    Calls Try.prog 102 #[.pointer (some ⟨b0, 0, none⟩), .slice A l.length c] w (RetBytes w (PolyM.proot l)) :=
  (root_new b0 A l c w ht h hl).mono fun _ _ h => h.bytes
end Go.Proofs.Ytompeiemioeohaa.Poly
