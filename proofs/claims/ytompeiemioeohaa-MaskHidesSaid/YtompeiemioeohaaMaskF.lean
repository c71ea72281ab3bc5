/- package mask: Apply of a tape of any size that memory has -/
import Derived.Test.YtompeiemioeohaaMK
set_option maxRecDepth 100000
namespace Go.Proofs.Ytompeiemioeohaa.Mask
open Go.RowKit PlanM StripeM DealM RebM ZeroM MaskM Plan

theorem make_u8b (n : Nat) (hn : n ≤ 140737488355328) (w : World) :
    (Instr.makeSlice 24 (.int .i64 (n : Int)) (.int .i64 (n : Int))).run Try.prog w = .ok (.slice (some ⟨w.heap.size, 0, none⟩) n n) (w.alloc (.cells (cells (List.replicate n 0)) 5)) := by
  obtain ⟨i0, hi, hz, hs, hb⟩ := u8_info'
  have hr := run_make (P := Try.prog) w 24 5 i0 _ Try.underlying24 hi hz .i64 .i64 n n (by omega) (by omega) (by rw [hb]; omega) (by omega)
  simp only [Int.toNat_natCast] at hr
  have : madeCells (Value.int .u8 0).cells n = cells (List.replicate n 0) := by
    apply Array.ext'
    rw [show (Value.int .u8 0).cells = #[.int .u8 0] from rfl, toList_madeCells_one]
    simp [cells, vals]
  rw [hr, hs, Nat.mul_one, this]

set_option maxHeartbeats 1000000 in
theorem sum_big (A1 A2 : Option Addr) (l1 l2 : List UInt8) (c1 c2 : Nat) (w : World) (h1 : BytesAt w A1 l1) (h2 : BytesAt w A2 l2) (m1 : l1.length ≤ 140737488355328) (m2 : l2.length ≤ 140737488355328) :
    Calls Try.prog 50 #[.slice A1 l1.length c1, .slice A2 l2.length c2] w (RetNew w (PolyM.padd l1 l2)) := by
  by_cases hlt : l1.length < l2.length
  · have hmk := fun W => make_u8b l2.length (by omega) W
    go_enter Try.func50, Try.ntmps50
    go_wp2_with (with_reducible refine wpList_copy_u8 rfl (.tmp 18) (.tmp 19) rfl (some ⟨w.heap.size, 0, none⟩) l2.length l2.length A2 l2 c2 rfl rfl w.heap.size 0 (List.replicate l2.length 0) (Row.new _ _) (fun _ => rfl) (h2.alloc _) (by simp) ?_; intro w1 hr1 hb1)
    clear hmk
    rw [splice_all _ _ (by simp)] at hr1
    have hb1 : Below w.heap.size w w1 := ((Below.refl _ _).alloc (Nat.le_refl _) _).trans hb1
    go_loopw [23] (fun i wr => ∃ k : Nat, k ≤ l1.length ∧ i = .int .i64 k ∧ Row wr w.heap.size (PolyM.addTo l2 l1 k) ∧ Below w.heap.size w wr)
      (fun i _ => l1.length - (intOf i).toNat)
    case atStart => exact ⟨0, Nat.zero_le _, rfl, by rw [PolyM.addTo_zero]; exact hr1, hb1⟩
    case round =>
      obtain ⟨k, hk, rfl, hr, hb⟩ := hrel
      clear hr1 hb1
      by_cases hlt2 : k < l1.length
      · obtain ⟨b, o, hA, e⟩ := h1.below hb k hlt2
        subst hA
        have hkp : k < l2.length := by omega
        have hs := PolyM.addTo_succ l2 l1 k hkp hlt2
        have hlen : k < (PolyM.addTo l2 l1 k).length := by rw [PolyM.addTo_len]; exact hkp
        have hc := hr.cell k hlen
        rw [PolyM.addTo_get _ _ _ hkp] at hc
        have hf := hr.frozen k
        have hz := hr.lt
        have HR := Lib.hid hr; have HS := Lib.hid hs
        clear hr hs hlen
        go_wp2_with (go_at_call 42; refine (Gf.add_u8 _ _ _).mono ?_; rintro e w' ⟨rfl, rfl⟩)
        go_roundw
        case rel =>
          refine ⟨k + 1, by omega, by go_num, ?_, ?_⟩
          · rw [← HS.out]; exact HR.out.set k _
          · exact hb.setCell (Nat.le_refl _) _
        case measure => simp [intOf] <;> omega
      · obtain rfl : k = l1.length := by omega
        have HR := Lib.hid hr
        go_wp2
        go_ret
        have hr := HR.out
        rw [PolyM.addTo_done _ _ (by omega)] at hr
        have hlen : (PolyM.padd l2 l1).length = l2.length := by rw [← PolyM.addTo_done _ _ (by omega), PolyM.addTo_len]
        have := RetNew.of_row hr hb (by rw [hlen]; unfold maxLen; omega) (Nat.le_refl _)
        rw [hlen] at this
        rw [PolyM.padd_comm]; exact this
  · have hmk := fun W => make_u8b l1.length (by omega) W
    go_enter Try.func50, Try.ntmps50
    go_wp2_with (with_reducible refine wpList_copy_u8 rfl (.tmp 18) (.tmp 19) rfl (some ⟨w.heap.size, 0, none⟩) l1.length l1.length A1 l1 c1 rfl rfl w.heap.size 0 (List.replicate l1.length 0) (Row.new _ _) (fun _ => rfl) (h1.alloc _) (by simp) ?_; intro w1 hr1 hb1)
    clear hmk
    rw [splice_all _ _ (by simp)] at hr1
    have hb1 : Below w.heap.size w w1 := ((Below.refl _ _).alloc (Nat.le_refl _) _).trans hb1
    go_loopw [23] (fun i wr => ∃ k : Nat, k ≤ l2.length ∧ i = .int .i64 k ∧ Row wr w.heap.size (PolyM.addTo l1 l2 k) ∧ Below w.heap.size w wr)
      (fun i _ => l2.length - (intOf i).toNat)
    case atStart => exact ⟨0, Nat.zero_le _, rfl, by rw [PolyM.addTo_zero]; exact hr1, hb1⟩
    case round =>
      obtain ⟨k, hk, rfl, hr, hb⟩ := hrel
      clear hr1 hb1
      by_cases hlt2 : k < l2.length
      · obtain ⟨b, o, hA, e⟩ := h2.below hb k hlt2
        subst hA
        have hkp : k < l1.length := by omega
        have hs := PolyM.addTo_succ l1 l2 k hkp hlt2
        have hlen : k < (PolyM.addTo l1 l2 k).length := by rw [PolyM.addTo_len]; exact hkp
        have hc := hr.cell k hlen
        rw [PolyM.addTo_get _ _ _ hkp] at hc
        have hf := hr.frozen k
        have hz := hr.lt
        have HR := Lib.hid hr; have HS := Lib.hid hs
        clear hr hs hlen
        go_wp2_with (go_at_call 42; refine (Gf.add_u8 _ _ _).mono ?_; rintro e w' ⟨rfl, rfl⟩)
        go_roundw
        case rel =>
          refine ⟨k + 1, by omega, by go_num, ?_, ?_⟩
          · rw [← HS.out]; exact HR.out.set k _
          · exact hb.setCell (Nat.le_refl _) _
        case measure => simp [intOf] <;> omega
      · obtain rfl : k = l2.length := by omega
        have HR := Lib.hid hr
        go_wp2
        go_ret
        have hr := HR.out
        rw [PolyM.addTo_done _ _ (by omega)] at hr
        have hlen : (PolyM.padd l1 l2).length = l1.length := by rw [← PolyM.addTo_done _ _ (by omega), PolyM.addTo_len]
        have := RetNew.of_row hr hb (by rw [hlen]; unfold maxLen; omega) (Nat.le_refl _)
        rw [hlen] at this
        exact this

set_option maxHeartbeats 1000000 in
theorem apply_big (A B : Option Addr) (tape m : List UInt8) (at_ : Int) (c d : Nat) (w : World) (h : BytesAt w A tape) (hm : BytesAt w B m) (hl : tape.length ≤ 140737488351232) (_hml : m.length ≤ 1048576) (hi : In64 at_) :
    Calls Try.prog 21 #[.slice A tape.length c, .int .i64 at_, .slice B m.length d] w (RetNew w (apply tape at_ m)) := by
  have hmk := fun W => make_u8b tape.length (by omega) W
  have HSUM := Lib.hid (fun g V (h1 : BytesAt V A tape) (h2 : Row V g (put_ tape.length at_ m)) => (show Calls Try.prog 50 #[.slice A tape.length c, .slice (some ⟨g, 0, none⟩) tape.length tape.length] V (RetNew V (apply tape at_ m)) from by
    have C := sum_big A (some ⟨g, 0, none⟩) tape (put_ tape.length at_ m) c tape.length V h1 h2.bytes (by omega) (by rw [put_len]; omega)
    rw [put_len, apply_put] at C
    exact C))
  by_cases h0 : 0 ≤ at_ ∧ at_ < tape.length
  · obtain ⟨a, ha⟩ : ∃ a : Nat, at_ = a := ⟨at_.toNat, by omega⟩
    subst ha
    have hlt : a < tape.length := by omega
    have hsp := splice_put tape.length a m (by omega)
    generalize put_ tape.length (a : Int) m = pt at *
    generalize apply tape (a : Int) m = res at *
    have hfit : a + min m.length (tape.length - a) ≤ (List.replicate tape.length (0 : UInt8)).length := by simp; omega
    have hrow := Row.new w (List.replicate tape.length 0)
    have h1' := h.alloc (.cells (cells (List.replicate tape.length 0)) 5)
    have h2' := hm.alloc (.cells (cells (List.replicate tape.length 0)) 5)
    have HLT := Lib.hid (h.lt (by omega))
    have HA := Lib.hid h1'; have HSP := Lib.hid hsp
    clear h hm h1' hsp h0
    generalize tape.length = n at *
    go_enter Try.func21, Try.ntmps21
    go_wp2_with (with_reducible refine wpList_copy_u8 rfl (.tmp 21) (.tmp 22) rfl (some ⟨w.heap.size, a, none⟩) (n - a) (n - a) B m d rfl rfl w.heap.size a (List.replicate n 0) hrow (fun _ => rfl) h2' hfit ?_; intro w1 hr1 hb1)
    rw [HSP.out] at hr1
    have HR := Lib.hid hr1
    have HA1 := Lib.hid (HA.out.keep hb1 HLT.out)
    have hb2 := Lib.hid (show Below w.heap.size w w1 from (balloc w _).trans hb1)
    clear hr1 hb1 h2' hrow hfit hmk
    go_wp2_with fail
    refine (HSUM.out w.heap.size w1 HA1.out HR.out).mono ?_
    rintro e w2 ⟨X, f, rfl, g1, g2, g3, hb3, hn⟩
    have HX := Lib.hid g3; have HN := Lib.hid (hn.mono hb2.out.size); have HB := Lib.hid (bstep hb2.out hb3)
    clear g3 hn hb3
    go_wp2
    go_ret
    exact ⟨X, f, rfl, g1, g2, HX.out, HB.out, HN.out⟩
  · have hrow := Row.new w (List.replicate tape.length 0)
    rw [← put_out tape.length at_ m h0] at hrow
    have hmk' := Lib.hid hmk
    rw [← put_out tape.length at_ m h0] at hmk
    have h1' := h.alloc (.cells (cells (put_ tape.length at_ m)) 5)
    have HR := Lib.hid hrow; have HA := Lib.hid h1'
    clear h hm hrow h1' hmk'
    generalize put_ tape.length at_ m = pt at *
    generalize apply tape at_ m = res at *
    generalize tape.length = n at *
    have HB0 := Lib.hid (balloc w (.cells (cells pt) 5))
    by_cases h1 : 0 ≤ at_
    · have h2 : ¬ at_ < (n : Int) := fun e => h0 ⟨h1, e⟩
      clear h0
      go_enter Try.func21, Try.ntmps21
      go_wp2_with fail
      refine (HSUM.out w.heap.size _ HA.out HR.out).mono ?_
      rintro e w2 ⟨X, f, rfl, g1, g2, g3, hb3, hn⟩
      have HX := Lib.hid g3; have HN := Lib.hid (hn.mono HB0.out.size); have HB := Lib.hid (bstep HB0.out hb3)
      clear g3 hn hb3
      go_wp2
      go_ret
      exact ⟨X, f, rfl, g1, g2, HX.out, HB.out, HN.out⟩
    · clear h0
      go_enter Try.func21, Try.ntmps21
      go_wp2_with fail
      refine (HSUM.out w.heap.size _ HA.out HR.out).mono ?_
      rintro e w2 ⟨X, f, rfl, g1, g2, g3, hb3, hn⟩
      have HX := Lib.hid g3; have HN := Lib.hid (hn.mono HB0.out.size); have HB := Lib.hid (bstep HB0.out hb3)
      clear g3 hn hb3
      go_wp2
      go_ret
      exact ⟨X, f, rfl, g1, g2, HX.out, HB.out, HN.out⟩
end Go.Proofs.Ytompeiemioeohaa.Mask
