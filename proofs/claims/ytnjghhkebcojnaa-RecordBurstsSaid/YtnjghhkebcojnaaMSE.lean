/- merged: SecA, SecB, SecC -/
import Derived.Test.YtnjghhkebcojnaaArr
import Derived.Test.YtnjghhkebcojnaaCrc
import Derived.Test.YtnjghhkebcojnaaMMA
import Derived.Test.YtnjghhkebcojnaaFlow

/- package sector: blockOf, sealed -/
set_option maxRecDepth 100000
namespace Go.Proofs.Ytnjghhkebcojnaa.Sector
open Go.RowKit

abbrev T : TypeId := 76
theorem zero_block (w : World) : (zeroValue 76).run Try.prog w = .ok (.agg (cells (SecM.noughts 64))) w := by kernel_rfl
theorem block_size : (Try.prog.info? 76).map (·.size) = some 64 := by kernel_rfl
theorem block_array : Try.prog.underlying 76 = some (.array 64 5) := by kernel_rfl
/-- bytes as a sector's -/
def blk (l : List UInt8) : List UInt8 := if l.length = 64 then l else SecM.noughts 64
theorem blk_len (l : List UInt8) : (blk l).length = 64 := by unfold blk; split; assumption; rfl
theorem blk_of {l : List UInt8} (h : l.length = 64) : blk l = l := if_pos h
theorem blk_not {l : List UInt8} (h : ¬ l.length = 64) : blk l = SecM.noughts 64 := if_neg h

theorem two_rows (w : World) (l m : List UInt8) (t : TypeId) : RowT t ((w.alloc (.cells (cells l) t)).alloc (.cells (cells m) t)) w.heap.size l ∧ RowT t ((w.alloc (.cells (cells l) t)).alloc (.cells (cells m) t)) (w.heap.size + 1) m :=
  ⟨heap_alloc2_old w _ _, heap_alloc2_new w _ _⟩
end Go.Proofs.Ytnjghhkebcojnaa.Sector

/- package sector: sealed -/
set_option maxRecDepth 100000
namespace Go.Proofs.Ytnjghhkebcojnaa.Sector
open Go.RowKit

theorem splice_pad (l : List UInt8) (h : l.length ≤ 60) : splice (SecM.noughts 64) 0 (l.take 64) = l ++ SecM.noughts (64 - l.length) := by
  unfold splice SecM.noughts
  rw [List.take_of_length_le (by omega : l.length ≤ 64), List.take_zero, List.nil_append, Nat.zero_add, List.drop_replicate]
theorem pad_take60 (l : List UInt8) (h : l.length ≤ 60) : (l ++ SecM.noughts (64 - l.length)).take 60 = SecM.pad l := by
  unfold SecM.pad SecM.noughts
  rw [List.take_append, List.take_of_length_le h, List.take_replicate]
  congr 2
  omega
theorem tab_lt {w : World} {b : Nat} (h : Crc.Tab w b) : b < w.heap.size := cell_lt (a := ⟨b, 0, none⟩) (h 0 (by decide))
theorem tab_keep {w w' : World} {b B : Nat} (h : Crc.Tab w b) (hb : Below B w w') (hlt : b < B) : Crc.Tab w' b := fun i hi => (hb.cell (p := ⟨b, i, none⟩) hlt).trans (h i hi)
theorem splice_whole (p s : List UInt8) (hp : p.length = 64) (hs : s.length = 64) : splice p 0 (s.take 64) = s := by
  have := splice_all p s (by omega)
  rw [hs] at this
  exact this


theorem sealed_any (b : Nat) (A : Option Addr) (l : List UInt8) (c : Nat) (w : World) (ht : Crc.Tab w b) (h : BytesAt w A l) (hl : l.length ≤ 60) :
    Calls Try.prog 47 #[.pointer (some ⟨b, 0, none⟩), .slice A l.length c] w fun e w' => e = .returned (.agg (cells (SecM.sec l))) ∧ Below w.heap.size w w' := by
  have hz := zero_block
  have rr := two_rows w (SecM.noughts 64) (SecM.noughts 64) 76
  obtain ⟨r1, r2⟩ := rr
  have hbb : Below w.heap.size w ((w.alloc (.cells (cells (SecM.noughts 64)) 76)).alloc (.cells (cells (SecM.noughts 64)) 76)) := bstep (balloc w _) (balloc _ _)
  have R1 := Lib.hid r1; have R2 := Lib.hid r2; have HBB := Lib.hid hbb
  have HA := Lib.hid (h.below hbb)
  have HT := Lib.hid (ht.below hbb)
  have HBL := Lib.hid (tab_lt ht)
  have HZ : Hid ((SecM.sec l).length = 64) := Lib.hid (SecM.sec_len l hl)
  have HQ : Hid (splice (SecM.noughts 64) 0 (l.take 64) = l ++ SecM.noughts (64 - l.length)) := Lib.hid (splice_pad l hl)
  have HPL : Hid ((l ++ SecM.noughts (64 - l.length)).length = 64) := Lib.hid (by rw [List.length_append, SecM.noughts_len]; omega)
  have HCa : Hid (∀ (W : World), Crc.Tab W b → BytesAt W (some ⟨w.heap.size + 1, 0, none⟩) (l ++ SecM.noughts (64 - l.length)) → Calls Try.prog 62 #[.pointer (some ⟨b, 0, none⟩), .slice (some ⟨w.heap.size + 1, 0, none⟩) 60 64] W (RetNew W (SecM.sec l))) := Lib.hid (fun W hT hB => by
    have C := Crc.seal_any b (some ⟨w.heap.size + 1, 0, none⟩) (SecM.pad l) 64 W hT (by have := hB.prefix 60; rwa [pad_take60 l hl] at this) (by rw [SecM.pad_len l hl]; omega) (by unfold maxLen; omega) (by rw [SecM.pad_len l hl]; omega)
    rw [SecM.pad_len l hl] at C
    exact C)
  generalize l ++ SecM.noughts (64 - l.length) = p at *
  generalize SecM.sec l = Z at *
  clear r1 r2 hbb ht h
  go_enter Try.func47, Try.ntmps47
  go_wp2_with (first
    | (with_reducible refine wpList_copy_T rfl (.tmp 6) (.tmp 7) rfl (w.heap.size + 1) 64 64 A l c rfl rfl _ (SecM.noughts 64) R2.out HA.out (by rw [SecM.noughts_len]; omega) ?_; intro w1 hr1 hb1; rw [HQ.out] at hr1; have R3 := Lib.hid hr1; have R4 := Lib.hid (R1.out.below hb1 (Nat.lt_succ_self _)); have HB1 := Lib.hid (HBB.out.trans (hb1.mono (Nat.le_succ _))); have HT1 := Lib.hid (tab_keep HT.out hb1 (Nat.lt_succ_of_lt HBL.out)); clear hr1)
    | fail)
  have HC : Hid (∀ W : World, Below w1.heap.size w1 W → Calls Try.prog 62 #[.pointer (some ⟨b, 0, none⟩), .slice (some ⟨w.heap.size + 1, 0, none⟩) 60 64] W (RetNew W Z)) := Lib.hid (fun W hW => HCa.out W (HT1.out.below hW) (R3.out.bytes.below hW))
  clear hz HCa
  refine Drawn.wp_region_flowT 4 [Drawn.SP.is (.slice (some ⟨w.heap.size + 1, 0, none⟩) 64 64), Drawn.SP.is (.pointer (some ⟨b, 0, none⟩)), Drawn.SP.is (.slice (some ⟨w.heap.size + 1, 0, none⟩) 60 64), Drawn.SP.bytes Z] (by kernel_rfl) (by kernel_rfl) ?_ ?_
  · intro i hi a wq hb hev hdep
    rcases (show i = 0 ∨ i = 1 ∨ i = 2 ∨ i = 3 by omega) with rfl | rfl | rfl | rfl
    · have e5 : a.tmps[5]?.getD undef = .pointer (some ⟨w.heap.size + 1, 0, none⟩) := hev 5 rfl
      refine Drawn.wpOp_flow 9 rfl rfl rfl ?_
      clear hev hdep hb
      go_simp
      exact ⟨_, rfl, rfl, Below.refl _ _⟩
    · have e0 : a.tmps[0]?.getD undef = .pointer (some ⟨b, 0, none⟩) := hev 0 rfl
      refine Drawn.wpOp_flow 10 rfl rfl rfl ?_
      clear hev hdep hb
      go_simp
      exact ⟨_, rfl, rfl, Below.refl _ _⟩
    · have e5 : a.tmps[5]?.getD undef = .pointer (some ⟨w.heap.size + 1, 0, none⟩) := hev 5 rfl
      refine Drawn.wpOp_flow 11 rfl rfl rfl ?_
      clear hev hdep hb
      go_simp
      exact ⟨_, rfl, rfl, Below.refl _ _⟩
    · have d1 : a.tmps[10]?.getD undef = .pointer (some ⟨b, 0, none⟩) := hdep 1 rfl
      have d2 : a.tmps[11]?.getD undef = .slice (some ⟨w.heap.size + 1, 0, none⟩) 60 64 := hdep 2 rfl
      refine Drawn.wpOp_flow 12 rfl rfl rfl ?_
      clear hev hdep
      have C := HC.out wq hb
      clear hb
      go_simp
      refine C.mono ?_
      rintro e w' ⟨X, d, rfl, g1, g2, g3, hb', _⟩
      exact ⟨_, rfl, ⟨X, d, rfl, g1, g2, g3⟩, hb'⟩
  · intro xq wq hb hxq
    have vq0 : xq 0 = .slice (some ⟨w.heap.size + 1, 0, none⟩) 64 64 := hxq 0 (by omega)
    have vq1 : xq 1 = .pointer (some ⟨b, 0, none⟩) := hxq 1 (by omega)
    have vq2 : xq 2 = .slice (some ⟨w.heap.size + 1, 0, none⟩) 60 64 := hxq 2 (by omega)
    obtain ⟨X, d, vq3, q1, q2, q3⟩ : (Drawn.SP.bytes Z).p (xq 3) wq := hxq 3 (by omega)
    show wpList _ _ _ _ (Drawn.acts _ [(12, some (xq 3)), (11, some (xq 2)), (10, some (xq 1)), (9, some (xq 0))]) _
    rw [vq0, vq1, vq2, vq3]
    clear hxq vq0 vq1 vq2 vq3
    clear xq
    simp only [Drawn.acts, List.drop_succ_cons, List.drop_zero]
    go_simp

    go_wp2_with (first
      | (with_reducible refine wpList_copy_T rfl (.tmp 9) (.tmp 12) rfl (w.heap.size + 1) 64 64 X Z d rfl rfl _ p (R3.out.below hb (by have := HB1.out.size; have := R3.out.lt; omega)) q3 (by rw [HPL.out]; omega) ?_; intro w2 hr2 hb2; rw [splice_whole p Z HPL.out HZ.out] at hr2; have R5 := Lib.hid hr2; have R6 := Lib.hid ((R4.out.below hb R4.out.lt).below hb2 (Nat.lt_succ_self _)); have HB2 := Lib.hid (hb2.mono (Nat.le_succ _)); clear hr2)
      | (refine wpList_load_T rfl _ _ rfl (w.heap.size + 1) rfl Z _ R5.out _ block_array block_size HZ.out ?_)
      | (refine wpList_store_T rfl _ _ _ rfl w.heap.size Z rfl rfl (SecM.noughts 64) _ R6.out block_size (SecM.noughts_len _) HZ.out ?_; intro w3 hr3 hb3; have R7 := Lib.hid hr3; clear hr3)
      | fail)
    exact bodyPost_ret (results_T1 rfl _ w3 w.heap.size Z _ rfl R7.out _ block_array block_size HZ.out) rfl ⟨rfl, (bstep HB1.out hb).trans (HB2.out.trans hb3)⟩
end Go.Proofs.Ytnjghhkebcojnaa.Sector

/- package sector: Seal, Open, Clear, Zero -/
set_option maxRecDepth 100000
namespace Go.Proofs.Ytnjghhkebcojnaa.Sector
open Go.RowKit

theorem block_guard : Try.prog.eqGuardType Try.prog.depth 76 = false := by kernel_rfl
/-- what Seal tells -/
def sealOf (l : List UInt8) : List UInt8 := if l.length ≤ 60 then SecM.sec l else []
theorem seal_any (b : Nat) (A : Option Addr) (l : List UInt8) (c : Nat) (w : World) (ht : Crc.Tab w b) (h : BytesAt w A l) :
    Calls Try.prog 27 #[.pointer (some ⟨b, 0, none⟩), .slice A l.length c] w (RetNew w (sealOf l)) := by
  by_cases hl : l.length ≤ 60
  · have he : sealOf l = SecM.sec l := if_pos hl
    rw [he]
    have C := sealed_any b A l c w ht h hl
    have HZ : Hid ((SecM.sec l).length = 64) := Lib.hid (SecM.sec_len l hl)
    clear he
    generalize SecM.sec l = Z at *
    have hz := zero_block
    clear ht h
    go_enter Try.func27, Try.ntmps27
    go_wp2_with fail
    refine C.mono ?_
    rintro e w1 ⟨rfl, hb1⟩
    have R1 := Lib.hid (RowT.new w1 (SecM.noughts 64) 76)
    go_wp2_with (first
      | (refine wpList_store_T rfl _ _ _ rfl w1.heap.size Z rfl rfl (SecM.noughts 64) _ R1.out block_size (SecM.noughts_len _) HZ.out ?_; intro w3 hr3 hb3; have R7 := Lib.hid hr3; have HB3 := Lib.hid hb3; clear hr3 hb3)
      | fail)
    go_ret
    refine ⟨some ⟨w1.heap.size, 0, none⟩, 64, by rw [HZ.out]; rfl, by rw [HZ.out]; omega, by unfold maxLen; omega, R7.out.bytes, ?_, New.at w hb1.size⟩
    exact bstep hb1 ((balloc w1 _).trans HB3.out)
  · have he : sealOf l = [] := if_neg hl
    rw [he]
    go_enter Try.func27, Try.ntmps27
    go_wp2
    go_ret
    exact RetNew.of_nil (Below.refl _ _)
theorem clear_same (l : List UInt8) : SecM.clear_ l = same l (SecM.noughts 64) := rfl
/-- what Open tells -/
def openOf (l : List UInt8) : List UInt8 := if SecM.opens l then l.take 60 else []
theorem openOf_len (l : List UInt8) : (openOf l).length ≤ 60 := by
  unfold openOf; split
  · rw [List.length_take]; omega
  · exact Nat.zero_le _
/-- bytes in memory of the call's own, and a word -/
def RetWord (w : World) (l : List UInt8) (ok : Bool) (e : Ending) (w' : World) : Prop :=
  ∃ A c, e = .returned (.tuple #[.slice A l.length c, .bool ok]) ∧ l.length ≤ c ∧ c ≤ maxLen ∧ BytesAt w' A l ∧ Below w.heap.size w w' ∧ New w A
theorem opens_same (l : List UInt8) (h : l.length = 64) : same l (SecM.sec (l.take 60)) = SecM.opens l := by
  have hp : SecM.pad (l.take 60) = l.take 60 := by
    unfold SecM.pad
    rw [List.length_take, h]
    exact List.append_nil _
  unfold SecM.sec SecM.opens
  rw [hp, h]
  simp only [decide_true, Bool.true_and]
  rw [Bool.eq_iff_iff]
  have := CrcM.good_iff l (by omega)
  rw [h] at this
  rw [this]
  unfold same
  rw [decide_eq_true_iff]
  exact eq_comm


end Go.Proofs.Ytnjghhkebcojnaa.Sector
