/- merged: SecA, SecB, SecC -/
import Derived.Test.YteiemkaeeghhhaaArr
import Derived.Test.YteiemkaeeghhhaaCrc
import Derived.Test.YteiemkaeeghhhaaSecMath
import Derived.Test.YteiemkaeeghhhaaFlow

/- package sector: blockOf, sealed -/
set_option maxRecDepth 100000
namespace Go.Proofs.Yteiemkaeeghhhaa.Sector
open Go.RowKit

abbrev T : TypeId := 56
theorem zero_block (w : World) : (zeroValue 56).run Try.prog w = .ok (.agg (cells (SecM.noughts 64))) w := by kernel_rfl
theorem block_size : (Try.prog.info? 56).map (·.size) = some 64 := by kernel_rfl
theorem block_array : Try.prog.underlying 56 = some (.array 64 5) := by kernel_rfl
/-- bytes as a sector's -/
def blk (l : List UInt8) : List UInt8 := if l.length = 64 then l else SecM.noughts 64
theorem blk_len (l : List UInt8) : (blk l).length = 64 := by unfold blk; split; assumption; rfl
theorem blk_of {l : List UInt8} (h : l.length = 64) : blk l = l := if_pos h
theorem blk_not {l : List UInt8} (h : ¬ l.length = 64) : blk l = SecM.noughts 64 := if_neg h

theorem two_rows (w : World) (l m : List UInt8) (t : TypeId) : RowT t ((w.alloc (.cells (cells l) t)).alloc (.cells (cells m) t)) w.heap.size l ∧ RowT t ((w.alloc (.cells (cells l) t)).alloc (.cells (cells m) t)) (w.heap.size + 1) m :=
  ⟨heap_alloc2_old w _ _, heap_alloc2_new w _ _⟩
end Go.Proofs.Yteiemkaeeghhhaa.Sector

/- package sector: sealed -/
set_option maxRecDepth 100000
namespace Go.Proofs.Yteiemkaeeghhhaa.Sector
open Go.RowKit

theorem splice_pad (l : List UInt8) (h : l.length ≤ 60) : splice (SecM.noughts 64) 0 (l.take 64) = l ++ SecM.noughts (64 - l.length) := by
  unfold splice SecM.noughts
  rw [List.take_of_length_le (by omega : l.length ≤ 64), List.take_zero, List.nil_append, Nat.zero_add, List.drop_replicate]
theorem pad_take60 (l : List UInt8) (h : l.length ≤ 60) : (l ++ SecM.noughts (64 - l.length)).take 60 = SecM.pad l := by
  unfold SecM.pad SecM.noughts
  rw [List.take_append, List.take_of_length_le h, List.take_replicate]
  congr 2
  omega
theorem tab_lt {w : World} {b : Nat} (h : Crc.Tab w b) : b < w.heap.size := cell_lt (a := ⟨b, 0, none⟩) (h 0 (by decide))
theorem tab_keep {w w' : World} {b B : Nat} (h : Crc.Tab w b) (hb : Below B w w') (hlt : b < B) : Crc.Tab w' b := fun i hi => (hb.cell (p := ⟨b, i, none⟩) hlt).trans (h i hi)
theorem splice_whole (p s : List UInt8) (hp : p.length = 64) (hs : s.length = 64) : splice p 0 (s.take 64) = s := by
  have := splice_all p s (by omega)
  rw [hs] at this
  exact this


end Go.Proofs.Yteiemkaeeghhhaa.Sector

/- package sector: Seal, Open, Clear, Zero -/
set_option maxRecDepth 100000
namespace Go.Proofs.Yteiemkaeeghhhaa.Sector
open Go.RowKit

theorem block_guard : Try.prog.eqGuardType Try.prog.depth 56 = false := by kernel_rfl
/-- what Seal tells -/
def sealOf (l : List UInt8) : List UInt8 := if l.length ≤ 60 then SecM.sec l else []
theorem zero_any (w : World) : Calls Try.prog 24 #[] w (RetNew w (SecM.noughts 64)) := by
  have hz := zero_block
  go_enter Try.func24, Try.ntmps24
  go_wp2_with fail
  go_ret
  exact ⟨some ⟨w.heap.size, 0, none⟩, 64, rfl, Nat.le_refl _, by unfold maxLen; show 64 ≤ _; omega, (RowT.new w (SecM.noughts 64) 56).bytes, balloc w _, New.at w (Nat.le_refl _)⟩
theorem clear_same (l : List UInt8) : SecM.clear_ l = same l (SecM.noughts 64) := rfl
/-- what Open tells -/
def openOf (l : List UInt8) : List UInt8 := if SecM.opens l then l.take 60 else []
theorem openOf_len (l : List UInt8) : (openOf l).length ≤ 60 := by
  unfold openOf; split
  · rw [List.length_take]; omega
  · exact Nat.zero_le _
/-- bytes in memory of the call's own, and a word -/
def RetWord (w : World) (l : List UInt8) (ok : Bool) (e : Ending) (w' : World) : Prop :=
  ∃ A c, e = .returned (.tuple #[.slice A l.length c, .bool ok]) ∧ l.length ≤ c ∧ c ≤ maxLen ∧ BytesAt w' A l ∧ Below w.heap.size w w' ∧ New w A
theorem opens_same (l : List UInt8) (h : l.length = 64) : same l (SecM.sec (l.take 60)) = SecM.opens l := by
  have hp : SecM.pad (l.take 60) = l.take 60 := by
    unfold SecM.pad
    rw [List.length_take, h]
    exact List.append_nil _
  unfold SecM.sec SecM.opens
  rw [hp, h]
  simp only [decide_true, Bool.true_and]
  rw [Bool.eq_iff_iff]
  have := CrcM.good_iff l (by omega)
  rw [h] at this
  rw [this]
  unfold same
  rw [decide_eq_true_iff]
  exact eq_comm


end Go.Proofs.Yteiemkaeeghhhaa.Sector
