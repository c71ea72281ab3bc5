/- the contracts of package crc -/
import Derived.Test.YteiemkaeeghhhaaCrcA
import Derived.Laws.BitsAllLaws
import Derived.IntWalk
import Derived.Deep.QuietTactic
set_option maxRecDepth 100000
namespace Go.Proofs.Yteiemkaeeghhhaa.Crc
open Go.RowKit

/-- what each byte does lies in block b -/
def Tab (w : World) (b : Nat) : Prop := ∀ i, i < 256 → w.cell? ⟨b, i, none⟩ = some (.int .u32 (CrcM.steps 8 i : Nat))
theorem Tab.below {w w' : World} {b : Nat} (h : Tab w b) (hb : Below w.heap.size w w') : Tab w' b := fun i hi => (hb.cell (p := ⟨b, i, none⟩) (cell_lt (h i hi))).trans (h i hi)
theorem Tab.drewN {w : World} {b : Nat} (h : Tab w b) (n : Nat) : Tab (w.drewN n) b := h

def zeros : Array Value := Array.replicate 256 (.int .u32 0)
def tabTo (k i : Nat) : Nat := if i < k then CrcM.steps 8 i else 0
structure TabTo (w : World) (b k : Nat) : Prop where
  cell : ∀ i, i < 256 → w.cell? ⟨b, i, none⟩ = some (.int .u32 (tabTo k i : Nat))
  fr : ∀ i, w.frozen? ⟨b, i, none⟩ = false
theorem TabTo.drew {w : World} {b k : Nat} (h : TabTo w b k) : TabTo w.drew b k := ⟨h.cell, h.fr⟩
theorem TabTo.step {w : World} {b k : Nat} (h : TabTo w b k) : TabTo (w.setCell ⟨b, k, none⟩ (.int .u32 (CrcM.steps 8 k : Nat))) b (k + 1) := by
  refine ⟨fun i hi => ?_, fun i => by simp [h.fr]⟩
  rw [cell_store (h.cell i hi)]
  unfold tabTo
  by_cases e : i = k
  · subst e; rw [if_pos rfl, if_pos (by omega)]
  · rw [if_neg e]
    have : (i < k + 1) ↔ (i < k) := by omega
    simp only [this]
theorem TabTo.done {w : World} {b : Nat} (h : TabTo w b 256) : Tab w b := fun i hi => by
  rw [h.cell i hi, tabTo, if_pos (by omega)]
/-- one byte more, by the table -/
theorem feed_byte (x : Nat) (l : List UInt8) (t : Nat) (h : t < l.length) :
    CrcM.feed x (l.take (t + 1)) = CrcM.feed x (l.take t) / 256 ^^^ CrcM.steps 8 (CrcM.feed x (l.take t) % 256 ^^^ l[t].toNat) := by
  rw [List.take_succ_eq_append_getElem h, CrcM.feed_snoc]
  generalize CrcM.feed x (l.take t) = y
  have ha := l[t].toNat_lt
  generalize l[t].toNat = a at *
  have e : y ^^^ a = (y % 256 ^^^ a) ^^^ (256 * (y / 256)) := by
    have := CrcM.add_xor (y % 256) (y / 256) (Nat.mod_lt _ (by omega))
    rw [show y % 256 + 256 * (y / 256) = y from by omega] at this
    rw [Nat.xor_assoc, Nat.xor_comm a, ← Nat.xor_assoc, ← this]
  rw [e, CrcM.steps8, Nat.xor_comm]
theorem cells_four (x : Nat) (hx : x < 4294967296) : cells (CrcM.four x) = #[.int .u8 ((x : Int) % 256), .int .u8 ((x : Int) / 256 % 256), .int .u8 ((x : Int) / 65536 % 256), .int .u8 ((x : Int) / 16777216)] := by
  unfold cells vals CrcM.four
  have e : ∀ n, (UInt8.ofNat (n % 256)).toNat = n % 256 := fun n => UInt8.toNat_ofNat_of_lt' (by simp only [UInt8.size]; omega)
  simp only [List.map_cons, List.map_nil, e]
  have : x / 16777216 % 256 = x / 16777216 := Nat.mod_eq_of_lt (by omega)
  rw [this]
  rfl
theorem good_same (l : List UInt8) (h : 4 ≤ l.length) : same (l.drop (l.length - 4)) (CrcM.four (CrcM.sum (l.take (l.length - 4)))) = CrcM.good l := by
  unfold same CrcM.good
  rw [decide_eq_decide]
  constructor
  · intro e
    refine ⟨h, ?_⟩
    unfold CrcM.seal_
    rw [← e, List.take_append_drop]
  · rintro ⟨_, e⟩
    unfold CrcM.seal_ at e
    have e2 := congrArg (List.drop (l.length - 4)) e
    rw [e2, List.drop_append, List.drop_of_length_le (by rw [List.length_take]; omega), List.length_take]
    rw [show l.length - 4 - min (l.length - 4) l.length = 0 from by omega]
    rfl
end Go.Proofs.Yteiemkaeeghhhaa.Crc
