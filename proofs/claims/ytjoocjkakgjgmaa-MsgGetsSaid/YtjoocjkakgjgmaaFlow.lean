/- kinds of values that operations of a drawn region give -/
import Derived.Test.YtjoocjkakgjgmaaDrawn
import Derived.Test.YtjoocjkakgjgmaaFoot
import Derived.Test.YtjoocjkakgjgmaaInts
set_option maxRecDepth 100000
namespace Go.Proofs.Ytjoocjkakgjgmaa.Drawn
open Go Go.RowKit

def SP.bytes (l : List UInt8) : SP := ⟨fun v w => ∃ X d, v = .slice X l.length d ∧ l.length ≤ d ∧ d ≤ maxLen ∧ BytesAt w X l, fun _ _ _ h hb => by
  obtain ⟨X, d, h1, h2, h3, h4⟩ := h; exact ⟨X, d, h1, h2, h3, h4.below hb⟩⟩
def SP.rows (m : List (List UInt8)) : SP := ⟨fun v w => ∃ X d, v = .slice X m.length d ∧ m.length ≤ d ∧ d ≤ maxLen ∧ RowsAt w X m, fun _ _ _ h hb => by
  obtain ⟨X, d, h1, h2, h3, h4⟩ := h; exact ⟨X, d, h1, h2, h3, h4.below hb⟩⟩
/-- with an error's number -/
def SP.bytesE (l : List UInt8) (e : Int) : SP := ⟨fun v w => ∃ X d, v = .tuple #[.slice X l.length d, .int .i64 e] ∧ l.length ≤ d ∧ d ≤ maxLen ∧ BytesAt w X l, fun _ _ _ h hb => by
  obtain ⟨X, d, h1, h2, h3, h4⟩ := h; exact ⟨X, d, h1, h2, h3, h4.below hb⟩⟩
def SP.rowsE (m : List (List UInt8)) (e : Int) : SP := ⟨fun v w => ∃ X d, v = .tuple #[.slice X m.length d, .int .i64 e] ∧ m.length ≤ d ∧ d ≤ maxLen ∧ RowsAt w X m, fun _ _ _ h hb => by
  obtain ⟨X, d, h1, h2, h3, h4⟩ := h; exact ⟨X, d, h1, h2, h3, h4.below hb⟩⟩
/-- in memory from block B on -/
def SP.rowsN (B : Nat) (m : List (List UInt8)) : SP := ⟨fun v w => ∃ X d, v = .slice X m.length d ∧ m.length ≤ d ∧ d ≤ maxLen ∧ RowsAt w X m ∧ ∀ a, X = some a → B ≤ a.block, fun _ _ _ h hb => by
  obtain ⟨X, d, h1, h2, h3, h4, h5⟩ := h; exact ⟨X, d, h1, h2, h3, h4.below hb, h5⟩⟩
def SP.rowsNE (B : Nat) (m : List (List UInt8)) (e : Int) : SP := ⟨fun v w => ∃ X d, v = .tuple #[.slice X m.length d, .int .i64 e] ∧ m.length ≤ d ∧ d ≤ maxLen ∧ RowsAt w X m ∧ ∀ a, X = some a → B ≤ a.block, fun _ _ _ h hb => by
  obtain ⟨X, d, h1, h2, h3, h4, h5⟩ := h; exact ⟨X, d, h1, h2, h3, h4.below hb, h5⟩⟩
/-- the field's tables -/
def SP.tab : SP := ⟨fun v w => ∃ b, v = .pointer (some ⟨b, 0, none⟩) ∧ Gf.Tab w b, fun _ _ _ h hb => by
  obtain ⟨b, h1, h2⟩ := h; exact ⟨b, h1, h2.below hb⟩⟩
/-- one byte in a block of its own -/
def SP.one (y : UInt8) : SP := ⟨fun v w => ∃ g, v = .slice (some ⟨g, 0, none⟩) 1 1 ∧ w.cell? ⟨g, 0, none⟩ = some (.int .u8 (y.toNat : Nat)), fun _ _ _ h hb => by
  obtain ⟨g, h1, h2⟩ := h; exact ⟨g, h1, (hb.cell (p := ⟨g, 0, none⟩) (cell_lt h2)).trans h2⟩⟩
def SP.ints (l : List Int) : SP := ⟨fun v w => ∃ X d, v = .slice X l.length d ∧ l.length ≤ d ∧ d ≤ maxLen ∧ IntsAt w X l, fun _ _ _ h hb => by
  obtain ⟨X, d, h1, h2, h3, h4⟩ := h; exact ⟨X, d, h1, h2, h3, h4.below hb⟩⟩
theorem ints_new (w : World) (l : List Int) (t : TypeId) : IntsAt (w.alloc (.cells (intV l).toArray t)) (some ⟨w.heap.size, 0, none⟩) l := fun i hi => ⟨w.heap.size, 0, rfl, by
  have h : i < l.length := by rw [intV_len] at hi; exact hi
  simp [intV, h]⟩
end Go.Proofs.Ytjoocjkakgjgmaa.Drawn
