/- the document's own answers of layer 6 -/
import Derived.Test.YtjfjflkflnebgaaMats
import Derived.Test.YtjfjflkflnebgaaPackMath
import Derived.Deep.QuietTactic
import Derived.IntWalk
import Derived.Deep.RegionHeld3
set_option maxRecDepth 100000
namespace Go.Proofs.Ytjfjflkflnebgaa.R06
open Go.RowKit

/-- a reader of the document's in block g -/
structure RAt (w : World) (g : Nat) (A : Option Addr) (c : Nat) (b : List UInt8) (s : PackM.St) : Prop where
  cb : w.cell? ⟨g, 0, none⟩ = some (.slice A b.length c)
  ca : w.cell? ⟨g, 1, none⟩ = some (.int .i64 (s.at_ : Nat))
  cd : w.cell? ⟨g, 2, none⟩ = some (.bool s.bad)
  f1 : w.frozen? ⟨g, 1, none⟩ = false
  f2 : w.frozen? ⟨g, 2, none⟩ = false
  bytes : BytesAt w A b
  ne : 0 < b.length → ∀ a, A = some a → a.block ≠ g
  ok : PackM.Ok b s
  cap : b.length ≤ c
  cap2 : c ≤ maxLen
theorem RAt.below {w w' : World} {g : Nat} {A : Option Addr} {c : Nat} {b : List UInt8} {s : PackM.St} (h : RAt w g A c b s) (hb : Below w.heap.size w w') : RAt w' g A c b s :=
  ⟨(hb.cell (p := ⟨g, 0, none⟩) (cell_lt h.cb)).trans h.cb, (hb.cell (p := ⟨g, 1, none⟩) (cell_lt h.ca)).trans h.ca, (hb.cell (p := ⟨g, 2, none⟩) (cell_lt h.cd)).trans h.cd,
    (hb.frozen (p := ⟨g, 1, none⟩) (cell_lt h.ca)).trans h.f1, (hb.frozen (p := ⟨g, 2, none⟩) (cell_lt h.cd)).trans h.f2, h.bytes.below hb, h.ne, h.ok, h.cap, h.cap2⟩
/-- what a reading call gives: these bytes, new, and the reader moved on -/
def RawPost (w : World) (g : Nat) (A : Option Addr) (c : Nat) (b l : List UInt8) (s' : PackM.St) (e : Ending) (w' : World) : Prop :=
  ∃ X d, e = .returned (.slice X l.length d) ∧ BytesAt w' X l ∧ New w X ∧ l.length ≤ d ∧ d ≤ maxLen ∧ RAt w' g A c b s' ∧ w.grownBy w' (some g)

theorem RAt.lacks {w : World} {g : Nat} {A : Option Addr} {c : Nat} {b : List UInt8} {s : PackM.St} (h : RAt w g A c b s) (n : Nat) :
    RAt (((w.drewN n).setCell ⟨g, 2, none⟩ (.bool true)).setCell ⟨g, 1, none⟩ (.int .i64 (b.length : Nat))) g A c b ⟨b.length, true⟩ ∧ w.grownBy (((w.drewN n).setCell ⟨g, 2, none⟩ (.bool true)).setCell ⟨g, 1, none⟩ (.int .i64 (b.length : Nat))) (some g) := by
  have e0 : (w.drewN n).cell? ⟨g, 0, none⟩ = some (.slice A b.length c) := h.cb
  have e1 : (w.drewN n).cell? ⟨g, 1, none⟩ = some (.int .i64 (s.at_ : Nat)) := h.ca
  have e2 : (w.drewN n).cell? ⟨g, 2, none⟩ = some (.bool s.bad) := h.cd
  refine ⟨⟨?_, ?_, ?_, ?_, ?_, ((h.bytes.drewN n).far' _ _ h.ne).far' _ _ h.ne, h.ne, Nat.le_refl _, h.cap, h.cap2⟩, ?_⟩
  · rw [cell_store (cell_store e0)]; rfl
  · rw [cell_store (cell_store e1)]; rfl
  · rw [cell_store (cell_store e2)]; rfl
  · rw [World.frozen?_setCell, World.frozen?_setCell]; exact h.f1
  · rw [World.frozen?_setCell, World.frozen?_setCell]; exact h.f2
  · exact grow_trans (grow_draw w n _) (grow_trans (grow_set _ _ _) (grow_set _ _ _))
theorem RAt.moves {w : World} {g : Nat} {A : Option Addr} {c : Nat} {b : List UInt8} {s : PackM.St} (h : RAt w g A c b s) (n k : Nat) (hb : s.bad = false) (hk : k ≤ b.length) :
    RAt ((w.drewN n).setCell ⟨g, 1, none⟩ (.int .i64 (k : Nat))) g A c b ⟨k, false⟩ ∧ w.grownBy ((w.drewN n).setCell ⟨g, 1, none⟩ (.int .i64 (k : Nat))) (some g) := by
  have e0 : (w.drewN n).cell? ⟨g, 0, none⟩ = some (.slice A b.length c) := h.cb
  have e1 : (w.drewN n).cell? ⟨g, 1, none⟩ = some (.int .i64 (s.at_ : Nat)) := h.ca
  have e2 : (w.drewN n).cell? ⟨g, 2, none⟩ = some (.bool s.bad) := h.cd
  refine ⟨⟨?_, ?_, ?_, ?_, ?_, (h.bytes.drewN n).far' _ _ h.ne, h.ne, hk, h.cap, h.cap2⟩, ?_⟩
  · rw [cell_store e0]; rfl
  · rw [cell_store e1]; rfl
  · rw [cell_store e2, hb]; rfl
  · rw [World.frozen?_setCell]; exact h.f1
  · rw [World.frozen?_setCell]; exact h.f2
  · exact grow_trans (grow_draw w n _) (grow_set _ _ _)

/-- what a number that is read gives -/
def NumPost (w : World) (g : Nat) (A : Option Addr) (c : Nat) (b : List UInt8) (v : Nat) (s' : PackM.St) (e : Ending) (w' : World) : Prop :=
  e = .returned (.int .i64 (v : Nat)) ∧ RAt w' g A c b s' ∧ w.grownBy w' (some g)
end Go.Proofs.Ytjfjflkflnebgaa.R06
