/- the contracts of package gf -/
import Derived.Test.YtjoocjkakgjgmaaMem
import Derived.Test.YtjoocjkakgjgmaaMA
set_option maxRecDepth 100000
namespace Go.Proofs.Ytjoocjkakgjgmaa.Gf
open Go.RowKit

def zeros : Array Value := Array.replicate 766 (.int .u8 0)
def powTo (k i : Nat) : Nat := if i % 255 < k then GfM.gpow i else 0
def logTo (k i : Nat) : Nat := if i ≠ 0 ∧ GfM.logN i < k then GfM.logN i else 0
structure TabTo (w : World) (b k : Nat) : Prop where
  pow : ∀ i, i < 510 → w.cell? ⟨b, i, none⟩ = some (.int .u8 (powTo k i : Nat))
  log : ∀ i, i < 256 → w.cell? ⟨b, 510 + i, none⟩ = some (.int .u8 (logTo k i : Nat))
  fr : ∀ i, w.frozen? ⟨b, i, none⟩ = false
/-- the tables lie in block b -/
structure Tab (w : World) (b : Nat) : Prop where
  pow : ∀ i, i < 510 → w.cell? ⟨b, i, none⟩ = some (.int .u8 (GfM.gpow i : Nat))
  log : ∀ i, i < 256 → i ≠ 0 → w.cell? ⟨b, 510 + i, none⟩ = some (.int .u8 (GfM.logN i : Nat))

theorem zeros_get (i : Nat) (h : i < 766) : zeros[i]? = some (.int .u8 0) := by
  unfold zeros; rw [Array.getElem?_replicate, if_pos h]
theorem TabTo.drew {w : World} {b k : Nat} (h : TabTo w b k) : TabTo w.drew b k := ⟨h.pow, h.log, h.fr⟩
theorem TabTo.step {w : World} {b k : Nat} (h : TabTo w b k) (hk : k < 255) :
    TabTo (((w.setCell ⟨b, k, none⟩ (.int .u8 (GfM.gpow k : Nat))).setCell ⟨b, k + 255, none⟩ (.int .u8 (GfM.gpow k : Nat))).setCell ⟨b, 510 + GfM.gpow k, none⟩ (.int .u8 (k : Nat))) b (k + 1) := by
  have hg := GfM.gpow_lt k
  refine ⟨fun i hi => ?_, fun i hi => ?_, fun i => ?_⟩
  · rw [cell_store (cell_store (cell_store (h.pow i hi)))]
    rw [if_neg (by omega)]
    unfold powTo
    by_cases e1 : i = k + 255
    · subst e1; rw [if_pos rfl, if_pos (by omega), GfM.gpow_add255]
    · rw [if_neg e1]
      by_cases e2 : i = k
      · subst e2; rw [if_pos rfl, if_pos (by omega)]
      · rw [if_neg e2]
        have : (i % 255 < k + 1) ↔ (i % 255 < k) := by omega
        simp only [this]
  · rw [cell_store (cell_store (cell_store (h.log i hi)))]
    rw [if_neg (by omega : ¬ 510 + i = k + 255), if_neg (by omega : ¬ 510 + i = k)]
    unfold logTo
    by_cases e1 : i = GfM.gpow k
    · subst e1; rw [if_pos rfl, if_pos ⟨GfM.gpow_ne k hk, by rw [GfM.log_gpow k hk]; omega⟩, GfM.log_gpow k hk]
    · rw [if_neg (by omega)]
      by_cases i0 : i = 0
      · simp [i0]
      · have : GfM.logN i ≠ k := fun e => e1 (by rw [← e, GfM.gpow_log i hi i0])
        have : (GfM.logN i < k + 1) ↔ (GfM.logN i < k) := by omega
        simp only [this]
  · simp [h.fr]
theorem TabTo.done {w : World} {b : Nat} (h : TabTo w b 255) : Tab w b := by
  refine ⟨fun i hi => ?_, fun i hi i0 => ?_⟩
  · rw [h.pow i hi, powTo, if_pos (by omega)]
  · rw [h.log i hi, logTo, if_pos ⟨i0, GfM.log_lt i hi⟩]
theorem Tab.drewN {w : World} {b : Nat} (h : Tab w b) (n : Nat) : Tab (w.drewN n) b := ⟨h.pow, h.log⟩
theorem Tab.below {w w' : World} {b : Nat} (h : Tab w b) (hb : Below w.heap.size w w') : Tab w' b := by
  have hl : b < w.heap.size := cell_lt (h.pow 0 (by omega))
  exact ⟨fun i hi => (hb.cell (p := ⟨b, i, none⟩) hl).trans (h.pow i hi), fun i hi i0 => (hb.cell (p := ⟨b, 510 + i, none⟩) hl).trans (h.log i hi i0)⟩
theorem Tab.lt {w : World} {b : Nat} (h : Tab w b) : b < w.heap.size := cell_lt (h.pow 0 (by omega))

/-! the program's own powers -/
/-! of a field that is none -/
/-! sums of products: for each of the two fields the product that is handed on -/
end Go.Proofs.Ytjoocjkakgjgmaa.Gf
