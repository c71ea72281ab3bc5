/- the contracts of package zero -/
import Derived.Test.YtchcgiapjhmflaaGreatZeroB
set_option maxRecDepth 100000
namespace Go.Proofs.YtchcgiapjhmflaaGreat.Zero
open Go.RowKit PlanM StripeM DealM RebM ZeroM Plan Stripe

theorem make_rows0 (cap : Nat) (hn : cap ≤ 1048576) (w : World) :
    (Instr.makeSlice 35 (.int .i64 0) (.int .i64 (cap : Int))).run Tryz.prog w = .ok (.slice (some ⟨w.heap.size, 0, none⟩) 0 cap) (w.alloc (.cells (nilRows cap).toArray 24)) := by
  obtain ⟨i0, hi, hz, hs, hb⟩ := sl_info'
  have hr := run_make (P := Tryz.prog) w 35 24 i0 _ Tryz.underlying35 hi hz .i64 .i64 0 cap (by omega) (by omega) (by rw [hb]; omega) (by omega)
  simp only [Int.toNat_natCast, Int.toNat_zero] at hr
  rw [hr, hs, Nat.mul_one]
  congr 2
  have : madeCells (Value.slice none 0 0).cells cap = (nilRows cap).toArray := by
    apply Array.ext'
    rw [show (Value.slice none 0 0).cells = #[.slice none 0 0] from rfl, toList_madeCells_one]
    simp [nilRows]
  rw [this]
theorem OwnM.room (w : World) (base cap : Nat) (hb : base ≤ w.heap.size) (hc : cap ≤ maxLen) : OwnM (w.alloc (.cells (nilRows cap).toArray 24)) base (.slice (some ⟨w.heap.size, 0, none⟩) 0 cap) [] := by
  refine ⟨[], ⟨by simp, .inr ⟨w.heap.size, cap, (nilRows cap).toArray, by simp, hb, heap_alloc_new w _, by simp, hc, by simp [nilRows], by simp⟩⟩, fun i hi => absurd hi (by simp)⟩

end Go.Proofs.YtchcgiapjhmflaaGreat.Zero
