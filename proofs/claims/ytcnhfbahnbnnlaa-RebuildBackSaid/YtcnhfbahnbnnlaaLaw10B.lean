/- the walk of DealSums -/
import Derived.Test.YtcnhfbahnbnnlaaLaw10
import Derived.Test.YtcnhfbahnbnnlaaFlow
import Derived.Test.YtcnhfbahnbnnlaaMB
import Derived.Test.YtcnhfbahnbnnlaaMO
set_option maxRecDepth 100000
namespace Go.Proofs.Ytcnhfbahnbnnlaa.Law10
open Go.RowKit PlanM StripeM DealM Law08

/-- what the law's arguments are copied to -/
structure Lies2 (w : World) (g : Nat) (N T L W S R : Int) (p0 p1 q0 q1 : Value) : Prop where
  plan : PlanLies w g N T L W S R
  a0 : w.cell? ⟨g + 1, 0, none⟩ = some p0
  a1 : w.cell? ⟨g + 1, 1, none⟩ = some p1
  r0 : w.cell? ⟨g + 2, 0, none⟩ = some q0
  r1 : w.cell? ⟨g + 2, 1, none⟩ = some q1
theorem Lies2.below {w w' : World} {g : Nat} {N T L W S R : Int} {p0 p1 q0 q1 : Value} (h : Lies2 w g N T L W S R p0 p1 q0 q1) (hb : Below w.heap.size w w') : Lies2 w' g N T L W S R p0 p1 q0 q1 :=
  ⟨h.plan.below hb, (hb.cell (p := ⟨g + 1, 0, none⟩) (cell_lt h.a0)).trans h.a0, (hb.cell (p := ⟨g + 1, 1, none⟩) (cell_lt h.a1)).trans h.a1, (hb.cell (p := ⟨g + 2, 0, none⟩) (cell_lt h.r0)).trans h.r0, (hb.cell (p := ⟨g + 2, 1, none⟩) (cell_lt h.r1)).trans h.r1⟩
theorem lies2_aux (w : World) (g : Nat) (hg : w.heap.size = g + 1) (N T L W S R : Int) (p0 p1 q0 q1 : Value) (t1 t2 : TypeId) (h : PlanLies w g N T L W S R) : Lies2 ((w.alloc (.cells #[p0, p1] t1)).alloc (.cells #[q0, q1] t2)) g N T L W S R p0 p1 q0 q1 := by
  have hb := balloc w (.cells #[p0, p1] t1)
  have a0 : (w.alloc (.cells #[p0, p1] t1)).cell? ⟨w.heap.size, 0, none⟩ = some p0 := by simp
  have a1 : (w.alloc (.cells #[p0, p1] t1)).cell? ⟨w.heap.size, 1, none⟩ = some p1 := by simp
  have hs : (w.alloc (.cells #[p0, p1] t1)).heap.size = w.heap.size + 1 := by simp
  have h1 := h.below hb
  rw [hg] at a0 a1 hs
  generalize w.alloc (.cells #[p0, p1] t1) = w1 at *
  have hb2 := balloc w1 (.cells #[q0, q1] t2)
  have r0 : (w1.alloc (.cells #[q0, q1] t2)).cell? ⟨w1.heap.size, 0, none⟩ = some q0 := by simp
  have r1 : (w1.alloc (.cells #[q0, q1] t2)).cell? ⟨w1.heap.size, 1, none⟩ = some q1 := by simp
  rw [hs] at r0 r1
  exact ⟨h1.below hb2, (hb2.cell (p := ⟨g + 1, 0, none⟩) (cell_lt a0)).trans a0, (hb2.cell (p := ⟨g + 1, 1, none⟩) (cell_lt a1)).trans a1, r0, r1⟩
theorem Lies2.new (w : World) (N T L W S R : Int) (p0 p1 q0 q1 : Value) (t1 t2 : TypeId) : Lies2 (((w.alloc (.cells #[.int .i64 N, .int .i64 T, .int .i64 L, .int .i64 W, .int .i64 S, .int .i64 R] 23)).alloc (.cells #[p0, p1] t1)).alloc (.cells #[q0, q1] t2)) w.heap.size N T L W S R p0 p1 q0 q1 :=
  lies2_aux (w.alloc (.cells #[.int .i64 N, .int .i64 T, .int .i64 L, .int .i64 W, .int .i64 S, .int .i64 R] 23)) w.heap.size (by simp) N T L W S R p0 p1 q0 q1 t1 t2 (PlanLies.new w N T L W S R)
theorem Lies2.ten {w : World} {g : Nat} {N T L W S R : Int} {p0 p1 q0 q1 : Value} (h : Lies2 w g N T L W S R p0 p1 q0 q1) : (w.cell? ⟨g, 0, none⟩ = some (.int .i64 N) ∧ w.cell? ⟨g, 1, none⟩ = some (.int .i64 T) ∧ w.cell? ⟨g, 2, none⟩ = some (.int .i64 L) ∧ w.cell? ⟨g, 3, none⟩ = some (.int .i64 W) ∧ w.cell? ⟨g, 4, none⟩ = some (.int .i64 S) ∧ w.cell? ⟨g, 5, none⟩ = some (.int .i64 R)) ∧
    w.cell? ⟨g + 1, 0, none⟩ = some p0 ∧ w.cell? ⟨g + 1, 1, none⟩ = some p1 ∧ w.cell? ⟨g + 2, 0, none⟩ = some q0 ∧ w.cell? ⟨g + 2, 1, none⟩ = some q1 := ⟨six h.plan, h.a0, h.a1, h.r0, h.r1⟩

/-- what the sums of tapes are where they count -/
theorem take_sum {t0 t1 : List UInt8} {n m k : Nat} (h : n ≤ m) (hk : k < n) : PolyM.co (xorL (t0.take m) (t1.take m)) k = GfM.add (PolyM.co t0 k) (PolyM.co t1 k) ∨ t0.length ≤ k := by
  rcases Nat.lt_or_ge k t0.length with h1 | h1
  · left
    unfold xorL
    rw [PolyM.co_tab, if_pos (by rw [List.length_take]; omega), co_take, co_take, if_pos (by omega), if_pos (by omega)]
  · right; exact h1

end Go.Proofs.Ytcnhfbahnbnnlaa.Law10
