/- the walks of layer 8's laws -/
import Derived.Test.YtompeiemioeohaaMP
import Derived.Test.YtompeiemioeohaaR08
import Derived.Test.YtompeiemioeohaaR01
set_option maxRecDepth 100000
namespace Go.Proofs.Ytompeiemioeohaa.Law08
open Go.RowKit PlanM

def some4 : P := ⟨4, 1, 2, 3, 16, 3⟩
theorem some4_in : some4.In := by unfold some4; constructor <;> (unfold In64; simp)
theorem some4_val : some4.val = .agg #[.int .i64 4, .int .i64 1, .int .i64 2, .int .i64 3, .int .i64 16, .int .i64 3] := rfl
/-- where a plan lies -/
def PlanAt (w : World) (g : Nat) (p : P) : Prop := ∀ i v, [Value.int .i64 p.N, .int .i64 p.T, .int .i64 p.L, .int .i64 p.W, .int .i64 p.S, .int .i64 p.R][i]? = some v → w.cell? ⟨g, i, none⟩ = some v
theorem PlanAt.below {w w' : World} {g : Nat} {p : P} (h : PlanAt w g p) (hb : Below w.heap.size w w') : PlanAt w' g p := fun i v e => (hb.cell (p := ⟨g, i, none⟩) (cell_lt (h i v e))).trans (h i v e)
theorem PlanAt.new (w : World) (p : P) : PlanAt (w.alloc (.cells #[.int .i64 p.N, .int .i64 p.T, .int .i64 p.L, .int .i64 p.W, .int .i64 p.S, .int .i64 p.R] 23)) w.heap.size p := fun i v e => R08.plan_cell w p.N p.T p.L p.W p.S p.R i v e

/-- where a plan's six numbers lie -/
structure PlanLies (w : World) (g : Nat) (N T L W S R : Int) : Prop where
  c0 : w.cell? ⟨g, 0, none⟩ = some (.int .i64 N)
  c1 : w.cell? ⟨g, 1, none⟩ = some (.int .i64 T)
  c2 : w.cell? ⟨g, 2, none⟩ = some (.int .i64 L)
  c3 : w.cell? ⟨g, 3, none⟩ = some (.int .i64 W)
  c4 : w.cell? ⟨g, 4, none⟩ = some (.int .i64 S)
  c5 : w.cell? ⟨g, 5, none⟩ = some (.int .i64 R)
theorem PlanLies.below {w w' : World} {g : Nat} {N T L W S R : Int} (h : PlanLies w g N T L W S R) (hb : Below w.heap.size w w') : PlanLies w' g N T L W S R :=
  have k : ∀ {i : Nat} {v : Value}, w.cell? ⟨g, i, none⟩ = some v → w'.cell? ⟨g, i, none⟩ = some v := fun {i} {_} e => (hb.cell (p := ⟨g, i, none⟩) (cell_lt e)).trans e
  ⟨k h.c0, k h.c1, k h.c2, k h.c3, k h.c4, k h.c5⟩
theorem PlanLies.keep {w w' : World} {g B : Nat} {N T L W S R : Int} (h : PlanLies w g N T L W S R) (hb : Below B w w') (hg : g < B) : PlanLies w' g N T L W S R :=
  have k : ∀ {i : Nat} {v : Value}, w.cell? ⟨g, i, none⟩ = some v → w'.cell? ⟨g, i, none⟩ = some v := fun {i} {_} e => (hb.cell (p := ⟨g, i, none⟩) hg).trans e
  ⟨k h.c0, k h.c1, k h.c2, k h.c3, k h.c4, k h.c5⟩
theorem PlanLies.new (w : World) (N T L W S R : Int) : PlanLies (w.alloc (.cells #[.int .i64 N, .int .i64 T, .int .i64 L, .int .i64 W, .int .i64 S, .int .i64 R] 23)) w.heap.size N T L W S R :=
  have k := fun i v e => R08.plan_cell w N T L W S R i v e
  ⟨k 0 _ rfl, k 1 _ rfl, k 2 _ rfl, k 3 _ rfl, k 4 _ rfl, k 5 _ rfl⟩
/-- three numbers that a call is given -/
theorem ints3 (w : World) (a b c : Int) : IntsAt (w.alloc (.cells #[.int .i64 a, .int .i64 b, .int .i64 c] 3)) (some ⟨w.heap.size, 0, none⟩) [a, b, c] :=
  CellsAt.lit w #[.int .i64 a, .int .i64 b, .int .i64 c] 3
end Go.Proofs.Ytompeiemioeohaa.Law08
