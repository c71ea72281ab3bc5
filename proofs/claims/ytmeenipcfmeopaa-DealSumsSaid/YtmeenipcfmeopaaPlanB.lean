/- the contracts of package plan: whether a plan may be, and what it tells -/
import Derived.Test.YtmeenipcfmeopaaPlanA
set_option maxRecDepth 100000
namespace Go.Proofs.Ytmeenipcfmeopaa.Plan
open Go.RowKit PlanM

/-- a call that answers v and makes memory at most -/
def Says (w : World) (v : Value) (e : Ending) (w' : World) : Prop := e = .returned v ∧ Below w.heap.size w w'
/-- where a plan's six numbers lie -/
structure Six (w : World) (g : Nat) (p : P) : Prop where
  c0 : w.cell? ⟨g, 0, none⟩ = some (.int .i64 p.N)
  c1 : w.cell? ⟨g, 1, none⟩ = some (.int .i64 p.T)
  c2 : w.cell? ⟨g, 2, none⟩ = some (.int .i64 p.L)
  c3 : w.cell? ⟨g, 3, none⟩ = some (.int .i64 p.W)
  c4 : w.cell? ⟨g, 4, none⟩ = some (.int .i64 p.S)
  c5 : w.cell? ⟨g, 5, none⟩ = some (.int .i64 p.R)
theorem Six.below {w w' : World} {g : Nat} {p : P} (h : Six w g p) (hb : Below w.heap.size w w') : Six w' g p :=
  have k : ∀ {i : Nat} {v : Value}, w.cell? ⟨g, i, none⟩ = some v → w'.cell? ⟨g, i, none⟩ = some v := fun {i} {v} e => (hb.cell (p := ⟨g, i, none⟩) (cell_lt e)).trans e
  ⟨k h.c0, k h.c1, k h.c2, k h.c3, k h.c4, k h.c5⟩
theorem Six.new (w : World) (p : P) : Six (w.alloc (.cells #[.int .i64 p.N, .int .i64 p.T, .int .i64 p.L, .int .i64 p.W, .int .i64 p.S, .int .i64 p.R] 23)) w.heap.size p := by
  have k : ∀ i v, (#[.int .i64 p.N, .int .i64 p.T, .int .i64 p.L, .int .i64 p.W, .int .i64 p.S, .int .i64 p.R] : Array Value)[i]? = some v → (w.alloc (.cells #[.int .i64 p.N, .int .i64 p.T, .int .i64 p.L, .int .i64 p.W, .int .i64 p.S, .int .i64 p.R] 23)).cell? ⟨w.heap.size, i, none⟩ = some v := fun i v e => by
    rw [World.cell?_alloc_new]; exact e
  exact ⟨k 0 _ rfl, k 1 _ rfl, k 2 _ rfl, k 3 _ rfl, k 4 _ rfl, k 5 _ rfl⟩

set_option maxHeartbeats 2000000 in
theorem right_any (p : P) (w : World) (hp : p.In) : Calls Try.prog 22 #[p.val] w (Says w (.bool p.right)) := by
  obtain ⟨hn, ht, hl, hw, hs, hr⟩ := hp
  unfold In64 at hn ht hl hw hs hr
  obtain ⟨N, T, L, W, S, R⟩ := p
  unfold P.val
  simp only at *

  by_cases m0 : 1 ≤ T
  · skip
    by_cases m1 : T ≤ W
    · skip
      have i1 : IntKind.i64.wrap (W - T) = W - T := IntWalk.i64_in _ (by omega)
      by_cases m2 : 1 ≤ L
      · skip
        by_cases m3 : L ≤ W - T
        · skip
          have i2 : IntKind.i64.wrap (256 - L) = 256 - L := IntWalk.i64_in _ (by omega)
          by_cases m4 : W ≤ N
          · skip
            by_cases m5 : N ≤ 256 - L
            · skip
              by_cases m6 : 1 ≤ S
              · skip
                by_cases m7 : S ≤ 256
                · skip
                  by_cases m8 : 1 ≤ R
                  · skip
                    by_cases m9 : R ≤ 64
                    · skip
                      rw [P.right_yes (p := ⟨N, T, L, W, S, R⟩) (by unfold P.May; simp only; omega)]
                      go_enter Try.func22, Try.ntmps22
                      go_wp2
                      go_ret
                      exact ⟨rfl, balloc _ _⟩
                    · rw [P.right_no (p := ⟨N, T, L, W, S, R⟩) (fun h => by unfold P.May at h; simp only at h; omega)]
                      go_enter Try.func22, Try.ntmps22
                      go_wp2
                      go_ret
                      exact ⟨rfl, balloc _ _⟩
                  · rw [P.right_no (p := ⟨N, T, L, W, S, R⟩) (fun h => by unfold P.May at h; simp only at h; omega)]
                    go_enter Try.func22, Try.ntmps22
                    go_wp2
                    go_ret
                    exact ⟨rfl, balloc _ _⟩
                · rw [P.right_no (p := ⟨N, T, L, W, S, R⟩) (fun h => by unfold P.May at h; simp only at h; omega)]
                  go_enter Try.func22, Try.ntmps22
                  go_wp2
                  go_ret
                  exact ⟨rfl, balloc _ _⟩
              · rw [P.right_no (p := ⟨N, T, L, W, S, R⟩) (fun h => by unfold P.May at h; simp only at h; omega)]
                go_enter Try.func22, Try.ntmps22
                go_wp2
                go_ret
                exact ⟨rfl, balloc _ _⟩
            · rw [P.right_no (p := ⟨N, T, L, W, S, R⟩) (fun h => by unfold P.May at h; simp only at h; omega)]
              go_enter Try.func22, Try.ntmps22
              go_wp2
              go_ret
              exact ⟨rfl, balloc _ _⟩
          · rw [P.right_no (p := ⟨N, T, L, W, S, R⟩) (fun h => by unfold P.May at h; simp only at h; omega)]
            go_enter Try.func22, Try.ntmps22
            go_wp2
            go_ret
            exact ⟨rfl, balloc _ _⟩
        · rw [P.right_no (p := ⟨N, T, L, W, S, R⟩) (fun h => by unfold P.May at h; simp only at h; omega)]
          go_enter Try.func22, Try.ntmps22
          go_wp2
          go_ret
          exact ⟨rfl, balloc _ _⟩
      · rw [P.right_no (p := ⟨N, T, L, W, S, R⟩) (fun h => by unfold P.May at h; simp only at h; omega)]
        go_enter Try.func22, Try.ntmps22
        go_wp2
        go_ret
        exact ⟨rfl, balloc _ _⟩
    · rw [P.right_no (p := ⟨N, T, L, W, S, R⟩) (fun h => by unfold P.May at h; simp only at h; omega)]
      go_enter Try.func22, Try.ntmps22
      go_wp2
      go_ret
      exact ⟨rfl, balloc _ _⟩
  · rw [P.right_no (p := ⟨N, T, L, W, S, R⟩) (fun h => by unfold P.May at h; simp only at h; omega)]
    go_enter Try.func22, Try.ntmps22
    go_wp2
    go_ret
    exact ⟨rfl, balloc _ _⟩
end Go.Proofs.Ytmeenipcfmeopaa.Plan
