/- operations of a drawn region that are not wanted -/
import Derived.Test.YtnjdioghjjaegaaDrawn
set_option maxRecDepth 100000
namespace Go.Proofs.Ytnjdioghjjaegaa.Drawn
open Go Go.RowKit

theorem wpOp_flow_skip {P : Program} {ops : Array Oper} {Q : Exit → Act → World → Prop} {i : Nat} {R : Value → World → Prop} {a : Act} {w : World} {o : Oper} (d : Nat) (ho : ops[i]? = some o) (hw : Region.wanted o (yielded ops a.tmps) = false) (hd : o.dst = some d)
    (h : R undef w) : wpOp P ops Q i (fun a' w' => ∃ v, a' = a.put (some (dstOf ops i)) v ∧ R v w' ∧ Below w.heap.size w w') a w := by
  have e : dstOf ops i = d := by unfold dstOf; rw [ho]; simp [hd]
  rw [e]
  unfold wpOp
  rw [ho]
  simp only [hw]
  exact ⟨undef, by rw [hd], h, Below.refl _ _⟩
theorem unwanted_of {ops : Array Oper} {a : Act} {o : Oper} {j : Nat} {b c : Bool} (hg : o.guard = some (j, b)) {oj : Oper} {d : Nat} (hj : ops[j]? = some oj) (hd : oj.dst = some d) (hv : a.tmps[d]?.getD undef = .bool c) (hne : (c == b) = false) : Region.wanted o (yielded ops a.tmps) = false := by
  unfold Region.wanted yielded
  rw [hg]
  simp only [hj, Option.bind_some, hd]
  rcases h : a.tmps[d]? with _ | v
  · rw [h] at hv; exact absurd hv (by simp [undef])
  · rw [h] at hv
    simp only [Option.getD_some] at hv
    subst hv
    cases b <;> cases c <;> simp_all
/-- not wanted, since what its guard waits on was itself not told -/
theorem unwanted_undef {ops : Array Oper} {a : Act} {o : Oper} {j : Nat} {b : Bool} (hg : o.guard = some (j, b)) {oj : Oper} {d : Nat} (hj : ops[j]? = some oj) (hd : oj.dst = some d) (hv : a.tmps[d]?.getD undef = undef) : Region.wanted o (yielded ops a.tmps) = false := by
  unfold Region.wanted yielded
  rw [hg]
  simp only [hj, Option.bind_some, hd]
  rcases h : a.tmps[d]? with _ | v
  · rfl
  · rw [h] at hv
    simp only [Option.getD_some] at hv
    subst hv
    cases b <;> rfl
end Go.Proofs.Ytnjdioghjjaegaa.Drawn
