/- the document's own answers of layer 10 -/
import Derived.Test.YtcnhfbahnbnnlaaLaw08
import Derived.Test.YtcnhfbahnbnnlaaR09
import Derived.Test.YtcnhfbahnbnnlaaR03
import Derived.Test.YtcnhfbahnbnnlaaMB
set_option maxRecDepth 100000
namespace Go.Proofs.Ytcnhfbahnbnnlaa.R10
open Go.RowKit PlanM StripeM DealM Law08

theorem step_append_row {ops : Array Oper} {o : Oper} {a : Act} {w : World} {K : Act → World → Prop} {Q : Exit → Act → World → Prop} {E : Prop} (hgd : o.guard = none) (s x : Operand)
    (ho : o.op = .call { callee := .builtin .append, args := #[s, x], argTypes := #[25, 25] })
    (base : Nat) (v : Value) (m : List (List UInt8)) (hs : a.eval s = v) (hown : OwnM w base v m) (g c : Nat) (r : List UInt8) (A : Option Addr) (cr : Nat) (hx : a.eval x = .slice (some ⟨g, 0, none⟩) 1 c)
    (hc : w.cell? ⟨g, 0, none⟩ = some (.slice A r.length cr)) (h1 : r.length ≤ cr) (h2 : cr ≤ maxLen) (hr : BytesAt w A r) (hne : 0 < r.length → ∀ a, A = some a → v.ownBlock ≠ some a.block)
    (hl : m.length < 1099511627776) (hbase : base ≤ w.heap.size)
    (h : ∀ v' w', OwnM w' base v' (m ++ [r]) → Below base w w' → K (a.put o.dst v') w') : if Region.wanted o (yielded ops a.tmps) = true then Oper.wp Try.prog o a w K Q else E := by
  have hw : Region.wanted o (yielded ops a.tmps) = true := by simp [Region.wanted, hgd]
  rw [if_pos hw]
  exact wp_append_row s x ho base v m hs hown g c r A cr hx hc h1 h2 hr hne hl hbase h

theorem cost_any (N T L W S R size : Int) (w : World) (hL : 1 ≤ L ∧ L ≤ 256) (hT : 0 ≤ T ∧ T ≤ 256) :
    Calls Try.prog 16 #[.agg #[.int .i64 N, .int .i64 T, .int .i64 L, .int .i64 W, .int .i64 S, .int .i64 R], .int .i64 size] w fun e w' => e = .returned (.int .i64 (cost ⟨N, T, L, W, S, R⟩ size)) ∧ Below w.heap.size w w' := by
  have HA := Lib.hid (PlanLies.new w N T L W S R)
  have hb0 := balloc w (.cells #[.int .i64 N, .int .i64 T, .int .i64 L, .int .i64 W, .int .i64 S, .int .i64 R] 23)
  have K1 := fun w => R08.stripes_any ⟨N, T, L, W, S, R⟩ size w hL
  have hs := stripes_le ⟨N, T, L, W, S, R⟩ size hL.1
  have hc : cost ⟨N, T, L, W, S, R⟩ size = T * (P.stripes ⟨N, T, L, W, S, R⟩ size : Nat) := rfl
  rw [hc]
  simp only [P.val] at K1
  generalize P.stripes ⟨N, T, L, W, S, R⟩ size = n at *
  have h0 : 0 ≤ T * (n : Int) := Int.mul_nonneg hT.1 (by omega)
  have h1 : T * (n : Int) ≤ 256 * 240 := Int.mul_le_mul hT.2 (by omega) (by omega) (by omega)
  have i1 : IntKind.i64.wrap (T * (n : Int)) = T * (n : Int) := IntWalk.i64_in _ (by omega)
  have H1 := Lib.hid K1
  clear K1 hc
  go_enter Try.func16, Try.ntmps16
  go_wp2_with fail
  generalize w.alloc (.cells #[.int .i64 N, .int .i64 T, .int .i64 L, .int .i64 W, .int .i64 S, .int .i64 R] 23) = w0 at *
  have c0 := HA.out.c0; have c1 := HA.out.c1; have c2 := HA.out.c2; have c3 := HA.out.c3; have c4 := HA.out.c4; have c5 := HA.out.c5
  skip
  go_region_held3 (fun w' => w'.cell? ⟨w.heap.size, 0, none⟩ = some (.int .i64 N) ∧ w'.cell? ⟨w.heap.size, 1, none⟩ = some (.int .i64 T) ∧ w'.cell? ⟨w.heap.size, 2, none⟩ = some (.int .i64 L) ∧ w'.cell? ⟨w.heap.size, 3, none⟩ = some (.int .i64 W) ∧ w'.cell? ⟨w.heap.size, 4, none⟩ = some (.int .i64 S) ∧ w'.cell? ⟨w.heap.size, 5, none⟩ = some (.int .i64 R)) (first | (exact ⟨HA.out.c0, HA.out.c1, HA.out.c2, HA.out.c3, HA.out.c4, HA.out.c5⟩) | go_keep) ((first
    | (go_simp; go_at_call 21; refine (H1.out _).mono ?_; rintro e w1 ⟨rfl, hb1⟩; have hb1 : Below w0.heap.size w0 w1 := (by first | (exact hb1) | (exact bstep (bdraw w0 _) hb1)); replace HA := Lib.hid (HA.out.below hb1))))
  clear c0 c1 c2 c3 c4 c5
  all_goals
    go_wp2
    go_ret
    exact ⟨rfl, bstep hb0 (hb1)⟩
end Go.Proofs.Ytcnhfbahnbnnlaa.R10
