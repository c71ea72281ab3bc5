/- the document's own answers of layer 13 -/
import Derived.Test.YtompeiemioeohaaR12
import Derived.Test.YtompeiemioeohaaLaw10
import Derived.Test.YtompeiemioeohaaBlindMath
import Derived.Test.YtompeiemioeohaaSkip
set_option maxRecDepth 100000
namespace Go.Proofs.Ytompeiemioeohaa.R13
open Go.RowKit PlanM StripeM LagrM DealM RebM ZeroM Law08 Law10

theorem at_get {sh : List (List UInt8)} {i j : Nat} (hi : i < sh.length) (hj : j < sh[i].length) : at_ sh i j = sh[i][j] := by
  unfold at_; rw [← List.getElem_eq_getD (h := hi), PolyM.co_get _ _ hj]
theorem RetNew.later {w w1 w2 : World} {l : List UInt8} {e : Ending} (h : RetNew w1 l e w2) (hb : Below w.heap.size w w1) : RetNew w l e w2 := by
  obtain ⟨A, c, h1, h2, h3, h4, h5, h6⟩ := h; exact ⟨A, c, h1, h2, h3, h4, bstep hb h5, h6.mono hb.size⟩
theorem width_any (N T L W S R : Int) (w : World) (hT : 0 ≤ T ∧ T ≤ 256) (hL : 0 ≤ L ∧ L ≤ 256) :
    Calls Try.prog 31 #[.agg #[.int .i64 N, .int .i64 T, .int .i64 L, .int .i64 W, .int .i64 S, .int .i64 R]] w fun e w' => e = .returned (.int .i64 (T + L - 1)) ∧ Below w.heap.size w w' := by
  have HA := Lib.hid (PlanLies.new w N T L W S R)
  have hb0 := balloc w (.cells #[.int .i64 N, .int .i64 T, .int .i64 L, .int .i64 W, .int .i64 S, .int .i64 R] 23)
  have i1 : IntKind.i64.wrap (T + L) = T + L := IntWalk.i64_in _ (by omega)
  have i2 : IntKind.i64.wrap (T + L - 1) = T + L - 1 := IntWalk.i64_in _ (by omega)
  go_enter Try.func31, Try.ntmps31
  go_wp2_with fail
  generalize w.alloc (.cells #[.int .i64 N, .int .i64 T, .int .i64 L, .int .i64 W, .int .i64 S, .int .i64 R] 23) = w0 at *
  go_ret
  exact ⟨rfl, hb0⟩

end Go.Proofs.Ytompeiemioeohaa.R13
