/- MaskHides, all cases -/
import Derived.Test.YtompeiemioeohaaLaw14G
import Derived.Test.YtompeiemioeohaaLaw14H
import Derived.Test.YtompeiemioeohaaOpenB
set_option maxRecDepth 100000
namespace Go.Proofs.Ytompeiemioeohaa.Law14
open Go.RowKit PlanM StripeM LagrM DealM RebM ZeroM MaskM Law08 Law10

theorem hides_law (q : P) (A1 : Option Addr) (ba : List UInt8) (c1 : Nat) (A2 : Option Addr) (bb : List UInt8) (c2 : Nat) (A3 : Option Addr) (tape : List UInt8) (c3 : Nat) (A4 : Option Addr) (z : List Int) (c4 : Nat) (w : World) (hp : q.In) (h1 : BytesAt w A1 ba) (k1 : ba.length ≤ c1) (x1 : c1 ≤ maxLen) (h2 : BytesAt w A2 bb) (k2 : bb.length ≤ c2) (x2 : c2 ≤ maxLen)
    (h3 : BytesAt w A3 tape) (k3 : tape.length ≤ c3) (x3 : c3 ≤ maxLen) (h4 : IntsAt w A4 z) (_k4 : z.length ≤ c4) (_x4 : c4 ≤ maxLen) (hi : ∀ x ∈ z, In64 x) (hr : tape.length ≤ reachBytes) :
    Calls Try.prog 5 #[q.val, .agg #[.slice A1 ba.length c1, .slice A2 bb.length c2, .slice A3 tape.length c3], .slice A4 z.length c4] w fun e w' => e = .returned (.bool true) ∧ Below w.heap.size w w' := by
  obtain ⟨N, T, L, W, S, R⟩ := q
  unfold P.val
  have hrc : tape.length ≤ 140737488351232 := hr
  by_cases hl : N ≤ 12 ∧ L ≤ 12 ∧ T ≤ 12
  rotate_left
  · exact hides_heavy N T L W S R A1 A2 A3 A4 ba.length bb.length tape.length z.length c1 c2 c3 c4 w hp hl
  rcases hrt : P.right ⟨N, T, L, W, S, R⟩ with _ | _
  · exact hides_right N T L W S R A1 A2 A3 A4 ba.length bb.length tape.length z.length c1 c2 c3 c4 w hp hl hrt
  have hM : P.May ⟨N, T, L, W, S, R⟩ := of_decide_eq_true hrt
  have hM' := hM
  unfold P.May at hM'
  simp only at hM'
  obtain ⟨n0, rfl⟩ : ∃ n0 : Nat, N = n0 := ⟨N.toNat, by omega⟩
  obtain ⟨t0, rfl⟩ : ∃ t0 : Nat, T = t0 := ⟨T.toNat, by omega⟩
  obtain ⟨l0, rfl⟩ : ∃ l0 : Nat, L = l0 := ⟨L.toNat, by omega⟩
  by_cases h60 : ba.length ≤ 60
  rotate_left
  · exact hides_long W S R n0 t0 l0 A1 A2 A3 A4 ba.length bb.length tape.length z.length c1 c2 c3 c4 w hp hl hM (by omega)
  by_cases hab : ba.length = bb.length
  rotate_left
  · exact hides_differ W S R n0 t0 l0 A1 A2 A3 A4 ba.length bb.length tape.length z.length c1 c2 c3 c4 w hp hl hM h60 hab
  by_cases hco : (tape.length : Int) < cost ⟨n0, t0, l0, W, S, R⟩ ba.length
  · exact hides_short W S R n0 t0 l0 A1 A2 A3 A4 ba.length bb.length tape.length z.length c1 c2 c3 c4 w hp hl hM h60 hab hco
  by_cases he : mcheck ⟨n0, t0, l0, W, S, R⟩ (List.replicate l0 0) z = 0
  rotate_left
  · exact hides_bad W S R n0 t0 l0 A1 A2 A3 A4 ba.length bb.length tape.length z.length c1 c2 c3 c4 w hp hl hM h60 hab hco z rfl h4 he
  exact hides_main W S R n0 t0 l0 A1 A2 A3 A4 ba bb tape z c1 c2 c3 c4 w hp h1 k1 x1 h2 k2 x2 h3 k3 x3 hrc h4 hi hl hM h60 hab hco he
end Go.Proofs.Ytompeiemioeohaa.Law14
