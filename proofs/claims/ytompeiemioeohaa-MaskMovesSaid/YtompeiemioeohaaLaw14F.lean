/- MaskMoves, all cases -/
import Derived.Test.YtompeiemioeohaaLaw14E
import Derived.Test.YtompeiemioeohaaOpenB
set_option maxRecDepth 100000
namespace Go.Proofs.Ytompeiemioeohaa.Law14
open Go.RowKit PlanM StripeM LagrM DealM RebM ZeroM MaskM Law08 Law10

theorem moves_law (q : P) (A1 : Option Addr) (delta : List UInt8) (c1 : Nat) (A2 : Option Addr) (tape : List UInt8) (c2 : Nat) (A3 : Option Addr) (z0 : List Int) (c3 : Nat) (A4 : Option Addr) (z1 : List Int) (c4 : Nat) (w : World) (hp : q.In) (h1 : BytesAt w A1 delta) (_k1 : delta.length ≤ c1) (_x1 : c1 ≤ maxLen) (h2 : BytesAt w A2 tape) (k2 : tape.length ≤ c2) (x2 : c2 ≤ maxLen)
    (h3 : IntsAt w A3 z0) (_k3 : z0.length ≤ c3) (_x3 : c3 ≤ maxLen) (hi0 : ∀ x ∈ z0, In64 x) (h4 : IntsAt w A4 z1) (_k4 : z1.length ≤ c4) (_x4 : c4 ≤ maxLen) (hi1 : ∀ x ∈ z1, In64 x) (hr : tape.length ≤ reachBytes) :
    Calls Try.prog 6 #[q.val, .agg #[.slice A1 delta.length c1, .slice A2 tape.length c2], .agg #[.slice A3 z0.length c3, .slice A4 z1.length c4]] w fun e w' => e = .returned (.bool true) ∧ Below w.heap.size w w' := by
  obtain ⟨N, T, L, W, S, R⟩ := q
  unfold P.val
  have hrc : tape.length ≤ 140737488351232 := hr
  by_cases hl : N ≤ 12 ∧ L ≤ 12 ∧ T ≤ 12
  rotate_left
  · exact moves_heavy N T L W S R A1 A2 A3 A4 delta tape z0 z1 c1 c2 c3 c4 w hp h3 h4 hl
  rcases hrt : P.right ⟨N, T, L, W, S, R⟩ with _ | _
  · exact moves_right N T L W S R A1 A2 A3 A4 delta tape z0 z1 c1 c2 c3 c4 w hp h3 h4 hl hrt
  by_cases e0 : mcheck ⟨N, T, L, W, S, R⟩ delta z0 = 0
  rotate_left
  · exact moves_first N T L W S R A1 A2 A3 A4 delta tape z0 z1 c1 c2 c3 c4 w hp h3 h4 hl hrt e0
  by_cases e1 : mcheck ⟨N, T, L, W, S, R⟩ delta z1 = 0
  rotate_left
  · exact moves_second N T L W S R A1 A2 A3 A4 delta tape z0 z1 c1 c2 c3 c4 w hp h3 h4 hl hrt e0 e1
  have ok0 := mcheck_ok e0
  have hM := ok0.may
  by_cases hs : (tape.length : Int) < T + L - 1
  · exact moves_short N T L W S R A1 A2 A3 A4 delta tape z0 z1 c1 c2 c3 c4 w hp h3 h4 hl hrt e0 e1 hM hs
  have ok1 := mcheck_ok e1
  have hM' := hM
  unfold P.May at hM'
  simp only at hM'
  obtain ⟨n0, rfl⟩ : ∃ n0 : Nat, N = n0 := ⟨N.toNat, by omega⟩
  obtain ⟨t0, rfl⟩ : ∃ t0 : Nat, T = t0 := ⟨T.toNat, by omega⟩
  obtain ⟨l0, rfl⟩ : ∃ l0 : Nat, L = l0 := ⟨L.toNat, by omega⟩
  exact moves_main W S R n0 t0 l0 A1 A2 A3 A4 delta tape z0 z1 c1 c2 c3 c4 w hp h1 h2 k2 x2 hrc h3 hi0 h4 hi1 hl ok0 ok1 (by omega)
end Go.Proofs.Ytompeiemioeohaa.Law14
