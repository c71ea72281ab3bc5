/- the document's own answers of layer 12 -/
import Derived.Test.YtompeiemioeohaaLaw08
import Derived.Test.YtompeiemioeohaaR02
import Derived.Test.YtompeiemioeohaaR10
import Derived.Test.YtompeiemioeohaaFlow
import Derived.Test.YtompeiemioeohaaMB
set_option maxRecDepth 100000
namespace Go.Proofs.Ytompeiemioeohaa.R12
open Go.RowKit PlanM StripeM DealM RebM ZeroM Law08

def SP.root (l : List UInt8) (n : Nat) : Drawn.SP := ⟨fun v w => ∃ X d, v = .slice X n d ∧ BytesAt w X l, fun _ _ _ h hb => by
  obtain ⟨X, d, h1, h2⟩ := h; exact ⟨X, d, h1, h2.below hb⟩⟩
def SP.prod (B : Nat) (l : List UInt8) (n : Nat) : Drawn.SP := ⟨fun v w => ∃ X d, v = .slice X n d ∧ n ≤ d ∧ d ≤ maxLen ∧ BytesAt w X l ∧ ∀ a, X = some a → B ≤ a.block, fun _ _ _ h hb => by
  obtain ⟨X, d, h1, h2, h3, h4, h5⟩ := h; exact ⟨X, d, h1, h2, h3, h4.below hb, h5⟩⟩
def SP.lit (B : Nat) (l : List UInt8) (n : Nat) : Drawn.SP := ⟨fun v w => ∃ g A c, v = .slice (some ⟨g, 0, none⟩) 1 1 ∧ w.cell? ⟨g, 0, none⟩ = some (.slice A n c) ∧ n ≤ c ∧ c ≤ maxLen ∧ BytesAt w A l ∧ ∀ a, A = some a → B ≤ a.block, fun _ _ _ h hb => by
  obtain ⟨g, A, c, h1, h2, h3, h4, h5, h6⟩ := h; exact ⟨g, A, c, h1, (hb.cell (p := ⟨g, 0, none⟩) (cell_lt h2)).trans h2, h3, h4, h5.below hb, h6⟩⟩
theorem RetRows.later {w w1 w2 : World} {m : List (List UInt8)} {e : Ending} (h : RetRows w1 m e w2) (hb : Below w.heap.size w w1) : RetRows w m e w2 := by
  obtain ⟨A, c, h1, h2, h3, h4, h5, h6⟩ := h; exact ⟨A, c, h1, h2, h3, h4, bstep hb h5, h6.mono hb.size⟩
end Go.Proofs.Ytompeiemioeohaa.R12
