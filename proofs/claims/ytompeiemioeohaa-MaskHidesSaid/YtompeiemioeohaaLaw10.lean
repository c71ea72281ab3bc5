/- the walks of layer 10's laws -/
import Derived.Test.YtompeiemioeohaaR10
import Derived.Test.YtompeiemioeohaaR01
import Derived.Test.YtompeiemioeohaaMD
import Derived.Test.YtompeiemioeohaaDrawn
set_option maxRecDepth 100000
namespace Go.Proofs.Ytompeiemioeohaa.Law10
open Go.RowKit PlanM StripeM DealM Law08

theorem six {w : World} {g : Nat} {N T L W S R : Int} (h : PlanLies w g N T L W S R) : w.cell? ⟨g, 0, none⟩ = some (.int .i64 N) ∧ w.cell? ⟨g, 1, none⟩ = some (.int .i64 T) ∧ w.cell? ⟨g, 2, none⟩ = some (.int .i64 L) ∧ w.cell? ⟨g, 3, none⟩ = some (.int .i64 W) ∧ w.cell? ⟨g, 4, none⟩ = some (.int .i64 S) ∧ w.cell? ⟨g, 5, none⟩ = some (.int .i64 R) :=
  ⟨h.c0, h.c1, h.c2, h.c3, h.c4, h.c5⟩
def two : PlanM.P := ⟨2, 1, 1, 2, 9, 1⟩
theorem two_in : two.In := by unfold two; constructor <;> (unfold In64; simp)
theorem two_val : two.val = .agg #[.int .i64 2, .int .i64 1, .int .i64 1, .int .i64 2, .int .i64 9, .int .i64 1] := rfl
theorem two_says : dealA two [7] [5] = [[13], [8]] ∧ dealE two [7] [5] = 0 ∧ costA two 3 = 3 := by decide +kernel
/-- what each operation of the example gives -/
def R (B : Nat) (i : Nat) (v : Value) (w : World) : Prop :=
  match i with
  | 0 => ∃ b, v = .pointer (some ⟨b, 0, none⟩) ∧ Gf.Tab w b
  | 1 => v = .agg #[.int .i64 2, .int .i64 1, .int .i64 1, .int .i64 2, .int .i64 9, .int .i64 1]
  | 2 => ∃ A, v = .slice A 1 1 ∧ BytesAt w A [7]
  | 3 => ∃ A, v = .slice A 1 1 ∧ BytesAt w A [5]
  | 4 => ∃ A c, v = .tuple #[.slice A 2 c, .int .i64 0] ∧ RowsAt w A [[13], [8]] ∧ ∀ a, A = some a → B ≤ a.block
  | 5 => ∃ A c, v = .tuple #[.slice A 2 c, .int .i64 0] ∧ RowsAt w A [[13], [8]] ∧ ∀ a, A = some a → B ≤ a.block
  | 6 => ∃ A c, v = .slice A 2 c ∧ RowsAt w A [[13], [8]] ∧ ∀ a, A = some a → B ≤ a.block
  | 7 => v = .int .i64 0
  | 8 => ∃ A c, v = .slice A 2 c ∧ RowsAt w A [[13], [8]] ∧ ∀ a, A = some a → B ≤ a.block
  | 9 => v = .int .i64 0
  | _ => True
theorem R_below (B i : Nat) (v : Value) (w w' : World) (h : R B i v w) (hb : Below w.heap.size w w') : R B i v w' := by
  unfold R at *
  split at h
  · obtain ⟨b, h1, h2⟩ := h; exact ⟨b, h1, h2.below hb⟩
  · exact h
  · obtain ⟨A, h1, h2⟩ := h; exact ⟨A, h1, h2.below hb⟩
  · obtain ⟨A, h1, h2⟩ := h; exact ⟨A, h1, h2.below hb⟩
  · obtain ⟨A, c, h1, h2, h3⟩ := h; exact ⟨A, c, h1, h2.below hb, h3⟩
  · obtain ⟨A, c, h1, h2, h3⟩ := h; exact ⟨A, c, h1, h2.below hb, h3⟩
  · obtain ⟨A, c, h1, h2, h3⟩ := h; exact ⟨A, c, h1, h2.below hb, h3⟩
  · exact h
  · obtain ⟨A, c, h1, h2, h3⟩ := h; exact ⟨A, c, h1, h2.below hb, h3⟩
  · exact h
  · trivial
theorem light_any (N T L W S R : Int) (w : World) : Calls Try.prog 8 #[.agg #[.int .i64 N, .int .i64 T, .int .i64 L, .int .i64 W, .int .i64 S, .int .i64 R]] w fun e w' => e = .returned (.bool (decide (N ≤ 12 ∧ L ≤ 12 ∧ T ≤ 12))) ∧ Below w.heap.size w w' := by
  obtain ⟨b, hb⟩ : ∃ b, b = decide (N ≤ 12 ∧ L ≤ 12 ∧ T ≤ 12) := ⟨_, rfl⟩
  rw [← hb]
  by_cases h1 : N ≤ 12
  · by_cases h2 : L ≤ 12
    · by_cases h3 : T ≤ 12
      · obtain rfl : b = true := by rw [hb]; exact decide_eq_true ⟨h1, h2, h3⟩
        clear hb
        go_enter Try.func8, Try.ntmps8
        go_wp2
        go_ret
        exact ⟨rfl, balloc _ _⟩
      · obtain rfl : b = false := by rw [hb]; exact decide_eq_false (fun h => h3 h.2.2)
        clear hb
        go_enter Try.func8, Try.ntmps8
        go_wp2
        go_ret
        exact ⟨rfl, balloc _ _⟩
    · obtain rfl : b = false := by rw [hb]; exact decide_eq_false (fun h => h2 h.2.1)
      clear hb
      go_enter Try.func8, Try.ntmps8
      go_wp2
      go_ret
      exact ⟨rfl, balloc _ _⟩
  · obtain rfl : b = false := by rw [hb]; exact decide_eq_false (fun h => h1 h.1)
    clear hb
    go_enter Try.func8, Try.ntmps8
    go_wp2
    go_ret
    exact ⟨rfl, balloc _ _⟩
end Go.Proofs.Ytompeiemioeohaa.Law10
