/- the document's own answers of layer 25: Far, Right -/
import Derived.Test.YtjoocjkakgjgmaaMsgB
import Derived.Test.YtjoocjkakgjgmaaR07
import Derived.Test.YtjoocjkakgjgmaaR01
import Derived.Test.YtjoocjkakgjgmaaR08
set_option maxRecDepth 100000
set_option maxHeartbeats 20000000
namespace Go.Proofs.Ytjoocjkakgjgmaa.R25
open Go.RowKit MsgM Msg
open R07 (StrsAt Sane)

def farM (m : Ms) : Bool := decide (40 < m.s.size) || (decide (300 < m.who.length) || (decide (20 < m.names.length) || (decide (300 < m.data.length) || LabM.farB m.names)))
theorem far_small {m : Ms} (h : farM m = false) : m.s.size ≤ 40 ∧ m.who.length ≤ 300 ∧ m.names.length ≤ 20 ∧ m.data.length ≤ 300 := by
  unfold farM at h
  simp only [Bool.or_eq_false_iff, decide_eq_false_iff_not] at h
  omega
theorem far_any (x : Mv) (hf : Fits x.m) (w : World) (hx : Lies w x) :
    Calls Try.prog 7 #[.agg #[.int .i64 x.m.K, .int .i64 x.m.F, .int .i64 x.m.T, .int .i64 x.m.B, .string x.m.s, .int .i64 x.m.A, .int .i64 x.m.E, .int .i64 x.m.M, .int .i64 x.m.S, .int .i64 x.m.W, .slice x.P x.m.who.length x.p, .slice x.Q x.m.names.length x.q, .slice x.D x.m.data.length x.d]] w fun e w' => e = .returned (.bool (farM x.m)) ∧ Below w.heap.size w w' := by
  have hr : farM x.m = (decide (40 < x.m.s.size) || (decide (300 < x.m.who.length) || (decide (20 < x.m.names.length) || (decide (300 < x.m.data.length) || LabM.farB x.m.names)))) := rfl
  generalize farM x.m = Q at *
  have HB := Lib.hid (balloc w (.cells #[.int .i64 x.m.K, .int .i64 x.m.F, .int .i64 x.m.T, .int .i64 x.m.B, .string x.m.s, .int .i64 x.m.A, .int .i64 x.m.E, .int .i64 x.m.M, .int .i64 x.m.S, .int .i64 x.m.W, .slice x.P x.m.who.length x.p, .slice x.Q x.m.names.length x.q, .slice x.D x.m.data.length x.d] 26))
  have CF := Lib.hid (R07.far_any x.Q x.m.names x.q _ (hx.names.below (balloc w (.cells #[.int .i64 x.m.K, .int .i64 x.m.F, .int .i64 x.m.T, .int .i64 x.m.B, .string x.m.s, .int .i64 x.m.A, .int .i64 x.m.E, .int .i64 x.m.M, .int .i64 x.m.S, .int .i64 x.m.W, .slice x.P x.m.who.length x.p, .slice x.Q x.m.names.length x.q, .slice x.D x.m.data.length x.d] 26))) (Nat.le_trans hx.q hx.q2) hf.names)
  clear hf hx
  generalize LabM.farB x.m.names = bF at *
  by_cases h0 : 40 < x.m.s.size
  · have : Q = true := by rw [hr, decide_eq_true h0]; simp
    subst this
    have g0 : (40 : Int) < (x.m.s.size : Nat) := by omega
    clear hr h0 CF
    go_enter Try.func7, Try.ntmps7
    go_wp2
    go_ret
    exact ⟨rfl, HB.out⟩
  have hr2 := hr
  rw [decide_eq_false h0, Bool.false_or] at hr2
  clear hr
  have hr := hr2
  clear hr2
  have g0 : ¬ (40 : Int) < (x.m.s.size : Nat) := by omega
  clear h0
  by_cases h1 : 300 < x.m.who.length
  · have : Q = true := by rw [hr, decide_eq_true h1]; simp
    subst this
    have g1 : (300 : Int) < (x.m.who.length : Nat) := by omega
    clear hr h1 CF
    go_enter Try.func7, Try.ntmps7
    go_wp2
    go_ret
    exact ⟨rfl, HB.out⟩
  have hr2 := hr
  rw [decide_eq_false h1, Bool.false_or] at hr2
  clear hr
  have hr := hr2
  clear hr2
  have g1 : ¬ (300 : Int) < (x.m.who.length : Nat) := by omega
  clear h1
  by_cases h2 : 20 < x.m.names.length
  · have : Q = true := by rw [hr, decide_eq_true h2]; simp
    subst this
    have g2 : (20 : Int) < (x.m.names.length : Nat) := by omega
    clear hr h2 CF
    go_enter Try.func7, Try.ntmps7
    go_wp2
    go_ret
    exact ⟨rfl, HB.out⟩
  have hr2 := hr
  rw [decide_eq_false h2, Bool.false_or] at hr2
  clear hr
  have hr := hr2
  clear hr2
  have g2 : ¬ (20 : Int) < (x.m.names.length : Nat) := by omega
  clear h2
  by_cases h3 : 300 < x.m.data.length
  · have : Q = true := by rw [hr, decide_eq_true h3]; simp
    subst this
    have g3 : (300 : Int) < (x.m.data.length : Nat) := by omega
    clear hr h3 CF
    go_enter Try.func7, Try.ntmps7
    go_wp2
    go_ret
    exact ⟨rfl, HB.out⟩
  have hr2 := hr
  rw [decide_eq_false h3, Bool.false_or] at hr2
  clear hr
  have hr := hr2
  clear hr2
  have g3 : ¬ (300 : Int) < (x.m.data.length : Nat) := by omega
  clear h3
  subst hr
  go_enter Try.func7, Try.ntmps7
  go_wp2_with fail
  refine CF.out.mono ?_
  rintro e w1 ⟨rfl, rfl⟩
  clear CF
  go_wp2
  go_ret
  exact ⟨rfl, HB.out⟩

theorem ownV_lit (w : World) (base : Nat) (e : TypeId) (vs : Array Value) (h : base ≤ w.heap.size) (hm : vs.size ≤ maxLen) : (w.alloc (.cells vs e)).ownsRow base e 1 (.slice (some ⟨w.heap.size, 0, none⟩) vs.size vs.size) vs.size vs.toList :=
  ⟨by simp, .inr ⟨w.heap.size, vs.size, vs, rfl, h, heap_alloc_new w _, Nat.le_refl _, hm, by simp, by rw [Nat.mul_one, List.take_of_length_le (by simp)]⟩⟩
/-- what is asked of the numbers -/
def okA (m : Ms) : Bool := ([m.B, m.A, m.E, m.M] ++ m.who).all num && m.names.all nam
def badB (m : Ms) : Prop := m.F < 0 ∨ m.F > 256 ∨ m.T < 0 ∨ m.T > 256 ∨ m.F = m.T ∨ m.W < 0 ∨ m.W > 255
theorem right_ref (m : Ms) : m.right = true ↔ okA m = true ∧ ¬ badB m ∧ 1 ≤ m.K ∧ m.K ≤ 25 ∧ 0 ≤ m.S ∧ m.S ≤ 240 ∧ m.who.length ≤ 255 ∧ m.names.length ≤ 8 ∧ m.data.length ≤ 240 ∧ (m.s.size = 0 ∨ nam m.s = true) := by
  rw [right_iff]
  unfold okA badB
  simp only [Bool.and_eq_true, List.all_append, List.all_eq_true, num_iff]
  constructor
  · intro h
    refine ⟨⟨⟨fun n hn => ?_, h.whos⟩, h.namess⟩, ?_, h.k.1, h.k.2, h.s.1, h.s.2, h.who, h.names, h.data, h.nm⟩
    · simp only [List.mem_cons, List.not_mem_nil, or_false] at hn
      rcases hn with rfl | rfl | rfl | rfl
      · exact h.b
      · exact h.a
      · exact h.e
      · exact h.mm
    · have h1 := h.f; have h2 := h.t; have h3 := h.ne; have h4 := h.w
      omega
  · rintro ⟨⟨⟨h1, h2⟩, h3⟩, h4, h5, h6, h7, h8, h9, h10, h11, h12⟩
    exact ⟨⟨h5, h6⟩, by omega, by omega, by omega, h1 _ (by simp), h1 _ (by simp), h1 _ (by simp), h1 _ (by simp), ⟨h7, h8⟩, by omega, h12, h9, h2, h10, h3, h11⟩
theorem right_not {m : Ms} (h : ¬ (okA m = true ∧ ¬ badB m ∧ 1 ≤ m.K ∧ m.K ≤ 25 ∧ 0 ≤ m.S ∧ m.S ≤ 240 ∧ m.who.length ≤ 255 ∧ m.names.length ≤ 8 ∧ m.data.length ≤ 240 ∧ (m.s.size = 0 ∨ nam m.s = true))) : m.right = false := by
  rcases hr : m.right with _ | _
  · rfl
  · exact absurd ((right_ref m).1 hr) h
end Go.Proofs.Ytjoocjkakgjgmaa.R25
