/- the contracts of package stripe -/
import Derived.Test.YtmeenipcfmeopaaStripeC
import Derived.Test.YtmeenipcfmeopaaStripeD
set_option maxRecDepth 100000
namespace Go.Proofs.Ytmeenipcfmeopaa.Stripe
open Go.RowKit Go.Shelf PlanM StripeM Plan
attribute [local go_sem] Oper.semAt_some

theorem cut_arg (p : P) (A : Option Addr) (n c : Nat) (w : World) (hp : p.In) (hM : ¬ p.May) :
    Calls Try.prog 30 #[p.val, .slice A n c] w (RetRowsE w [] 1) := by
  have hR := fun V => Plan.right_any p V hp
  rw [P.right_no hM] at hR
  have s0 := Six.new w p
  clear hM hp
  obtain ⟨pN, pT, pL, pW, pS, pR⟩ := p
  unfold P.val at hR ⊢
  have HR := Lib.hid hR
  clear hR
  have hb0 := balloc w (.cells #[.int .i64 pN, .int .i64 pT, .int .i64 pL, .int .i64 pW, .int .i64 pS, .int .i64 pR] 23)
  refine (callsIn_wide (n := 13)).1 ?_
  refine callsIn_of_wp_marks Try.func30 rfl trivial ?_ rfl
  simp only [Try.ntmps30, List.size_toArray, List.length_cons, List.length_nil, Nat.reduceAdd, Nat.reduceSub, Array.replicate_succ, Array.replicate_zero, List.push_toArray, List.append_toArray, List.nil_append, List.cons_append]
  gi_wp2_with fail
  have c0 := s0.c0; have c1 := s0.c1; have c2 := s0.c2; have c3 := s0.c3; have c4 := s0.c4; have c5 := s0.c5
  generalize w.alloc (.cells #[.int .i64 pN, .int .i64 pT, .int .i64 pL, .int .i64 pW, .int .i64 pS, .int .i64 pR] 23) = w0 at *
  gi_wp2_with fail
  refine ⟨trivial, ?_⟩
  refine (callsIn_wide.2 (HR.out _)).mono ?_
  rintro e w1 ⟨rfl, hb1⟩
  clear c0 c1 c2 c3 c4 c5
  gi_wp2
  refine ⟨.tuple #[.slice none 0 0, .int .i64 1], ?_, none, 0, rfl, Nat.le_refl _, Nat.zero_le _, RowsAt.nil _ _, bstep hb0 hb1, New.none w⟩
  simp [results, Try.f30, go_sem]
theorem cut_big (p : P) (A : Option Addr) (n c : Nat) (w : World) (hp : p.In) (hM : p.May) (hn : 240 < n) :
    Calls Try.prog 30 #[p.val, .slice A n c] w (RetRowsE w [] 7) := by
  have hR := fun V => Plan.right_any p V hp
  rw [P.right_yes hM] at hR
  have s0 := Six.new w p
  clear hM hp
  obtain ⟨pN, pT, pL, pW, pS, pR⟩ := p
  unfold P.val at hR ⊢
  have HR := Lib.hid hR
  clear hR
  have hb0 := balloc w (.cells #[.int .i64 pN, .int .i64 pT, .int .i64 pL, .int .i64 pW, .int .i64 pS, .int .i64 pR] 23)
  refine (callsIn_wide (n := 13)).1 ?_
  refine callsIn_of_wp_marks Try.func30 rfl trivial ?_ rfl
  simp only [Try.ntmps30, List.size_toArray, List.length_cons, List.length_nil, Nat.reduceAdd, Nat.reduceSub, Array.replicate_succ, Array.replicate_zero, List.push_toArray, List.append_toArray, List.nil_append, List.cons_append]
  gi_wp2_with fail
  have c0 := s0.c0; have c1 := s0.c1; have c2 := s0.c2; have c3 := s0.c3; have c4 := s0.c4; have c5 := s0.c5
  generalize w.alloc (.cells #[.int .i64 pN, .int .i64 pT, .int .i64 pL, .int .i64 pW, .int .i64 pS, .int .i64 pR] 23) = w0 at *
  gi_wp2_with fail
  refine ⟨trivial, ?_⟩
  refine (callsIn_wide.2 (HR.out _)).mono ?_
  rintro e w1 ⟨rfl, hb1⟩
  clear c0 c1 c2 c3 c4 c5
  gi_wp2
  refine ⟨.tuple #[.slice none 0 0, .int .i64 7], ?_, none, 0, rfl, Nat.le_refl _, Nat.zero_le _, RowsAt.nil _ _, bstep hb0 hb1, New.none w⟩
  simp [results, Try.f30, go_sem]
theorem cut_any (p : P) (A : Option Addr) (b : List UInt8) (c : Nat) (w : World) (hp : p.In) (h : BytesAt w A b) (hc : b.length ≤ c) (hc2 : c ≤ maxLen) (_hb : b.length ≤ 1048576) :
    Calls Try.prog 30 #[p.val, .slice A b.length c] w (RetRowsE w (cutA p b) (cutE p b)) := by
  by_cases hM : p.May
  · by_cases hn : 240 < b.length
    · have e : cutE p b = 7 := by unfold cutE; rw [P.right_yes hM, if_pos rfl, if_pos hn]
      rw [show cutA p b = [] from by unfold cutA; rw [e]; rfl, e]
      exact cut_big p A b.length c w hp hM hn
    · have e : cutE p b = 0 := by unfold cutE; rw [P.right_yes hM, if_pos rfl, if_neg hn]
      rw [show cutA p b = cut p b from by unfold cutA; rw [e]; rfl, e]
      exact cut_all p A b c w hp hM h hc hc2 (by omega)
  · have e : cutE p b = 1 := by unfold cutE; rw [P.right_no hM]; rfl
    rw [show cutA p b = [] from by unfold cutA; rw [e]; rfl, e]
    exact cut_arg p A b.length c w hp hM
end Go.Proofs.Ytmeenipcfmeopaa.Stripe
