/- the contracts of package stripe -/
import Derived.Test.YtifclcdhokhaoaaStripeC
import Derived.Test.YtifclcdhokhaoaaStripeD
set_option maxRecDepth 100000
namespace Go.Proofs.Ytifclcdhokhaoaa.Stripe
open Go.RowKit Go.Shelf PlanM StripeM Plan
attribute [local go_sem] Oper.semAt_some

theorem cut_arg (p : P) (A : Option Addr) (n c : Nat) (w : World) (hp : p.In) (hM : ¬ p.May) :
    Calls Try.prog 6 #[p.val, .slice A n c] w (RetRowsE w [] 1) := by
  have hR := fun V => Plan.right_any p V hp
  rw [P.right_no hM] at hR
  have s0 := Six.new w p
  clear hM hp
  obtain ⟨pN, pT, pL, pW, pS, pR⟩ := p
  unfold P.val at hR ⊢
  have HR := Lib.hid hR
  clear hR
  have hb0 := balloc w (.cells #[.int .i64 pN, .int .i64 pT, .int .i64 pL, .int .i64 pW, .int .i64 pS, .int .i64 pR] 23)
  refine (callsIn_wide (n := 13)).1 ?_
  refine callsIn_of_wp_marks Try.func6 rfl trivial ?_ rfl
  simp only [Try.ntmps6, List.size_toArray, List.length_cons, List.length_nil, Nat.reduceAdd, Nat.reduceSub, Array.replicate_succ, Array.replicate_zero, List.push_toArray, List.append_toArray, List.nil_append, List.cons_append]
  gi_wp2_with fail
  have c0 := s0.c0; have c1 := s0.c1; have c2 := s0.c2; have c3 := s0.c3; have c4 := s0.c4; have c5 := s0.c5
  generalize w.alloc (.cells #[.int .i64 pN, .int .i64 pT, .int .i64 pL, .int .i64 pW, .int .i64 pS, .int .i64 pR] 23) = w0 at *
  gi_wp2_with fail
  refine ⟨trivial, ?_⟩
  refine (callsIn_wide.2 (HR.out _)).mono ?_
  rintro e w1 ⟨rfl, hb1⟩
  clear c0 c1 c2 c3 c4 c5
  gi_wp2
  refine ⟨.tuple #[.slice none 0 0, .int .i64 1], ?_, none, 0, rfl, Nat.le_refl _, Nat.zero_le _, RowsAt.nil _ _, bstep hb0 hb1, New.none w⟩
  simp [results, Try.f6, go_sem]
theorem cut_big (p : P) (A : Option Addr) (n c : Nat) (w : World) (hp : p.In) (hM : p.May) (hn : 240 < n) :
    Calls Try.prog 6 #[p.val, .slice A n c] w (RetRowsE w [] 7) := by
  have hR := fun V => Plan.right_any p V hp
  rw [P.right_yes hM] at hR
  have s0 := Six.new w p
  clear hM hp
  obtain ⟨pN, pT, pL, pW, pS, pR⟩ := p
  unfold P.val at hR ⊢
  have HR := Lib.hid hR
  clear hR
  have hb0 := balloc w (.cells #[.int .i64 pN, .int .i64 pT, .int .i64 pL, .int .i64 pW, .int .i64 pS, .int .i64 pR] 23)
  refine (callsIn_wide (n := 13)).1 ?_
  refine callsIn_of_wp_marks Try.func6 rfl trivial ?_ rfl
  simp only [Try.ntmps6, List.size_toArray, List.length_cons, List.length_nil, Nat.reduceAdd, Nat.reduceSub, Array.replicate_succ, Array.replicate_zero, List.push_toArray, List.append_toArray, List.nil_append, List.cons_append]
  gi_wp2_with fail
  have c0 := s0.c0; have c1 := s0.c1; have c2 := s0.c2; have c3 := s0.c3; have c4 := s0.c4; have c5 := s0.c5
  generalize w.alloc (.cells #[.int .i64 pN, .int .i64 pT, .int .i64 pL, .int .i64 pW, .int .i64 pS, .int .i64 pR] 23) = w0 at *
  gi_wp2_with fail
  refine ⟨trivial, ?_⟩
  refine (callsIn_wide.2 (HR.out _)).mono ?_
  rintro e w1 ⟨rfl, hb1⟩
  clear c0 c1 c2 c3 c4 c5
  gi_wp2
  refine ⟨.tuple #[.slice none 0 0, .int .i64 7], ?_, none, 0, rfl, Nat.le_refl _, Nat.zero_le _, RowsAt.nil _ _, bstep hb0 hb1, New.none w⟩
  simp [results, Try.f6, go_sem]
theorem cut_any (p : P) (A : Option Addr) (b : List UInt8) (c : Nat) (w : World) (hp : p.In) (h : BytesAt w A b) (hc : b.length ≤ c) (hc2 : c ≤ maxLen) (_hb : b.length ≤ 1048576) :
    Calls Try.prog 6 #[p.val, .slice A b.length c] w (RetRowsE w (cutA p b) (cutE p b)) := by
  by_cases hM : p.May
  · by_cases hn : 240 < b.length
    · have e : cutE p b = 7 := by unfold cutE; rw [P.right_yes hM, if_pos rfl, if_pos hn]
      rw [show cutA p b = [] from by unfold cutA; rw [e]; rfl, e]
      exact cut_big p A b.length c w hp hM hn
    · have e : cutE p b = 0 := by unfold cutE; rw [P.right_yes hM, if_pos rfl, if_neg hn]
      rw [show cutA p b = cut p b from by unfold cutA; rw [e]; rfl, e]
      exact cut_all p A b c w hp hM h hc hc2 (by omega)
  · have e : cutE p b = 1 := by unfold cutE; rw [P.right_no hM]; rfl
    rw [show cutA p b = [] from by unfold cutA; rw [e]; rfl, e]
    exact cut_arg p A b.length c w hp hM
theorem join_arg (p : P) (A : Option Addr) (ml c : Nat) (size : Int) (w : World) (hp : p.In) (hM : ¬ p.May) :
    Calls Try.prog 8 #[p.val, .slice A ml c, .int .i64 size] w (RetBytesE w [] 1) := by
  have hR := fun V => Plan.right_any p V hp
  have s0 := Six.new w p
  rw [P.right_no hM] at hR
  clear hM hp
  obtain ⟨pN, pT, pL, pW, pS, pR⟩ := p
  unfold P.val at hR ⊢
  have HR := Lib.hid hR
  clear hR
  have hb0 := bstep (balloc w (.cells #[.int .i64 pN, .int .i64 pT, .int .i64 pL, .int .i64 pW, .int .i64 pS, .int .i64 pR] 23)) (balloc _ (.cells #[.slice A ml c] 26))
  have q0 := Boxed.new (w.alloc (.cells #[.int .i64 pN, .int .i64 pT, .int .i64 pL, .int .i64 pW, .int .i64 pS, .int .i64 pR] 23)) 26 (.slice A ml c)
  rw [World.size_alloc] at q0
  have s1 := s0.below (balloc _ (.cells #[.slice A ml c] 26))
  refine (callsIn_wide (n := 13)).1 ?_
  refine callsIn_of_wp_marks Try.func8 rfl trivial ?_ rfl
  simp only [Try.ntmps8, List.size_toArray, List.length_cons, List.length_nil, Nat.reduceAdd, Nat.reduceSub, Array.replicate_succ, Array.replicate_zero, List.push_toArray, List.append_toArray, List.nil_append, List.cons_append]
  gi_wp2_with fail
  have c0 := s1.c0; have c1 := s1.c1; have c2 := s1.c2; have c3 := s1.c3; have c4 := s1.c4; have c5 := s1.c5
  generalize (w.alloc (.cells #[.int .i64 pN, .int .i64 pT, .int .i64 pL, .int .i64 pW, .int .i64 pS, .int .i64 pR] 23)).alloc (.cells #[.slice A ml c] 26) = w0 at *
  gi_wp2_with fail
  refine ⟨trivial, ?_⟩
  refine (callsIn_wide.2 (HR.out _)).mono ?_
  rintro e w1 ⟨rfl, hb1⟩
  clear c0 c1 c2 c3 c4 c5
  gi_wp2
  refine ⟨.tuple #[.slice none 0 0, .int .i64 1], ?_, none, 0, rfl, Nat.le_refl _, Nat.zero_le _, BytesAt.nil _ _, bstep hb0 hb1, New.none w⟩
  simp [results, Try.f8, go_sem]
theorem join_low (p : P) (A : Option Addr) (ml c : Nat) (size : Int) (w : World) (hp : p.In) (hM : p.May) (hsz : size < 0) :
    Calls Try.prog 8 #[p.val, .slice A ml c, .int .i64 size] w (RetBytesE w [] 2) := by
  have hR := fun V => Plan.right_any p V hp
  have s0 := Six.new w p
  rw [P.right_yes hM] at hR
  clear hM hp
  obtain ⟨pN, pT, pL, pW, pS, pR⟩ := p
  unfold P.val at hR ⊢
  have HR := Lib.hid hR
  clear hR
  have hb0 := bstep (balloc w (.cells #[.int .i64 pN, .int .i64 pT, .int .i64 pL, .int .i64 pW, .int .i64 pS, .int .i64 pR] 23)) (balloc _ (.cells #[.slice A ml c] 26))
  have q0 := Boxed.new (w.alloc (.cells #[.int .i64 pN, .int .i64 pT, .int .i64 pL, .int .i64 pW, .int .i64 pS, .int .i64 pR] 23)) 26 (.slice A ml c)
  rw [World.size_alloc] at q0
  have s1 := s0.below (balloc _ (.cells #[.slice A ml c] 26))
  refine (callsIn_wide (n := 13)).1 ?_
  refine callsIn_of_wp_marks Try.func8 rfl trivial ?_ rfl
  simp only [Try.ntmps8, List.size_toArray, List.length_cons, List.length_nil, Nat.reduceAdd, Nat.reduceSub, Array.replicate_succ, Array.replicate_zero, List.push_toArray, List.append_toArray, List.nil_append, List.cons_append]
  gi_wp2_with fail
  have c0 := s1.c0; have c1 := s1.c1; have c2 := s1.c2; have c3 := s1.c3; have c4 := s1.c4; have c5 := s1.c5
  generalize (w.alloc (.cells #[.int .i64 pN, .int .i64 pT, .int .i64 pL, .int .i64 pW, .int .i64 pS, .int .i64 pR] 23)).alloc (.cells #[.slice A ml c] 26) = w0 at *
  gi_wp2_with fail
  refine ⟨trivial, ?_⟩
  refine (callsIn_wide.2 (HR.out _)).mono ?_
  rintro e w1 ⟨rfl, hb1⟩
  clear c0 c1 c2 c3 c4 c5
  gi_wp2
  refine ⟨.tuple #[.slice none 0 0, .int .i64 2], ?_, none, 0, rfl, Nat.le_refl _, Nat.zero_le _, BytesAt.nil _ _, bstep hb0 hb1, New.none w⟩
  simp [results, Try.f8, go_sem]
theorem join_high (p : P) (A : Option Addr) (ml c : Nat) (size : Int) (w : World) (hp : p.In) (hM : p.May) (hsz : 240 < size) :
    Calls Try.prog 8 #[p.val, .slice A ml c, .int .i64 size] w (RetBytesE w [] 2) := by
  have hR := fun V => Plan.right_any p V hp
  have s0 := Six.new w p
  rw [P.right_yes hM] at hR
  clear hM hp
  have hsz2 : ¬ size < 0 := by omega
  obtain ⟨pN, pT, pL, pW, pS, pR⟩ := p
  unfold P.val at hR ⊢
  have HR := Lib.hid hR
  clear hR
  have hb0 := bstep (balloc w (.cells #[.int .i64 pN, .int .i64 pT, .int .i64 pL, .int .i64 pW, .int .i64 pS, .int .i64 pR] 23)) (balloc _ (.cells #[.slice A ml c] 26))
  have q0 := Boxed.new (w.alloc (.cells #[.int .i64 pN, .int .i64 pT, .int .i64 pL, .int .i64 pW, .int .i64 pS, .int .i64 pR] 23)) 26 (.slice A ml c)
  rw [World.size_alloc] at q0
  have s1 := s0.below (balloc _ (.cells #[.slice A ml c] 26))
  refine (callsIn_wide (n := 13)).1 ?_
  refine callsIn_of_wp_marks Try.func8 rfl trivial ?_ rfl
  simp only [Try.ntmps8, List.size_toArray, List.length_cons, List.length_nil, Nat.reduceAdd, Nat.reduceSub, Array.replicate_succ, Array.replicate_zero, List.push_toArray, List.append_toArray, List.nil_append, List.cons_append]
  gi_wp2_with fail
  have c0 := s1.c0; have c1 := s1.c1; have c2 := s1.c2; have c3 := s1.c3; have c4 := s1.c4; have c5 := s1.c5
  generalize (w.alloc (.cells #[.int .i64 pN, .int .i64 pT, .int .i64 pL, .int .i64 pW, .int .i64 pS, .int .i64 pR] 23)).alloc (.cells #[.slice A ml c] 26) = w0 at *
  gi_wp2_with fail
  refine ⟨trivial, ?_⟩
  refine (callsIn_wide.2 (HR.out _)).mono ?_
  rintro e w1 ⟨rfl, hb1⟩
  clear c0 c1 c2 c3 c4 c5
  gi_wp2
  refine ⟨.tuple #[.slice none 0 0, .int .i64 2], ?_, none, 0, rfl, Nat.le_refl _, Nat.zero_le _, BytesAt.nil _ _, bstep hb0 hb1, New.none w⟩
  simp [results, Try.f8, go_sem]
theorem join_form (p : P) (A : Option Addr) (m : List (List UInt8)) (ml c : Nat) (size : Int) (w : World) (hp : p.In) (hM : p.May) (h : RowsAt w A m) (hml : ml = m.length) (hm : m.length ≤ 1048576) (hs : In64 size) (hs1 : ¬ size < 0) (hs2 : ¬ 240 < size) (hfit : fits p m size = false) :
    Calls Try.prog 8 #[p.val, .slice A ml c, .int .i64 size] w (RetBytesE w [] 3) := by
  have hR := fun V => Plan.right_any p V hp
  have s0 := Six.new w p
  have hT := fun V (h : RowsAt V A m) => fit_any p A m c size V hp hM h hm hs
  rw [hfit, ← hml] at hT
  rw [P.right_yes hM] at hR
  have H := Lib.hid h
  clear hM hp hfit h hml hm hs
  obtain ⟨pN, pT, pL, pW, pS, pR⟩ := p
  unfold P.val at hR hT ⊢
  have HR := Lib.hid hR; have HT := Lib.hid hT
  clear hR hT
  have hb0 := bstep (balloc w (.cells #[.int .i64 pN, .int .i64 pT, .int .i64 pL, .int .i64 pW, .int .i64 pS, .int .i64 pR] 23)) (balloc _ (.cells #[.slice A ml c] 26))
  have q0 := Boxed.new (w.alloc (.cells #[.int .i64 pN, .int .i64 pT, .int .i64 pL, .int .i64 pW, .int .i64 pS, .int .i64 pR] 23)) 26 (.slice A ml c)
  rw [World.size_alloc] at q0
  have s1 := s0.below (balloc _ (.cells #[.slice A ml c] 26))
  refine (callsIn_wide (n := 13)).1 ?_
  refine callsIn_of_wp_marks Try.func8 rfl trivial ?_ rfl
  simp only [Try.ntmps8, List.size_toArray, List.length_cons, List.length_nil, Nat.reduceAdd, Nat.reduceSub, Array.replicate_succ, Array.replicate_zero, List.push_toArray, List.append_toArray, List.nil_append, List.cons_append]
  gi_wp2_with fail
  have c0 := s1.c0; have c1 := s1.c1; have c2 := s1.c2; have c3 := s1.c3; have c4 := s1.c4; have c5 := s1.c5
  generalize (w.alloc (.cells #[.int .i64 pN, .int .i64 pT, .int .i64 pL, .int .i64 pW, .int .i64 pS, .int .i64 pR] 23)).alloc (.cells #[.slice A ml c] 26) = w0 at *
  gi_wp2_with fail
  refine ⟨trivial, ?_⟩
  refine (callsIn_wide.2 (HR.out _)).mono ?_
  rintro e w1 ⟨rfl, hb1⟩
  have h1 := Lib.hid (H.out.below (bstep hb0 hb1))
  have c6 := q0.cell
  have q1 : Boxed w1 (w.heap.size + 1) 26 (.slice A ml c) := (hb1.block _ q0.lt).trans q0
  have s2 := s1.below hb1
  clear c0 c1 c2 c3 c4 c5 c6
  have c0 := s2.c0; have c1 := s2.c1; have c2 := s2.c2; have c3 := s2.c3; have c4 := s2.c4; have c5 := s2.c5
  have cq := q1.cell
  gi_wp2_with fail
  refine ⟨trivial, ?_⟩
  refine (callsIn_wide.2 (HT.out _ h1.out)).mono ?_
  rintro e w2 ⟨rfl, hb2⟩
  clear c0 c1 c2 c3 c4 c5 cq
  gi_wp2
  refine ⟨.tuple #[.slice none 0 0, .int .i64 3], ?_, none, 0, rfl, Nat.le_refl _, Nat.zero_le _, BytesAt.nil _ _, bstep hb0 (bstep hb1 hb2), New.none w⟩
  simp [results, Try.f8, go_sem]
theorem join_any (p : P) (A : Option Addr) (m : List (List UInt8)) (c : Nat) (size : Int) (w : World) (hp : p.In) (h : RowsAt w A m) (hc : m.length ≤ c) (hc2 : c ≤ maxLen) (hm : m.length ≤ 1048576) (hs : In64 size) :
    Calls Try.prog 8 #[p.val, .slice A m.length c, .int .i64 size] w (RetBytesE w (joinA p m size) (joinE p m size)) := by
  by_cases hM : p.May
  · by_cases h1 : size < 0
    · have e : joinE p m size = 2 := by unfold joinE; rw [P.right_yes hM, if_pos rfl, if_pos (.inl h1)]
      rw [show joinA p m size = [] from by unfold joinA; rw [e]; rfl, e]
      exact join_low p A m.length c size w hp hM h1
    · by_cases h2 : 240 < size
      · have e : joinE p m size = 2 := by unfold joinE; rw [P.right_yes hM, if_pos rfl, if_pos (.inr h2)]
        rw [show joinA p m size = [] from by unfold joinA; rw [e]; rfl, e]
        exact join_high p A m.length c size w hp hM h2
      · rcases hf : fits p m size with _ | _
        · have e : joinE p m size = 3 := by unfold joinE; rw [P.right_yes hM, if_pos rfl, if_neg (by omega), hf]; rfl
          rw [show joinA p m size = [] from by unfold joinA; rw [e]; rfl, e]
          exact join_form p A m m.length c size w hp hM h rfl hm hs h1 h2 hf
        · have e : joinE p m size = 0 := by unfold joinE; rw [P.right_yes hM, if_pos rfl, if_neg (by omega), hf]; rfl
          rw [show joinA p m size = join p.L.toNat m size.toNat from by unfold joinA; rw [e]; rfl, e]
          obtain ⟨n, rfl⟩ : ∃ n : Nat, size = n := ⟨size.toNat, by omega⟩
          rw [Int.toNat_natCast]
          exact join_all p A m c n w hp hM h hc hc2 hm (by omega) hf
  · have e : joinE p m size = 1 := by unfold joinE; rw [P.right_no hM]; rfl
    rw [show joinA p m size = [] from by unfold joinA; rw [e]; rfl, e]
    exact join_arg p A m.length c size w hp hM
end Go.Proofs.Ytifclcdhokhaoaa.Stripe
