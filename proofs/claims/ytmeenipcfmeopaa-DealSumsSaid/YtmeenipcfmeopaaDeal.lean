/- the contracts of package deal -/
import Derived.Test.YtmeenipcfmeopaaDealE
set_option maxRecDepth 100000
namespace Go.Proofs.Ytmeenipcfmeopaa.Deal
open Go.RowKit PlanM StripeM DealM Plan Stripe

theorem sharesOf_any (b0 : Nat) (p : P) (A1 A2 A3 : Option Addr) (blob tape : List UInt8) (who : List Int) (c1 c2 c3 : Nat) (w : World) (hp : p.In) (ht : Gf.Tab w b0) (h1 : BytesAt w A1 blob) (k1 : blob.length ≤ c1) (z1 : c1 ≤ maxLen) (hl1 : blob.length ≤ 1048576)
    (h2 : BytesAt w A2 tape) (k2 : tape.length ≤ c2) (z2 : c2 ≤ maxLen) (h3 : IntsAt w A3 who) (k3 : who.length ≤ c3) (z3 : c3 ≤ maxLen) (hw : who.length ≤ 1048576) (hi : ∀ x ∈ who, In64 x) :
    Calls Try.prog 19 #[.pointer (some ⟨b0, 0, none⟩), p.val, .slice A1 blob.length c1, .slice A2 tape.length c2, .slice A3 who.length c3] w (RetOwnE w (if dealE p blob tape = 0 then who.map (share (polys p blob tape)) else []) (dealE p blob tape)) := by
  by_cases hM : p.May
  · by_cases hb : 240 < blob.length
    · have e : dealE p blob tape = 7 := by unfold dealE; rw [P.right_yes hM, if_pos rfl, if_pos hb]
      rw [e, if_neg (by decide)]
      exact sharesOf_err b0 p A1 A2 A3 blob tape.length who.length c1 c2 c3 w 7 hp h1 k1 z1 hl1 (by unfold cutE; rw [P.right_yes hM, if_pos rfl, if_pos hb]) rfl
    · have ec : costA p blob.length = cost p blob.length := by unfold costA; rw [P.right_yes hM, if_pos rfl]
      by_cases hc : (tape.length : Int) < costA p blob.length
      · have e : dealE p blob tape = 12 := by unfold dealE; rw [P.right_yes hM, if_pos rfl, if_neg hb, if_pos (by rw [← ec]; exact hc)]
        rw [e, if_neg (by decide)]
        exact sharesOf_empty b0 p A1 A2 A3 blob tape.length who.length c1 c2 c3 w hp h1 k1 z1 hl1 (by unfold cutE; rw [P.right_yes hM, if_pos rfl, if_neg hb]) hc ⟨k2, z2⟩
      · have e : dealE p blob tape = 0 := by unfold dealE; rw [P.right_yes hM, if_pos rfl, if_neg hb, if_neg (by rw [← ec]; exact hc)]
        rw [e, if_pos rfl]
        exact sharesOf_ok b0 p A1 A2 A3 blob tape who c1 c2 c3 w hp hM ht h1 k1 z1 (by omega) h2 k2 z2 h3 k3 z3 hw hi hc
  · have e : dealE p blob tape = 1 := by unfold dealE; rw [P.right_no hM]; rfl
    rw [e, if_neg (by decide)]
    exact sharesOf_err b0 p A1 A2 A3 blob tape.length who.length c1 c2 c3 w 1 hp h1 k1 z1 hl1 (by unfold cutE; rw [P.right_no hM]; rfl) rfl
theorem RetOwnE.after {w w1 : World} {m : List (List UInt8)} {err : Int} {e : Ending} {w' : World} (hb : Below w.heap.size w w1) (h : RetOwnE w1 m err e w') : RetOwnE w m err e w' := by
  obtain ⟨v, h1, ⟨vs, h2, h3⟩, h4, h5⟩ := h
  refine ⟨v, h1, ⟨vs, ⟨h2.1, ?_⟩, h3⟩, fun A c e i hi => ?_, bstep hb h5⟩
  · rcases h2.2 with h | ⟨g, cap, cur, k1, k2, k3⟩
    · exact .inl h
    · exact .inr ⟨g, cap, cur, k1, Nat.le_trans hb.size k2, k3⟩
  · obtain ⟨b, o, B, d, q1, q2, q3, q4, q5, q6⟩ := h4 A c e i hi
    exact ⟨b, o, B, d, q1, q2, q3, q4, q5, q6.mono hb.size⟩
theorem all_in (n : Nat) (hn : n ≤ 1048576) : ∀ x ∈ all n, In64 x := fun x hx => by
  unfold all at hx
  obtain ⟨j, hj, rfl⟩ := List.mem_map.mp hx
  have := List.mem_range.mp hj
  unfold In64; omega
theorem allA_le (p : P) (hp : p.In) : p.allA.length ≤ 1048576 ∧ ∀ x ∈ p.allA, In64 x := by
  unfold P.allA
  by_cases hM : p.May
  · rw [P.right_yes hM, if_pos rfl, all_len]
    unfold P.May at hM
    exact ⟨by omega, all_in _ (by omega)⟩
  · rw [P.right_no hM, if_neg (by simp)]
    exact ⟨by simp, fun x hx => by simp at hx⟩
theorem dealA_eq (p : P) (blob tape : List UInt8) : (if dealE p blob tape = 0 then p.allA.map (share (polys p blob tape)) else []) = dealA p blob tape := by
  unfold dealA
  by_cases h : dealE p blob tape = 0
  · rw [if_pos h, if_pos h]
    have hM : p.right = true := by
      rcases hr : p.right with _ | _
      · unfold dealE at h; rw [hr] at h; simp at h
      · rfl
    unfold P.allA shares; rw [hM, if_pos rfl]
  · rw [if_neg h, if_neg h]

set_option maxHeartbeats 2000000 in
theorem deal_own (b0 : Nat) (p : P) (A1 A2 : Option Addr) (blob tape : List UInt8) (c1 c2 : Nat) (w : World) (hp : p.In) (ht : Gf.Tab w b0) (h1 : BytesAt w A1 blob) (k1 : blob.length ≤ c1) (z1 : c1 ≤ maxLen) (h2 : BytesAt w A2 tape) (k2 : tape.length ≤ c2) (z2 : c2 ≤ maxLen)
    (hl1 : blob.length ≤ 1048576) :
    Calls Try.prog 8 #[.pointer (some ⟨b0, 0, none⟩), p.val, .slice A1 blob.length c1, .slice A2 tape.length c2] w (RetOwnE w (dealA p blob tape) (dealE p blob tape)) := by
  have HS := Lib.hid (Six.new w p)
  have hb0 := Lib.hid (balloc w (.cells #[.int .i64 p.N, .int .i64 p.T, .int .i64 p.L, .int .i64 p.W, .int .i64 p.S, .int .i64 p.R] 23))
  have hA := fun V => Plan.all_any p V hp
  obtain ⟨hal, hai⟩ := allA_le p hp
  have hO := fun V A3 c3 ht h1 h2 h3 k3 z3 => sharesOf_any b0 p A1 A2 A3 blob tape p.allA c1 c2 c3 V hp ht h1 k1 z1 hl1 h2 k2 z2 h3 k3 z3 hal hai
  rw [dealA_eq] at hO
  have HT := Lib.hid ht; have H1 := Lib.hid h1; have H2 := Lib.hid h2
  generalize dealA p blob tape = res at *
  generalize dealE p blob tape = er at *
  generalize p.allA = who at *
  obtain ⟨bl, hbl⟩ : ∃ bl, bl = blob.length := ⟨_, rfl⟩
  obtain ⟨tl, htl⟩ : ∃ tl, tl = tape.length := ⟨_, rfl⟩
  rw [← hbl, ← htl] at hO ⊢
  clear hp h1 h2 ht hl1 hbl htl k1 hai
  obtain ⟨pN, pT, pL, pW, pS, pR⟩ := p
  unfold P.val at hA hO ⊢
  simp only at HS hb0 hA hO ⊢
  have HA := Lib.hid hA; have HO := Lib.hid hO
  clear hA hO
  go_enter Try.func8, Try.ntmps8
  go_wp2_with fail
  generalize w.alloc (.cells #[.int .i64 pN, .int .i64 pT, .int .i64 pL, .int .i64 pW, .int .i64 pS, .int .i64 pR] 23) = w0 at *
  have s0 := HS.out
  have c0 := s0.c0; have c1 := s0.c1; have c2 := s0.c2; have c3 := s0.c3; have c4 := s0.c4; have c5 := s0.c5
  simp only at c0 c1 c2 c3 c4 c5
  clear s0
  go_region_held3 (fun w' => w'.cell? ⟨w.heap.size, 0, none⟩ = some (.int .i64 pN) ∧ w'.cell? ⟨w.heap.size, 1, none⟩ = some (.int .i64 pT) ∧ w'.cell? ⟨w.heap.size, 2, none⟩ = some (.int .i64 pL) ∧ w'.cell? ⟨w.heap.size, 3, none⟩ = some (.int .i64 pW) ∧ w'.cell? ⟨w.heap.size, 4, none⟩ = some (.int .i64 pS) ∧ w'.cell? ⟨w.heap.size, 5, none⟩ = some (.int .i64 pR)) (first | (exact ⟨c0, c1, c2, c3, c4, c5⟩) | (exact ⟨HA2.out.c0, HA2.out.c1, HA2.out.c2, HA2.out.c3, HA2.out.c4, HA2.out.c5⟩) | (exact ⟨HA1.out.c0, HA1.out.c1, HA1.out.c2, HA1.out.c3, HA1.out.c4, HA1.out.c5⟩) | go_keep) ((first
    | (go_simp; go_at_call 20; refine (HA.out _).mono ?_; rintro e w1 ⟨X, d, rfl, kd, zd, hX, hb1, _⟩; have HX := Lib.hid hX; clear hX; have hb1 : Below w0.heap.size w0 w1 := (by first | (exact hb1) | (exact bstep (bdraw w0 _) hb1)); have HA1 := Lib.hid (HS.out.below hb1))
    | (go_simp; go_at_call 19; refine (HO.out _ X d (HT.out.below (bstep hb0.out hb1)) (H1.out.below (bstep hb0.out hb1)) (H2.out.below (bstep hb0.out hb1)) HX.out kd zd).mono ?_; rintro e w2 ⟨v, rfl, o1, o2, hb2⟩; have HO1 := Lib.hid o1; have HO2 := Lib.hid o2; clear o1 o2; have HA2 := Lib.hid (HA1.out.below hb2))))
  clear c0 c1 c2 c3 c4 c5
  all_goals
    go_wp2
    go_ret2
    exact RetOwnE.after (bstep hb0.out hb1) ⟨v, rfl, HO1.out, HO2.out, hb2⟩

theorem deal_any (b0 : Nat) (p : P) (A1 A2 : Option Addr) (blob tape : List UInt8) (c1 c2 : Nat) (w : World) (hp : p.In) (ht : Gf.Tab w b0) (h1 : BytesAt w A1 blob) (k1 : blob.length ≤ c1) (z1 : c1 ≤ maxLen) (h2 : BytesAt w A2 tape) (k2 : tape.length ≤ c2) (z2 : c2 ≤ maxLen)
    (hl1 : blob.length ≤ 1048576) :
    Calls Try.prog 8 #[.pointer (some ⟨b0, 0, none⟩), p.val, .slice A1 blob.length c1, .slice A2 tape.length c2] w (RetRowsE w (dealA p blob tape) (dealE p blob tape)) :=
  (deal_own b0 p A1 A2 blob tape c1 c2 w hp ht h1 k1 z1 h2 k2 z2 hl1).mono fun _ _ h => h.rows

theorem share_arg (b0 : Nat) (p : P) (A1 A2 : Option Addr) (n1 n2 c1 c2 : Nat) (i : Int) (w : World) (hp : p.In) (hM : ¬ p.May) :
    Calls Try.prog 11 #[.pointer (some ⟨b0, 0, none⟩), p.val, .slice A1 n1 c1, .slice A2 n2 c2, .int .i64 i] w (RetBytesE w [] 1) := by
  have HS := Lib.hid (Six.new w p)
  have hb0 := Lib.hid (balloc w (.cells #[.int .i64 p.N, .int .i64 p.T, .int .i64 p.L, .int .i64 p.W, .int .i64 p.S, .int .i64 p.R] 23))
  have hR := fun V => Plan.right_any p V hp
  rw [P.right_no hM] at hR
  clear hM
  clear hp
  obtain ⟨pN, pT, pL, pW, pS, pR⟩ := p
  unfold P.val at hR ⊢
  simp only at HS hb0 hR ⊢
  have HR := Lib.hid hR
  clear hR
  go_enter Try.func11, Try.ntmps11
  go_wp2_with fail
  generalize w.alloc (.cells #[.int .i64 pN, .int .i64 pT, .int .i64 pL, .int .i64 pW, .int .i64 pS, .int .i64 pR] 23) = w0 at *
  have s0 := HS.out
  have c0 := s0.c0; have c1 := s0.c1; have c2 := s0.c2; have c3 := s0.c3; have c4 := s0.c4; have c5 := s0.c5
  simp only at c0 c1 c2 c3 c4 c5
  clear s0
  go_wp2_with fail
  refine (HR.out _).mono ?_
  rintro e w1 ⟨rfl, hb1⟩
  clear c0 c1 c2 c3 c4 c5
  have HB1 := Lib.hid (bstep hb0.out hb1)
  have HS1 := Lib.hid (HS.out.below hb1)
  clear hb1
  go_wp2
  go_ret2
  exact ⟨none, 0, rfl, Nat.le_refl _, Nat.zero_le _, BytesAt.nil _ _, HB1.out, New.none w⟩

set_option maxHeartbeats 1000000 in
theorem share_range (b0 : Nat) (p : P) (A1 A2 : Option Addr) (n1 n2 c1 c2 : Nat) (i : Int) (w : World) (hp : p.In) (hM : p.May) (hi : In64 i) (h : p.is i = false) :
    Calls Try.prog 11 #[.pointer (some ⟨b0, 0, none⟩), p.val, .slice A1 n1 c1, .slice A2 n2 c2, .int .i64 i] w (RetBytesE w [] 2) := by
  have HS := Lib.hid (Six.new w p)
  have hb0 := Lib.hid (balloc w (.cells #[.int .i64 p.N, .int .i64 p.T, .int .i64 p.L, .int .i64 p.W, .int .i64 p.S, .int .i64 p.R] 23))
  have hR := fun V => Plan.right_any p V hp
  rw [P.right_yes hM] at hR
  have hI := fun V => Plan.is_any p i V hp hi
  rw [show p.isA i = false from by unfold P.isA; rw [h, Bool.and_false]] at hI
  clear hM h
  clear hp
  obtain ⟨pN, pT, pL, pW, pS, pR⟩ := p
  unfold P.val at hR hI ⊢
  simp only at HS hb0 hR hI ⊢
  have HR := Lib.hid hR; have HI := Lib.hid hI
  clear hR hI
  go_enter Try.func11, Try.ntmps11
  go_wp2_with fail
  generalize w.alloc (.cells #[.int .i64 pN, .int .i64 pT, .int .i64 pL, .int .i64 pW, .int .i64 pS, .int .i64 pR] 23) = w0 at *
  have s0 := HS.out
  have c0 := s0.c0; have c1 := s0.c1; have c2 := s0.c2; have c3 := s0.c3; have c4 := s0.c4; have c5 := s0.c5
  simp only at c0 c1 c2 c3 c4 c5
  clear s0
  go_wp2_with fail
  refine (HR.out _).mono ?_
  rintro e w1 ⟨rfl, hb1⟩
  clear c0 c1 c2 c3 c4 c5
  have HB1 := Lib.hid (bstep hb0.out hb1)
  have HS1 := Lib.hid (HS.out.below hb1)
  clear hb1
  have s0 := HS1.out
  have c0 := s0.c0; have c1 := s0.c1; have c2 := s0.c2; have c3 := s0.c3; have c4 := s0.c4; have c5 := s0.c5
  simp only at c0 c1 c2 c3 c4 c5
  clear s0
  go_wp2_with fail
  refine (HI.out _).mono ?_
  rintro e w2 ⟨rfl, hb2⟩
  clear c0 c1 c2 c3 c4 c5
  have HB2 := Lib.hid (bstep HB1.out hb2)
  have HS2 := Lib.hid (HS1.out.below hb2)
  clear hb2
  go_wp2
  go_ret2
  exact ⟨none, 0, rfl, Nat.le_refl _, Nat.zero_le _, BytesAt.nil _ _, HB2.out, New.none w⟩

set_option maxHeartbeats 2000000 in
theorem share_of (b0 : Nat) (p : P) (A1 A2 : Option Addr) (blob tape : List UInt8) (c1 c2 : Nat) (i : Int) (w : World) (hp : p.In) (hM : p.May) (ht : Gf.Tab w b0) (h1 : BytesAt w A1 blob) (k1 : blob.length ≤ c1) (z1 : c1 ≤ maxLen) (h2 : BytesAt w A2 tape) (k2 : tape.length ≤ c2) (z2 : c2 ≤ maxLen)
    (hl1 : blob.length ≤ 1048576) (hi : In64 i) (h : p.is i = true) :
    Calls Try.prog 11 #[.pointer (some ⟨b0, 0, none⟩), p.val, .slice A1 blob.length c1, .slice A2 tape.length c2, .int .i64 i] w (RetBytesE w (if dealE p blob tape = 0 then share (polys p blob tape) i else []) (dealE p blob tape)) := by
  have HS := Lib.hid (Six.new w p)
  have hb0 := Lib.hid (balloc w (.cells #[.int .i64 p.N, .int .i64 p.T, .int .i64 p.L, .int .i64 p.W, .int .i64 p.S, .int .i64 p.R] 23))
  have hR := fun V => Plan.right_any p V hp
  rw [P.right_yes hM] at hR
  have hI := fun V => Plan.is_any p i V hp hi
  rw [show p.isA i = true from by unfold P.isA; rw [h, P.right_yes hM]; rfl] at hI
  have hO := fun V A3 ht h1 h2 h3 => sharesOf_any b0 p A1 A2 A3 blob tape [i] c1 c2 1 V hp ht h1 k1 z1 hl1 h2 k2 z2 h3 (by simp) (by unfold maxLen; omega) (by simp) (fun x hx => by rw [List.mem_singleton.mp hx]; exact hi)
  simp only [List.length_singleton, List.map_cons, List.map_nil] at hO
  have HT := Lib.hid ht; have H1 := Lib.hid h1; have H2 := Lib.hid h2
  generalize share (polys p blob tape) i = s at *
  generalize dealE p blob tape = er at *
  obtain ⟨bl, hbl⟩ : ∃ bl, bl = blob.length := ⟨_, rfl⟩
  obtain ⟨tl, htl⟩ : ∃ tl, tl = tape.length := ⟨_, rfl⟩
  rw [← hbl, ← htl] at hO ⊢
  clear hM h h1 h2 ht hl1 hbl htl k1
  clear hp
  obtain ⟨pN, pT, pL, pW, pS, pR⟩ := p
  unfold P.val at hR hI hO ⊢
  simp only at HS hb0 hR hI hO ⊢
  have HR := Lib.hid hR; have HI := Lib.hid hI; have HO := Lib.hid hO
  clear hR hI hO
  by_cases h0 : er = 0
  · subst h0
    rw [if_pos rfl]
    simp only [if_true] at HO
    go_enter Try.func11, Try.ntmps11
    go_wp2_with fail
    generalize w.alloc (.cells #[.int .i64 pN, .int .i64 pT, .int .i64 pL, .int .i64 pW, .int .i64 pS, .int .i64 pR] 23) = w0 at *
    have s0 := HS.out
    have c0 := s0.c0; have c1 := s0.c1; have c2 := s0.c2; have c3 := s0.c3; have c4 := s0.c4; have c5 := s0.c5
    simp only at c0 c1 c2 c3 c4 c5
    clear s0
    go_wp2_with fail
    refine (HR.out _).mono ?_
    rintro e w1 ⟨rfl, hb1⟩
    clear c0 c1 c2 c3 c4 c5
    have HB1 := Lib.hid (bstep hb0.out hb1)
    have HS1 := Lib.hid (HS.out.below hb1)
    clear hb1
    have s0 := HS1.out
    have c0 := s0.c0; have c1 := s0.c1; have c2 := s0.c2; have c3 := s0.c3; have c4 := s0.c4; have c5 := s0.c5
    simp only at c0 c1 c2 c3 c4 c5
    clear s0
    go_wp2_with fail
    refine (HI.out _).mono ?_
    rintro e w2 ⟨rfl, hb2⟩
    clear c0 c1 c2 c3 c4 c5
    have HB2 := Lib.hid (bstep HB1.out hb2)
    have HS2 := Lib.hid (HS1.out.below hb2)
    clear hb2
    have s0 := HS2.out
    have c0 := s0.c0; have c1 := s0.c1; have c2 := s0.c2; have c3 := s0.c3; have c4 := s0.c4; have c5 := s0.c5
    simp only at c0 c1 c2 c3 c4 c5
    clear s0
    go_wp2_with fail
    have hb3 := balloc w2 (.cells #[.int .i64 i] 3)
    have hin := Drawn.ints_new w2 [i] 3
    have HB3 := Lib.hid (bstep HB2.out hb3)
    have C := HO.out _ _ (HT.out.below HB3.out) (H1.out.below HB3.out) (H2.out.below HB3.out) hin
    refine C.mono ?_
    clear C hin hb3 c0 c1 c2 c3 c4 c5
    rintro e w4 ⟨v, rfl, o1, o2, hb4⟩
    obtain ⟨X, d, rfl, _, _, _⟩ := o1.rows
    obtain ⟨b, o, Y, dy, rfl, cc, q1, q2, q3, q4⟩ := o2 _ _ rfl 0 (by simp)
    simp only [List.length_singleton, List.getElem_cons_zero, Nat.add_zero] at cc q1 q3 ⊢
    have HQ := Lib.hid q3; have HN := Lib.hid q4; have HB4 := Lib.hid (bstep HB3.out hb4)
    clear q3 q4 o1 o2 hb4
    go_wp2
    go_ret2
    exact ⟨Y, dy, rfl, q1, q2, HQ.out, HB4.out, HN.out.mono HB3.out.size⟩
  · rw [if_neg h0]
    simp only [if_neg h0] at HO
    go_enter Try.func11, Try.ntmps11
    go_wp2_with fail
    generalize w.alloc (.cells #[.int .i64 pN, .int .i64 pT, .int .i64 pL, .int .i64 pW, .int .i64 pS, .int .i64 pR] 23) = w0 at *
    have s0 := HS.out
    have c0 := s0.c0; have c1 := s0.c1; have c2 := s0.c2; have c3 := s0.c3; have c4 := s0.c4; have c5 := s0.c5
    simp only at c0 c1 c2 c3 c4 c5
    clear s0
    go_wp2_with fail
    refine (HR.out _).mono ?_
    rintro e w1 ⟨rfl, hb1⟩
    clear c0 c1 c2 c3 c4 c5
    have HB1 := Lib.hid (bstep hb0.out hb1)
    have HS1 := Lib.hid (HS.out.below hb1)
    clear hb1
    have s0 := HS1.out
    have c0 := s0.c0; have c1 := s0.c1; have c2 := s0.c2; have c3 := s0.c3; have c4 := s0.c4; have c5 := s0.c5
    simp only at c0 c1 c2 c3 c4 c5
    clear s0
    go_wp2_with fail
    refine (HI.out _).mono ?_
    rintro e w2 ⟨rfl, hb2⟩
    clear c0 c1 c2 c3 c4 c5
    have HB2 := Lib.hid (bstep HB1.out hb2)
    have HS2 := Lib.hid (HS1.out.below hb2)
    clear hb2
    have s0 := HS2.out
    have c0 := s0.c0; have c1 := s0.c1; have c2 := s0.c2; have c3 := s0.c3; have c4 := s0.c4; have c5 := s0.c5
    simp only at c0 c1 c2 c3 c4 c5
    clear s0
    go_wp2_with fail
    have hb3 := balloc w2 (.cells #[.int .i64 i] 3)
    have hin := Drawn.ints_new w2 [i] 3
    have HB3 := Lib.hid (bstep HB2.out hb3)
    have C := HO.out _ _ (HT.out.below HB3.out) (H1.out.below HB3.out) (H2.out.below HB3.out) hin
    refine C.mono ?_
    clear C hin hb3 c0 c1 c2 c3 c4 c5
    rintro e w4 ⟨v, rfl, o1, _, hb4⟩
    obtain ⟨X, d, rfl, _, _, _⟩ := o1.rows
    have hne : (er != 0) = true := by simpa using h0
    have HB4 := Lib.hid (bstep HB3.out hb4)
    clear o1 hb4 h0
    simp only [List.length_nil]
    go_wp2
    go_ret2
    exact ⟨none, 0, rfl, Nat.le_refl _, Nat.zero_le _, BytesAt.nil _ _, HB4.out, New.none w⟩

theorem share_any (b0 : Nat) (p : P) (A1 A2 : Option Addr) (blob tape : List UInt8) (c1 c2 : Nat) (i : Int) (w : World) (hp : p.In) (ht : Gf.Tab w b0) (h1 : BytesAt w A1 blob) (k1 : blob.length ≤ c1) (z1 : c1 ≤ maxLen) (h2 : BytesAt w A2 tape) (k2 : tape.length ≤ c2) (z2 : c2 ≤ maxLen)
    (hl1 : blob.length ≤ 1048576) (hi : In64 i) :
    Calls Try.prog 11 #[.pointer (some ⟨b0, 0, none⟩), p.val, .slice A1 blob.length c1, .slice A2 tape.length c2, .int .i64 i] w (RetBytesE w (shareA p blob tape i) (shareE p blob tape i)) := by
  by_cases hM : p.May
  · rcases h : p.is i with _ | _
    · have e : shareE p blob tape i = 2 := by unfold shareE; rw [P.right_yes hM, if_pos rfl, h]; rfl
      unfold shareA
      rw [e, if_neg (by decide)]
      exact share_range b0 p A1 A2 blob.length tape.length c1 c2 i w hp hM hi h
    · have e : shareE p blob tape i = dealE p blob tape := by unfold shareE; rw [P.right_yes hM, if_pos rfl, h, if_pos rfl]
      unfold shareA
      rw [e]
      exact share_of b0 p A1 A2 blob tape c1 c2 i w hp hM ht h1 k1 z1 h2 k2 z2 hl1 hi h
  · have e : shareE p blob tape i = 1 := by unfold shareE; rw [P.right_no hM]; rfl
    unfold shareA
    rw [e, if_neg (by decide)]
    exact share_arg b0 p A1 A2 blob.length tape.length c1 c2 i w hp hM
end Go.Proofs.Ytmeenipcfmeopaa.Deal
