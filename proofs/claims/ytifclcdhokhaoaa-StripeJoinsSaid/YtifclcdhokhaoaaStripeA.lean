/- package stripe: whether these may be all stripes of a blob -/
import Derived.Test.YtifclcdhokhaoaaParts
set_option maxRecDepth 100000
namespace Go.Proofs.Ytifclcdhokhaoaa.Stripe
open Go.RowKit PlanM StripeM Plan

theorem fit1_any (B : Option Addr) (n c g : Nat) (p : P) (L : Nat) (hL : p.L = (L : Int)) (w : World) (hs : Six w g p) :
    Calls Try.prog 25 #[.slice B n c, .pointer (some ⟨g, 0, none⟩)] w fun e w' => e = .returned (.bool (decide (n ≠ L))) ∧ w = w' := by
  obtain ⟨pN, pT, pL, pW, pS, pR⟩ := p
  simp only at hL
  subst hL
  have c2 := hs.c2
  clear hs
  by_cases h : n = L
  · subst h
    rw [decide_eq_false (by omega)]
    go_enter Try.func25, Try.ntmps25
    go_wp2
    go_ret
    exact ⟨rfl, rfl⟩
  · rw [decide_eq_true h]
    have h2 : ¬ ((n : Int) = (L : Int)) := by omega
    go_enter Try.func25, Try.ntmps25
    go_wp2
    go_ret
    exact ⟨by simp [h]; omega, rfl⟩
/-- are all of one length? -/
def allL (m : List (List UInt8)) (L : Nat) : Bool := m.all fun r => decide (r.length = L)
theorem allL_no {m : List (List UInt8)} {L i : Nat} (hi : i < m.length) (h : m[i].length ≠ L) : allL m L = false := by
  unfold allL
  rw [List.all_eq_false]
  exact ⟨m[i], List.getElem_mem hi, by simpa using h⟩
theorem allL_yes {m : List (List UInt8)} {L : Nat} (h : ∀ i, (hi : i < m.length) → m[i].length = L) : allL m L = true := by
  unfold allL
  refine List.all_eq_true.mpr fun r hr => ?_
  obtain ⟨i, hi, rfl⟩ := List.mem_iff_getElem.mp hr
  exact decide_eq_true (h i hi)

theorem index_any (A : Option Addr) (m : List (List UInt8)) (c g : Nat) (p : P) (L : Nat) (hL : p.L = (L : Int)) (w : World) (hs : Six w g p) (h : RowsAt w A m) (hm : m.length ≤ 1048576) :
    Calls Try.prog 26 #[.slice A m.length c, .func (.func 25) #[] #[.pointer (some ⟨g, 0, none⟩)]] w fun e w' => (∃ r : Int, e = .returned (.int .i64 r) ∧ decide (0 ≤ r) = !(allL m L)) ∧ w = w' := by
  have HS := Lib.hid hs; have H := Lib.hid h
  have HC := Lib.hid (fun B n c => fit1_any B n c g p L hL w hs)
  clear hs h hL
  go_enter Try.func26, Try.ntmps26
  go_wp2
  go_loopw [8] (fun i wr => ∃ k : Nat, k ≤ m.length ∧ i = .int .i64 k ∧ w = wr ∧ ∀ j, (hj : j < m.length) → j < k → m[j].length = L)
    (fun i _ => m.length - (intOf i).toNat)
  case atStart => exact ⟨0, Nat.zero_le _, rfl, rfl, fun j _ h => by omega⟩
  case round =>
    obtain ⟨k, hk, rfl, rfl, hall⟩ := hrel
    have HALL := Lib.hid hall
    clear hall
    by_cases hlt : k < m.length
    · obtain ⟨b, o, B, d, rfl, e0, hd1, hd2, _⟩ := H.out.row hlt
      obtain ⟨n, hn⟩ : ∃ n, n = m[k].length := ⟨_, rfl⟩
      rw [← hn] at e0 hd1
      have HN := Lib.hid hn
      clear hn
      by_cases hnl : n = L
      · have hdec : decide (n ≠ L) = false := decide_eq_false (by omega)
        have hC := HC.out B n d
        rw [hdec] at hC
        have HC2 := Lib.hid hC
        have HNL := Lib.hid hnl
        clear hC hdec hnl
        go_wp2_with fail
        refine HC2.out.mono ?_
        rintro e w' ⟨rfl, rfl⟩
        go_wp2
        go_roundw
        case rel =>
          refine ⟨k + 1, by omega, by go_num, by first | trivial | rfl, fun j hj hjk => ?_⟩
          by_cases e : j = k
          · subst e; rw [← HN.out]; exact HNL.out
          · exact HALL.out j hj (by omega)
        case measure => simp [intOf] <;> omega
      · have hdec : decide (n ≠ L) = true := decide_eq_true hnl
        have hC := HC.out B n d
        rw [hdec] at hC
        have HC2 := Lib.hid hC
        have HNL := Lib.hid hnl
        clear hC hdec hnl
        go_wp2_with fail
        refine HC2.out.mono ?_
        rintro e w' ⟨rfl, rfl⟩
        go_wp2
        go_ret
        exact ⟨⟨k, rfl, by rw [allL_no hlt (by rw [← HN.out]; exact HNL.out)]; simp⟩, rfl⟩
    · obtain rfl : k = m.length := by omega
      go_wp2
      go_ret
      exact ⟨⟨-1, rfl, by rw [allL_yes fun i hi => HALL.out i hi hi]; rfl⟩, rfl⟩

theorem contains_any (A : Option Addr) (m : List (List UInt8)) (c g : Nat) (p : P) (L : Nat) (hL : p.L = (L : Int)) (w : World) (hs : Six w g p) (h : RowsAt w A m) (hm : m.length ≤ 1048576) :
    Calls Try.prog 24 #[.slice A m.length c, .func (.func 25) #[] #[.pointer (some ⟨g, 0, none⟩)]] w fun e w' => e = .returned (.bool (!(allL m L))) ∧ w = w' := by
  have hC := index_any A m c g p L hL w hs h hm
  clear hs h
  generalize allL m L = al at *
  have HC := Lib.hid hC
  clear hC
  go_enter Try.func24, Try.ntmps24
  go_wp2_with fail
  refine HC.out.mono ?_
  rintro e w' ⟨⟨r, rfl, hr⟩, rfl⟩
  rcases al with _ | _
  · have h0 : 0 ≤ r := of_decide_eq_true hr
    clear hr
    go_wp2
    go_ret
    exact ⟨by first | (simp; done) | (simp; omega), rfl⟩
  · have h0 : ¬ 0 ≤ r := of_decide_eq_false hr
    clear hr
    go_wp2
    go_ret
    exact ⟨by first | (simp; done) | (simp; omega), rfl⟩

theorem fit_any (p : P) (A : Option Addr) (m : List (List UInt8)) (c : Nat) (size : Int) (w : World) (hp : p.In) (hM : p.May) (h : RowsAt w A m) (hm : m.length ≤ 1048576) (hs : In64 size) :
    Calls Try.prog 18 #[p.val, .slice A m.length c, .int .i64 size] w (Says w (.bool (fits p m size))) := by
  obtain ⟨L, hL⟩ : ∃ L : Nat, p.L = (L : Int) := ⟨p.L.toNat, by unfold P.May at hM; omega⟩
  have hT := fun V => Plan.stripes_any p size V hp hs
  have hle : p.stripes size ≤ 240 := stripes_le _ _ (by unfold P.May at hM; omega)
  rw [show p.stripesA size = ((p.stripes size : Nat) : Int) from by unfold P.stripesA; rw [P.right_yes hM]; rfl] at hT
  have hfit : fits p m size = (decide (m.length = p.stripes size) && allL m L) := by unfold fits allL; rw [hL, Int.toNat_natCast]
  rw [hfit]
  have HC := Lib.hid (fun V g (hs : Six V g p) h => contains_any A m c g p L hL V hs h hm)
  have HS := Lib.hid (Six.new w p)
  have H := Lib.hid h
  generalize p.stripes size = N at *
  clear hfit hM hp hL h hs
  obtain ⟨pN, pT, pL, pW, pS, pR⟩ := p
  unfold P.val at hT ⊢
  have HT := Lib.hid hT
  clear hT
  have hb0 := balloc w (.cells #[.int .i64 pN, .int .i64 pT, .int .i64 pL, .int .i64 pW, .int .i64 pS, .int .i64 pR] 23)
  have s0 := HS.out
  by_cases hlen : m.length = N
  · rw [decide_eq_true hlen, Bool.true_and]
    subst hlen
    go_enter Try.func18, Try.ntmps18
    go_wp2_with fail
    have c0 := s0.c0; have c1 := s0.c1; have c2 := s0.c2; have c3 := s0.c3; have c4 := s0.c4; have c5 := s0.c5
    generalize w.alloc (.cells #[.int .i64 pN, .int .i64 pT, .int .i64 pL, .int .i64 pW, .int .i64 pS, .int .i64 pR] 23) = w0 at *
    go_wp2_with fail
    refine (HT.out _).mono ?_
    rintro e w1 ⟨rfl, hb1⟩
    have HCC := Lib.hid (HC.out w1 _ (s0.below hb1) (H.out.below (bstep hb0 hb1)))
    clear c0 c1 c2 c3 c4 c5
    generalize allL m L = al at *
    go_wp2_with fail
    refine HCC.out.mono ?_
    rintro e w2 ⟨rfl, rfl⟩
    go_wp2
    go_ret
    exact ⟨by simp, bstep hb0 hb1⟩
  · rw [decide_eq_false hlen, Bool.false_and]
    go_enter Try.func18, Try.ntmps18
    go_wp2_with fail
    have c0 := s0.c0; have c1 := s0.c1; have c2 := s0.c2; have c3 := s0.c3; have c4 := s0.c4; have c5 := s0.c5
    generalize w.alloc (.cells #[.int .i64 pN, .int .i64 pT, .int .i64 pL, .int .i64 pW, .int .i64 pS, .int .i64 pR] 23) = w0 at *
    go_wp2_with fail
    refine (HT.out _).mono ?_
    rintro e w1 ⟨rfl, hb1⟩
    clear c0 c1 c2 c3 c4 c5
    go_wp2
    go_ret
    exact ⟨rfl, bstep hb0 hb1⟩
end Go.Proofs.Ytifclcdhokhaoaa.Stripe
