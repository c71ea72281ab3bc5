/- package blind: what is wrong with parts, closure by closure -/
import Derived.Test.YtchcgiapjhmflaaGreatBlindA
import Derived.Test.YtchcgiapjhmflaaGreatRebA
set_option maxRecDepth 100000
namespace Go.Proofs.YtchcgiapjhmflaaGreat.Blind
open Go.RowKit PlanM StripeM DealM RebM ZeroM Plan Rebuild

theorem is1_any (g : Nat) (p : P) (i : Int) (w : World) (hp : p.In) (hi : In64 i) (hs : Six w g p) :
    Calls Tryz.prog 57 #[.int .i64 i, .pointer (some ⟨g, 0, none⟩)] w (Says w (.bool (!(p.isA i)))) := by
  have hI := fun V => Plan.is_any p i V hp hi
  generalize p.isA i = v at *
  clear hp
  obtain ⟨pN, pT, pL, pW, pS, pR⟩ := p
  unfold P.val at hI
  have HI := Lib.hid hI
  have c0 := hs.c0; have c1 := hs.c1; have c2 := hs.c2; have c3 := hs.c3; have c4 := hs.c4; have c5 := hs.c5
  simp only at c0 c1 c2 c3 c4 c5
  clear hs hI
  go_enter Tryz.func57, Tryz.ntmps57
  go_wp2_with fail
  refine (HI.out _).mono ?_
  rintro e w1 ⟨rfl, hb1⟩
  clear c0 c1 c2 c3 c4 c5
  cases v
  all_goals
    go_wp2
    go_ret
    exact ⟨rfl, hb1⟩

theorem indexI_any (A : Option Addr) (who : List Int) (c g : Nat) (p : P) (w : World) (hp : p.In) (hs : Six w g p) (h : IntsAt w A who) (hm : who.length ≤ 1048576) (hi : ∀ x ∈ who, In64 x) :
    Calls Tryz.prog 73 #[.slice A who.length c, .func (.func 57) #[] #[.pointer (some ⟨g, 0, none⟩)]] w fun e w' => (∃ r : Int, e = .returned (.int .i64 r) ∧ decide (0 ≤ r) = noIs p who) ∧ Below w.heap.size w w' := by
  have HS := Lib.hid hs; have H := Lib.hid h
  have HC := Lib.hid (fun i V (hi : In64 i) (hs : Six V g p) => is1_any g p i V hp hi hs)
  have HI := Lib.hid hi
  clear hs h hi hp
  go_enter Tryz.func73, Tryz.ntmps73
  go_wp2
  go_loopw [8] (fun i wr => ∃ k : Nat, k ≤ who.length ∧ i = .int .i64 k ∧ Below w.heap.size w wr ∧ ∀ j, (hj : j < who.length) → j < k → p.isA who[j] = true)
    (fun i _ => who.length - (intOf i).toNat)
  case atStart => exact ⟨0, Nat.zero_le _, rfl, Below.refl _ _, fun j _ h => by omega⟩
  case round =>
    obtain ⟨k, hk, rfl, hb, hall⟩ := hrel
    rename World => wr
    have HALL := Lib.hid hall; have HB := Lib.hid hb
    clear hall hb
    by_cases hlt : k < who.length
    · obtain ⟨b, o, rfl, e0⟩ := (H.out.below HB.out).at hlt
      have hin := HI.out who[k] (List.getElem_mem hlt)
      have hC := HC.out who[k] wr hin (HS.out.below HB.out)
      obtain ⟨v, hv⟩ : ∃ v, v = p.isA who[k] := ⟨_, rfl⟩
      rw [← hv] at hC
      have HV := Lib.hid hv; have HC2 := Lib.hid hC
      clear hv hC hin
      cases v
      · go_wp2_with fail
        refine HC2.out.mono ?_
        rintro e w' ⟨rfl, hb'⟩
        go_wp2
        go_ret
        exact ⟨⟨k, rfl, by rw [noIs_yes hlt HV.out.symm]; simp⟩, bstep HB.out hb'⟩
      · go_wp2_with fail
        refine HC2.out.mono ?_
        rintro e w' ⟨rfl, hb'⟩
        go_wp2
        go_roundw
        case rel =>
          refine ⟨k + 1, by omega, by go_num, bstep HB.out hb', fun j hj hjk => ?_⟩
          by_cases e : j = k
          · subst e; exact HV.out.symm
          · exact HALL.out j hj (by omega)
        case measure => simp [intOf] <;> omega
    · obtain rfl : k = who.length := by omega
      go_wp2
      go_ret
      exact ⟨⟨-1, rfl, by rw [noIs_no fun i hi => HALL.out i hi hi]; rfl⟩, HB.out⟩

theorem containsI_any (A : Option Addr) (who : List Int) (c g : Nat) (p : P) (w : World) (hp : p.In) (hs : Six w g p) (h : IntsAt w A who) (hm : who.length ≤ 1048576) (hi : ∀ x ∈ who, In64 x) :
    Calls Tryz.prog 56 #[.slice A who.length c, .func (.func 57) #[] #[.pointer (some ⟨g, 0, none⟩)]] w (Says w (.bool (noIs p who))) := by
  have hC := indexI_any A who c g p w hp hs h hm hi
  clear hs h hp hi
  generalize noIs p who = al at *
  have HC := Lib.hid hC
  clear hC
  go_enter Tryz.func56, Tryz.ntmps56
  go_wp2_with fail
  refine HC.out.mono ?_
  rintro e w' ⟨⟨r, rfl, hr⟩, hb⟩
  rcases al with _ | _
  · have h0 : ¬ 0 ≤ r := of_decide_eq_false hr
    clear hr
    go_wp2
    go_ret
    exact ⟨by first | (simp; done) | (simp; omega), hb⟩
  · have h0 : 0 ≤ r := of_decide_eq_true hr
    clear hr
    go_wp2
    go_ret
    exact ⟨by first | (simp; done) | (simp; omega), hb⟩

theorem have1_any (B : Option Addr) (n c g : Nat) (L : Int) (w : World) (hs : w.cell? ⟨g, 0, none⟩ = some (.int .i64 L)) :
    Calls Tryz.prog 60 #[.slice B n c, .pointer (some ⟨g, 0, none⟩)] w fun e w' => e = .returned (.bool (!(decide ((n : Int) = L)))) ∧ w = w' := by
  by_cases h : (n : Int) = L
  · subst h
    rw [decide_eq_true rfl]
    go_enter Tryz.func60, Tryz.ntmps60
    go_wp2
    go_ret
    exact ⟨rfl, rfl⟩
  · rw [decide_eq_false h]
    go_enter Tryz.func60, Tryz.ntmps60
    go_wp2
    go_ret
    exact ⟨by simp [h], rfl⟩
theorem indexR_any (A : Option Addr) (m : List (List UInt8)) (c g : Nat) (L : Int) (w : World) (hs : w.cell? ⟨g, 0, none⟩ = some (.int .i64 L)) (h : RowsAt w A m) (hm : m.length ≤ 1048576) :
    Calls Tryz.prog 77 #[.slice A m.length c, .func (.func 60) #[] #[.pointer (some ⟨g, 0, none⟩)]] w fun e w' => (∃ r : Int, e = .returned (.int .i64 r) ∧ decide (0 ≤ r) = !(allN L m)) ∧ w = w' := by
  have H := Lib.hid h
  have HC := Lib.hid (fun B n c => have1_any B n c g L w hs)
  clear hs h
  go_enter Tryz.func77, Tryz.ntmps77
  go_wp2
  go_loopw [8] (fun i wr => ∃ k : Nat, k ≤ m.length ∧ i = .int .i64 k ∧ w = wr ∧ ∀ j, (hj : j < m.length) → j < k → (m[j].length : Int) = L)
    (fun i _ => m.length - (intOf i).toNat)
  case atStart => exact ⟨0, Nat.zero_le _, rfl, rfl, fun j _ h => by omega⟩
  case round =>
    obtain ⟨k, hk, rfl, rfl, hall⟩ := hrel
    have HALL := Lib.hid hall
    clear hall
    by_cases hlt : k < m.length
    · obtain ⟨b, o, B, d, rfl, e0, hd1, hd2, _⟩ := H.out.row hlt
      obtain ⟨n, hn⟩ : ∃ n, n = m[k].length := ⟨_, rfl⟩
      rw [← hn] at e0 hd1
      have HN := Lib.hid hn
      clear hn
      have hC := HC.out B n d
      by_cases hnl : (n : Int) = L
      · rw [decide_eq_true hnl] at hC
        have HC2 := Lib.hid hC
        have HNL := Lib.hid hnl
        clear hC hnl
        go_wp2_with fail
        refine HC2.out.mono ?_
        rintro e w' ⟨rfl, rfl⟩
        go_wp2
        go_roundw
        case rel =>
          refine ⟨k + 1, by omega, by go_num, by first | trivial | rfl, fun j hj hjk => ?_⟩
          by_cases e : j = k
          · subst e; rw [← HN.out]; exact HNL.out
          · exact HALL.out j hj (by omega)
        case measure => simp [intOf] <;> omega
      · rw [decide_eq_false hnl] at hC
        have HC2 := Lib.hid hC
        have HNL := Lib.hid hnl
        clear hC hnl
        go_wp2_with fail
        refine HC2.out.mono ?_
        rintro e w' ⟨rfl, rfl⟩
        go_wp2
        go_ret
        exact ⟨⟨k, rfl, by rw [allN_no hlt (by rw [← HN.out]; exact HNL.out)]; simp⟩, rfl⟩
    · obtain rfl : k = m.length := by omega
      go_wp2
      go_ret
      exact ⟨⟨-1, rfl, by rw [allN_yes fun i hi => HALL.out i hi hi]; rfl⟩, rfl⟩
theorem containsR_any (A : Option Addr) (m : List (List UInt8)) (c g : Nat) (L : Int) (w : World) (hs : w.cell? ⟨g, 0, none⟩ = some (.int .i64 L)) (h : RowsAt w A m) (hm : m.length ≤ 1048576) :
    Calls Tryz.prog 59 #[.slice A m.length c, .func (.func 60) #[] #[.pointer (some ⟨g, 0, none⟩)]] w fun e w' => e = .returned (.bool (!(allN L m))) ∧ w = w' := by
  have hC := indexR_any A m c g L w hs h hm
  clear hs h
  generalize allN L m = al at *
  have HC := Lib.hid hC
  clear hC
  go_enter Tryz.func59, Tryz.ntmps59
  go_wp2_with fail
  refine HC.out.mono ?_
  rintro e w' ⟨⟨r, rfl, hr⟩, rfl⟩
  rcases al with _ | _
  · have h0 : 0 ≤ r := of_decide_eq_true hr
    clear hr
    go_wp2
    go_ret
    exact ⟨by first | (simp; done) | (simp; omega), rfl⟩
  · have h0 : ¬ 0 ≤ r := of_decide_eq_false hr
    clear hr
    go_wp2
    go_ret
    exact ⟨by first | (simp; done) | (simp; omega), rfl⟩

theorem index_any (A : Option Addr) (who : List Int) (c : Nat) (t : Int) (w : World) (h : IntsAt w A who) (hm : who.length ≤ 1048576) :
    Calls Tryz.prog 72 #[.slice A who.length c, .int .i64 t] w fun e w' => (∃ r : Int, e = .returned (.int .i64 r) ∧ decide (0 ≤ r) = who.contains t) ∧ w = w' := by
  have H := Lib.hid h
  clear h
  go_enter Tryz.func72, Tryz.ntmps72
  go_wp2
  go_loopw [8] (fun i wr => ∃ k : Nat, k ≤ who.length ∧ i = .int .i64 k ∧ w = wr ∧ ∀ j, (hj : j < who.length) → j < k → who[j] ≠ t)
    (fun i _ => who.length - (intOf i).toNat)
  case atStart => exact ⟨0, Nat.zero_le _, rfl, rfl, fun j _ h => by omega⟩
  case round =>
    obtain ⟨k, hk, rfl, rfl, hall⟩ := hrel
    have HALL := Lib.hid hall
    clear hall
    by_cases hlt : k < who.length
    · obtain ⟨b, o, rfl, e0⟩ := H.out.at hlt
      obtain ⟨x, hx⟩ : ∃ x, x = who[k] := ⟨_, rfl⟩
      rw [← hx] at e0
      have HX := Lib.hid hx
      clear hx
      by_cases hxt : t = x
      · have HXT := Lib.hid hxt
        have hd : (t == x) = true := by simpa using hxt
        clear hxt
        go_wp2
        go_ret
        exact ⟨⟨k, rfl, by rw [show who.contains t = true from by rw [List.contains_iff_mem, HXT.out, HX.out]; exact List.getElem_mem hlt]; simp⟩, rfl⟩
      · have HXT := Lib.hid hxt
        have hd : (t == x) = false := by simpa using hxt
        go_wp2
        go_roundw
        case rel =>
          refine ⟨k + 1, by omega, by go_num, by first | trivial | rfl, fun j hj hjk => ?_⟩
          by_cases e : j = k
          · subst e; rw [← HX.out]; exact fun e => HXT.out e.symm
          · exact HALL.out j hj (by omega)
        case measure => simp [intOf] <;> omega
    · obtain rfl : k = who.length := by omega
      go_wp2
      go_ret
      exact ⟨⟨-1, rfl, by rw [show who.contains t = false from by rw [List.contains_eq_any_beq, List.any_eq_false]; intro x hx; obtain ⟨i, hi, rfl⟩ := List.mem_iff_getElem.mp hx; simpa using fun e : t = who[i] => HALL.out i hi hi e.symm]; rfl⟩, rfl⟩
theorem contains_any (A : Option Addr) (who : List Int) (c : Nat) (t : Int) (w : World) (h : IntsAt w A who) (hm : who.length ≤ 1048576) :
    Calls Tryz.prog 55 #[.slice A who.length c, .int .i64 t] w fun e w' => e = .returned (.bool (who.contains t)) ∧ w = w' := by
  have hC := index_any A who c t w h hm
  clear h
  generalize who.contains t = al at *
  have HC := Lib.hid hC
  clear hC
  go_enter Tryz.func55, Tryz.ntmps55
  go_wp2_with fail
  refine HC.out.mono ?_
  rintro e w' ⟨⟨r, rfl, hr⟩, rfl⟩
  rcases al with _ | _
  · have h0 : ¬ 0 ≤ r := of_decide_eq_false hr
    clear hr
    go_wp2
    go_ret
    exact ⟨by first | (simp; done) | (simp; omega), rfl⟩
  · have h0 : 0 ≤ r := of_decide_eq_true hr
    clear hr
    go_wp2
    go_ret
    exact ⟨by first | (simp; done) | (simp; omega), rfl⟩
end Go.Proofs.YtchcgiapjhmflaaGreat.Blind
