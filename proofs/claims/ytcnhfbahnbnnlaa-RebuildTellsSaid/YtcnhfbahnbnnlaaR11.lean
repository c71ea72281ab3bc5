/- the document's own answers of layer 11 -/
import Derived.Test.YtcnhfbahnbnnlaaLaw08
import Derived.Test.YtcnhfbahnbnnlaaR08
import Derived.Test.YtcnhfbahnbnnlaaR03
import Derived.Test.YtcnhfbahnbnnlaaMB
import Derived.Test.YtcnhfbahnbnnlaaFlow
set_option maxRecDepth 100000
namespace Go.Proofs.Ytcnhfbahnbnnlaa.R11
open Go.RowKit PlanM StripeM LagrM DealM RebM Law08

theorem six {w : World} {g : Nat} {N T L W S R : Int} (h : PlanLies w g N T L W S R) : w.cell? ⟨g, 0, none⟩ = some (.int .i64 N) ∧ w.cell? ⟨g, 1, none⟩ = some (.int .i64 T) ∧ w.cell? ⟨g, 2, none⟩ = some (.int .i64 L) ∧ w.cell? ⟨g, 3, none⟩ = some (.int .i64 W) ∧ w.cell? ⟨g, 4, none⟩ = some (.int .i64 S) ∧ w.cell? ⟨g, 5, none⟩ = some (.int .i64 R) :=
  ⟨h.c0, h.c1, h.c2, h.c3, h.c4, h.c5⟩
section
variable {q : P} {size : Int} {who : List Int} {sh : List (List UInt8)}
theorem rc_arg (h : q.right = false) : rcheck q size who sh = 1 := by unfold rcheck; rw [if_neg (by rw [h]; simp)]
theorem rc_size (h : q.right = true) (h1 : size < 0 ∨ 240 < size) : rcheck q size who sh = 2 := by unfold rcheck; rw [if_pos h, if_pos h1]
theorem rc_is (h : q.right = true) (h1 : ¬ (size < 0 ∨ 240 < size)) {k : Nat} (hk : k < who.length) (h2 : q.is who[k] = false) : rcheck q size who sh = 2 := by
  unfold rcheck
  rw [if_pos h, if_neg h1, if_neg]
  unfold isAll
  rw [List.all_eq_true]
  intro h3
  have := h3 who[k] (List.getElem_mem hk)
  rw [h2] at this; cases this
theorem all_of (h : ∀ j, (hj : j < who.length) → q.is who[j] = true) : isAll q who = true := by
  unfold isAll
  rw [List.all_eq_true]
  intro x hx
  obtain ⟨i, hi, rfl⟩ := List.mem_iff_getElem.mp hx
  exact h i hi
theorem rc_twice (h : q.right = true) (h1 : ¬ (size < 0 ∨ 240 < size)) (h2 : isAll q who = true) (h3 : unl (points who) = false) : rcheck q size who sh = 5 := by
  unfold rcheck; rw [if_pos h, if_neg h1, if_pos h2, if_neg (by rw [h3]; simp)]
theorem rc_few (h : q.right = true) (h1 : ¬ (size < 0 ∨ 240 < size)) (h2 : isAll q who = true) (h3 : unl (points who) = true) (h4 : (who.length : Int) < q.T + q.L) : rcheck q size who sh = 6 := by
  unfold rcheck; rw [if_pos h, if_neg h1, if_pos h2, if_pos h3, if_pos h4]
theorem rc_form (h : q.right = true) (h1 : ¬ (size < 0 ∨ 240 < size)) (h2 : isAll q who = true) (h3 : unl (points who) = true) (h4 : ¬ (who.length : Int) < q.T + q.L) (h5 : sh.length ≠ who.length) : rcheck q size who sh = 3 := by
  unfold rcheck; rw [if_pos h, if_neg h1, if_pos h2, if_pos h3, if_neg h4, if_pos h5]
theorem rc_row (h : q.right = true) (h1 : ¬ (size < 0 ∨ 240 < size)) (h2 : isAll q who = true) (h3 : unl (points who) = true) (h4 : ¬ (who.length : Int) < q.T + q.L) (h5 : ¬ sh.length ≠ who.length) {k : Nat} (hk : k < sh.length) (h6 : sh[k].length ≠ q.stripes size) : rcheck q size who sh = 3 := by
  unfold rcheck
  rw [if_pos h, if_neg h1, if_pos h2, if_pos h3, if_neg h4, if_neg h5, if_neg]
  unfold fitAll
  rw [List.all_eq_true]
  intro h7
  exact h6 (of_decide_eq_true (h7 sh[k] (List.getElem_mem hk)))
theorem rc_ok (h : q.right = true) (h1 : ¬ (size < 0 ∨ 240 < size)) (h2 : isAll q who = true) (h3 : unl (points who) = true) (h4 : ¬ (who.length : Int) < q.T + q.L) (h5 : ¬ sh.length ≠ who.length) (h6 : ∀ k, (hk : k < sh.length) → sh[k].length = q.stripes size) : rcheck q size who sh = 0 := by
  unfold rcheck
  rw [if_pos h, if_neg h1, if_pos h2, if_pos h3, if_neg h4, if_neg h5, if_pos]
  unfold fitAll
  rw [List.all_eq_true]
  intro x hx
  obtain ⟨i, hi, rfl⟩ := List.mem_iff_getElem.mp hx
  exact decide_eq_true (h6 i hi)
end

set_option maxHeartbeats 1000000 in
theorem check_arg (N T L W S R size : Int) (A1 A2 : Option Addr) (who : List Int) (sh : List (List UInt8)) (u1 u2 : Nat) (w : World) (hp : (⟨N, T, L, W, S, R⟩ : P).In) (hr : (⟨N, T, L, W, S, R⟩ : P).right = false) :
    Calls Try.prog 11 #[.agg #[.int .i64 N, .int .i64 T, .int .i64 L, .int .i64 W, .int .i64 S, .int .i64 R], .int .i64 size, .slice A1 who.length u1, .slice A2 sh.length u2] w fun e w' => e = .returned (.int .i64 (rcheck ⟨N, T, L, W, S, R⟩ size who sh)) ∧ Below w.heap.size w w' := by
  obtain ⟨q, hq⟩ : ∃ q : P, q = ⟨N, T, L, W, S, R⟩ := ⟨_, rfl⟩
  rw [← hq] at hp hr ⊢
  have hv : q.val = .agg #[.int .i64 N, .int .i64 T, .int .i64 L, .int .i64 W, .int .i64 S, .int .i64 R] := by rw [hq]; rfl
  have K3 := fun w => R08.right_any q w hp
  rw [hr, hv] at K3
  have H3 := Lib.hid K3
  clear K3
  have hres := Lib.hid (rc_arg (size := size) (who := who) (sh := sh) hr)
  clear hv hq hr hp
  have HA := Lib.hid (PlanLies.new w N T L W S R)
  have hb0 := Lib.hid (balloc w (.cells #[.int .i64 N, .int .i64 T, .int .i64 L, .int .i64 W, .int .i64 S, .int .i64 R] 23))
  go_enter Try.func11, Try.ntmps11
  go_wp2_with fail
  generalize w.alloc (.cells #[.int .i64 N, .int .i64 T, .int .i64 L, .int .i64 W, .int .i64 S, .int .i64 R] 23) = w0 at *
  refine (H3.out _).mono ?_
  rintro e w1 ⟨rfl, hb1⟩
  go_wp2
  go_ret
  exact ⟨ret_int hres.out.symm, bstep hb0.out hb1⟩
set_option maxHeartbeats 1000000 in
theorem check_size (N T L W S R size : Int) (A1 A2 : Option Addr) (who : List Int) (sh : List (List UInt8)) (u1 u2 : Nat) (w : World) (hp : (⟨N, T, L, W, S, R⟩ : P).In) (hr : (⟨N, T, L, W, S, R⟩ : P).right = true) (hs : size < 0 ∨ 240 < size) :
    Calls Try.prog 11 #[.agg #[.int .i64 N, .int .i64 T, .int .i64 L, .int .i64 W, .int .i64 S, .int .i64 R], .int .i64 size, .slice A1 who.length u1, .slice A2 sh.length u2] w fun e w' => e = .returned (.int .i64 (rcheck ⟨N, T, L, W, S, R⟩ size who sh)) ∧ Below w.heap.size w w' := by
  obtain ⟨q, hq⟩ : ∃ q : P, q = ⟨N, T, L, W, S, R⟩ := ⟨_, rfl⟩
  rw [← hq] at hp hr ⊢
  have hv : q.val = .agg #[.int .i64 N, .int .i64 T, .int .i64 L, .int .i64 W, .int .i64 S, .int .i64 R] := by rw [hq]; rfl
  have K3 := fun w => R08.right_any q w hp
  rw [hr, hv] at K3
  have H3 := Lib.hid K3
  clear K3
  have hres := Lib.hid (rc_size (who := who) (sh := sh) hr hs)
  clear hv hq hr hp
  by_cases hs0 : size < 0
  all_goals
    have hs1 := hs0
    have HA := Lib.hid (PlanLies.new w N T L W S R)
    have hb0 := Lib.hid (balloc w (.cells #[.int .i64 N, .int .i64 T, .int .i64 L, .int .i64 W, .int .i64 S, .int .i64 R] 23))
    go_enter Try.func11, Try.ntmps11
    go_wp2_with fail
    generalize w.alloc (.cells #[.int .i64 N, .int .i64 T, .int .i64 L, .int .i64 W, .int .i64 S, .int .i64 R] 23) = w0 at *
    refine (H3.out _).mono ?_
    rintro e w1 ⟨rfl, hb1⟩
    go_wp2
    go_ret
    exact ⟨ret_int hres.out.symm, bstep hb0.out hb1⟩

set_option maxHeartbeats 4000000 in
theorem check_all (N T L W S R size : Int) (A1 A2 : Option Addr) (who : List Int) (sh : List (List UInt8)) (u1 u2 : Nat) (w : World) (hp : (⟨N, T, L, W, S, R⟩ : P).In) (h1 : IntsAt w A1 who) (h2 : RowsAt w A2 sh) (hw : who.length ≤ 1048576) (hsl : sh.length ≤ 1048576) (hr : (⟨N, T, L, W, S, R⟩ : P).right = true) (hs : ¬ (size < 0 ∨ 240 < size)) :
    Calls Try.prog 11 #[.agg #[.int .i64 N, .int .i64 T, .int .i64 L, .int .i64 W, .int .i64 S, .int .i64 R], .int .i64 size, .slice A1 who.length u1, .slice A2 sh.length u2] w fun e w' => e = .returned (.int .i64 (rcheck ⟨N, T, L, W, S, R⟩ size who sh)) ∧ Below w.heap.size w w' := by
  obtain ⟨q, hq⟩ : ∃ q : P, q = ⟨N, T, L, W, S, R⟩ := ⟨_, rfl⟩
  rw [← hq] at hp hr ⊢
  have hv : q.val = .agg #[.int .i64 N, .int .i64 T, .int .i64 L, .int .i64 W, .int .i64 S, .int .i64 R] := by rw [hq]; rfl
  have K3 := fun w => R08.right_any q w hp
  rw [hr, hv] at K3
  have H3 := Lib.hid K3
  clear K3
  have hM : q.May := of_decide_eq_true hr
  unfold P.May at hM
  have eT : q.T = T := by rw [hq]
  have eL : q.L = L := by rw [hq]
  have i1 : IntKind.i64.wrap (T + L) = T + L := IntWalk.i64_in _ (by omega)
  have H1 := Lib.hid h1; have H2 := Lib.hid h2
  obtain ⟨hs0, hs1⟩ := not_or.mp hs
  have K4 := fun i w => R08.is_any q i w
  rw [hv] at K4
  obtain ⟨n, hn⟩ : ∃ n, n = q.stripes size := ⟨_, rfl⟩
  have K5 := fun w => R08.stripes_any q size w (by omega)
  rw [hv, ← hn] at K5
  have H4 := Lib.hid K4; have H5 := Lib.hid K5
  have hst := stripes_le q size (by omega)
  rw [← hn] at hst
  have RI := Lib.hid (fun k hk h2 => rc_is (sh := sh) (who := who) hr hs (k := k) hk h2)
  have AO := Lib.hid (all_of (q := q) (who := who))
  have RT := Lib.hid (fun h2 h3 => rc_twice (sh := sh) (who := who) hr hs h2 h3)
  have RF := Lib.hid (fun h2 h3 h4 => rc_few (sh := sh) (who := who) hr hs h2 h3 h4)
  have RM := Lib.hid (fun h2 h3 h4 h5 => rc_form (sh := sh) (who := who) hr hs h2 h3 h4 h5)
  have RR := Lib.hid (fun h2 h3 h4 h5 k hk h6 => rc_row (sh := sh) (who := who) hr hs h2 h3 h4 h5 (k := k) hk h6)
  have RO := Lib.hid (fun h2 h3 h4 h5 h6 => rc_ok (sh := sh) (who := who) hr hs h2 h3 h4 h5 h6)
  have HN := Lib.hid hn; have HTL : Hid (q.T + q.L = T + L) := Lib.hid (by rw [eT, eL])
  clear hv hr hp h1 h2 K4 K5 hn hq hM eT eL hs
  have HA := Lib.hid (PlanLies.new w N T L W S R)
  have hb0 := Lib.hid (balloc w (.cells #[.int .i64 N, .int .i64 T, .int .i64 L, .int .i64 W, .int .i64 S, .int .i64 R] 23))
  go_enter Try.func11, Try.ntmps11
  go_wp2_with fail
  generalize w.alloc (.cells #[.int .i64 N, .int .i64 T, .int .i64 L, .int .i64 W, .int .i64 S, .int .i64 R] 23) = w0 at *
  replace H1 := Lib.hid (H1.out.below hb0.out)
  replace H2 := Lib.hid (H2.out.below hb0.out)
  refine (H3.out _).mono ?_
  rintro e w1 ⟨rfl, hb1⟩
  go_wp2
  go_loopw [9] (fun i wr => ∃ k : Nat, k ≤ who.length ∧ i = .int .i64 k ∧ (∀ j, (hj : j < who.length) → j < k → q.is who[j] = true) ∧ Below w0.heap.size w0 wr) (fun i _ => who.length - (intOf i).toNat)
  case atStart => exact ⟨0, Nat.zero_le _, rfl, fun j _ h => by omega, hb1⟩
  case round =>
    obtain ⟨k, hk, rfl, hall, hbr⟩ := hrel
    rename World => wr
    have HL := Lib.hid hall
    clear hall
    by_cases hlt : k < who.length
    · obtain ⟨b, o, rfl, e1⟩ := (H1.out.below hbr).at hlt
      have E1 := Lib.hid e1
      have HK := Lib.hid (H4.out who[k])
      have RK := Lib.hid (RI.out k hlt)
      have SK : Hid (q.is who[k] = true → ∀ j, (hj : j < who.length) → j < k + 1 → q.is who[j] = true) := Lib.hid fun h j hj hjk => by
        by_cases e : j = k
        · subst e; exact h
        · exact HL.out j hj (by omega)
      clear e1
      generalize who[k] = x at *
      rcases his : q.is x with _ | _
      · have hres := Lib.hid (RK.out his)
        have HK' : Hid (∀ W0, Calls Try.prog 20 #[.agg #[.int .i64 N, .int .i64 T, .int .i64 L, .int .i64 W, .int .i64 S, .int .i64 R], .int .i64 x] W0 fun e w' => e = .returned (.bool false) ∧ Below W0.heap.size W0 w') := Lib.hid fun W0 => by have := HK.out W0; rw [his] at this; exact this
        clear his HK
        go_wp2_with fail
        refine Drawn.wp_region_flowL 7 [Drawn.SP.is (.agg #[.int .i64 N, .int .i64 T, .int .i64 L, .int .i64 W, .int .i64 S, .int .i64 R]), Drawn.SP.is (.slice (some ⟨b, o, none⟩) who.length u1), Drawn.SP.is (.int .i64 (k : Nat)), Drawn.SP.is (.pointer (some ⟨b, o + k, none⟩)), Drawn.SP.is (.int .i64 x), Drawn.SP.is (.bool false), Drawn.SP.is (.bool true)] (by kernel_rfl) (by kernel_rfl) ?_ ?_
        · intro i hi a wq hb hev hdep
          rcases (show i = 0 ∨ i = 1 ∨ i = 2 ∨ i = 3 ∨ i = 4 ∨ i = 5 ∨ i = 6 by omega) with rfl | rfl | rfl | rfl | rfl | rfl | rfl
          · have e4 : a.tmps[4]?.getD undef = .pointer (some ⟨w.heap.size, 0, none⟩) := hev 4 rfl
            refine Drawn.wpOp_flow 26 rfl rfl rfl ?_
            obtain ⟨c0, c1, c2, c3, c4, c5⟩ := six (HA.out.below (hbr.trans (hb.mono hbr.size)))
            have e1 := (hb.cell (p := ⟨b, o + k, none⟩) (cell_lt E1.out)).trans E1.out
            clear hev hdep hb
            go_simp
            exact ⟨_, rfl, rfl, Below.refl _ _⟩
          · have e2 : a.tmps[2]?.getD undef = .slice (some ⟨b, o, none⟩) who.length u1 := hev 2 rfl
            refine Drawn.wpOp_flow 27 rfl rfl rfl ?_
            clear hev hdep hb
            go_simp
            exact ⟨_, rfl, rfl, Below.refl _ _⟩
          · have e9 : a.tmps[9]?.getD undef = .int .i64 (k : Nat) := hev 9 rfl
            refine Drawn.wpOp_flow 28 rfl rfl rfl ?_
            clear hev hdep hb
            go_simp
            exact ⟨_, rfl, rfl, Below.refl _ _⟩
          · have d1 : a.tmps[27]?.getD undef = .slice (some ⟨b, o, none⟩) who.length u1 := hdep 1 rfl
            have d2 : a.tmps[28]?.getD undef = .int .i64 (k : Nat) := hdep 2 rfl
            refine Drawn.wpOp_flow 29 rfl rfl rfl ?_
            clear hev hdep hb
            go_simp
            exact ⟨_, rfl, rfl, Below.refl _ _⟩
          · have d3 : a.tmps[29]?.getD undef = .pointer (some ⟨b, o + k, none⟩) := hdep 3 rfl
            refine Drawn.wpOp_flow 30 rfl rfl rfl ?_
            obtain ⟨c0, c1, c2, c3, c4, c5⟩ := six (HA.out.below (hbr.trans (hb.mono hbr.size)))
            have e1 := (hb.cell (p := ⟨b, o + k, none⟩) (cell_lt E1.out)).trans E1.out
            clear hev hdep hb
            go_simp
            exact ⟨_, rfl, rfl, Below.refl _ _⟩
          · have d0 : a.tmps[26]?.getD undef = .agg #[.int .i64 N, .int .i64 T, .int .i64 L, .int .i64 W, .int .i64 S, .int .i64 R] := hdep 0 rfl
            have d4 : a.tmps[30]?.getD undef = .int .i64 x := hdep 4 rfl
            refine Drawn.wpOp_flow 31 rfl rfl rfl ?_
            clear hev hdep
            go_simp
            refine (HK'.out wq).mono ?_
            rintro e w' ⟨rfl, hb'⟩
            exact ⟨_, rfl, rfl, hb'⟩
          · have d5 : a.tmps[31]?.getD undef = .bool false := hdep 5 rfl
            refine Drawn.wpOp_flow 32 rfl rfl rfl ?_
            clear hev hdep hb
            go_simp
            exact ⟨_, rfl, rfl, Below.refl _ _⟩
        · intro xq wq hb hxq
          have vq0 : xq 0 = .agg #[.int .i64 N, .int .i64 T, .int .i64 L, .int .i64 W, .int .i64 S, .int .i64 R] := hxq 0 (by omega)
          have vq1 : xq 1 = .slice (some ⟨b, o, none⟩) who.length u1 := hxq 1 (by omega)
          have vq2 : xq 2 = .int .i64 (k : Nat) := hxq 2 (by omega)
          have vq3 : xq 3 = .pointer (some ⟨b, o + k, none⟩) := hxq 3 (by omega)
          have vq4 : xq 4 = .int .i64 x := hxq 4 (by omega)
          have vq5 : xq 5 = .bool false := hxq 5 (by omega)
          have vq6 : xq 6 = .bool true := hxq 6 (by omega)
          show Exit.then _ _ Exit.normal (Drawn.acts _ [(32, some (xq 6)), (31, some (xq 5)), (30, some (xq 4)), (29, some (xq 3)), (28, some (xq 2)), (27, some (xq 1)), (26, some (xq 0))]) _
          rw [vq0, vq1, vq2, vq3, vq4, vq5, vq6]
          clear hxq vq0 vq1 vq2 vq3 vq4 vq5 vq6
          clear xq
          simp only [Drawn.acts]
          go_simp
          go_at_K
          go_wp2
          go_ret
          exact ⟨ret_int hres.out.symm, bstep hb0.out (hbr.trans (hb.mono hbr.size))⟩
      · have hres := Lib.hid (SK.out his)
        have HK' : Hid (∀ W0, Calls Try.prog 20 #[.agg #[.int .i64 N, .int .i64 T, .int .i64 L, .int .i64 W, .int .i64 S, .int .i64 R], .int .i64 x] W0 fun e w' => e = .returned (.bool true) ∧ Below W0.heap.size W0 w') := Lib.hid fun W0 => by have := HK.out W0; rw [his] at this; exact this
        clear his HK
        go_wp2_with fail
        refine Drawn.wp_region_flowL 7 [Drawn.SP.is (.agg #[.int .i64 N, .int .i64 T, .int .i64 L, .int .i64 W, .int .i64 S, .int .i64 R]), Drawn.SP.is (.slice (some ⟨b, o, none⟩) who.length u1), Drawn.SP.is (.int .i64 (k : Nat)), Drawn.SP.is (.pointer (some ⟨b, o + k, none⟩)), Drawn.SP.is (.int .i64 x), Drawn.SP.is (.bool true), Drawn.SP.is (.bool false)] (by kernel_rfl) (by kernel_rfl) ?_ ?_
        · intro i hi a wq hb hev hdep
          rcases (show i = 0 ∨ i = 1 ∨ i = 2 ∨ i = 3 ∨ i = 4 ∨ i = 5 ∨ i = 6 by omega) with rfl | rfl | rfl | rfl | rfl | rfl | rfl
          · have e4 : a.tmps[4]?.getD undef = .pointer (some ⟨w.heap.size, 0, none⟩) := hev 4 rfl
            refine Drawn.wpOp_flow 26 rfl rfl rfl ?_
            obtain ⟨c0, c1, c2, c3, c4, c5⟩ := six (HA.out.below (hbr.trans (hb.mono hbr.size)))
            have e1 := (hb.cell (p := ⟨b, o + k, none⟩) (cell_lt E1.out)).trans E1.out
            clear hev hdep hb
            go_simp
            exact ⟨_, rfl, rfl, Below.refl _ _⟩
          · have e2 : a.tmps[2]?.getD undef = .slice (some ⟨b, o, none⟩) who.length u1 := hev 2 rfl
            refine Drawn.wpOp_flow 27 rfl rfl rfl ?_
            clear hev hdep hb
            go_simp
            exact ⟨_, rfl, rfl, Below.refl _ _⟩
          · have e9 : a.tmps[9]?.getD undef = .int .i64 (k : Nat) := hev 9 rfl
            refine Drawn.wpOp_flow 28 rfl rfl rfl ?_
            clear hev hdep hb
            go_simp
            exact ⟨_, rfl, rfl, Below.refl _ _⟩
          · have d1 : a.tmps[27]?.getD undef = .slice (some ⟨b, o, none⟩) who.length u1 := hdep 1 rfl
            have d2 : a.tmps[28]?.getD undef = .int .i64 (k : Nat) := hdep 2 rfl
            refine Drawn.wpOp_flow 29 rfl rfl rfl ?_
            clear hev hdep hb
            go_simp
            exact ⟨_, rfl, rfl, Below.refl _ _⟩
          · have d3 : a.tmps[29]?.getD undef = .pointer (some ⟨b, o + k, none⟩) := hdep 3 rfl
            refine Drawn.wpOp_flow 30 rfl rfl rfl ?_
            obtain ⟨c0, c1, c2, c3, c4, c5⟩ := six (HA.out.below (hbr.trans (hb.mono hbr.size)))
            have e1 := (hb.cell (p := ⟨b, o + k, none⟩) (cell_lt E1.out)).trans E1.out
            clear hev hdep hb
            go_simp
            exact ⟨_, rfl, rfl, Below.refl _ _⟩
          · have d0 : a.tmps[26]?.getD undef = .agg #[.int .i64 N, .int .i64 T, .int .i64 L, .int .i64 W, .int .i64 S, .int .i64 R] := hdep 0 rfl
            have d4 : a.tmps[30]?.getD undef = .int .i64 x := hdep 4 rfl
            refine Drawn.wpOp_flow 31 rfl rfl rfl ?_
            clear hev hdep
            go_simp
            refine (HK'.out wq).mono ?_
            rintro e w' ⟨rfl, hb'⟩
            exact ⟨_, rfl, rfl, hb'⟩
          · have d5 : a.tmps[31]?.getD undef = .bool true := hdep 5 rfl
            refine Drawn.wpOp_flow 32 rfl rfl rfl ?_
            clear hev hdep hb
            go_simp
            exact ⟨_, rfl, rfl, Below.refl _ _⟩
        · intro xq wq hb hxq
          have vq0 : xq 0 = .agg #[.int .i64 N, .int .i64 T, .int .i64 L, .int .i64 W, .int .i64 S, .int .i64 R] := hxq 0 (by omega)
          have vq1 : xq 1 = .slice (some ⟨b, o, none⟩) who.length u1 := hxq 1 (by omega)
          have vq2 : xq 2 = .int .i64 (k : Nat) := hxq 2 (by omega)
          have vq3 : xq 3 = .pointer (some ⟨b, o + k, none⟩) := hxq 3 (by omega)
          have vq4 : xq 4 = .int .i64 x := hxq 4 (by omega)
          have vq5 : xq 5 = .bool true := hxq 5 (by omega)
          have vq6 : xq 6 = .bool false := hxq 6 (by omega)
          show Exit.then _ _ Exit.normal (Drawn.acts _ [(32, some (xq 6)), (31, some (xq 5)), (30, some (xq 4)), (29, some (xq 3)), (28, some (xq 2)), (27, some (xq 1)), (26, some (xq 0))]) _
          rw [vq0, vq1, vq2, vq3, vq4, vq5, vq6]
          clear hxq vq0 vq1 vq2 vq3 vq4 vq5 vq6
          clear xq
          simp only [Drawn.acts]
          go_simp
          have hbr2 := hbr.trans (hb.mono hbr.size)
          clear hb
          go_at_K
          go_wp2
          go_roundw
          case rel => exact ⟨k + 1, by omega, by go_num, hres.out, hbr2⟩
          case measure => simp [intOf] <;> omega
    · obtain rfl : k = who.length := by omega
      have HAll := Lib.hid (AO.out fun j hj => HL.out j hj hj)
      clear HL RI AO
      go_wp2_with fail
      refine (R08.points_any A1 who u1 wr (H1.out.below hbr) (by omega)).mono ?_
      rintro e w3 ⟨X, d, rfl, _, _, hX, hb3, _⟩
      have HX := Lib.hid hX
      have hb4 := bstep hbr hb3
      have hpl : (points who).length = who.length := points_len who
      clear hX hb3
      go_wp2_with fail
      have C := R03.unlike_any X (points who) d w3 HX.out (by omega)
      rw [hpl] at C
      rcases hu : unl (points who) with _ | _
      · have hres := Lib.hid (RT.out HAll.out hu)
        rw [hu] at C
        clear hu
        refine C.mono ?_
        clear C
        rintro e w4 ⟨rfl, hq⟩
        have hb5 := bstep hb4 (bquiet hq)
        clear hq hb4
        go_wp2
        go_ret
        exact ⟨ret_int hres.out.symm, bstep hb0.out hb5⟩
      have HU := Lib.hid hu
      rw [hu] at C
      clear hu hpl
      refine C.mono ?_
      clear C
      rintro e w4 ⟨rfl, hq⟩
      have hb5 := bstep hb4 (bquiet hq)
      clear hq hb4
      obtain ⟨c0, c1, c2, c3, c4, c5⟩ := six (HA.out.below hb5)
      by_cases hfew : (who.length : Int) < T + L
      · have hres := Lib.hid (RF.out HAll.out HU.out (by rw [HTL.out]; exact hfew))
        go_wp2
        go_ret
        exact ⟨ret_int hres.out.symm, bstep hb0.out hb5⟩
      have HFW := Lib.hid (show ¬ (who.length : Int) < q.T + q.L by rw [HTL.out]; exact hfew)
      by_cases hform : sh.length = who.length
      · have hne : ((sh.length : Int) != (who.length : Int)) = false := by rw [hform]; simp
        have HFM := Lib.hid (show ¬ sh.length ≠ who.length from fun h => h hform)
        clear hform
        go_wp2
        clear c0 c1 c2 c3 c4 c5
        clear hne hfew
        go_loopw [10] (fun i wr => ∃ k : Nat, k ≤ sh.length ∧ i = .int .i64 k ∧ (∀ j, (hj : j < sh.length) → j < k → sh[j].length = n) ∧ Below w4.heap.size w4 wr) (fun i _ => sh.length - (intOf i).toNat)
        case atStart => exact ⟨0, Nat.zero_le _, rfl, fun j _ h => by omega, Below.refl _ _⟩
        case round =>
          clear hbr
          obtain ⟨k, hk, rfl, hall, hbr⟩ := hrel
          rename World => wx
          have HL := Lib.hid hall
          clear hall
          by_cases hlt : k < sh.length
          · obtain ⟨b2, o2, B, d, rfl, e1, _, _, _⟩ := (H2.out.below (bstep hb5 hbr)).row hlt
            have SK : Hid (sh[k].length = n → ∀ j, (hj : j < sh.length) → j < k + 1 → sh[j].length = n) := Lib.hid fun h j hj hjk => by
              by_cases e : j = k
              · subst e; exact h
              · exact HL.out j hj (by omega)
            have RK : Hid (sh[k].length ≠ n → rcheck q size who sh = 3) := Lib.hid fun h => RR.out HAll.out HU.out HFW.out HFM.out k hlt (by rw [← HN.out]; exact h)
            generalize sh[k].length = l at *
            have E1 := Lib.hid e1
            clear e1
            by_cases hl : l = n
            · have hres := Lib.hid (SK.out hl)
              have hne : ((l : Int) != (n : Int)) = false := by rw [hl]; simp
              clear hl
              go_wp2_with fail
              refine Drawn.wp_region_flowL 9 [Drawn.SP.is (.slice (some ⟨b2, o2, none⟩) sh.length u2), Drawn.SP.is (.int .i64 (k : Nat)), Drawn.SP.is (.pointer (some ⟨b2, o2 + k, none⟩)), Drawn.SP.is (.slice B l d), Drawn.SP.is (.int .i64 (l : Nat)), Drawn.SP.is (.agg #[.int .i64 N, .int .i64 T, .int .i64 L, .int .i64 W, .int .i64 S, .int .i64 R]), Drawn.SP.is (.int .i64 size), Drawn.SP.is (.int .i64 (n : Nat)), Drawn.SP.is (.bool false)] (by kernel_rfl) (by kernel_rfl) ?_ ?_
              · intro i hi a wq hb hev hdep
                rcases (show i = 0 ∨ i = 1 ∨ i = 2 ∨ i = 3 ∨ i = 4 ∨ i = 5 ∨ i = 6 ∨ i = 7 ∨ i = 8 by omega) with rfl | rfl | rfl | rfl | rfl | rfl | rfl | rfl | rfl
                · have e3 : a.tmps[3]?.getD undef = .slice (some ⟨b2, o2, none⟩) sh.length u2 := hev 3 rfl
                  refine Drawn.wpOp_flow 56 rfl rfl rfl ?_
                  clear hev hdep hb
                  go_simp
                  exact ⟨_, rfl, rfl, Below.refl _ _⟩
                · have e10 : a.tmps[10]?.getD undef = .int .i64 (k : Nat) := hev 10 rfl
                  refine Drawn.wpOp_flow 57 rfl rfl rfl ?_
                  clear hev hdep hb
                  go_simp
                  exact ⟨_, rfl, rfl, Below.refl _ _⟩
                · have d0 : a.tmps[56]?.getD undef = .slice (some ⟨b2, o2, none⟩) sh.length u2 := hdep 0 rfl
                  have d1 : a.tmps[57]?.getD undef = .int .i64 (k : Nat) := hdep 1 rfl
                  refine Drawn.wpOp_flow 58 rfl rfl rfl ?_
                  clear hev hdep hb
                  go_simp
                  exact ⟨_, rfl, rfl, Below.refl _ _⟩
                · have d2 : a.tmps[58]?.getD undef = .pointer (some ⟨b2, o2 + k, none⟩) := hdep 2 rfl
                  refine Drawn.wpOp_flow 59 rfl rfl rfl ?_
                  obtain ⟨c0, c1, c2, c3, c4, c5⟩ := six (HA.out.below ((bstep hb5 hbr).trans (hb.mono (bstep hb5 hbr).size)))
                  have e1 := (hb.cell (p := ⟨b2, o2 + k, none⟩) (cell_lt E1.out)).trans E1.out
                  clear hev hdep hb
                  go_simp
                  exact ⟨_, rfl, rfl, Below.refl _ _⟩
                · have d3 : a.tmps[59]?.getD undef = .slice B l d := hdep 3 rfl
                  refine Drawn.wpOp_flow 60 rfl rfl rfl ?_
                  clear hev hdep hb
                  go_simp
                  exact ⟨_, rfl, rfl, Below.refl _ _⟩
                · have e4 : a.tmps[4]?.getD undef = .pointer (some ⟨w.heap.size, 0, none⟩) := hev 4 rfl
                  refine Drawn.wpOp_flow 61 rfl rfl rfl ?_
                  obtain ⟨c0, c1, c2, c3, c4, c5⟩ := six (HA.out.below ((bstep hb5 hbr).trans (hb.mono (bstep hb5 hbr).size)))
                  have e1 := (hb.cell (p := ⟨b2, o2 + k, none⟩) (cell_lt E1.out)).trans E1.out
                  clear hev hdep hb
                  go_simp
                  exact ⟨_, rfl, rfl, Below.refl _ _⟩
                · have e1 : a.tmps[1]?.getD undef = .int .i64 size := hev 1 rfl
                  refine Drawn.wpOp_flow 62 rfl rfl rfl ?_
                  clear hev hdep hb
                  go_simp
                  exact ⟨_, rfl, rfl, Below.refl _ _⟩
                · have d5 : a.tmps[61]?.getD undef = .agg #[.int .i64 N, .int .i64 T, .int .i64 L, .int .i64 W, .int .i64 S, .int .i64 R] := hdep 5 rfl
                  have d6 : a.tmps[62]?.getD undef = .int .i64 size := hdep 6 rfl
                  refine Drawn.wpOp_flow 63 rfl rfl rfl ?_
                  clear hev hdep
                  go_simp
                  refine (H5.out wq).mono ?_
                  rintro e w' ⟨rfl, hb'⟩
                  exact ⟨_, rfl, rfl, hb'⟩
                · have d4 : a.tmps[60]?.getD undef = .int .i64 (l : Nat) := hdep 4 rfl
                  have d7 : a.tmps[63]?.getD undef = .int .i64 (n : Nat) := hdep 7 rfl
                  refine Drawn.wpOp_flow 64 rfl rfl rfl ?_
                  clear hev hdep hb
                  go_simp
                  exact ⟨_, rfl, rfl, Below.refl _ _⟩
              · intro xq wq hb hxq
                have vq0 : xq 0 = .slice (some ⟨b2, o2, none⟩) sh.length u2 := hxq 0 (by omega)
                have vq1 : xq 1 = .int .i64 (k : Nat) := hxq 1 (by omega)
                have vq2 : xq 2 = .pointer (some ⟨b2, o2 + k, none⟩) := hxq 2 (by omega)
                have vq3 : xq 3 = .slice B l d := hxq 3 (by omega)
                have vq4 : xq 4 = .int .i64 (l : Nat) := hxq 4 (by omega)
                have vq5 : xq 5 = .agg #[.int .i64 N, .int .i64 T, .int .i64 L, .int .i64 W, .int .i64 S, .int .i64 R] := hxq 5 (by omega)
                have vq6 : xq 6 = .int .i64 size := hxq 6 (by omega)
                have vq7 : xq 7 = .int .i64 (n : Nat) := hxq 7 (by omega)
                have vq8 : xq 8 = .bool false := hxq 8 (by omega)
                show Exit.then _ _ Exit.normal (Drawn.acts _ [(64, some (xq 8)), (63, some (xq 7)), (62, some (xq 6)), (61, some (xq 5)), (60, some (xq 4)), (59, some (xq 3)), (58, some (xq 2)), (57, some (xq 1)), (56, some (xq 0))]) _
                rw [vq0, vq1, vq2, vq3, vq4, vq5, vq6, vq7, vq8]
                clear hxq vq0 vq1 vq2 vq3 vq4 vq5 vq6 vq7 vq8
                clear xq
                simp only [Drawn.acts]
                go_simp
                have hbr2 := hbr.trans (hb.mono hbr.size)
                clear hb hne
                go_at_K
                go_wp2
                go_roundw
                case rel => exact ⟨k + 1, by omega, by go_num, hres.out, hbr2⟩
                case measure => simp [intOf] <;> omega
            · have hres := Lib.hid (RK.out hl)
              have hne : ((l : Int) != (n : Int)) = true := by rw [bne_iff_ne]; omega
              clear hl
              go_wp2_with fail
              refine Drawn.wp_region_flowL 9 [Drawn.SP.is (.slice (some ⟨b2, o2, none⟩) sh.length u2), Drawn.SP.is (.int .i64 (k : Nat)), Drawn.SP.is (.pointer (some ⟨b2, o2 + k, none⟩)), Drawn.SP.is (.slice B l d), Drawn.SP.is (.int .i64 (l : Nat)), Drawn.SP.is (.agg #[.int .i64 N, .int .i64 T, .int .i64 L, .int .i64 W, .int .i64 S, .int .i64 R]), Drawn.SP.is (.int .i64 size), Drawn.SP.is (.int .i64 (n : Nat)), Drawn.SP.is (.bool true)] (by kernel_rfl) (by kernel_rfl) ?_ ?_
              · intro i hi a wq hb hev hdep
                rcases (show i = 0 ∨ i = 1 ∨ i = 2 ∨ i = 3 ∨ i = 4 ∨ i = 5 ∨ i = 6 ∨ i = 7 ∨ i = 8 by omega) with rfl | rfl | rfl | rfl | rfl | rfl | rfl | rfl | rfl
                · have e3 : a.tmps[3]?.getD undef = .slice (some ⟨b2, o2, none⟩) sh.length u2 := hev 3 rfl
                  refine Drawn.wpOp_flow 56 rfl rfl rfl ?_
                  clear hev hdep hb
                  go_simp
                  exact ⟨_, rfl, rfl, Below.refl _ _⟩
                · have e10 : a.tmps[10]?.getD undef = .int .i64 (k : Nat) := hev 10 rfl
                  refine Drawn.wpOp_flow 57 rfl rfl rfl ?_
                  clear hev hdep hb
                  go_simp
                  exact ⟨_, rfl, rfl, Below.refl _ _⟩
                · have d0 : a.tmps[56]?.getD undef = .slice (some ⟨b2, o2, none⟩) sh.length u2 := hdep 0 rfl
                  have d1 : a.tmps[57]?.getD undef = .int .i64 (k : Nat) := hdep 1 rfl
                  refine Drawn.wpOp_flow 58 rfl rfl rfl ?_
                  clear hev hdep hb
                  go_simp
                  exact ⟨_, rfl, rfl, Below.refl _ _⟩
                · have d2 : a.tmps[58]?.getD undef = .pointer (some ⟨b2, o2 + k, none⟩) := hdep 2 rfl
                  refine Drawn.wpOp_flow 59 rfl rfl rfl ?_
                  obtain ⟨c0, c1, c2, c3, c4, c5⟩ := six (HA.out.below ((bstep hb5 hbr).trans (hb.mono (bstep hb5 hbr).size)))
                  have e1 := (hb.cell (p := ⟨b2, o2 + k, none⟩) (cell_lt E1.out)).trans E1.out
                  clear hev hdep hb
                  go_simp
                  exact ⟨_, rfl, rfl, Below.refl _ _⟩
                · have d3 : a.tmps[59]?.getD undef = .slice B l d := hdep 3 rfl
                  refine Drawn.wpOp_flow 60 rfl rfl rfl ?_
                  clear hev hdep hb
                  go_simp
                  exact ⟨_, rfl, rfl, Below.refl _ _⟩
                · have e4 : a.tmps[4]?.getD undef = .pointer (some ⟨w.heap.size, 0, none⟩) := hev 4 rfl
                  refine Drawn.wpOp_flow 61 rfl rfl rfl ?_
                  obtain ⟨c0, c1, c2, c3, c4, c5⟩ := six (HA.out.below ((bstep hb5 hbr).trans (hb.mono (bstep hb5 hbr).size)))
                  have e1 := (hb.cell (p := ⟨b2, o2 + k, none⟩) (cell_lt E1.out)).trans E1.out
                  clear hev hdep hb
                  go_simp
                  exact ⟨_, rfl, rfl, Below.refl _ _⟩
                · have e1 : a.tmps[1]?.getD undef = .int .i64 size := hev 1 rfl
                  refine Drawn.wpOp_flow 62 rfl rfl rfl ?_
                  clear hev hdep hb
                  go_simp
                  exact ⟨_, rfl, rfl, Below.refl _ _⟩
                · have d5 : a.tmps[61]?.getD undef = .agg #[.int .i64 N, .int .i64 T, .int .i64 L, .int .i64 W, .int .i64 S, .int .i64 R] := hdep 5 rfl
                  have d6 : a.tmps[62]?.getD undef = .int .i64 size := hdep 6 rfl
                  refine Drawn.wpOp_flow 63 rfl rfl rfl ?_
                  clear hev hdep
                  go_simp
                  refine (H5.out wq).mono ?_
                  rintro e w' ⟨rfl, hb'⟩
                  exact ⟨_, rfl, rfl, hb'⟩
                · have d4 : a.tmps[60]?.getD undef = .int .i64 (l : Nat) := hdep 4 rfl
                  have d7 : a.tmps[63]?.getD undef = .int .i64 (n : Nat) := hdep 7 rfl
                  refine Drawn.wpOp_flow 64 rfl rfl rfl ?_
                  clear hev hdep hb
                  go_simp
                  exact ⟨_, rfl, rfl, Below.refl _ _⟩
              · intro xq wq hb hxq
                have vq0 : xq 0 = .slice (some ⟨b2, o2, none⟩) sh.length u2 := hxq 0 (by omega)
                have vq1 : xq 1 = .int .i64 (k : Nat) := hxq 1 (by omega)
                have vq2 : xq 2 = .pointer (some ⟨b2, o2 + k, none⟩) := hxq 2 (by omega)
                have vq3 : xq 3 = .slice B l d := hxq 3 (by omega)
                have vq4 : xq 4 = .int .i64 (l : Nat) := hxq 4 (by omega)
                have vq5 : xq 5 = .agg #[.int .i64 N, .int .i64 T, .int .i64 L, .int .i64 W, .int .i64 S, .int .i64 R] := hxq 5 (by omega)
                have vq6 : xq 6 = .int .i64 size := hxq 6 (by omega)
                have vq7 : xq 7 = .int .i64 (n : Nat) := hxq 7 (by omega)
                have vq8 : xq 8 = .bool true := hxq 8 (by omega)
                show Exit.then _ _ Exit.normal (Drawn.acts _ [(64, some (xq 8)), (63, some (xq 7)), (62, some (xq 6)), (61, some (xq 5)), (60, some (xq 4)), (59, some (xq 3)), (58, some (xq 2)), (57, some (xq 1)), (56, some (xq 0))]) _
                rw [vq0, vq1, vq2, vq3, vq4, vq5, vq6, vq7, vq8]
                clear hxq vq0 vq1 vq2 vq3 vq4 vq5 vq6 vq7 vq8
                clear xq
                simp only [Drawn.acts]
                go_simp
                go_at_K
                go_wp2
                go_ret
                exact ⟨ret_int hres.out.symm, bstep hb0.out (bstep hb5 (hbr.trans (hb.mono hbr.size)))⟩
          · obtain rfl : k = sh.length := by omega
            have hres := Lib.hid (RO.out HAll.out HU.out HFW.out HFM.out fun j hj => by rw [← HN.out]; exact HL.out j hj hj)
            go_wp2
            go_ret
            exact ⟨ret_int hres.out.symm, bstep hb0.out (bstep hb5 hbr)⟩
      · have hne : ((sh.length : Int) != (who.length : Int)) = true := by rw [bne_iff_ne]; omega
        have hres := Lib.hid (RM.out HAll.out HU.out (by have := HFW.out; omega) hform)
        clear hform
        go_wp2
        go_ret
        exact ⟨ret_int hres.out.symm, bstep hb0.out hb5⟩
theorem check_any (N T L W S R size : Int) (A1 A2 : Option Addr) (who : List Int) (sh : List (List UInt8)) (u1 u2 : Nat) (w : World) (hp : (⟨N, T, L, W, S, R⟩ : P).In) (h1 : IntsAt w A1 who) (h2 : RowsAt w A2 sh) (hw : who.length ≤ 1048576) (hsl : sh.length ≤ 1048576) :
    Calls Try.prog 11 #[.agg #[.int .i64 N, .int .i64 T, .int .i64 L, .int .i64 W, .int .i64 S, .int .i64 R], .int .i64 size, .slice A1 who.length u1, .slice A2 sh.length u2] w fun e w' => e = .returned (.int .i64 (rcheck ⟨N, T, L, W, S, R⟩ size who sh)) ∧ Below w.heap.size w w' := by
  rcases hr : (⟨N, T, L, W, S, R⟩ : P).right with _ | _
  · exact check_arg N T L W S R size A1 A2 who sh u1 u2 w hp hr
  · by_cases hs : size < 0 ∨ 240 < size
    · exact check_size N T L W S R size A1 A2 who sh u1 u2 w hp hr hs
    · exact check_all N T L W S R size A1 A2 who sh u1 u2 w hp h1 h2 hw hsl hr hs
end Go.Proofs.Ytcnhfbahnbnnlaa.R11
