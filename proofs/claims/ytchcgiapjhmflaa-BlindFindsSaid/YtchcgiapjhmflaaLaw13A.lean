/- the walk of BlindFinds -/
import Derived.Test.YtchcgiapjhmflaaLaw13
set_option maxRecDepth 100000
namespace Go.Proofs.Ytchcgiapjhmflaa.Law13
open Go.RowKit PlanM StripeM LagrM DealM RebM ZeroM Law08 Law10

structure Lies4 (w : World) (g : Nat) (N T L W S R : Int) (p0 p1 p2 p3 : Value) : Prop where
  plan : PlanLies w g N T L W S R
  a0 : w.cell? ⟨g + 1, 0, none⟩ = some p0
  a1 : w.cell? ⟨g + 1, 1, none⟩ = some p1
  a2 : w.cell? ⟨g + 1, 2, none⟩ = some p2
  a3 : w.cell? ⟨g + 1, 3, none⟩ = some p3
section
variable {w w' : World} {g : Nat} {N T L W S R : Int} {p0 p1 p2 p3 : Value}
theorem Lies4.below (h : Lies4 w g N T L W S R p0 p1 p2 p3) (hb : Below w.heap.size w w') : Lies4 w' g N T L W S R p0 p1 p2 p3 :=
  ⟨h.plan.below hb, (hb.cell (p := ⟨g + 1, 0, none⟩) (cell_lt h.a0)).trans h.a0, (hb.cell (p := ⟨g + 1, 1, none⟩) (cell_lt h.a1)).trans h.a1, (hb.cell (p := ⟨g + 1, 2, none⟩) (cell_lt h.a2)).trans h.a2, (hb.cell (p := ⟨g + 1, 3, none⟩) (cell_lt h.a3)).trans h.a3⟩
theorem Lies4.ten (h : Lies4 w g N T L W S R p0 p1 p2 p3) : (w.cell? ⟨g, 0, none⟩ = some (.int .i64 N) ∧ w.cell? ⟨g, 1, none⟩ = some (.int .i64 T) ∧ w.cell? ⟨g, 2, none⟩ = some (.int .i64 L) ∧ w.cell? ⟨g, 3, none⟩ = some (.int .i64 W) ∧ w.cell? ⟨g, 4, none⟩ = some (.int .i64 S) ∧ w.cell? ⟨g, 5, none⟩ = some (.int .i64 R)) ∧
    w.cell? ⟨g + 1, 0, none⟩ = some p0 ∧ w.cell? ⟨g + 1, 1, none⟩ = some p1 ∧ w.cell? ⟨g + 1, 2, none⟩ = some p2 ∧ w.cell? ⟨g + 1, 3, none⟩ = some p3 := ⟨six h.plan, h.a0, h.a1, h.a2, h.a3⟩
end
theorem lies4_aux (w : World) (g : Nat) (hg : w.heap.size = g + 1) (N T L W S R : Int) (p0 p1 p2 p3 : Value) (t : TypeId) (h : PlanLies w g N T L W S R) : Lies4 (w.alloc (.cells #[p0, p1, p2, p3] t)) g N T L W S R p0 p1 p2 p3 := by
  have a0 : (w.alloc (.cells #[p0, p1, p2, p3] t)).cell? ⟨w.heap.size, 0, none⟩ = some p0 := by simp
  have a1 : (w.alloc (.cells #[p0, p1, p2, p3] t)).cell? ⟨w.heap.size, 1, none⟩ = some p1 := by simp
  have a2 : (w.alloc (.cells #[p0, p1, p2, p3] t)).cell? ⟨w.heap.size, 2, none⟩ = some p2 := by simp
  have a3 : (w.alloc (.cells #[p0, p1, p2, p3] t)).cell? ⟨w.heap.size, 3, none⟩ = some p3 := by simp
  rw [hg] at a0 a1 a2 a3
  exact ⟨h.below (balloc _ _), a0, a1, a2, a3⟩
theorem Lies4.new (w : World) (N T L W S R : Int) (p0 p1 p2 p3 : Value) (t : TypeId) : Lies4 ((w.alloc (.cells #[.int .i64 N, .int .i64 T, .int .i64 L, .int .i64 W, .int .i64 S, .int .i64 R] 23)).alloc (.cells #[p0, p1, p2, p3] t)) w.heap.size N T L W S R p0 p1 p2 p3 :=
  lies4_aux (w.alloc (.cells #[.int .i64 N, .int .i64 T, .int .i64 L, .int .i64 W, .int .i64 S, .int .i64 R] 23)) w.heap.size (by simp) N T L W S R p0 p1 p2 p3 t (PlanLies.new w N T L W S R)
def SP.bE (l : List UInt8) (n : Nat) (r : Int) : Drawn.SP := ⟨fun v w => ∃ X d, v = .tuple #[.slice X n d, .int .i64 r] ∧ BytesAt w X l, fun _ _ _ h hb => by
  obtain ⟨X, d, h1, h2⟩ := h; exact ⟨X, d, h1, h2.below hb⟩⟩

set_option maxHeartbeats 1000000 in
theorem finds_heavy (N T L W S R n t : Int) (A1 A2 : Option Addr) (who : List Int) (sh : List (List UInt8)) (u1 u2 : Nat) (w : World) (_hp : (⟨N, T, L, W, S, R⟩ : P).In) (_hn : In64 n) (_ht0 : In64 t) (hl : ¬ (N ≤ 12 ∧ L ≤ 12 ∧ T ≤ 12)) :
    Calls Try.prog 4 #[.agg #[.int .i64 N, .int .i64 T, .int .i64 L, .int .i64 W, .int .i64 S, .int .i64 R], .agg #[.int .i64 n, .int .i64 t, .slice A1 who.length u1, .slice A2 sh.length u2]] w fun e w' => e = .returned (.bool true) ∧ Below w.heap.size w w' := by
  have K0 := fun w => Law10.light_any N T L W S R w
  rw [decide_eq_false hl] at K0
  have H0 := Lib.hid K0
  clear K0 hl
  have HA := Lib.hid (Lies4.new w N T L W S R (.int .i64 n) (.int .i64 t) (.slice A1 who.length u1) (.slice A2 sh.length u2) 43)
  have HB0 := Lib.hid (show Below w.heap.size w ((w.alloc (.cells #[.int .i64 N, .int .i64 T, .int .i64 L, .int .i64 W, .int .i64 S, .int .i64 R] 23)).alloc (.cells #[.int .i64 n, .int .i64 t, .slice A1 who.length u1, .slice A2 sh.length u2] 43)) from bstep (balloc _ _) (balloc _ _))
  go_enter Try.func4, Try.ntmps4
  go_wp2_with fail
  generalize (w.alloc (.cells #[.int .i64 N, .int .i64 T, .int .i64 L, .int .i64 W, .int .i64 S, .int .i64 R] 23)).alloc (.cells #[.int .i64 n, .int .i64 t, .slice A1 who.length u1, .slice A2 sh.length u2] 43) = w0 at *
  obtain ⟨⟨c0, c1, c2, c3, c4, c5⟩, a0, a1, a2, a3⟩ := HA.out.ten
  refine (H0.out _).mono ?_
  rintro e w1 ⟨rfl, hb1⟩
  clear c0 c1 c2 c3 c4 c5 a0 a1 a2 a3
  obtain ⟨⟨c0, c1, c2, c3, c4, c5⟩, a0, a1, a2, a3⟩ := (HA.out.below hb1).ten
  go_wp2_with fail
  refine (alive_any _).mono ?_
  rintro e w9 ⟨rfl, hb9⟩
  clear c0 c1 c2 c3 c4 c5 a0 a1 a2 a3
  go_wp2
  go_ret
  exact ⟨rfl, bstep HB0.out (bstep hb1 hb9)⟩

set_option maxHeartbeats 1000000 in
theorem finds_many (N T L W S R n t : Int) (A1 A2 : Option Addr) (who : List Int) (sh : List (List UInt8)) (u1 u2 : Nat) (w : World) (_hp : (⟨N, T, L, W, S, R⟩ : P).In) (_hn : In64 n) (_ht0 : In64 t) (hl : N ≤ 12 ∧ L ≤ 12 ∧ T ≤ 12) (hm : 14 < who.length) :
    Calls Try.prog 4 #[.agg #[.int .i64 N, .int .i64 T, .int .i64 L, .int .i64 W, .int .i64 S, .int .i64 R], .agg #[.int .i64 n, .int .i64 t, .slice A1 who.length u1, .slice A2 sh.length u2]] w fun e w' => e = .returned (.bool true) ∧ Below w.heap.size w w' := by
  have K0 := fun w => Law10.light_any N T L W S R w
  rw [decide_eq_true hl] at K0
  have H0 := Lib.hid K0
  clear K0 hl
  have HA := Lib.hid (Lies4.new w N T L W S R (.int .i64 n) (.int .i64 t) (.slice A1 who.length u1) (.slice A2 sh.length u2) 43)
  have HB0 := Lib.hid (show Below w.heap.size w ((w.alloc (.cells #[.int .i64 N, .int .i64 T, .int .i64 L, .int .i64 W, .int .i64 S, .int .i64 R] 23)).alloc (.cells #[.int .i64 n, .int .i64 t, .slice A1 who.length u1, .slice A2 sh.length u2] 43)) from bstep (balloc _ _) (balloc _ _))
  go_enter Try.func4, Try.ntmps4
  go_wp2_with fail
  generalize (w.alloc (.cells #[.int .i64 N, .int .i64 T, .int .i64 L, .int .i64 W, .int .i64 S, .int .i64 R] 23)).alloc (.cells #[.int .i64 n, .int .i64 t, .slice A1 who.length u1, .slice A2 sh.length u2] 43) = w0 at *
  obtain ⟨⟨c0, c1, c2, c3, c4, c5⟩, a0, a1, a2, a3⟩ := HA.out.ten
  refine (H0.out _).mono ?_
  rintro e w1 ⟨rfl, hb1⟩
  clear c0 c1 c2 c3 c4 c5 a0 a1 a2 a3
  obtain ⟨⟨c0, c1, c2, c3, c4, c5⟩, a0, a1, a2, a3⟩ := (HA.out.below hb1).ten
  go_wp2_with fail
  refine (alive_any _).mono ?_
  rintro e w9 ⟨rfl, hb9⟩
  clear c0 c1 c2 c3 c4 c5 a0 a1 a2 a3
  go_wp2
  go_ret
  exact ⟨rfl, bstep HB0.out (bstep hb1 hb9)⟩

set_option maxHeartbeats 1000000 in
theorem finds_much (N T L W S R n t : Int) (A1 A2 : Option Addr) (who : List Int) (sh : List (List UInt8)) (u1 u2 : Nat) (w : World) (_hp : (⟨N, T, L, W, S, R⟩ : P).In) (_hn : In64 n) (_ht0 : In64 t) (hl : N ≤ 12 ∧ L ≤ 12 ∧ T ≤ 12) (hm : who.length ≤ 14) (hm2 : 14 < sh.length) :
    Calls Try.prog 4 #[.agg #[.int .i64 N, .int .i64 T, .int .i64 L, .int .i64 W, .int .i64 S, .int .i64 R], .agg #[.int .i64 n, .int .i64 t, .slice A1 who.length u1, .slice A2 sh.length u2]] w fun e w' => e = .returned (.bool true) ∧ Below w.heap.size w w' := by
  have K0 := fun w => Law10.light_any N T L W S R w
  rw [decide_eq_true hl] at K0
  have H0 := Lib.hid K0
  clear K0 hl
  have HA := Lib.hid (Lies4.new w N T L W S R (.int .i64 n) (.int .i64 t) (.slice A1 who.length u1) (.slice A2 sh.length u2) 43)
  have HB0 := Lib.hid (show Below w.heap.size w ((w.alloc (.cells #[.int .i64 N, .int .i64 T, .int .i64 L, .int .i64 W, .int .i64 S, .int .i64 R] 23)).alloc (.cells #[.int .i64 n, .int .i64 t, .slice A1 who.length u1, .slice A2 sh.length u2] 43)) from bstep (balloc _ _) (balloc _ _))
  go_enter Try.func4, Try.ntmps4
  go_wp2_with fail
  generalize (w.alloc (.cells #[.int .i64 N, .int .i64 T, .int .i64 L, .int .i64 W, .int .i64 S, .int .i64 R] 23)).alloc (.cells #[.int .i64 n, .int .i64 t, .slice A1 who.length u1, .slice A2 sh.length u2] 43) = w0 at *
  obtain ⟨⟨c0, c1, c2, c3, c4, c5⟩, a0, a1, a2, a3⟩ := HA.out.ten
  refine (H0.out _).mono ?_
  rintro e w1 ⟨rfl, hb1⟩
  clear c0 c1 c2 c3 c4 c5 a0 a1 a2 a3
  obtain ⟨⟨c0, c1, c2, c3, c4, c5⟩, a0, a1, a2, a3⟩ := (HA.out.below hb1).ten
  go_wp2_with fail
  refine (alive_any _).mono ?_
  rintro e w9 ⟨rfl, hb9⟩
  clear c0 c1 c2 c3 c4 c5 a0 a1 a2 a3
  go_wp2
  go_ret
  exact ⟨rfl, bstep HB0.out (bstep hb1 hb9)⟩

set_option maxHeartbeats 8000000 in
theorem finds_main (N T L W S R n t : Int) (A1 A2 : Option Addr) (who : List Int) (sh : List (List UInt8)) (u1 u2 : Nat) (w : World) (hp : (⟨N, T, L, W, S, R⟩ : P).In) (hn : In64 n) (ht0 : In64 t) (h1 : IntsAt w A1 who) (k1 : who.length ≤ u1) (z1 : u1 ≤ maxLen) (hi : ∀ x ∈ who, In64 x) (h2 : RowsAt w A2 sh) (k2 : sh.length ≤ u2) (z2 : u2 ≤ maxLen) (hl : N ≤ 12 ∧ L ≤ 12 ∧ T ≤ 12) (hm : who.length ≤ 14) (hm2 : sh.length ≤ 14) :
    Calls Try.prog 4 #[.agg #[.int .i64 N, .int .i64 T, .int .i64 L, .int .i64 W, .int .i64 S, .int .i64 R], .agg #[.int .i64 n, .int .i64 t, .slice A1 who.length u1, .slice A2 sh.length u2]] w fun e w' => e = .returned (.bool true) ∧ Below w.heap.size w w' := by
  have K0 := fun w => Law10.light_any N T L W S R w
  rw [decide_eq_true hl] at K0
  have H0 := Lib.hid K0
  clear K0 hl
  obtain ⟨q, hq⟩ : ∃ q : P, q = ⟨N, T, L, W, S, R⟩ := ⟨_, rfl⟩
  have hpq := hp
  rw [← hq] at hpq
  have hv : q.val = .agg #[.int .i64 N, .int .i64 T, .int .i64 L, .int .i64 W, .int .i64 S, .int .i64 R] := by rw [hq]; rfl
  have K1 := fun bf w (ht : Gf.Tab w bf) (h1 : IntsAt w A1 who) (h2 : RowsAt w A2 sh) => Blind.find_any bf q n t A1 A2 who sh u1 u2 w hpq hn ht0 ht h1 k1 z1 hi h2 k2 z2 (by omega) (by omega)
  rw [hv] at K1
  have K2 := fun V => R13.check_any N T L W S R n t V hp
  rw [← hq] at K2
  have hfact : bcheck q n t = 0 → q.May := fun h => (bcheck_ok h).1
  have K3 : bcheck q n t = 0 → ∀ V, IntsAt V A1 who → RowsAt V A2 sh → Calls Try.prog 16 #[.agg #[.int .i64 N, .int .i64 T, .int .i64 L, .int .i64 W, .int .i64 S, .int .i64 R], .int .i64 n, .int .i64 t, .slice A1 who.length u1, .slice A2 sh.length u2] V fun e w' => e = .returned (.int .i64 (among q n t who sh)) ∧ Below V.heap.size V w' := fun h V g1 g2 => by
    have hM := hfact h
    rw [hq] at hM
    unfold P.May at hM
    simp only at hM
    have := R13.among_any N T L W S R n t A1 A2 who sh u1 u2 V (by omega) (by omega) g1 g2 (by omega) (by omega)
    rw [← hq] at this
    exact this
  have K4 : findE q n t who sh = 0 → ∃ (m : Nat) (fo : List UInt8), n = m ∧ findA q n t who sh = fo ∧ fo.length ≤ 240 ∧ (∀ V, IntsAt V A1 who → RowsAt V A2 sh → Calls Try.prog 17 #[.agg #[.int .i64 N, .int .i64 T, .int .i64 L, .int .i64 W, .int .i64 S, .int .i64 R], .int .i64 (m : Nat), .int .i64 t, .slice A1 who.length u1, .slice A2 sh.length u2] V (RetNew V fo)) := fun h0 => by
    have ok := find_ok h0
    have hM := ok.may
    rw [hq] at hM
    unfold P.May at hM
    simp only at hM
    have a1 := ok.n0; have a2 := ok.n1; have a3 := ok.enough; have a4 := ok.same
    obtain ⟨m, hm⟩ : ∃ m : Nat, n = m := ⟨n.toNat, by omega⟩
    have eT : q.T = T := by rw [hq]
    have eL : q.L = L := by rw [hq]
    have hne : need q ≤ who.length := by unfold need; omega
    refine ⟨m, find q m t who sh, hm, by unfold findA; rw [if_pos h0, hm, Int.toNat_natCast], by unfold find; rw [PolyM.tab_len]; omega, fun V g1 g2 => ?_⟩
    have := R13.find_any N T L W S R t A1 A2 who sh u1 u2 m V (by omega) (by omega) (by omega) g1 g2 k1 z1 (by rw [← hq]; exact hne) (by rw [← hq, a4]; exact hne) (fun i hi => by have := ok.row i hi; omega)
    rw [← hq] at this
    exact this
  have hbad : findE q n t who sh ≠ 0 → findA q n t who sh = [] := fun h => by unfold findA; rw [if_neg h]
  have hE1 : bcheck q n t ≠ 0 → findE q n t who sh = bcheck q n t := fun h => by unfold findE; rw [if_neg h]
  have hE2 : bcheck q n t = 0 → findE q n t who sh = among q n t who sh := fun h => by unfold findE; rw [if_pos h]
  obtain ⟨fo, hfo⟩ : ∃ fo, fo = findA q n t who sh := ⟨_, rfl⟩
  obtain ⟨er, her⟩ : ∃ er, er = findE q n t who sh := ⟨_, rfl⟩
  unfold Stripe.RetBytesE at K1
  rw [← hfo, ← her] at K1
  rw [← her, ← hfo] at K4 hbad
  rw [← her] at hE1 hE2
  generalize bcheck q n t = bc at *
  generalize among q n t who sh = am at *
  have H1 := Lib.hid K1; have H2 := Lib.hid K2; have H3 := Lib.hid K3; have H4 := Lib.hid K4; have H5 := Lib.hid hbad; have H6 := Lib.hid hE1; have H7 := Lib.hid hE2
  have B1 := Lib.hid h1; have B2 := Lib.hid h2
  clear K1 K2 K3 K4 hbad hE1 hE2 h1 h2 hi hp hpq hv hq hfact hn ht0 hfo her k1 k2
  have HA := Lib.hid (Lies4.new w N T L W S R (.int .i64 n) (.int .i64 t) (.slice A1 who.length u1) (.slice A2 sh.length u2) 43)
  have HB0 := Lib.hid (show Below w.heap.size w ((w.alloc (.cells #[.int .i64 N, .int .i64 T, .int .i64 L, .int .i64 W, .int .i64 S, .int .i64 R] 23)).alloc (.cells #[.int .i64 n, .int .i64 t, .slice A1 who.length u1, .slice A2 sh.length u2] 43)) from bstep (balloc _ _) (balloc _ _))
  go_enter Try.func4, Try.ntmps4
  go_wp2_with fail
  generalize (w.alloc (.cells #[.int .i64 N, .int .i64 T, .int .i64 L, .int .i64 W, .int .i64 S, .int .i64 R] 23)).alloc (.cells #[.int .i64 n, .int .i64 t, .slice A1 who.length u1, .slice A2 sh.length u2] 43) = w0 at *
  replace B1 := Lib.hid (B1.out.below HB0.out)
  replace B2 := Lib.hid (B2.out.below HB0.out)
  obtain ⟨⟨c0, c1, c2, c3, c4, c5⟩, a0, a1, a2, a3⟩ := HA.out.ten
  refine (H0.out _).mono ?_
  rintro e w1 ⟨rfl, hb1⟩
  clear c0 c1 c2 c3 c4 c5 a0 a1 a2 a3
  obtain ⟨⟨c0, c1, c2, c3, c4, c5⟩, a0, a1, a2, a3⟩ := (HA.out.below hb1).ten
  go_wp2
  clear c0 c1 c2 c3 c4 c5 a0 a1 a2 a3
  go_loopw [29] (fun i wr => ∃ k : Nat, k ≤ sh.length ∧ i = .int .i64 k ∧ Below w1.heap.size w1 wr) (fun i _ => sh.length - (intOf i).toNat)
  case atStart => exact ⟨0, Nat.zero_le _, rfl, Below.refl _ _⟩
  case round =>
    obtain ⟨k, hk, rfl, hbr⟩ := hrel
    rename World => wr
    by_cases hlt : k < sh.length
    · obtain ⟨b, o, B, d, rfl, e1, _, _, _⟩ := (B2.out.below (bstep hb1 hbr)).row hlt
      generalize sh[k].length = l at *
      by_cases hlong : 250 < l
      · go_wp2_with fail
        refine (alive_any _).mono ?_
        rintro e w9 ⟨rfl, hb9⟩
        go_wp2
        go_ret
        exact ⟨rfl, bstep HB0.out (bstep (bstep hb1 hbr) hb9)⟩
      · go_wp2
        go_roundw
        case rel => exact ⟨k + 1, by omega, by go_num, hbr⟩
        case measure => simp [intOf] <;> omega
    · obtain rfl : k = sh.length := by omega
      have hb2 := bstep hb1 hbr
      clear hb1 hbr
      go_wp2_with fail
      refine Drawn.wp_region_flowL 16 [Drawn.SP.tab, Drawn.SP.is (.agg #[.int .i64 N, .int .i64 T, .int .i64 L, .int .i64 W, .int .i64 S, .int .i64 R]), Drawn.SP.is (.pointer (some ⟨w.heap.size + 1, 0, none⟩)), Drawn.SP.is (.int .i64 n), Drawn.SP.is (.pointer (some ⟨w.heap.size + 1, 1, none⟩)), Drawn.SP.is (.int .i64 t), Drawn.SP.is (.pointer (some ⟨w.heap.size + 1, 2, none⟩)), Drawn.SP.is (.slice A1 who.length u1), Drawn.SP.is (.pointer (some ⟨w.heap.size + 1, 3, none⟩)), Drawn.SP.is (.slice A2 sh.length u2), SP.bE fo fo.length er, SP.bE fo fo.length er, SP.bn fo fo.length, Drawn.SP.is (.int .i64 er), SP.bn fo fo.length, Drawn.SP.is (.int .i64 er)] (by kernel_rfl) (by kernel_rfl) ?_ ?_
      · intro i hi a wq hb hev hdep
        rcases (show i = 0 ∨ i = 1 ∨ i = 2 ∨ i = 3 ∨ i = 4 ∨ i = 5 ∨ i = 6 ∨ i = 7 ∨ i = 8 ∨ i = 9 ∨ i = 10 ∨ i = 11 ∨ i = 12 ∨ i = 13 ∨ i = 14 ∨ i = 15 by omega) with rfl | rfl | rfl | rfl | rfl | rfl | rfl | rfl | rfl | rfl | rfl | rfl | rfl | rfl | rfl | rfl
        · refine Drawn.wpOp_flow 39 rfl rfl rfl ?_
          clear hev hdep
          clear hb
          go_simp
          refine (Gf.new_any wq).mono ?_
          rintro e w' ⟨rfl, ht, hb', _⟩
          exact ⟨_, rfl, ⟨_, rfl, ht⟩, hb'⟩
        · have e2 : a.tmps[2]?.getD undef = .pointer (some ⟨w.heap.size, 0, none⟩) := hev 2 rfl
          refine Drawn.wpOp_flow 40 rfl rfl rfl ?_
          obtain ⟨⟨c0, c1, c2, c3, c4, c5⟩, a0, a1, a2, a3⟩ := (HA.out.below (bstep hb2 hb)).ten
          clear hev hdep hb
          go_simp
          exact ⟨_, rfl, rfl, Below.refl _ _⟩
        · have e3 : a.tmps[3]?.getD undef = .pointer (some ⟨w.heap.size + 1, 0, none⟩) := hev 3 rfl
          refine Drawn.wpOp_flow 41 rfl rfl rfl ?_
          clear hev hdep hb
          go_simp
          exact ⟨_, rfl, rfl, Below.refl _ _⟩
        · have d2 : a.tmps[41]?.getD undef = .pointer (some ⟨w.heap.size + 1, 0, none⟩) := hdep 2 rfl
          refine Drawn.wpOp_flow 42 rfl rfl rfl ?_
          obtain ⟨⟨c0, c1, c2, c3, c4, c5⟩, a0, a1, a2, a3⟩ := (HA.out.below (bstep hb2 hb)).ten
          clear hev hdep hb
          go_simp
          exact ⟨_, rfl, rfl, Below.refl _ _⟩
        · have e3 : a.tmps[3]?.getD undef = .pointer (some ⟨w.heap.size + 1, 0, none⟩) := hev 3 rfl
          refine Drawn.wpOp_flow 43 rfl rfl rfl ?_
          clear hev hdep hb
          go_simp
          exact ⟨_, rfl, rfl, Below.refl _ _⟩
        · have d4 : a.tmps[43]?.getD undef = .pointer (some ⟨w.heap.size + 1, 1, none⟩) := hdep 4 rfl
          refine Drawn.wpOp_flow 44 rfl rfl rfl ?_
          obtain ⟨⟨c0, c1, c2, c3, c4, c5⟩, a0, a1, a2, a3⟩ := (HA.out.below (bstep hb2 hb)).ten
          clear hev hdep hb
          go_simp
          exact ⟨_, rfl, rfl, Below.refl _ _⟩
        · have e3 : a.tmps[3]?.getD undef = .pointer (some ⟨w.heap.size + 1, 0, none⟩) := hev 3 rfl
          refine Drawn.wpOp_flow 45 rfl rfl rfl ?_
          clear hev hdep hb
          go_simp
          exact ⟨_, rfl, rfl, Below.refl _ _⟩
        · have d6 : a.tmps[45]?.getD undef = .pointer (some ⟨w.heap.size + 1, 2, none⟩) := hdep 6 rfl
          refine Drawn.wpOp_flow 46 rfl rfl rfl ?_
          obtain ⟨⟨c0, c1, c2, c3, c4, c5⟩, a0, a1, a2, a3⟩ := (HA.out.below (bstep hb2 hb)).ten
          clear hev hdep hb
          go_simp
          exact ⟨_, rfl, rfl, Below.refl _ _⟩
        · have e3 : a.tmps[3]?.getD undef = .pointer (some ⟨w.heap.size + 1, 0, none⟩) := hev 3 rfl
          refine Drawn.wpOp_flow 47 rfl rfl rfl ?_
          clear hev hdep hb
          go_simp
          exact ⟨_, rfl, rfl, Below.refl _ _⟩
        · have d8 : a.tmps[47]?.getD undef = .pointer (some ⟨w.heap.size + 1, 3, none⟩) := hdep 8 rfl
          refine Drawn.wpOp_flow 48 rfl rfl rfl ?_
          obtain ⟨⟨c0, c1, c2, c3, c4, c5⟩, a0, a1, a2, a3⟩ := (HA.out.below (bstep hb2 hb)).ten
          clear hev hdep hb
          go_simp
          exact ⟨_, rfl, rfl, Below.refl _ _⟩
        · obtain ⟨bf, d0, ht⟩ : (Drawn.SP.tab).p (a.tmps[39]?.getD undef) wq := hdep 0 rfl
          have d1 : a.tmps[40]?.getD undef = .agg #[.int .i64 N, .int .i64 T, .int .i64 L, .int .i64 W, .int .i64 S, .int .i64 R] := hdep 1 rfl
          have d3 : a.tmps[42]?.getD undef = .int .i64 n := hdep 3 rfl
          have d5 : a.tmps[44]?.getD undef = .int .i64 t := hdep 5 rfl
          have d7 : a.tmps[46]?.getD undef = .slice A1 who.length u1 := hdep 7 rfl
          have d9 : a.tmps[48]?.getD undef = .slice A2 sh.length u2 := hdep 9 rfl
          refine Drawn.wpOp_flow 49 rfl rfl rfl ?_
          clear hev hdep
          have C := H1.out bf wq ht (B1.out.below (bstep hb2 hb)) (B2.out.below (bstep hb2 hb))
          clear hb ht
          go_simp
          refine C.mono ?_
          rintro e w' ⟨X, f, rfl, g1, g2, g3, hb', _⟩
          exact ⟨_, rfl, ⟨X, f, rfl, g3⟩, hb'⟩
        · have d10 := hdep 10 rfl
          refine Drawn.wpOp_flow 38 rfl rfl rfl ?_
          clear hev hdep hb
          go_simp
          exact ⟨_, rfl, d10, Below.refl _ _⟩
        · obtain ⟨Z, dz, d11, z1⟩ : (SP.bE fo fo.length er).p (a.tmps[38]?.getD undef) wq := hdep 11 rfl
          refine Drawn.wpOp_flow 50 rfl rfl rfl ?_
          clear hev hdep
          clear hb
          go_simp
          exact ⟨_, rfl, ⟨Z, dz, rfl, z1⟩, Below.refl _ _⟩
        · obtain ⟨Z, dz, d11, z1⟩ : (SP.bE fo fo.length er).p (a.tmps[38]?.getD undef) wq := hdep 11 rfl
          refine Drawn.wpOp_flow 51 rfl rfl rfl ?_
          clear hev hdep hb
          go_simp
          exact ⟨_, rfl, rfl, Below.refl _ _⟩
        · have d12 := hdep 12 rfl
          refine Drawn.wpOp_flow 7 rfl rfl rfl ?_
          clear hev hdep hb
          go_simp
          exact ⟨_, rfl, d12, Below.refl _ _⟩
        · have d13 : a.tmps[51]?.getD undef = .int .i64 er := hdep 13 rfl
          refine Drawn.wpOp_flow 8 rfl rfl rfl ?_
          clear hev hdep hb
          go_simp
          exact ⟨_, rfl, rfl, Below.refl _ _⟩
      · intro xq wq hb hxq
        have vq1 : xq 1 = .agg #[.int .i64 N, .int .i64 T, .int .i64 L, .int .i64 W, .int .i64 S, .int .i64 R] := hxq 1 (by omega)
        have vq2 : xq 2 = .pointer (some ⟨w.heap.size + 1, 0, none⟩) := hxq 2 (by omega)
        have vq3 : xq 3 = .int .i64 n := hxq 3 (by omega)
        have vq4 : xq 4 = .pointer (some ⟨w.heap.size + 1, 1, none⟩) := hxq 4 (by omega)
        have vq5 : xq 5 = .int .i64 t := hxq 5 (by omega)
        have vq6 : xq 6 = .pointer (some ⟨w.heap.size + 1, 2, none⟩) := hxq 6 (by omega)
        have vq7 : xq 7 = .slice A1 who.length u1 := hxq 7 (by omega)
        have vq8 : xq 8 = .pointer (some ⟨w.heap.size + 1, 3, none⟩) := hxq 8 (by omega)
        have vq9 : xq 9 = .slice A2 sh.length u2 := hxq 9 (by omega)
        have vq13 : xq 13 = .int .i64 er := hxq 13 (by omega)
        obtain ⟨Z, dz, vq14, z1⟩ : (SP.bn fo fo.length).p (xq 14) wq := hxq 14 (by omega)
        have vq15 : xq 15 = .int .i64 er := hxq 15 (by omega)
        show Exit.then _ _ Exit.normal (Drawn.acts _ [(8, some (xq 15)), (7, some (xq 14)), (51, some (xq 13)), (50, some (xq 12)), (38, some (xq 11)), (49, some (xq 10)), (48, some (xq 9)), (47, some (xq 8)), (46, some (xq 7)), (45, some (xq 6)), (44, some (xq 5)), (43, some (xq 4)), (42, some (xq 3)), (41, some (xq 2)), (40, some (xq 1)), (39, some (xq 0))]) _
        rw [vq1, vq2, vq3, vq4, vq5, vq6, vq7, vq8, vq9, vq13, vq14, vq15]
        clear hxq vq1 vq2 vq3 vq4 vq5 vq6 vq7 vq8 vq9 vq13 vq14 vq15
        generalize xq 0 = yq0
        generalize xq 10 = yq10
        generalize xq 11 = yq11
        generalize xq 12 = yq12
        clear xq
        simp only [Drawn.acts]
        go_simp
        have hb3 := bstep hb2 hb
        have HZ := Lib.hid z1
        clear hb2 hb z1
        obtain ⟨⟨c0, c1, c2, c3, c4, c5⟩, a0, a1, a2, a3⟩ := (HA.out.below hb3).ten
        go_wp2_with fail
        refine (H2.out _).mono ?_
        rintro e w4 ⟨rfl, hb4'⟩
        have hb4 := bstep hb3 hb4'
        have HZ4 := Lib.hid (HZ.out.below hb4')
        clear c0 c1 c2 c3 c4 c5 a0 a1 a2 a3
        clear hb3 hb4'
        by_cases hc : bc = 0
        · have KA := H3.out hc w4 (B1.out.below hb4) (B2.out.below hb4)
          have hea := H7.out hc
          have HKA := Lib.hid KA
          have hbb : (bc == 0) = true := by rw [hc]; rfl
          clear KA hc
          obtain ⟨⟨c0, c1, c2, c3, c4, c5⟩, a0, a1, a2, a3⟩ := (HA.out.below hb4).ten
          go_wp2_with fail
          refine HKA.out.mono ?_
          rintro e w5 ⟨rfl, hb5'⟩
          have hb5 := bstep hb4 hb5'
          have HZ5 := Lib.hid (HZ4.out.below hb5')
          clear c0 c1 c2 c3 c4 c5 a0 a1 a2 a3
          clear hb4 hb5'
          rw [← hea]
          clear hea
          by_cases he : er = 0
          · obtain ⟨m, fo', hnm, hfo', hfl, KF⟩ := H4.out he
            have C := KF w5 (B1.out.below hb5) (B2.out.below hb5)
            rw [← hfo'] at C hfl
            have HC := Lib.hid C
            subst hnm
            rw [he]
            have HFL := Lib.hid (show fo.length ≤ maxLen from by unfold maxLen; omega)
            clear C KF hfo' hfl he hbb
            obtain ⟨⟨c0, c1, c2, c3, c4, c5⟩, a0, a1, a2, a3⟩ := (HA.out.below hb5).ten
            go_wp2_with fail
            refine HC.out.mono ?_
            rintro e w6 ⟨Y, dY, rfl, _, _, hY, hb6', _⟩
            have hb6 := bstep hb5 hb6'
            have C := R01.same_any Z Y fo fo dz dY w6 (HZ5.out.below hb6') hY HFL.out HFL.out
            rw [same_self] at C
            have HS := Lib.hid C
            clear c0 c1 c2 c3 c4 c5 a0 a1 a2 a3
            clear hb5 hb6' hY C
            go_wp2_with fail
            refine HS.out.mono ?_
            rintro e w7 ⟨rfl, hq⟩
            have hb7 := bstep hb6 (bquiet hq)
            clear hb6 hq
            go_wp2_with fail
            refine (alive_any _).mono ?_
            rintro e wa ⟨rfl, hba⟩
            go_wp2
            go_ret
            exact ⟨rfl, bstep HB0.out (bstep hb7 hba)⟩
          · have hfo := H5.out he
            have hne : (er != 0) = true := by rw [bne_iff_ne]; exact he
            have hee : (er == er) = true := by simp
            rw [hfo]
            have hxl : ([] : List UInt8).length = 0 := rfl
            clear he hfo hbb
            go_wp2_with fail
            refine (alive_any _).mono ?_
            rintro e wa ⟨rfl, hba⟩
            go_wp2
            go_ret
            exact ⟨rfl, bstep HB0.out (bstep hb5 hba)⟩
        · have hea := H6.out hc
          have he : er ≠ 0 := by rw [hea]; exact hc
          have hfo := H5.out he
          have hne : (bc != 0) = true := by rw [bne_iff_ne]; exact hc
          have hbb : (bc == 0) = false := by rw [beq_eq_false_iff_ne]; exact hc
          have hee : (bc == bc) = true := by simp
          rw [hfo, hea]
          have hxl : ([] : List UInt8).length = 0 := rfl
          clear hc he hfo hea
          go_wp2_with fail
          refine (alive_any _).mono ?_
          rintro e wa ⟨rfl, hba⟩
          go_wp2
          go_ret
          exact ⟨rfl, bstep HB0.out (bstep hb4 hba)⟩

theorem finds_law (q : P) (n t : Int) (A1 : Option Addr) (who : List Int) (u1 : Nat) (A2 : Option Addr) (sh : List (List UInt8)) (u2 : Nat) (w : World) (hp : q.In) (hn : In64 n) (ht0 : In64 t) (h1 : IntsAt w A1 who) (k1 : who.length ≤ u1) (z1 : u1 ≤ maxLen) (hi : ∀ x ∈ who, In64 x) (h2 : RowsAt w A2 sh) (k2 : sh.length ≤ u2) (z2 : u2 ≤ maxLen) :
    Calls Try.prog 4 #[q.val, .agg #[.int .i64 n, .int .i64 t, .slice A1 who.length u1, .slice A2 sh.length u2]] w fun e w' => e = .returned (.bool true) ∧ Below w.heap.size w w' := by
  obtain ⟨N, T, L, W, S, R⟩ := q
  by_cases hl : N ≤ 12 ∧ L ≤ 12 ∧ T ≤ 12
  · by_cases hm : 14 < who.length
    · exact finds_many N T L W S R n t A1 A2 who sh u1 u2 w hp hn ht0 hl hm
    · by_cases hm2 : 14 < sh.length
      · exact finds_much N T L W S R n t A1 A2 who sh u1 u2 w hp hn ht0 hl (by omega) hm2
      · exact finds_main N T L W S R n t A1 A2 who sh u1 u2 w hp hn ht0 h1 k1 z1 hi h2 k2 z2 hl (by omega) (by omega)
  · exact finds_heavy N T L W S R n t A1 A2 who sh u1 u2 w hp hn ht0 hl
end Go.Proofs.Ytchcgiapjhmflaa.Law13
