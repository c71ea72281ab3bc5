/- the walk of RebuildBlobs -/
import Derived.Test.YtcnhfbahnbnnlaaLaw11
set_option maxRecDepth 100000
namespace Go.Proofs.Ytcnhfbahnbnnlaa.Law11
open Go.RowKit PlanM StripeM LagrM DealM RebM Law08 R11

structure Lies3 (w : World) (g : Nat) (N T L W S R : Int) (p0 p1 p2 : Value) : Prop where
  plan : PlanLies w g N T L W S R
  a0 : w.cell? ⟨g + 1, 0, none⟩ = some p0
  a1 : w.cell? ⟨g + 1, 1, none⟩ = some p1
  a2 : w.cell? ⟨g + 1, 2, none⟩ = some p2
theorem Lies3.below {w w' : World} {g : Nat} {N T L W S R : Int} {p0 p1 p2 : Value} (h : Lies3 w g N T L W S R p0 p1 p2) (hb : Below w.heap.size w w') : Lies3 w' g N T L W S R p0 p1 p2 :=
  ⟨h.plan.below hb, (hb.cell (p := ⟨g + 1, 0, none⟩) (cell_lt h.a0)).trans h.a0, (hb.cell (p := ⟨g + 1, 1, none⟩) (cell_lt h.a1)).trans h.a1, (hb.cell (p := ⟨g + 1, 2, none⟩) (cell_lt h.a2)).trans h.a2⟩
theorem lies3_aux (w : World) (g : Nat) (hg : w.heap.size = g + 1) (N T L W S R : Int) (p0 p1 p2 : Value) (t : TypeId) (h : PlanLies w g N T L W S R) : Lies3 (w.alloc (.cells #[p0, p1, p2] t)) g N T L W S R p0 p1 p2 := by
  have a0 : (w.alloc (.cells #[p0, p1, p2] t)).cell? ⟨w.heap.size, 0, none⟩ = some p0 := by simp
  have a1 : (w.alloc (.cells #[p0, p1, p2] t)).cell? ⟨w.heap.size, 1, none⟩ = some p1 := by simp
  have a2 : (w.alloc (.cells #[p0, p1, p2] t)).cell? ⟨w.heap.size, 2, none⟩ = some p2 := by simp
  rw [hg] at a0 a1 a2
  exact ⟨h.below (balloc _ _), a0, a1, a2⟩
theorem Lies3.new (w : World) (N T L W S R : Int) (p0 p1 p2 : Value) (t : TypeId) : Lies3 ((w.alloc (.cells #[.int .i64 N, .int .i64 T, .int .i64 L, .int .i64 W, .int .i64 S, .int .i64 R] 23)).alloc (.cells #[p0, p1, p2] t)) w.heap.size N T L W S R p0 p1 p2 :=
  lies3_aux (w.alloc (.cells #[.int .i64 N, .int .i64 T, .int .i64 L, .int .i64 W, .int .i64 S, .int .i64 R] 23)) w.heap.size (by simp) N T L W S R p0 p1 p2 t (PlanLies.new w N T L W S R)
theorem Lies3.nine {w : World} {g : Nat} {N T L W S R : Int} {p0 p1 p2 : Value} (h : Lies3 w g N T L W S R p0 p1 p2) : (w.cell? ⟨g, 0, none⟩ = some (.int .i64 N) ∧ w.cell? ⟨g, 1, none⟩ = some (.int .i64 T) ∧ w.cell? ⟨g, 2, none⟩ = some (.int .i64 L) ∧ w.cell? ⟨g, 3, none⟩ = some (.int .i64 W) ∧ w.cell? ⟨g, 4, none⟩ = some (.int .i64 S) ∧ w.cell? ⟨g, 5, none⟩ = some (.int .i64 R)) ∧
    w.cell? ⟨g + 1, 0, none⟩ = some p0 ∧ w.cell? ⟨g + 1, 1, none⟩ = some p1 ∧ w.cell? ⟨g + 1, 2, none⟩ = some p2 := ⟨six h.plan, h.a0, h.a1, h.a2⟩
/-- what holds where nothing is wrong -/
structure RcOk (q : P) (size : Int) (who : List Int) (sh : List (List UInt8)) : Prop where
  may : q.May
  size0 : 0 ≤ size
  size1 : size ≤ 240
  enough : q.T + q.L ≤ who.length
  same : sh.length = who.length
  rows : ∀ i, (hi : i < sh.length) → sh[i].length = q.stripes size
theorem rc_facts {q : P} {size : Int} {who : List Int} {sh : List (List UInt8)} (h : rcheck q size who sh = 0) : RcOk q size who sh := by
  unfold rcheck at h
  split at h
  · rename_i hr
    split at h
    · omega
    · rename_i h1
      split at h
      · split at h
        · split at h
          · omega
          · rename_i h4
            split at h
            · omega
            · rename_i h5
              split at h
              · rename_i h6
                refine ⟨of_decide_eq_true hr, by omega, by omega, by omega, by omega, fun i hi => ?_⟩
                unfold fitAll at h6
                rw [List.all_eq_true] at h6
                exact of_decide_eq_true (h6 sh[i] (List.getElem_mem hi))
              · omega
        · omega
      · omega
  · omega

set_option maxHeartbeats 1000000 in
theorem blobs_heavy (N T L W S R size : Int) (A1 A2 : Option Addr) (who : List Int) (sh : List (List UInt8)) (u1 u2 : Nat) (w : World) (hp : (⟨N, T, L, W, S, R⟩ : P).In) (hsz : In64 size) (hl : ¬ (N ≤ 12 ∧ L ≤ 12 ∧ T ≤ 12)) :
    Calls Try.prog 3 #[.agg #[.int .i64 N, .int .i64 T, .int .i64 L, .int .i64 W, .int .i64 S, .int .i64 R], .agg #[.int .i64 size, .slice A1 who.length u1, .slice A2 sh.length u2]] w fun e w' => e = .returned (.bool true) ∧ Below w.heap.size w w' := by
  have K0 := fun w => Law10.light_any N T L W S R w
  rw [decide_eq_false hl] at K0
  have H0 := Lib.hid K0
  clear K0 hl
  have HA := Lib.hid (Lies3.new w N T L W S R (.int .i64 size) (.slice A1 who.length u1) (.slice A2 sh.length u2) 27)
  have HB0 := Lib.hid (show Below w.heap.size w ((w.alloc (.cells #[.int .i64 N, .int .i64 T, .int .i64 L, .int .i64 W, .int .i64 S, .int .i64 R] 23)).alloc (.cells #[.int .i64 size, .slice A1 who.length u1, .slice A2 sh.length u2] 27)) from bstep (balloc _ _) (balloc _ _))
  go_enter Try.func3, Try.ntmps3
  go_wp2_with fail
  generalize (w.alloc (.cells #[.int .i64 N, .int .i64 T, .int .i64 L, .int .i64 W, .int .i64 S, .int .i64 R] 23)).alloc (.cells #[.int .i64 size, .slice A1 who.length u1, .slice A2 sh.length u2] 27) = w0 at *
  obtain ⟨⟨c0, c1, c2, c3, c4, c5⟩, a0, a1, a2⟩ := HA.out.nine
  refine (H0.out _).mono ?_
  rintro e w1 ⟨rfl, hb1⟩
  clear c0 c1 c2 c3 c4 c5 a0 a1 a2
  obtain ⟨⟨c0, c1, c2, c3, c4, c5⟩, a0, a1, a2⟩ := (HA.out.below hb1).nine
  go_wp2_with fail
  refine (alive_any _).mono ?_
  rintro e w9 ⟨rfl, hb9⟩
  clear c0 c1 c2 c3 c4 c5 a0 a1 a2
  go_wp2
  go_ret
  exact ⟨rfl, bstep HB0.out (bstep hb1 hb9)⟩

set_option maxHeartbeats 1000000 in
theorem blobs_many (N T L W S R size : Int) (A1 A2 : Option Addr) (who : List Int) (sh : List (List UInt8)) (u1 u2 : Nat) (w : World) (hp : (⟨N, T, L, W, S, R⟩ : P).In) (hsz : In64 size) (hl : N ≤ 12 ∧ L ≤ 12 ∧ T ≤ 12) (hm : 14 < who.length) :
    Calls Try.prog 3 #[.agg #[.int .i64 N, .int .i64 T, .int .i64 L, .int .i64 W, .int .i64 S, .int .i64 R], .agg #[.int .i64 size, .slice A1 who.length u1, .slice A2 sh.length u2]] w fun e w' => e = .returned (.bool true) ∧ Below w.heap.size w w' := by
  have K0 := fun w => Law10.light_any N T L W S R w
  rw [decide_eq_true hl] at K0
  have H0 := Lib.hid K0
  clear K0 hl
  have HA := Lib.hid (Lies3.new w N T L W S R (.int .i64 size) (.slice A1 who.length u1) (.slice A2 sh.length u2) 27)
  have HB0 := Lib.hid (show Below w.heap.size w ((w.alloc (.cells #[.int .i64 N, .int .i64 T, .int .i64 L, .int .i64 W, .int .i64 S, .int .i64 R] 23)).alloc (.cells #[.int .i64 size, .slice A1 who.length u1, .slice A2 sh.length u2] 27)) from bstep (balloc _ _) (balloc _ _))
  go_enter Try.func3, Try.ntmps3
  go_wp2_with fail
  generalize (w.alloc (.cells #[.int .i64 N, .int .i64 T, .int .i64 L, .int .i64 W, .int .i64 S, .int .i64 R] 23)).alloc (.cells #[.int .i64 size, .slice A1 who.length u1, .slice A2 sh.length u2] 27) = w0 at *
  obtain ⟨⟨c0, c1, c2, c3, c4, c5⟩, a0, a1, a2⟩ := HA.out.nine
  refine (H0.out _).mono ?_
  rintro e w1 ⟨rfl, hb1⟩
  clear c0 c1 c2 c3 c4 c5 a0 a1 a2
  obtain ⟨⟨c0, c1, c2, c3, c4, c5⟩, a0, a1, a2⟩ := (HA.out.below hb1).nine
  go_wp2_with fail
  refine (alive_any _).mono ?_
  rintro e w9 ⟨rfl, hb9⟩
  clear c0 c1 c2 c3 c4 c5 a0 a1 a2
  go_wp2
  go_ret
  exact ⟨rfl, bstep HB0.out (bstep hb1 hb9)⟩

set_option maxHeartbeats 1000000 in
theorem blobs_much (N T L W S R size : Int) (A1 A2 : Option Addr) (who : List Int) (sh : List (List UInt8)) (u1 u2 : Nat) (w : World) (hp : (⟨N, T, L, W, S, R⟩ : P).In) (hsz : In64 size) (hl : N ≤ 12 ∧ L ≤ 12 ∧ T ≤ 12) (hm : who.length ≤ 14) (hm2 : 14 < sh.length) :
    Calls Try.prog 3 #[.agg #[.int .i64 N, .int .i64 T, .int .i64 L, .int .i64 W, .int .i64 S, .int .i64 R], .agg #[.int .i64 size, .slice A1 who.length u1, .slice A2 sh.length u2]] w fun e w' => e = .returned (.bool true) ∧ Below w.heap.size w w' := by
  have K0 := fun w => Law10.light_any N T L W S R w
  rw [decide_eq_true hl] at K0
  have H0 := Lib.hid K0
  clear K0 hl
  have HA := Lib.hid (Lies3.new w N T L W S R (.int .i64 size) (.slice A1 who.length u1) (.slice A2 sh.length u2) 27)
  have HB0 := Lib.hid (show Below w.heap.size w ((w.alloc (.cells #[.int .i64 N, .int .i64 T, .int .i64 L, .int .i64 W, .int .i64 S, .int .i64 R] 23)).alloc (.cells #[.int .i64 size, .slice A1 who.length u1, .slice A2 sh.length u2] 27)) from bstep (balloc _ _) (balloc _ _))
  go_enter Try.func3, Try.ntmps3
  go_wp2_with fail
  generalize (w.alloc (.cells #[.int .i64 N, .int .i64 T, .int .i64 L, .int .i64 W, .int .i64 S, .int .i64 R] 23)).alloc (.cells #[.int .i64 size, .slice A1 who.length u1, .slice A2 sh.length u2] 27) = w0 at *
  obtain ⟨⟨c0, c1, c2, c3, c4, c5⟩, a0, a1, a2⟩ := HA.out.nine
  refine (H0.out _).mono ?_
  rintro e w1 ⟨rfl, hb1⟩
  clear c0 c1 c2 c3 c4 c5 a0 a1 a2
  obtain ⟨⟨c0, c1, c2, c3, c4, c5⟩, a0, a1, a2⟩ := (HA.out.below hb1).nine
  go_wp2_with fail
  refine (alive_any _).mono ?_
  rintro e w9 ⟨rfl, hb9⟩
  clear c0 c1 c2 c3 c4 c5 a0 a1 a2
  go_wp2
  go_ret
  exact ⟨rfl, bstep HB0.out (bstep hb1 hb9)⟩

set_option maxHeartbeats 8000000 in
theorem blobs_main (N T L W S R size : Int) (A1 A2 : Option Addr) (who : List Int) (sh : List (List UInt8)) (u1 u2 : Nat) (w : World) (hp : (⟨N, T, L, W, S, R⟩ : P).In) (hsz : In64 size) (h1 : IntsAt w A1 who) (k1 : who.length ≤ u1) (z1 : u1 ≤ maxLen) (hi : ∀ x ∈ who, In64 x) (h2 : RowsAt w A2 sh) (k2 : sh.length ≤ u2) (z2 : u2 ≤ maxLen) (hl : N ≤ 12 ∧ L ≤ 12 ∧ T ≤ 12) (hm : who.length ≤ 14) (hm2 : sh.length ≤ 14) :
    Calls Try.prog 3 #[.agg #[.int .i64 N, .int .i64 T, .int .i64 L, .int .i64 W, .int .i64 S, .int .i64 R], .agg #[.int .i64 size, .slice A1 who.length u1, .slice A2 sh.length u2]] w fun e w' => e = .returned (.bool true) ∧ Below w.heap.size w w' := by
  have K0 := fun w => Law10.light_any N T L W S R w
  rw [decide_eq_true hl] at K0
  have H0 := Lib.hid K0
  clear K0 hl
  obtain ⟨q, hq⟩ : ∃ q : P, q = ⟨N, T, L, W, S, R⟩ := ⟨_, rfl⟩
  have hpq := hp
  rw [← hq] at hpq
  have hv : q.val = .agg #[.int .i64 N, .int .i64 T, .int .i64 L, .int .i64 W, .int .i64 S, .int .i64 R] := by rw [hq]; rfl
  have K1 := fun bf w (ht : Gf.Tab w bf) (h1 : IntsAt w A1 who) (h2 : RowsAt w A2 sh) => Rebuild.blob_any bf q size A1 A2 who sh u1 u2 w hpq hsz ht h1 k1 z1 hi h2 k2 z2 (by omega) (by omega)
  have K2 := fun bf w (ht : Gf.Tab w bf) (h1 : IntsAt w A1 who) (h2 : RowsAt w A2 sh) => Rebuild.agree_any bf q size A1 A2 who sh u1 u2 w hpq hsz ht h1 k1 z1 hi h2 k2 z2 (by omega) (by omega)
  have K3 := fun w (h1 : IntsAt w A1 who) (h2 : RowsAt w A2 sh) => R11.check_any N T L W S R size A1 A2 who sh u1 u2 w hp h1 h2 (by omega) (by omega)
  rw [hv] at K1 K2
  rw [← hq] at K3
  have hK4 : rcheck q size who sh = 0 → ∃ (n : Nat) (bl : List UInt8), size = n ∧ rblobA q size who sh = bl ∧ bl.length ≤ 240 ∧ ragreeA q size who sh = ragree q who sh ∧ (∀ V, IntsAt V A1 who → RowsAt V A2 sh → Calls Try.prog 13 #[.agg #[.int .i64 N, .int .i64 T, .int .i64 L, .int .i64 W, .int .i64 S, .int .i64 R], .int .i64 (n : Nat), .slice A1 who.length u1, .slice A2 sh.length u2] V (RetNew V bl)) ∧
      (∀ V, IntsAt V A1 who → RowsAt V A2 sh → Calls Try.prog 14 #[.agg #[.int .i64 N, .int .i64 T, .int .i64 L, .int .i64 W, .int .i64 S, .int .i64 R], .slice A1 who.length u1, .slice A2 sh.length u2] V fun e w' => e = .returned (.bool (ragree q who sh)) ∧ Below V.heap.size V w') := fun h0 => by
    obtain ⟨f1, f2, f3, f4, f5, f6⟩ := rc_facts h0
    have hM := f1
    unfold P.May at hM
    have eT : q.T = T := by rw [hq]
    have eL : q.L = L := by rw [hq]
    obtain ⟨n, hn⟩ : ∃ n : Nat, size = n := ⟨size.toNat, by omega⟩
    have hne : need q ≤ who.length := by unfold need; omega
    have hst := stripes_le q size (by omega)
    refine ⟨n, rblob q n who sh, hn, by unfold rblobA; rw [if_pos h0, hn]; rfl, by unfold rblob; rw [PolyM.tab_len]; omega, by unfold ragreeA; rw [h0]; rfl, fun V g1 g2 => ?_, fun V g1 g2 => ?_⟩
    · have C := R11.blob_any N T L W S R A1 A2 who sh u1 u2 n V (by rw [← hq]; exact f1) g1 g2 k1 z1 (by rw [← hq]; exact hne) (by rw [← hq]; omega) (fun i hi => by rw [← hq, ← hn]; exact f6 i hi) (by omega)
      rw [← hq] at C
      exact C
    · have C := R11.agree_any N T L W S R A1 A2 who sh u1 u2 (q.stripes size) V (by omega) g1 g2 k1 z1 (by rw [← hq]; exact hne) f5 (by omega) f6 (by omega)
      rw [← hq] at C
      exact C
  have hbad : rcheck q size who sh ≠ 0 → rblobA q size who sh = [] ∧ ragreeA q size who sh = false := fun h => ⟨by unfold rblobA; rw [if_neg h], by unfold ragreeA; rw [decide_eq_false h]; rfl⟩
  have H1 := Lib.hid K1; have H2 := Lib.hid K2; have H3 := Lib.hid K3; have H4 := Lib.hid hK4; have H5 := Lib.hid hbad
  have B1 := Lib.hid h1; have B2 := Lib.hid h2
  clear K1 K2 K3 hK4 hbad h1 h2 hi hp hpq hv hq hsz k1 k2
  have HA := Lib.hid (Lies3.new w N T L W S R (.int .i64 size) (.slice A1 who.length u1) (.slice A2 sh.length u2) 27)
  have HB0 := Lib.hid (show Below w.heap.size w ((w.alloc (.cells #[.int .i64 N, .int .i64 T, .int .i64 L, .int .i64 W, .int .i64 S, .int .i64 R] 23)).alloc (.cells #[.int .i64 size, .slice A1 who.length u1, .slice A2 sh.length u2] 27)) from bstep (balloc _ _) (balloc _ _))
  go_enter Try.func3, Try.ntmps3
  go_wp2_with fail
  generalize (w.alloc (.cells #[.int .i64 N, .int .i64 T, .int .i64 L, .int .i64 W, .int .i64 S, .int .i64 R] 23)).alloc (.cells #[.int .i64 size, .slice A1 who.length u1, .slice A2 sh.length u2] 27) = w0 at *
  replace B1 := Lib.hid (B1.out.below HB0.out)
  replace B2 := Lib.hid (B2.out.below HB0.out)
  obtain ⟨⟨c0, c1, c2, c3, c4, c5⟩, a0, a1, a2⟩ := HA.out.nine
  refine (H0.out _).mono ?_
  rintro e w1 ⟨rfl, hb1⟩
  clear c0 c1 c2 c3 c4 c5 a0 a1 a2
  obtain ⟨⟨c0, c1, c2, c3, c4, c5⟩, a0, a1, a2⟩ := (HA.out.below hb1).nine
  go_wp2
  clear c0 c1 c2 c3 c4 c5 a0 a1 a2
  go_loopw [31] (fun i wr => ∃ k : Nat, k ≤ sh.length ∧ i = .int .i64 k ∧ Below w1.heap.size w1 wr) (fun i _ => sh.length - (intOf i).toNat)
  case atStart => exact ⟨0, Nat.zero_le _, rfl, Below.refl _ _⟩
  case round =>
    obtain ⟨k, hk, rfl, hbr⟩ := hrel
    rename World => wr
    by_cases hlt : k < sh.length
    · obtain ⟨b, o, B, d, rfl, e1, _, _, _⟩ := (B2.out.below (bstep hb1 hbr)).row hlt
      generalize sh[k].length = l at *
      by_cases hlong : 250 < l
      · go_wp2_with fail
        refine (alive_any _).mono ?_
        rintro e w9 ⟨rfl, hb9⟩
        go_wp2
        go_ret
        exact ⟨rfl, bstep HB0.out (bstep (bstep hb1 hbr) hb9)⟩
      · go_wp2
        go_roundw
        case rel => exact ⟨k + 1, by omega, by go_num, hbr⟩
        case measure => simp [intOf] <;> omega
    · obtain rfl : k = sh.length := by omega
      have hb2 := bstep hb1 hbr
      clear hb1 hbr
      go_wp2_with fail
      refine (Gf.new_any wr).mono ?_
      rintro e w3 ⟨rfl, ht, hb3', _⟩
      have hb3 := bstep hb2 hb3'
      clear hb2 hb3'
      generalize wr.heap.size = bf at *
      have HT := Lib.hid ht
      clear ht
      obtain ⟨⟨c0, c1, c2, c3, c4, c5⟩, a0, a1, a2⟩ := (HA.out.below hb3).nine
      go_wp2_with fail
      refine (H1.out bf w3 HT.out (B1.out.below hb3) (B2.out.below hb3)).mono ?_
      rintro e w4 ⟨X, d, rfl, g1, g2, hX, hb4', _⟩
      have hb4 := bstep hb3 hb4'
      replace HT := Lib.hid (HT.out.below hb4')
      have HX := Lib.hid hX
      clear c0 c1 c2 c3 c4 c5 a0 a1 a2
      clear hb3 hb4' hX
      obtain ⟨⟨c0, c1, c2, c3, c4, c5⟩, a0, a1, a2⟩ := (HA.out.below hb4).nine
      go_wp2_with fail
      refine (H2.out bf w4 HT.out (B1.out.below hb4) (B2.out.below hb4)).mono ?_
      rintro e w5 ⟨rfl, hb5'⟩
      have hb5 := bstep hb4 hb5'
      replace HX := Lib.hid (HX.out.below hb5')
      clear c0 c1 c2 c3 c4 c5 a0 a1 a2
      clear hb4 hb5'
      obtain ⟨⟨c0, c1, c2, c3, c4, c5⟩, a0, a1, a2⟩ := (HA.out.below hb5).nine
      go_wp2_with fail
      refine (H3.out w5 (B1.out.below hb5) (B2.out.below hb5)).mono ?_
      rintro e w6 ⟨rfl, hb6'⟩
      have hb6 := bstep hb5 hb6'
      replace HX := Lib.hid (HX.out.below hb6')
      clear c0 c1 c2 c3 c4 c5 a0 a1 a2
      clear hb5 hb6'
      by_cases hc : rcheck q size who sh = 0
      · obtain ⟨n, bl, hn, hbl, hbl2, hag, KB, KA⟩ := H4.out hc
        rw [hbl] at HX
        have HC := Lib.hid hc; have HKB := Lib.hid KB; have HKA := Lib.hid KA
        have HML : Hid (bl.length ≤ maxLen) := Lib.hid (by unfold maxLen; omega)
        rw [hbl, hag]
        rw [hc]
        subst hn
        clear hc KB KA hbl hag hbl2 H1 H2 H3 H4 H5 g1 g2
        generalize rcheck q (n : Int) who sh = rc at *
        generalize ragree q who sh = ag at *
        obtain ⟨⟨c0, c1, c2, c3, c4, c5⟩, a0, a1, a2⟩ := (HA.out.below hb6).nine
        go_wp2_with fail
        refine (HKB.out w6 (B1.out.below hb6) (B2.out.below hb6)).mono ?_
        rintro e w7 ⟨Z, dz, rfl, _, _, hZ, hb7', _⟩
        have hb7 := bstep hb6 hb7'
        have HZ := Lib.hid hZ
        replace HX := Lib.hid (HX.out.below hb7')
        clear c0 c1 c2 c3 c4 c5 a0 a1 a2
        clear hb6 hb7' hZ
        obtain ⟨⟨c0, c1, c2, c3, c4, c5⟩, a0, a1, a2⟩ := (HA.out.below hb7).nine
        go_wp2_with fail
        have C := R01.same_any X Z bl bl d dz w7 HX.out HZ.out HML.out HML.out
        rw [same_self] at C
        refine C.mono ?_
        clear C
        rintro e w8 ⟨rfl, hq⟩
        have hb8 := bstep hb7 (bquiet hq)
        clear c0 c1 c2 c3 c4 c5 a0 a1 a2
        clear hb7 hq
        obtain ⟨⟨c0, c1, c2, c3, c4, c5⟩, a0, a1, a2⟩ := (HA.out.below hb8).nine
        go_wp2_with fail
        refine (HKA.out w8 (B1.out.below hb8) (B2.out.below hb8)).mono ?_
        rintro e w9 ⟨rfl, hb9'⟩
        have hb9 := bstep hb8 hb9'
        clear c0 c1 c2 c3 c4 c5 a0 a1 a2
        clear hb8 hb9'
        have hagg : (ag == ag) = true := by cases ag <;> rfl
        go_wp2_with fail
        refine (alive_any _).mono ?_
        rintro e wa ⟨rfl, hba⟩
        go_wp2
        go_ret
        exact ⟨rfl, bstep HB0.out (bstep hb9 hba)⟩
      · obtain ⟨hbl, hag⟩ := H5.out hc
        rw [hbl, hag]
        have hne : (rcheck q size who sh != 0) = true := by rw [bne_iff_ne]; exact hc
        have hee : (rcheck q size who sh == rcheck q size who sh) = true := by simp
        have hxl : ([] : List UInt8).length = 0 := rfl
        clear hc hbl hag H1 H2 H3 H4 H5 HX g1 g2
        generalize rcheck q size who sh = rc at *
        go_wp2_with fail
        refine (alive_any _).mono ?_
        rintro e wa ⟨rfl, hba⟩
        go_wp2
        go_ret
        exact ⟨rfl, bstep HB0.out (bstep hb6 hba)⟩

theorem blobs_law (q : P) (size : Int) (A1 : Option Addr) (who : List Int) (u1 : Nat) (A2 : Option Addr) (sh : List (List UInt8)) (u2 : Nat) (w : World) (hp : q.In) (hsz : In64 size) (h1 : IntsAt w A1 who) (k1 : who.length ≤ u1) (z1 : u1 ≤ maxLen) (hi : ∀ x ∈ who, In64 x) (h2 : RowsAt w A2 sh) (k2 : sh.length ≤ u2) (z2 : u2 ≤ maxLen) :
    Calls Try.prog 3 #[q.val, .agg #[.int .i64 size, .slice A1 who.length u1, .slice A2 sh.length u2]] w fun e w' => e = .returned (.bool true) ∧ Below w.heap.size w w' := by
  obtain ⟨N, T, L, W, S, R⟩ := q
  by_cases hl : N ≤ 12 ∧ L ≤ 12 ∧ T ≤ 12
  · by_cases hm : 14 < who.length
    · exact blobs_many N T L W S R size A1 A2 who sh u1 u2 w hp hsz hl hm
    · by_cases hm2 : 14 < sh.length
      · exact blobs_much N T L W S R size A1 A2 who sh u1 u2 w hp hsz hl (by omega) hm2
      · exact blobs_main N T L W S R size A1 A2 who sh u1 u2 w hp hsz h1 k1 z1 hi h2 k2 z2 hl (by omega) (by omega)
  · exact blobs_heavy N T L W S R size A1 A2 who sh u1 u2 w hp hsz hl
end Go.Proofs.Ytcnhfbahnbnnlaa.Law11
