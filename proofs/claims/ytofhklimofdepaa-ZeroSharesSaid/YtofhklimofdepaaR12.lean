/- the document's own answers of layer 12 -/
import Derived.Test.YtofhklimofdepaaLaw08
import Derived.Test.YtofhklimofdepaaR02
import Derived.Test.YtofhklimofdepaaR10
import Derived.Test.YtofhklimofdepaaFlow
import Derived.Test.YtofhklimofdepaaMB
set_option maxRecDepth 100000
namespace Go.Proofs.Ytofhklimofdepaa.R12
open Go.RowKit PlanM StripeM DealM RebM ZeroM Law08

set_option maxHeartbeats 1000000 in
theorem check_any (N T L W S R n : Int) (A : Option Addr) (tape : List UInt8) (c : Nat) (w : World) (hp : (⟨N, T, L, W, S, R⟩ : P).In) (_hn : In64 n) (_hl : tape.length ≤ 1048576) :
    Calls Try.prog 10 #[.agg #[.int .i64 N, .int .i64 T, .int .i64 L, .int .i64 W, .int .i64 S, .int .i64 R], .int .i64 n, .slice A tape.length c] w fun e w' => e = .returned (.int .i64 (zcheck ⟨N, T, L, W, S, R⟩ n tape)) ∧ Below w.heap.size w w' := by
  have HA := Lib.hid (PlanLies.new w N T L W S R)
  have hb0 := balloc w (.cells #[.int .i64 N, .int .i64 T, .int .i64 L, .int .i64 W, .int .i64 S, .int .i64 R] 23)
  obtain ⟨q, hq⟩ : ∃ q : P, q = ⟨N, T, L, W, S, R⟩ := ⟨_, rfl⟩
  rw [← hq] at hp ⊢
  have hv : q.val = .agg #[.int .i64 N, .int .i64 T, .int .i64 L, .int .i64 W, .int .i64 S, .int .i64 R] := by rw [hq]; rfl
  have K := fun V => R08.right_any q V hp
  rw [hv] at K
  obtain ⟨tl, htl⟩ : ∃ tl, tl = tape.length := ⟨_, rfl⟩
  have hT : q.T = T := by rw [hq]
  have hz : zcheck q n tape = if q.right then (if n < 0 ∨ 240 < n then 2 else if (tl : Int) < T * n then 12 else 0) else 1 := by unfold zcheck; rw [htl, hT]
  rw [← htl] at _hl ⊢
  have hr : q.right = true → 1 ≤ T ∧ T ≤ 256 := fun h => by
    have := of_decide_eq_true (p := q.May) h
    unfold P.May at this; omega
  rw [hz]
  generalize q.right = r at *
  have HK := Lib.hid K
  clear K htl hz hT hv hq hp
  go_enter Try.func10, Try.ntmps10
  go_wp2_with fail
  generalize w.alloc (.cells #[.int .i64 N, .int .i64 T, .int .i64 L, .int .i64 W, .int .i64 S, .int .i64 R] 23) = w0 at *
  refine (HK.out _).mono ?_
  rintro e w1 ⟨rfl, hb1⟩
  have c1 := (HA.out.below hb1).c1
  cases r
  · clear hr c1
    go_wp2
    go_ret
    exact ⟨rfl, bstep hb0 hb1⟩
  · obtain ⟨r1, r2⟩ := hr rfl
    by_cases h1 : n < 0
    · go_wp2
      go_ret
      exact ⟨by simp, bstep hb0 hb1⟩
    · by_cases h2 : 240 < n
      · go_wp2
        go_ret
        exact ⟨by simp, bstep hb0 hb1⟩
      · obtain ⟨x, hx⟩ : ∃ x : Int, T * n = x := ⟨_, rfl⟩
        have hx2 : 0 ≤ x ∧ x ≤ 61440 := by
          rw [← hx]
          exact ⟨Int.mul_nonneg (by omega) (by omega), by
            have := Int.mul_le_mul r2 (show n ≤ 240 by omega) (by omega) (by omega)
            omega⟩
        have hw : IntKind.i64.wrap x = x := IntWalk.i64_in _ (by omega)
        by_cases h3 : (tl : Int) < x
        · go_wp2
          go_ret
          exact ⟨by simp, bstep hb0 hb1⟩
        · go_wp2
          go_ret
          exact ⟨by simp, bstep hb0 hb1⟩

theorem add_any (A1 A2 : Option Addr) (a b : List UInt8) (c1 c2 : Nat) (w : World) (h1 : BytesAt w A1 a) (h2 : BytesAt w A2 b) (hl : a.length ≤ 1099511627) (_hl2 : b.length ≤ 1099511627) :
    Calls Try.prog 15 #[.slice A1 a.length c1, .slice A2 b.length c2] w (RetNew w (add2 a b)) := by
  have H1 := Lib.hid h1; have H2 := Lib.hid h2
  clear h1 h2
  have hd : ∀ k, k ≤ min a.length b.length → (PolyM.tab k fun k => GfM.add (PolyM.co a k) (PolyM.co b k)).length = k := fun k _ => PolyM.tab_len _ _
  have HD := Lib.hid hd
  clear hd
  unfold add2
  go_enter Try.func15, Try.ntmps15
  go_wp2
  go_loopw [5, 6] (fun v j wr => ∃ k : Nat, k ≤ a.length ∧ k ≤ b.length ∧ j = .int .i64 k ∧ Own wr w.heap.size v (PolyM.tab k fun k => GfM.add (PolyM.co a k) (PolyM.co b k)) ∧ Below w.heap.size w wr)
    (fun _ j _ => a.length - (intOf j).toNat)
  case atStart => exact ⟨0, Nat.zero_le _, Nat.zero_le _, rfl, Own.nil _ _, Below.refl _ _⟩
  case round =>
    obtain ⟨k, hk, hkb, rfl, hown, hb3⟩ := hrel
    rename World => w3
    have HO := Lib.hid hown
    have hz := hb3.size
    clear hown
    by_cases hlt : k < a.length
    · by_cases hlt2 : k < b.length
      · obtain ⟨b1, o1, rfl, f1⟩ := H1.out k hlt
        obtain ⟨b2, o2, rfl, f2⟩ := H2.out k hlt2
        have l1 : b1 < w.heap.size := cell_lt f1
        have l2 : b2 < w.heap.size := cell_lt f2
        replace f1 := (hb3.cell (p := ⟨b1, o1 + k, none⟩) l1).trans f1
        replace f2 := (hb3.cell (p := ⟨b2, o2 + k, none⟩) l2).trans f2
        have hs : (PolyM.tab (k + 1) fun k => GfM.add (PolyM.co a k) (PolyM.co b k)) = (PolyM.tab k fun k => GfM.add (PolyM.co a k) (PolyM.co b k)) ++ [GfM.add (PolyM.co a k) (PolyM.co b k)] := PolyM.tab_succ k _
        have hlen : (PolyM.tab k fun k => GfM.add (PolyM.co a k) (PolyM.co b k)).length ≤ 1099511627 := by rw [PolyM.tab_len]; omega
        rw [PolyM.co_get a k hlt, PolyM.co_get b k hlt2] at hs
        generalize PolyM.tab k (fun k => GfM.add (PolyM.co a k) (PolyM.co b k)) = t at *
        generalize a[k] = x at *
        generalize b[k] = y at *
        have HS := Lib.hid hs; have HLEN := Lib.hid hlen
        clear hs hlen
        go_wp2_with fail
        go_region_held3 (fun w' => w'.cell? ⟨b1, o1 + k, none⟩ = some (.int .u8 (x.toNat : Nat)) ∧ w'.cell? ⟨b2, o2 + k, none⟩ = some (.int .u8 (y.toNat : Nat))) (first | (exact ⟨f1, f2⟩) | (exact ⟨(hb8.cell (p := ⟨b1, o1 + k, none⟩) l1).trans f1, (hb8.cell (p := ⟨b2, o2 + k, none⟩) l2).trans f2⟩) | go_keep)
          ((refine step_append_u8 rfl _ _ rfl w.heap.size _ t rfl (by first | exact HO.out.alloc _ | exact (HO.out.alloc _).drewN _) w3.heap.size 1 (GfM.add x y) rfl (by simp) (by have := HLEN.out; omega) (by simp; omega) ?_; intro v' w7 hown1 hb7; have hb8 : Below w.heap.size w3 w7 := (by first | (exact ((Below.refl _ _).alloc hz _).trans hb7) | (exact (below_drewN ((Below.refl _ _).alloc hz _) _).trans hb7))))
        all_goals
          go_wp2
          go_roundw
          case rel => exact ⟨k + 1, by omega, by omega, by go_num, by rw [HS.out]; exact hown1, hb3.trans hb8⟩
          case measure => simp [intOf] <;> omega
      · obtain rfl : k = b.length := by omega
        go_wp2
        go_ret
        rw [Nat.min_eq_right (by omega)]
        exact RetNew.of_own HO.out hb3
    · obtain rfl : k = a.length := by omega
      go_wp2
      go_ret
      rw [Nat.min_eq_left (by omega)]
      exact RetNew.of_own HO.out hb3

def SP.root (l : List UInt8) (n : Nat) : Drawn.SP := ⟨fun v w => ∃ X d, v = .slice X n d ∧ BytesAt w X l, fun _ _ _ h hb => by
  obtain ⟨X, d, h1, h2⟩ := h; exact ⟨X, d, h1, h2.below hb⟩⟩
def SP.prod (B : Nat) (l : List UInt8) (n : Nat) : Drawn.SP := ⟨fun v w => ∃ X d, v = .slice X n d ∧ n ≤ d ∧ d ≤ maxLen ∧ BytesAt w X l ∧ ∀ a, X = some a → B ≤ a.block, fun _ _ _ h hb => by
  obtain ⟨X, d, h1, h2, h3, h4, h5⟩ := h; exact ⟨X, d, h1, h2, h3, h4.below hb, h5⟩⟩
def SP.lit (B : Nat) (l : List UInt8) (n : Nat) : Drawn.SP := ⟨fun v w => ∃ g A c, v = .slice (some ⟨g, 0, none⟩) 1 1 ∧ w.cell? ⟨g, 0, none⟩ = some (.slice A n c) ∧ n ≤ c ∧ c ≤ maxLen ∧ BytesAt w A l ∧ ∀ a, A = some a → B ≤ a.block, fun _ _ _ h hb => by
  obtain ⟨g, A, c, h1, h2, h3, h4, h5, h6⟩ := h; exact ⟨g, A, c, h1, (hb.cell (p := ⟨g, 0, none⟩) (cell_lt h2)).trans h2, h3, h4, h5.below hb, h6⟩⟩
theorem RetRows.later {w w1 w2 : World} {m : List (List UInt8)} {e : Ending} (h : RetRows w1 m e w2) (hb : Below w.heap.size w w1) : RetRows w m e w2 := by
  obtain ⟨A, c, h1, h2, h3, h4, h5, h6⟩ := h; exact ⟨A, c, h1, h2, h3, h4, bstep hb h5, h6.mono hb.size⟩
set_option maxHeartbeats 4000000 in
theorem polys_any (N L W S R : Int) (t0 n : Nat) (A : Option Addr) (tape : List UInt8) (u2 : Nat) (w : World) (hM : (⟨N, t0, L, W, S, R⟩ : P).May) (h2 : BytesAt w A tape) (k2 : tape.length ≤ u2) (_z2 : u2 ≤ maxLen)
    (hn : n ≤ 240) (ht : tape.length ≤ 1048576) (hct : t0 * n ≤ tape.length) :
    Calls Try.prog 12 #[.agg #[.int .i64 N, .int .i64 (t0 : Nat), .int .i64 L, .int .i64 W, .int .i64 S, .int .i64 R], .int .i64 (n : Nat), .slice A tape.length u2] w (RetRows w (zpolysTo ⟨N, t0, L, W, S, R⟩ tape n)) := by
  have hM' := hM
  unfold P.May at hM'
  obtain ⟨m1, m2, m3, m4, m5, m6, m7, m8, m9⟩ := hM'
  simp only at m1 m2 m3 m4 m5 m6 m7 m8 m9
  unfold maxLen at _z2
  obtain ⟨q, hq⟩ : ∃ q : P, q = ⟨N, t0, L, W, S, R⟩ := ⟨_, rfl⟩
  have hv : q.val = .agg #[.int .i64 N, .int .i64 (t0 : Nat), .int .i64 L, .int .i64 W, .int .i64 S, .int .i64 R] := by rw [hq]; rfl
  have qN : q.N = N := by rw [hq]
  have qT : q.T = t0 := by rw [hq]
  have qL : q.L = L := by rw [hq]
  rw [← hq]
  have KS := fun V => R08.secrets_any q V (by rw [qN]; omega) (by rw [qL]; omega) (by rw [qN, qL]; exact m5)
  rw [hv] at KS
  have hsl : q.secrets.length ≤ 256 := by rw [secrets_len, qL]; omega
  have KR := fun X d V (h : BytesAt V X q.secrets) => R02.root_any X q.secrets d V h (by omega)
  have KM := fun X d Y dY t V (h1 : BytesAt V X (PolyM.proot q.secrets)) (h2 : BytesAt V Y t) (h3 : t.length ≤ 1048576) => R02.mul_new X Y (PolyM.proot q.secrets) t d dY V h1 h2 (by rw [PolyM.proot_len]; omega) (by omega)
  have hzt := fun k => (show zpolysTo q tape (k + 1) = zpolysTo q tape k ++ [PolyM.pmul (PolyM.proot q.secrets) (take_ t0 tape k)] from by
    rw [zpolysTo_succ]; unfold zpoly; rw [qT]; rfl)
  have hzl := fun k => zpolysTo_len q tape k
  have hz0 : zpolysTo q tape 0 = [] := rfl
  generalize zpolysTo q tape = PT at *
  generalize PolyM.proot q.secrets = rt at *
  generalize q.secrets = secs at *
  have HS := Lib.hid KS; have HR := Lib.hid KR; have HMU := Lib.hid KM; have HZT := Lib.hid hzt; have HZL := Lib.hid hzl; have HZ0 := Lib.hid hz0
  have HA := Lib.hid (PlanLies.new w N t0 L W S R)
  have hb0 := balloc w (.cells #[.int .i64 N, .int .i64 (t0 : Nat), .int .i64 L, .int .i64 W, .int .i64 S, .int .i64 R] 23)
  have B2 := Lib.hid h2
  obtain ⟨tl, htl⟩ : ∃ tl, tl = tape.length := ⟨_, rfl⟩
  have HTL := Lib.hid htl
  rw [← htl] at k2 ht hct ⊢
  clear KS KR KM hzt hzl hz0 h2 htl hv qN qT qL hq hM hsl
  go_enter Try.func12, Try.ntmps12
  go_wp2_with fail
  generalize w.alloc (.cells #[.int .i64 N, .int .i64 (t0 : Nat), .int .i64 L, .int .i64 W, .int .i64 S, .int .i64 R] 23) = w1 at *
  go_loopw [7, 8] (fun v j wr => ∃ (k : Nat) (v0 : Value), k ≤ n ∧ j = .int .i64 k ∧ v0 = v ∧ OwnM wr w1.heap.size v0 (PT k) ∧ Below w1.heap.size w1 wr)
    (fun _ j _ => n - (intOf j).toNat)
  case atStart => exact ⟨0, _, Nat.zero_le _, rfl, rfl, by rw [HZ0.out]; exact OwnM.nil _ _, Below.refl _ _⟩
  case round =>
    obtain ⟨k, v, hk, rfl, rfl, hown, hb3⟩ := hrel
    rename World => w3
    have HO := Lib.hid hown
    have hz := hb3.size
    have HB2 := Lib.hid (B2.out.below (bstep hb0 hb3))
    have HA3 := Lib.hid (HA.out.below hb3)
    have HB3 := Lib.hid hb3
    clear hown hb3
    by_cases hlt : k < n
    · obtain ⟨x, hx⟩ : ∃ x, x = k * t0 := ⟨_, rfl⟩
      obtain ⟨y, hy⟩ : ∃ y, y = (k + 1) * t0 := ⟨_, rfl⟩
      have hy2 : y ≤ t0 * n := by rw [hy, Nat.mul_comm]; exact Nat.mul_le_mul (Nat.le_refl _) (by omega)
      have hxy : y = x + t0 := by rw [hy, hx, Nat.add_mul, Nat.one_mul]
      obtain ⟨b2, o2, rfl, hcl0⟩ := HB2.out 0 (by rw [← HTL.out]; omega)
      clear hcl0
      have j1 : ((k : Int) * (t0 : Int)) = (x : Int) := by rw [← Int.natCast_mul, ← hx]
      have i1 : IntKind.i64.wrap (x : Int) = (x : Int) := IntWalk.i64_in _ (by omega)
      have i2 : IntKind.i64.wrap ((k : Int) + 1) = (k : Int) + 1 := IntWalk.i64_in _ (by omega)
      have j3 : (((k : Int) + 1) * (t0 : Int)) = (y : Int) := by rw [show ((k : Int) + 1) = ((k + 1 : Nat) : Int) from by omega, ← Int.natCast_mul, ← hy]
      have i3 : IntKind.i64.wrap (y : Int) = (y : Int) := IntWalk.i64_in _ (by omega)
      have b5' : ¬ (u2 = x) := by omega
      have b1' : (x : Int) ≤ (y : Int) := by omega
      have b2' : (y : Int) ≤ (u2 : Int) := by omega
      have tll : (take_ t0 tape k).length = y - x := by rw [take_len _ _ _ (by rw [← hy, ← HTL.out]; omega)]; omega
      have hbt := (HB2.out.drop x).take t0
      have htk : (tape.drop x).take t0 = take_ t0 tape k := by unfold take_; rw [hx]
      rw [htk] at hbt
      have hpt := HZT.out k; have hpl := HZL.out k
      clear htk
      have hy3 : y - x ≤ 1048576 := by omega
      generalize take_ t0 tape k = tp at hpt tll hbt
      have HTP := Lib.hid hbt
      obtain ⟨pm, hpm⟩ : ∃ pm, pm = PolyM.pmul rt tp := ⟨_, rfl⟩
      rw [← hpm] at hpt
      have HM := Lib.hid (fun X d V (h1 : BytesAt V X rt) (h2 : BytesAt V (some ⟨b2, o2 + x, none⟩) tp) => (show Calls Try.prog 33 #[.slice X rt.length d, .slice (some ⟨b2, o2 + x, none⟩) (y - x) (u2 - x)] V (RetNew V pm) from by
        have C := HMU.out X d (some ⟨b2, o2 + x, none⟩) (u2 - x) tp V h1 h2 (by omega)
        rw [tll, ← hpm] at C
        exact C))
      have HPT1 := Lib.hid hpt; have HPL1 := Lib.hid hpl
      generalize PT k = PT0 at HPT1 HPL1 HO
      have HOL := Lib.hid HO.out.ownlt
      have b3' : x ≤ y := by omega
      have b4' : y ≤ u2 := by omega
      clear hpt hpl hbt tll hx hy hxy hpm
      go_wp2_with fail
      --FLOW--
      refine Drawn.wp_region_flowT 17 [Drawn.SP.is (v), Drawn.SP.is (.agg #[.int .i64 N, .int .i64 (t0 : Nat), .int .i64 L, .int .i64 W, .int .i64 S, .int .i64 R]), SP.root secs secs.length, SP.root rt rt.length, Drawn.SP.is (.slice (some ⟨b2, o2, none⟩) tl u2), Drawn.SP.is (.int .i64 (k : Nat)), Drawn.SP.is (.pointer (some ⟨w.heap.size, 1, none⟩)), Drawn.SP.is (.int .i64 (t0 : Nat)), Drawn.SP.is (.int .i64 (x : Nat)), Drawn.SP.is (.int .i64 (k : Nat)), Drawn.SP.is (.int .i64 ((k : Int) + 1)), Drawn.SP.is (.pointer (some ⟨w.heap.size, 1, none⟩)), Drawn.SP.is (.int .i64 (t0 : Nat)), Drawn.SP.is (.int .i64 (y : Nat)), Drawn.SP.is (.slice (some ⟨b2, o2 + x, none⟩) (y - x) (u2 - x)), SP.prod w3.heap.size pm pm.length, SP.lit w3.heap.size pm pm.length] (by kernel_rfl) (by kernel_rfl) ?_ ?_
      · intro i hi a w4 hb hev hdep
        rcases (show i = 0 ∨ i = 1 ∨ i = 2 ∨ i = 3 ∨ i = 4 ∨ i = 5 ∨ i = 6 ∨ i = 7 ∨ i = 8 ∨ i = 9 ∨ i = 10 ∨ i = 11 ∨ i = 12 ∨ i = 13 ∨ i = 14 ∨ i = 15 ∨ i = 16 by omega) with rfl | rfl | rfl | rfl | rfl | rfl | rfl | rfl | rfl | rfl | rfl | rfl | rfl | rfl | rfl | rfl | rfl
        · have e7 : a.tmps[7]?.getD undef = v := hev 7 rfl
          refine Drawn.wpOp_flow 14 rfl rfl rfl ?_
          clear hev hdep hb
          go_simp
          exact ⟨_, rfl, rfl, Below.refl _ _⟩
        · have e3 : a.tmps[3]?.getD undef = .pointer (some ⟨w.heap.size, 0, none⟩) := hev 3 rfl
          refine Drawn.wpOp_flow 15 rfl rfl rfl ?_
          have c0 := (HA3.out.below hb).c0; have c1 := (HA3.out.below hb).c1; have c2 := (HA3.out.below hb).c2; have c3 := (HA3.out.below hb).c3; have c4 := (HA3.out.below hb).c4; have c5 := (HA3.out.below hb).c5
          clear hev hdep hb
          go_simp
          exact ⟨_, rfl, rfl, Below.refl _ _⟩
        · have d1 : a.tmps[15]?.getD undef = .agg #[.int .i64 N, .int .i64 (t0 : Nat), .int .i64 L, .int .i64 W, .int .i64 S, .int .i64 R] := hdep 1 rfl
          refine Drawn.wpOp_flow 16 rfl rfl rfl ?_
          clear hev hdep
          clear hb
          go_simp
          refine (HS.out w4).mono ?_
          rintro e w' ⟨X, d, rfl, _, _, hX, hb', _⟩
          exact ⟨_, rfl, ⟨X, d, rfl, hX⟩, hb'⟩
        · obtain ⟨Xs, ds, d2, s1⟩ : (SP.root secs secs.length).p (a.tmps[16]?.getD undef) w4 := hdep 2 rfl
          refine Drawn.wpOp_flow 17 rfl rfl rfl ?_
          clear hev hdep
          have C := HR.out Xs ds w4 s1
          clear hb s1
          go_simp
          refine C.mono ?_
          rintro e w' ⟨X, d, rfl, _, _, hX, hb'⟩
          exact ⟨_, rfl, ⟨X, d, rfl, hX⟩, hb'⟩
        · have e2 : a.tmps[2]?.getD undef = .slice (some ⟨b2, o2, none⟩) tl u2 := hev 2 rfl
          refine Drawn.wpOp_flow 18 rfl rfl rfl ?_
          clear hev hdep hb
          go_simp
          exact ⟨_, rfl, rfl, Below.refl _ _⟩
        · have e8 : a.tmps[8]?.getD undef = .int .i64 (k : Nat) := hev 8 rfl
          refine Drawn.wpOp_flow 19 rfl rfl rfl ?_
          clear hev hdep hb
          go_simp
          exact ⟨_, rfl, rfl, Below.refl _ _⟩
        · have e3 : a.tmps[3]?.getD undef = .pointer (some ⟨w.heap.size, 0, none⟩) := hev 3 rfl
          refine Drawn.wpOp_flow 20 rfl rfl rfl ?_
          clear hev hdep hb
          go_simp
          exact ⟨_, rfl, rfl, Below.refl _ _⟩
        · have d6 : a.tmps[20]?.getD undef = .pointer (some ⟨w.heap.size, 1, none⟩) := hdep 6 rfl
          refine Drawn.wpOp_flow 21 rfl rfl rfl ?_
          have c0 := (HA3.out.below hb).c0; have c1 := (HA3.out.below hb).c1; have c2 := (HA3.out.below hb).c2; have c3 := (HA3.out.below hb).c3; have c4 := (HA3.out.below hb).c4; have c5 := (HA3.out.below hb).c5
          clear hev hdep hb
          go_simp
          exact ⟨_, rfl, rfl, Below.refl _ _⟩
        · have d5 : a.tmps[19]?.getD undef = .int .i64 (k : Nat) := hdep 5 rfl
          have d7 : a.tmps[21]?.getD undef = .int .i64 (t0 : Nat) := hdep 7 rfl
          refine Drawn.wpOp_flow 22 rfl rfl rfl ?_
          clear hev hdep hb
          go_simp
          exact ⟨_, rfl, rfl, Below.refl _ _⟩
        · have e8 : a.tmps[8]?.getD undef = .int .i64 (k : Nat) := hev 8 rfl
          refine Drawn.wpOp_flow 23 rfl rfl rfl ?_
          clear hev hdep hb
          go_simp
          exact ⟨_, rfl, rfl, Below.refl _ _⟩
        · have d9 : a.tmps[23]?.getD undef = .int .i64 (k : Nat) := hdep 9 rfl
          refine Drawn.wpOp_flow 24 rfl rfl rfl ?_
          clear hev hdep hb
          go_simp
          exact ⟨_, rfl, rfl, Below.refl _ _⟩
        · have e3 : a.tmps[3]?.getD undef = .pointer (some ⟨w.heap.size, 0, none⟩) := hev 3 rfl
          refine Drawn.wpOp_flow 25 rfl rfl rfl ?_
          clear hev hdep hb
          go_simp
          exact ⟨_, rfl, rfl, Below.refl _ _⟩
        · have d11 : a.tmps[25]?.getD undef = .pointer (some ⟨w.heap.size, 1, none⟩) := hdep 11 rfl
          refine Drawn.wpOp_flow 26 rfl rfl rfl ?_
          have c0 := (HA3.out.below hb).c0; have c1 := (HA3.out.below hb).c1; have c2 := (HA3.out.below hb).c2; have c3 := (HA3.out.below hb).c3; have c4 := (HA3.out.below hb).c4; have c5 := (HA3.out.below hb).c5
          clear hev hdep hb
          go_simp
          exact ⟨_, rfl, rfl, Below.refl _ _⟩
        · have d10 : a.tmps[24]?.getD undef = .int .i64 ((k : Int) + 1) := hdep 10 rfl
          have d12 : a.tmps[26]?.getD undef = .int .i64 (t0 : Nat) := hdep 12 rfl
          refine Drawn.wpOp_flow 27 rfl rfl rfl ?_
          clear hev hdep hb
          go_simp
          exact ⟨_, rfl, rfl, Below.refl _ _⟩
        · have d4 : a.tmps[18]?.getD undef = .slice (some ⟨b2, o2, none⟩) tl u2 := hdep 4 rfl
          have d8 : a.tmps[22]?.getD undef = .int .i64 (x : Nat) := hdep 8 rfl
          have d13 : a.tmps[27]?.getD undef = .int .i64 (y : Nat) := hdep 13 rfl
          refine Drawn.wpOp_flow 28 rfl rfl rfl ?_
          clear hev hdep hb
          go_simp
          exact ⟨_, rfl, rfl, Below.refl _ _⟩
        · obtain ⟨Xr, dr, d3, s2⟩ : (SP.root rt rt.length).p (a.tmps[17]?.getD undef) w4 := hdep 3 rfl
          have d14 : a.tmps[28]?.getD undef = .slice (some ⟨b2, o2 + x, none⟩) (y - x) (u2 - x) := hdep 14 rfl
          refine Drawn.wpOp_flow 29 rfl rfl rfl ?_
          clear hev hdep
          have C := HM.out Xr dr w4 s2 (HTP.out.below hb)
          have hz4 := hb.size
          clear hb s2
          go_simp
          refine C.mono ?_
          rintro e w' ⟨X, d, rfl, g1, g2, hX, hb', hn'⟩
          exact ⟨_, rfl, ⟨X, d, rfl, g1, g2, hX, fun a e => Nat.le_trans hz4 (hn' a e)⟩, hb'⟩
        · obtain ⟨Xp, dp, d15, p1, p2, p3, p4⟩ : (SP.prod w3.heap.size pm pm.length).p (a.tmps[29]?.getD undef) w4 := hdep 15 rfl
          refine Drawn.wpOp_flow 30 rfl rfl rfl ?_
          clear hev hdep
          clear hb
          have p3' := p3.alloc (.cells #[.slice Xp pm.length dp] 24)
          clear p3
          go_simp
          exact ⟨_, rfl, ⟨w4.heap.size, Xp, dp, rfl, by simp, p1, p2, p3', p4⟩, balloc _ _⟩
      · intro xq w4 hb hxq
        have vq0 : xq 0 = v := hxq 0 (by omega)
        have vq1 : xq 1 = .agg #[.int .i64 N, .int .i64 (t0 : Nat), .int .i64 L, .int .i64 W, .int .i64 S, .int .i64 R] := hxq 1 (by omega)
        have vq4 : xq 4 = .slice (some ⟨b2, o2, none⟩) tl u2 := hxq 4 (by omega)
        have vq5 : xq 5 = .int .i64 (k : Nat) := hxq 5 (by omega)
        have vq6 : xq 6 = .pointer (some ⟨w.heap.size, 1, none⟩) := hxq 6 (by omega)
        have vq7 : xq 7 = .int .i64 (t0 : Nat) := hxq 7 (by omega)
        have vq8 : xq 8 = .int .i64 (x : Nat) := hxq 8 (by omega)
        have vq9 : xq 9 = .int .i64 (k : Nat) := hxq 9 (by omega)
        have vq10 : xq 10 = .int .i64 ((k : Int) + 1) := hxq 10 (by omega)
        have vq11 : xq 11 = .pointer (some ⟨w.heap.size, 1, none⟩) := hxq 11 (by omega)
        have vq12 : xq 12 = .int .i64 (t0 : Nat) := hxq 12 (by omega)
        have vq13 : xq 13 = .int .i64 (y : Nat) := hxq 13 (by omega)
        have vq14 : xq 14 = .slice (some ⟨b2, o2 + x, none⟩) (y - x) (u2 - x) := hxq 14 (by omega)
        obtain ⟨gl, Xp, dp, vq16, q0, q1, q2, q3, q4⟩ : (SP.lit w3.heap.size pm pm.length).p (xq 16) w4 := hxq 16 (by omega)
        show wpList _ _ _ _ (Drawn.acts _ [(30, some (xq 16)), (29, some (xq 15)), (28, some (xq 14)), (27, some (xq 13)), (26, some (xq 12)), (25, some (xq 11)), (24, some (xq 10)), (23, some (xq 9)), (22, some (xq 8)), (21, some (xq 7)), (20, some (xq 6)), (19, some (xq 5)), (18, some (xq 4)), (17, some (xq 3)), (16, some (xq 2)), (15, some (xq 1)), (14, some (xq 0))]) _
        rw [vq0, vq1, vq4, vq5, vq6, vq7, vq8, vq9, vq10, vq11, vq12, vq13, vq14, vq16]
        clear hxq vq0 vq1 vq4 vq5 vq6 vq7 vq8 vq9 vq10 vq11 vq12 vq13 vq14 vq16
        generalize xq 2 = yq2
        generalize xq 3 = yq3
        generalize xq 15 = yq15
        clear xq
        simp only [Drawn.acts, List.drop_succ_cons, List.drop_zero]
        go_simp
        go_wp2_with (at_builtin; refine wpList_append_row rfl _ _ rfl w1.heap.size v PT0 rfl (HO.out.below hb) gl 1 pm Xp dp rfl q0 q1 q2 q3 (fun _ a e e' => by have h1 := (HOL.out _ e').2; have h2 := q4 a e; omega) (by have := HPL1.out; omega) (by have := hb.size; omega) ?_; intro v' w7 hown1 hb7)
        have HO1 := Lib.hid hown1; have HB7 := Lib.hid ((HB3.out.trans (hb.mono hz)).trans hb7)
        clear hown1 hb7 hb q0 q3 q4
        go_wp2
        go_roundw
        case rel => exact ⟨k + 1, _, by omega, by go_num, rfl, by rw [HPT1.out]; exact HO1.out, HB7.out⟩
        case measure => simp [intOf] <;> omega
    · obtain rfl : k = n := by omega
      go_wp2
      go_ret
      exact RetRows.later (RetRows.of_own HO.out HB3.out) hb0
end Go.Proofs.Ytofhklimofdepaa.R12
