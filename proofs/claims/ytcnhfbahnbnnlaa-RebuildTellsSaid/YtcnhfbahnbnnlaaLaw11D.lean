/- the walk of RebuildTells, where a share is turned -/
import Derived.Test.YtcnhfbahnbnnlaaLaw11C
set_option maxRecDepth 100000
namespace Go.Proofs.Ytcnhfbahnbnnlaa.Law11
open Go.RowKit PlanM StripeM LagrM DealM RebM Law08 R11

set_option maxHeartbeats 8000000 in
theorem tells_main (N T L W S R : Int) (A1 A2 : Option Addr) (b tp : List UInt8) (u1 u2 : Nat) (x0 x1 x2 : UInt8) (w : World) (hp : (⟨N, T, L, W, S, R⟩ : P).In) (h1 : BytesAt w A1 b) (k1 : b.length ≤ u1) (z1 : u1 ≤ maxLen) (h2 : BytesAt w A2 tp) (k2 : tp.length ≤ u2) (z2 : u2 ≤ maxLen) (hl : N ≤ 12 ∧ L ≤ 12 ∧ T ≤ 12) (hr : (⟨N, T, L, W, S, R⟩ : P).right = true) (hf : b.length ≤ 60) (hg : b.length ≠ 0) (hc : cost ⟨N, T, L, W, S, R⟩ b.length ≤ tp.length) (hm : N ≠ T + L) (hxn : x2 ≠ 0) :
    Calls Try.prog 5 #[.agg #[.int .i64 N, .int .i64 T, .int .i64 L, .int .i64 W, .int .i64 S, .int .i64 R], .agg #[.slice A1 b.length u1, .slice A2 tp.length u2], .agg #[.int .u8 (x0.toNat : Nat), .int .u8 (x1.toNat : Nat), .int .u8 (x2.toNat : Nat)]] w fun e w' => e = .returned (.bool true) ∧ Below w.heap.size w w' := by
  have K0 := fun w => Law10.light_any N T L W S R w
  rw [decide_eq_true hl] at K0
  have H0 := Lib.hid K0
  clear K0
  obtain ⟨q, hq⟩ : ∃ q : P, q = ⟨N, T, L, W, S, R⟩ := ⟨_, rfl⟩
  have hpq := hp
  rw [← hq] at hpq
  have hv : q.val = .agg #[.int .i64 N, .int .i64 T, .int .i64 L, .int .i64 W, .int .i64 S, .int .i64 R] := by rw [hq]; rfl
  have K3 := fun w => R08.right_any q w hpq
  rw [hq, hr, ← hq, hv] at K3
  have H3 := Lib.hid K3
  clear K3
  have hM : q.May := by rw [hq]; exact of_decide_eq_true hr
  have hMM := hM
  unfold P.May at hMM
  have eN : q.N = N := by rw [hq]
  have eT : q.T = T := by rw [hq]
  have eL : q.L = L := by rw [hq]
  obtain ⟨n, hn⟩ : ∃ n : Nat, cost q b.length = n := ⟨(cost q b.length).toNat, by
    have : 0 ≤ cost q b.length := Int.mul_nonneg (by omega) (by omega)
    omega⟩
  have K9 := fun w => R10.cost_any N T L W S R b.length w (by omega) (by omega)
  rw [← hq, hn] at K9
  have H9 := Lib.hid K9
  have i1 : IntKind.i64.wrap (T + L) = T + L := IntWalk.i64_in _ (by omega)
  clear K9
  rw [← hq, hn] at hc
  have hc1 : n ≤ tp.length := by omega
  clear hc
  obtain ⟨m, hm'⟩ : ∃ m : Nat, N = m := ⟨N.toNat, by omega⟩
  have hst := stripes_le q b.length (by omega)
  have hst1 : 1 ≤ q.stripes b.length := by
    have hen := stripes_enough q b.length (by omega) (by omega)
    rcases Nat.eq_zero_or_pos (q.stripes b.length) with h | h
    · rw [h] at hen; omega
    · exact h
  have hsn : q.stripes b.length * q.T.toNat = n := by
    have : cost q b.length = q.T * (q.stripes b.length : Nat) := rfl
    rw [this] at hn
    obtain ⟨tt, htt⟩ : ∃ tt : Nat, q.T = tt := ⟨q.T.toNat, by omega⟩
    rw [htt] at hn ⊢
    rw [Int.toNat_natCast, Nat.mul_comm]
    exact_mod_cast hn
  have E0 : dealE q b tp = 0 := by unfold dealE; rw [hq, hr, if_pos rfl, ← hq, if_neg (by omega), if_neg (by omega)]
  have hNm : q.N.toNat = m := by rw [eN, hm']; rfl
  obtain ⟨i, hi⟩ : ∃ i, i = x0.toNat % m := ⟨_, rfl⟩
  have him : i < m := by rw [hi]; exact Nat.mod_lt _ (by omega)
  obtain ⟨x, hx⟩ : ∃ x, x = x1.toNat % q.stripes b.length := ⟨_, rfl⟩
  have hxs : x < q.stripes b.length := by rw [hx]; exact Nat.mod_lt _ (by omega)
  obtain ⟨sh, hsh⟩ : ∃ s, s = shares q (polys q b tp) := ⟨_, rfl⟩
  have D0 : dealA q b tp = sh := by unfold dealA; rw [E0, if_pos rfl, hsh]
  have hshl : sh.length = m := by rw [hsh, shares_len, hNm]
  obtain ⟨s, hs⟩ : ∃ s, s = share (polys q b tp) ((i : Int) + 1) := ⟨_, rfl⟩
  have hrow : ∀ hj : i < sh.length, sh[i] = s := fun hj => by subst hsh; rw [shares_get, hs]
  have hsl : s.length = q.stripes b.length := by rw [hs, share_len, polys_len]
  have htells : ragree q (all m) (sh.set i (s.set x (GfM.add (PolyM.co s x) x2))) = false := by
    have := turned_tells hM (b := b) (tp := tp) (by rw [hsn]; exact hc1) (by rw [eN, eT, eL]; exact hm) (i := i) (x := x) (d := x2) (by rw [hNm]; exact him) hxs hxn
    unfold turned at this
    rw [hNm, ← hs, ← hsh] at this
    exact this
  have hagA : ragreeA q b.length (all m) (sh.set i (s.set x (GfM.add (PolyM.co s x) x2))) = false := by unfold ragreeA; rw [htells, Bool.and_false]
  have hsetl : (sh.set i (s.set x (GfM.add (PolyM.co s x) x2))).length = m := by rw [List.length_set, hshl]
  have hall : (all m).length = m := all_len m
  have KD := fun bf w (ht : Gf.Tab w bf) (h1 : BytesAt w A1 b) (h2 : BytesAt w A2 tp) => Deal.deal_own bf q A1 A2 b tp u1 u2 w hpq ht h1 k1 z1 h2 k2 z2 (by omega)
  rw [E0, D0, hv] at KD
  have KA := fun bf A3 A c3 c V (ht : Gf.Tab V bf) (h3 : IntsAt V A3 (all m)) (k3 : m ≤ c3) (z3 : c3 ≤ maxLen) (hA : RowsAt V A (sh.set i (s.set x (GfM.add (PolyM.co s x) x2)))) (e1 : m ≤ c) (e2 : c ≤ maxLen) =>
    Rebuild.agree_any bf q b.length A3 A (all m) _ c3 c V hpq (by unfold In64; omega) ht h3 (by rw [hall]; exact k3) z3 (Deal.all_in m (by omega)) hA (by rw [hsetl]; exact e1) e2 (by rw [hall]; omega) (by rw [hsetl]; omega)
  rw [hagA, hv, hall] at KA
  simp only [hsetl] at KA
  have KS := fun V => R08.stripes_any q b.length V (by omega)
  rw [hv] at KS
  have KL := fun V => R08.all_any q V (by omega) (by omega)
  rw [hv, hNm] at KL
  have hnm : ((m : Int) != N) = false := by rw [hm']; simp
  have hN0 : ¬ N = 0 := by omega
  have q1 : (x0.toNat : Int).tmod N = (i : Int) := by rw [hm', hi, Int.tmod_eq_emod_of_nonneg (by omega)]; exact (Int.natCast_emod _ _).symm
  have q2 : IntKind.i64.wrap (i : Int) = (i : Int) := IntWalk.i64_in _ (by omega)
  obtain ⟨n', hn'⟩ : ∃ n', n' = q.stripes b.length := ⟨_, rfl⟩
  rw [← hn'] at hx hxs hsl KS hst hst1
  have q3 : (x1.toNat : Int).tmod (n' : Int) = (x : Int) := by rw [hx, Int.tmod_eq_emod_of_nonneg (by omega)]; exact (Int.natCast_emod _ _).symm
  have q4 : IntKind.i64.wrap (x : Int) = (x : Int) := IntWalk.i64_in _ (by omega)
  have hn0 : ¬ (n' : Int) = 0 := by omega
  have hne : (N == T + L) = false := by simpa using hm
  have hxz : ((x2.toNat : Int) == 0) = false := by rw [toNat_eq0]; simpa using hxn
  have hm12 : m ≤ 12 := by omega
  have HD := Lib.hid KD; have HKA := Lib.hid KA; have HKS := Lib.hid KS; have HKL := Lib.hid KL; have HROW := Lib.hid hrow; have HSL := Lib.hid hsl; have HSHL := Lib.hid hshl; have HALL := Lib.hid hall; have HSET := Lib.hid hsetl
  have B1 := Lib.hid h1; have B2 := Lib.hid h2
  have Q1 := Lib.hid q1; have Q2 := Lib.hid q2; have Q3 := Lib.hid q3; have Q4 := Lib.hid q4
  clear hm' hsn E0 hsh D0 hshl hs hrow htells hagA hsetl hall KD KA KS KL hi hx hm hxn hn' h1 h2 hNm q1 q2 q3 q4 hsl
  have hfz : ((b.length : Int) == 0) = false := by simpa using hg
  clear hg
  clear hl
  clear hq hr hp hpq hv hM hMM eN eT eL hn
  have HA := Lib.hid (LiesT.new w N T L W S R (.slice A1 b.length u1) (.slice A2 tp.length u2) (.int .u8 (x0.toNat : Nat)) (.int .u8 (x1.toNat : Nat)) (.int .u8 (x2.toNat : Nat)) 42 50)
  have HB0 := Lib.hid (show Below w.heap.size w (((w.alloc (.cells #[.int .i64 N, .int .i64 T, .int .i64 L, .int .i64 W, .int .i64 S, .int .i64 R] 23)).alloc (.cells #[.slice A1 b.length u1, .slice A2 tp.length u2] 42)).alloc (.cells #[.int .u8 (x0.toNat : Nat), .int .u8 (x1.toNat : Nat), .int .u8 (x2.toNat : Nat)] 50)) from bstep (bstep (balloc _ _) (balloc _ _)) (balloc _ _))
  go_enter Try.func5, Try.ntmps5
  go_wp2_with fail
  generalize ((w.alloc (.cells #[.int .i64 N, .int .i64 T, .int .i64 L, .int .i64 W, .int .i64 S, .int .i64 R] 23)).alloc (.cells #[.slice A1 b.length u1, .slice A2 tp.length u2] 42)).alloc (.cells #[.int .u8 (x0.toNat : Nat), .int .u8 (x1.toNat : Nat), .int .u8 (x2.toNat : Nat)] 50) = w0 at *
  refine Drawn.wp_region_flowL 6 [Drawn.SP.is (.pointer (some ⟨w.heap.size + 1, 0, none⟩)), Drawn.SP.is (.slice A1 b.length u1), Drawn.SP.is (.pointer (some ⟨w.heap.size + 1, 1, none⟩)), Drawn.SP.is (.slice A2 tp.length u2), Drawn.SP.is (.slice A1 b.length u1), Drawn.SP.is (.slice A2 tp.length u2)] (by kernel_rfl) (by kernel_rfl) ?_ ?_
  · intro i hi a w1 hb hev hdep
    rcases (show i = 0 ∨ i = 1 ∨ i = 2 ∨ i = 3 ∨ i = 4 ∨ i = 5 by omega) with rfl | rfl | rfl | rfl | rfl | rfl
    · have e4 : a.tmps[4]?.getD undef = .pointer (some ⟨w.heap.size + 1, 0, none⟩) := hev 4 rfl
      refine Drawn.wpOp_flow 14 rfl rfl rfl ?_
      clear hev hdep hb
      go_simp
      exact ⟨_, rfl, rfl, Below.refl _ _⟩
    · have d0 : a.tmps[14]?.getD undef = .pointer (some ⟨w.heap.size + 1, 0, none⟩) := hdep 0 rfl
      refine Drawn.wpOp_flow 15 rfl rfl rfl ?_
      have a0 := (HA.out.below hb).a0
      have a1 := (HA.out.below hb).a1
      clear hev hdep hb
      go_simp
      exact ⟨_, rfl, rfl, Below.refl _ _⟩
    · have e4 : a.tmps[4]?.getD undef = .pointer (some ⟨w.heap.size + 1, 0, none⟩) := hev 4 rfl
      refine Drawn.wpOp_flow 16 rfl rfl rfl ?_
      clear hev hdep hb
      go_simp
      exact ⟨_, rfl, rfl, Below.refl _ _⟩
    · have d2 : a.tmps[16]?.getD undef = .pointer (some ⟨w.heap.size + 1, 1, none⟩) := hdep 2 rfl
      refine Drawn.wpOp_flow 17 rfl rfl rfl ?_
      have a0 := (HA.out.below hb).a0
      have a1 := (HA.out.below hb).a1
      clear hev hdep hb
      go_simp
      exact ⟨_, rfl, rfl, Below.refl _ _⟩
    · have d1 : a.tmps[15]?.getD undef = .slice A1 b.length u1 := hdep 1 rfl
      refine Drawn.wpOp_flow 7 rfl rfl rfl ?_
      clear hev hdep hb
      go_simp
      exact ⟨_, rfl, rfl, Below.refl _ _⟩
    · have d3 : a.tmps[17]?.getD undef = .slice A2 tp.length u2 := hdep 3 rfl
      refine Drawn.wpOp_flow 8 rfl rfl rfl ?_
      clear hev hdep hb
      go_simp
      exact ⟨_, rfl, rfl, Below.refl _ _⟩
  · intro xq w1 hb hxq
    have vq0 : xq 0 = .pointer (some ⟨w.heap.size + 1, 0, none⟩) := hxq 0 (by omega)
    have vq1 : xq 1 = .slice A1 b.length u1 := hxq 1 (by omega)
    have vq2 : xq 2 = .pointer (some ⟨w.heap.size + 1, 1, none⟩) := hxq 2 (by omega)
    have vq3 : xq 3 = .slice A2 tp.length u2 := hxq 3 (by omega)
    have vq4 : xq 4 = .slice A1 b.length u1 := hxq 4 (by omega)
    have vq5 : xq 5 = .slice A2 tp.length u2 := hxq 5 (by omega)
    show Exit.then _ _ Exit.normal (Drawn.acts _ [(8, some (xq 5)), (7, some (xq 4)), (17, some (xq 3)), (16, some (xq 2)), (15, some (xq 1)), (14, some (xq 0))]) _
    rw [vq0, vq1, vq2, vq3, vq4, vq5]
    clear hxq vq0 vq1 vq2 vq3 vq4 vq5
    clear xq
    simp only [Drawn.acts]
    go_simp
    have hb1 := hb
    clear hb
    obtain ⟨c0, c1, c2, c3, c4, c5⟩ := six (HA.out.below hb1).plan
    have e0 := (HA.out.below hb1).t0
    have e1 := (HA.out.below hb1).t1
    have e2 := (HA.out.below hb1).t2
    go_at_K
    go_wp2_with fail
    refine (H0.out _).mono ?_
    rintro e w2 ⟨rfl, hb2'⟩
    have hb2 := bstep hb1 hb2'
    clear c0 c1 c2 c3 c4 c5 e0 e1 e2
    clear hb1 hb2'
    obtain ⟨c0, c1, c2, c3, c4, c5⟩ := six (HA.out.below hb2).plan
    have e0 := (HA.out.below hb2).t0
    have e1 := (HA.out.below hb2).t1
    have e2 := (HA.out.below hb2).t2
    go_wp2_with fail
    refine (H3.out _).mono ?_
    rintro e w3 ⟨rfl, hbx⟩
    have hb3 := bstep hb2 hbx
    clear c0 c1 c2 c3 c4 c5 e0 e1 e2
    clear hb2 hbx
    obtain ⟨c0, c1, c2, c3, c4, c5⟩ := six (HA.out.below hb3).plan
    have e0 := (HA.out.below hb3).t0
    have e1 := (HA.out.below hb3).t1
    have e2 := (HA.out.below hb3).t2
    go_wp2_with fail
    refine (H9.out _).mono ?_
    rintro e w4 ⟨rfl, hbx⟩
    have hb4 := bstep hb3 hbx
    clear c0 c1 c2 c3 c4 c5 e0 e1 e2
    clear hb3 hbx
    obtain ⟨c0, c1, c2, c3, c4, c5⟩ := six (HA.out.below hb4).plan
    have e0 := (HA.out.below hb4).t0
    have e1 := (HA.out.below hb4).t1
    have e2 := (HA.out.below hb4).t2
    go_wp2_with fail
    refine (Gf.new_any w4).mono ?_
    rintro e w7 ⟨rfl, ht, hbx, _⟩
    have hb7 := bstep hb4 hbx
    clear c0 c1 c2 c3 c4 c5 e0 e1 e2
    clear hb4 hbx
    generalize w4.heap.size = bf at *
    have HT := Lib.hid ht
    clear ht
    obtain ⟨c0, c1, c2, c3, c4, c5⟩ := six (HA.out.below hb7).plan
    have e0 := (HA.out.below hb7).t0
    have e1 := (HA.out.below hb7).t1
    have e2 := (HA.out.below hb7).t2
    go_wp2_with fail
    refine (HD.out bf w7 HT.out (B1.out.below (bstep HB0.out hb7)) (B2.out.below (bstep HB0.out hb7))).mono ?_
    rintro e w8 ⟨v, rfl, ho, hnew, hbx⟩
    obtain ⟨Rb, dX, rfl, hRb, hRb2, k3, z3⟩ := ho.form (by rw [HSHL.out]; omega)
    have his : i < sh.length := by rw [HSHL.out]; exact him
    obtain ⟨b', o', B, d, hA', f1, g1, g2, hB, hBn⟩ := hnew _ _ rfl i his
    obtain ⟨rfl, rfl⟩ : b' = Rb ∧ o' = 0 := by injection hA' with h; injection h with h1 h2; exact ⟨h1.symm, h2.symm⟩
    rw [HROW.out his, HSL.out, Nat.zero_add] at f1
    rw [HROW.out his, HSL.out] at g1
    rw [HROW.out his] at hB
    rw [HSHL.out] at k3 ⊢
    have hb8 := bstep hb7 hbx
    have HA7 := Lib.hid (HA.out.below hb7)
    have HB7 := Lib.hid (bstep HB0.out hb7)
    have HT7 := Lib.hid HT.out
    have HO := Lib.hid ho; have HB := Lib.hid hB; have HF := Lib.hid f1; have HW8 := Lib.hid hbx
    clear c0 c1 c2 c3 c4 c5 e0 e1 e2
    clear hb7 hbx ho HT hnew hA' hB f1 his
    obtain ⟨c0, c1, c2, c3, c4, c5⟩ := six (HA.out.below hb8).plan
    have e0 := (HA.out.below hb8).t0
    have e1 := (HA.out.below hb8).t1
    have e2 := (HA.out.below hb8).t2
    have q1 := Q1.out
    have q2 := Q2.out
    have q5 := u8_wf x0
    go_wp2_with fail
    clear q1 q2 q5
    clear c0 c1 c2 c3 c4 c5 e0 e1 e2
    clear hb8
    refine Drawn.wp_region_flowL 10 [Drawn.SP.is (.slice (some ⟨b', 0, none⟩) m dX), Drawn.SP.is (.int .i64 (i : Nat)), Drawn.SP.is (.pointer (some ⟨b', i, none⟩)), Drawn.SP.is (.slice B n' d), Drawn.SP.is (.int .i64 (n' : Nat)), Drawn.SP.is (.agg #[.int .i64 N, .int .i64 T, .int .i64 L, .int .i64 W, .int .i64 S, .int .i64 R]), Drawn.SP.is (.slice A1 b.length u1), Drawn.SP.is (.int .i64 (b.length : Nat)), Drawn.SP.is (.int .i64 (n' : Nat)), Drawn.SP.is (.bool false)] (by kernel_rfl) (by kernel_rfl) ?_ ?_
    · intro i hi a w9 hb hev hdep
      rcases (show i = 0 ∨ i = 1 ∨ i = 2 ∨ i = 3 ∨ i = 4 ∨ i = 5 ∨ i = 6 ∨ i = 7 ∨ i = 8 ∨ i = 9 by omega) with rfl | rfl | rfl | rfl | rfl | rfl | rfl | rfl | rfl | rfl
      · have e10 : a.tmps[10]?.getD undef = .slice (some ⟨b', 0, none⟩) m dX := hev 10 rfl
        refine Drawn.wpOp_flow 85 rfl rfl rfl ?_
        clear hev hdep hb
        go_simp
        exact ⟨_, rfl, rfl, Below.refl _ _⟩
      · have e12 : a.tmps[12]?.getD undef = .int .i64 (i : Nat) := hev 12 rfl
        refine Drawn.wpOp_flow 86 rfl rfl rfl ?_
        clear hev hdep hb
        go_simp
        exact ⟨_, rfl, rfl, Below.refl _ _⟩
      · have d0 : a.tmps[85]?.getD undef = .slice (some ⟨b', 0, none⟩) m dX := hdep 0 rfl
        have d1 : a.tmps[86]?.getD undef = .int .i64 (i : Nat) := hdep 1 rfl
        refine Drawn.wpOp_flow 87 rfl rfl rfl ?_
        clear hev hdep hb
        go_simp
        exact ⟨_, rfl, rfl, Below.refl _ _⟩
      · have d2 : a.tmps[87]?.getD undef = .pointer (some ⟨b', i, none⟩) := hdep 2 rfl
        refine Drawn.wpOp_flow 88 rfl rfl rfl ?_
        obtain ⟨c0, c1, c2, c3, c4, c5⟩ := six (HA7.out.below (bstep HW8.out hb)).plan
        have f1 := (hb.cell (p := ⟨b', i, none⟩) (cell_lt HF.out)).trans HF.out
        clear hev hdep hb
        go_simp
        exact ⟨_, rfl, rfl, Below.refl _ _⟩
      · have d3 : a.tmps[88]?.getD undef = .slice B n' d := hdep 3 rfl
        refine Drawn.wpOp_flow 89 rfl rfl rfl ?_
        clear hev hdep hb
        go_simp
        exact ⟨_, rfl, rfl, Below.refl _ _⟩
      · have e3 : a.tmps[3]?.getD undef = .pointer (some ⟨w.heap.size, 0, none⟩) := hev 3 rfl
        refine Drawn.wpOp_flow 90 rfl rfl rfl ?_
        obtain ⟨c0, c1, c2, c3, c4, c5⟩ := six (HA7.out.below (bstep HW8.out hb)).plan
        have f1 := (hb.cell (p := ⟨b', i, none⟩) (cell_lt HF.out)).trans HF.out
        clear hev hdep hb
        go_simp
        exact ⟨_, rfl, rfl, Below.refl _ _⟩
      · have e7 : a.tmps[7]?.getD undef = .slice A1 b.length u1 := hev 7 rfl
        refine Drawn.wpOp_flow 91 rfl rfl rfl ?_
        clear hev hdep hb
        go_simp
        exact ⟨_, rfl, rfl, Below.refl _ _⟩
      · have d6 : a.tmps[91]?.getD undef = .slice A1 b.length u1 := hdep 6 rfl
        refine Drawn.wpOp_flow 92 rfl rfl rfl ?_
        clear hev hdep hb
        go_simp
        exact ⟨_, rfl, rfl, Below.refl _ _⟩
      · have d5 : a.tmps[90]?.getD undef = .agg #[.int .i64 N, .int .i64 T, .int .i64 L, .int .i64 W, .int .i64 S, .int .i64 R] := hdep 5 rfl
        have d7 : a.tmps[92]?.getD undef = .int .i64 (b.length : Nat) := hdep 7 rfl
        refine Drawn.wpOp_flow 93 rfl rfl rfl ?_
        clear hev hdep
        have C := HKS.out w9
        clear hb
        go_simp
        refine C.mono ?_
        rintro e w' ⟨rfl, hb'⟩
        exact ⟨_, rfl, rfl, hb'⟩
      · have d4 : a.tmps[89]?.getD undef = .int .i64 (n' : Nat) := hdep 4 rfl
        have d8 : a.tmps[93]?.getD undef = .int .i64 (n' : Nat) := hdep 8 rfl
        refine Drawn.wpOp_flow 94 rfl rfl rfl ?_
        clear hev hdep hb
        go_simp
        exact ⟨_, rfl, rfl, Below.refl _ _⟩
    · intro xq w9 hb hxq
      have vq0 : xq 0 = .slice (some ⟨b', 0, none⟩) m dX := hxq 0 (by omega)
      have vq1 : xq 1 = .int .i64 (i : Nat) := hxq 1 (by omega)
      have vq2 : xq 2 = .pointer (some ⟨b', i, none⟩) := hxq 2 (by omega)
      have vq3 : xq 3 = .slice B n' d := hxq 3 (by omega)
      have vq4 : xq 4 = .int .i64 (n' : Nat) := hxq 4 (by omega)
      have vq5 : xq 5 = .agg #[.int .i64 N, .int .i64 T, .int .i64 L, .int .i64 W, .int .i64 S, .int .i64 R] := hxq 5 (by omega)
      have vq6 : xq 6 = .slice A1 b.length u1 := hxq 6 (by omega)
      have vq7 : xq 7 = .int .i64 (b.length : Nat) := hxq 7 (by omega)
      have vq8 : xq 8 = .int .i64 (n' : Nat) := hxq 8 (by omega)
      have vq9 : xq 9 = .bool false := hxq 9 (by omega)
      show Exit.then _ _ Exit.normal (Drawn.acts _ [(94, some (xq 9)), (93, some (xq 8)), (92, some (xq 7)), (91, some (xq 6)), (90, some (xq 5)), (89, some (xq 4)), (88, some (xq 3)), (87, some (xq 2)), (86, some (xq 1)), (85, some (xq 0))]) _
      rw [vq0, vq1, vq2, vq3, vq4, vq5, vq6, vq7, vq8, vq9]
      clear hxq vq0 vq1 vq2 vq3 vq4 vq5 vq6 vq7 vq8 vq9
      clear xq
      simp only [Drawn.acts]
      go_simp
      have f9 := (hb.cell (p := ⟨b', i, none⟩) (cell_lt HF.out)).trans HF.out
      have HW9 := Lib.hid (bstep HW8.out hb)
      have HO9 := Lib.hid (HO.out.below hb)
      have HB9 := Lib.hid (HB.out.below hb)
      have F9 := Lib.hid f9
      have hRz : b' < w9.heap.size := cell_lt f9
      have hRz2 : ¬ b' = w9.heap.size := by omega
      clear hb
      go_at_K
      go_wp2_with (at_builtin; refine wpList_append_bytes rfl (.tmp 95) (.tmp 99) rfl w9.heap.size (.slice (some ⟨w9.heap.size, 0, none⟩) 0 0) [] s rfl (Own.empty w9 _ (Nat.le_refl _)) B n' d rfl HSL.out.symm (HB9.out.alloc _) (by rw [HSL.out]; simp; omega) (by simp) ?_; intro v' w10 hown1 hb10)
      rw [List.nil_append] at hown1
      obtain ⟨gs, cs, rfl, hgs, k4, z4⟩ := hown1.form (by rw [HSL.out]; omega)
      rw [HSL.out] at k4 ⊢
      have hxsl : x < s.length := by rw [HSL.out]; exact hxs
      have hb9 : Below w9.heap.size w9 w10 := ⟨hb10.os, hb10.tape, hb10.output, Nat.le_trans (by simp) hb10.size, fun k hk => (hb10.block k hk).trans (Below.heap_alloc _ _ _ hk)⟩
      have HA10 := Lib.hid (HA7.out.below (bstep HW9.out hb9))
      have HOW := Lib.hid hown1; have HB10 := Lib.hid hb9
      have hgR : ¬ gs = b' := by omega
      have hRg : ¬ b' = gs := by omega
      rw [HSL.out] at HOW
      clear hown1 hb10 hb9 f9
      refine Drawn.wp_region_flowT 13 [Drawn.SP.is (.slice (some ⟨gs, 0, none⟩) n' cs), Drawn.SP.is (.pointer (some ⟨w.heap.size + 1 + 1, 1, none⟩)), Drawn.SP.is (.int .u8 (x1.toNat : Nat)), Drawn.SP.is (.int .i64 (x1.toNat : Nat)), Drawn.SP.is (.slice (some ⟨gs, 0, none⟩) n' cs), Drawn.SP.is (.int .i64 (n' : Nat)), Drawn.SP.is (.int .i64 (x : Nat)), Drawn.SP.is (.pointer (some ⟨gs, x, none⟩)), Drawn.SP.is (.int .u8 ((PolyM.co s x).toNat : Nat)), Drawn.SP.is (.pointer (some ⟨w.heap.size + 1 + 1, 2, none⟩)), Drawn.SP.is (.int .u8 (x2.toNat : Nat)), Drawn.SP.is (.int .u8 ((GfM.add (PolyM.co s x) x2).toNat : Nat)), Drawn.SP.is (.pointer (some ⟨gs, x, none⟩))] (by kernel_rfl) (by kernel_rfl) ?_ ?_
      · intro i hi a w11 hb hev hdep
        rcases (show i = 0 ∨ i = 1 ∨ i = 2 ∨ i = 3 ∨ i = 4 ∨ i = 5 ∨ i = 6 ∨ i = 7 ∨ i = 8 ∨ i = 9 ∨ i = 10 ∨ i = 11 ∨ i = 12 by omega) with rfl | rfl | rfl | rfl | rfl | rfl | rfl | rfl | rfl | rfl | rfl | rfl | rfl
        · have e13 : a.tmps[13]?.getD undef = .slice (some ⟨gs, 0, none⟩) n' cs := hev 13 rfl
          refine Drawn.wpOp_flow 101 rfl rfl rfl ?_
          clear hev hdep hb
          go_simp
          exact ⟨_, rfl, rfl, Below.refl _ _⟩
        · have e5 : a.tmps[5]?.getD undef = .pointer (some ⟨w.heap.size + 1 + 1, 0, none⟩) := hev 5 rfl
          refine Drawn.wpOp_flow 102 rfl rfl rfl ?_
          clear hev hdep hb
          go_simp
          exact ⟨_, rfl, rfl, Below.refl _ _⟩
        · have d1 : a.tmps[102]?.getD undef = .pointer (some ⟨w.heap.size + 1 + 1, 1, none⟩) := hdep 1 rfl
          refine Drawn.wpOp_flow 103 rfl rfl rfl ?_
          have f1 := (HA10.out.below hb).t1
          have f2 := (HA10.out.below hb).t2
          have f3 := (Own.store (HOW.out.below hb) hxsl 0).1
          rw [← PolyM.co_get] at f3
          clear hev hdep hb
          go_simp
          exact ⟨_, rfl, rfl, Below.refl _ _⟩
        · have d2 : a.tmps[103]?.getD undef = .int .u8 (x1.toNat : Nat) := hdep 2 rfl
          refine Drawn.wpOp_flow 104 rfl rfl rfl ?_
          clear hev hdep
          have hw := u8_wf x1
          have hw2 : IntKind.i64.wrap (x1.toNat : Int) = (x1.toNat : Int) := IntWalk.i64_in _ (by omega)
          clear hb
          go_simp
          exact ⟨_, rfl, rfl, Below.refl _ _⟩
        · have e13 : a.tmps[13]?.getD undef = .slice (some ⟨gs, 0, none⟩) n' cs := hev 13 rfl
          refine Drawn.wpOp_flow 105 rfl rfl rfl ?_
          clear hev hdep hb
          go_simp
          exact ⟨_, rfl, rfl, Below.refl _ _⟩
        · have d4 : a.tmps[105]?.getD undef = .slice (some ⟨gs, 0, none⟩) n' cs := hdep 4 rfl
          refine Drawn.wpOp_flow 106 rfl rfl rfl ?_
          clear hev hdep hb
          go_simp
          exact ⟨_, rfl, rfl, Below.refl _ _⟩
        · have d3 : a.tmps[104]?.getD undef = .int .i64 (x1.toNat : Nat) := hdep 3 rfl
          have d5 : a.tmps[106]?.getD undef = .int .i64 (n' : Nat) := hdep 5 rfl
          refine Drawn.wpOp_flow 107 rfl rfl rfl ?_
          clear hev hdep
          have q3 := Q3.out
          have q4 := Q4.out
          have q6 : ¬ n' = 0 := by omega
          clear hb
          go_simp
          exact ⟨_, rfl, rfl, Below.refl _ _⟩
        · have d0 : a.tmps[101]?.getD undef = .slice (some ⟨gs, 0, none⟩) n' cs := hdep 0 rfl
          have d6 : a.tmps[107]?.getD undef = .int .i64 (x : Nat) := hdep 6 rfl
          refine Drawn.wpOp_flow 108 rfl rfl rfl ?_
          clear hev hdep hb
          go_simp
          exact ⟨_, rfl, rfl, Below.refl _ _⟩
        · have d7 : a.tmps[108]?.getD undef = .pointer (some ⟨gs, x, none⟩) := hdep 7 rfl
          refine Drawn.wpOp_flow 109 rfl rfl rfl ?_
          have f1 := (HA10.out.below hb).t1
          have f2 := (HA10.out.below hb).t2
          have f3 := (Own.store (HOW.out.below hb) hxsl 0).1
          rw [← PolyM.co_get] at f3
          clear hev hdep hb
          go_simp
          exact ⟨_, rfl, rfl, Below.refl _ _⟩
        · have e5 : a.tmps[5]?.getD undef = .pointer (some ⟨w.heap.size + 1 + 1, 0, none⟩) := hev 5 rfl
          refine Drawn.wpOp_flow 110 rfl rfl rfl ?_
          clear hev hdep hb
          go_simp
          exact ⟨_, rfl, rfl, Below.refl _ _⟩
        · have d9 : a.tmps[110]?.getD undef = .pointer (some ⟨w.heap.size + 1 + 1, 2, none⟩) := hdep 9 rfl
          refine Drawn.wpOp_flow 111 rfl rfl rfl ?_
          have f1 := (HA10.out.below hb).t1
          have f2 := (HA10.out.below hb).t2
          have f3 := (Own.store (HOW.out.below hb) hxsl 0).1
          rw [← PolyM.co_get] at f3
          clear hev hdep hb
          go_simp
          exact ⟨_, rfl, rfl, Below.refl _ _⟩
        · have d8 : a.tmps[109]?.getD undef = .int .u8 ((PolyM.co s x).toNat : Nat) := hdep 8 rfl
          have d10 : a.tmps[111]?.getD undef = .int .u8 (x2.toNat : Nat) := hdep 10 rfl
          refine Drawn.wpOp_flow 112 rfl rfl rfl ?_
          clear hev hdep hb
          go_simp
          exact ⟨_, rfl, rfl, Below.refl _ _⟩
        · have d0 : a.tmps[101]?.getD undef = .slice (some ⟨gs, 0, none⟩) n' cs := hdep 0 rfl
          have d6 : a.tmps[107]?.getD undef = .int .i64 (x : Nat) := hdep 6 rfl
          refine Drawn.wpOp_flow 113 rfl rfl rfl ?_
          clear hev hdep hb
          go_simp
          exact ⟨_, rfl, rfl, Below.refl _ _⟩
      · intro xq w11 hb hxq
        have vq0 : xq 0 = .slice (some ⟨gs, 0, none⟩) n' cs := hxq 0 (by omega)
        have vq1 : xq 1 = .pointer (some ⟨w.heap.size + 1 + 1, 1, none⟩) := hxq 1 (by omega)
        have vq2 : xq 2 = .int .u8 (x1.toNat : Nat) := hxq 2 (by omega)
        have vq3 : xq 3 = .int .i64 (x1.toNat : Nat) := hxq 3 (by omega)
        have vq4 : xq 4 = .slice (some ⟨gs, 0, none⟩) n' cs := hxq 4 (by omega)
        have vq5 : xq 5 = .int .i64 (n' : Nat) := hxq 5 (by omega)
        have vq6 : xq 6 = .int .i64 (x : Nat) := hxq 6 (by omega)
        have vq7 : xq 7 = .pointer (some ⟨gs, x, none⟩) := hxq 7 (by omega)
        have vq8 : xq 8 = .int .u8 ((PolyM.co s x).toNat : Nat) := hxq 8 (by omega)
        have vq9 : xq 9 = .pointer (some ⟨w.heap.size + 1 + 1, 2, none⟩) := hxq 9 (by omega)
        have vq10 : xq 10 = .int .u8 (x2.toNat : Nat) := hxq 10 (by omega)
        have vq11 : xq 11 = .int .u8 ((GfM.add (PolyM.co s x) x2).toNat : Nat) := hxq 11 (by omega)
        have vq12 : xq 12 = .pointer (some ⟨gs, x, none⟩) := hxq 12 (by omega)
        show wpList _ _ _ _ (Drawn.acts _ [(113, some (xq 12)), (112, some (xq 11)), (111, some (xq 10)), (110, some (xq 9)), (109, some (xq 8)), (108, some (xq 7)), (107, some (xq 6)), (106, some (xq 5)), (105, some (xq 4)), (104, some (xq 3)), (103, some (xq 2)), (102, some (xq 1)), (101, some (xq 0))]) _
        rw [vq0, vq1, vq2, vq3, vq4, vq5, vq6, vq7, vq8, vq9, vq10, vq11, vq12]
        clear hxq vq0 vq1 vq2 vq3 vq4 vq5 vq6 vq7 vq8 vq9 vq10 vq11 vq12
        clear xq
        simp only [Drawn.acts, List.drop_succ_cons, List.drop_zero]
        go_simp
        obtain ⟨s1, s2, s3⟩ := Own.store (HOW.out.below hb) hxsl (GfM.add (PolyM.co s x) x2)
        have hbw : Below w9.heap.size w9 w11 := bstep HB10.out hb
        have HO11 := Lib.hid (HO9.out.below (hbw.setCell (p := ⟨gs, x, none⟩) hgs (.int .u8 ((GfM.add (PolyM.co s x) x2).toNat : Nat))))
        obtain ⟨Ab, cb, hBs, kb, zb, hbs⟩ := s3.bytes
        have hsl2 : (s.set x (GfM.add (PolyM.co s x) x2)).length = n' := by rw [List.length_set, HSL.out]
        obtain ⟨rfl, rfl⟩ : some ⟨gs, 0, none⟩ = Ab ∧ cs = cb := by injection hBs with h1 _ h2; exact ⟨h1, h2⟩
        obtain ⟨g', cap', hv', _, ⟨u0, cu⟩, fu, ho'⟩ := HO11.out.store (i := i) (by rw [HSHL.out]; exact him) hsl2 hbs kb zb (fun a e => by injection e with e; subst e; intro e; simp only [Value.ownBlock] at e; injection e with e; exact hRg e)
        obtain rfl : b' = g' := by injection hv' with h; injection h with h; injection h
        have f11 := (hbw.cell (p := ⟨b', i, none⟩) hRz).trans F9.out
        have fr11 : w11.frozen? ⟨b', i, none⟩ = false := by simpa [World.frozen?_setCell] using fu
        have hbE := ((HW9.out.trans (hbw.mono HW9.out.size)).setCell (p := ⟨gs, x, none⟩) (Nat.le_trans HW9.out.size hgs) (.int .u8 ((GfM.add (PolyM.co s x) x2).toNat : Nat))).setCell (p := ⟨b', i, none⟩) hRb (.slice (some ⟨gs, 0, none⟩) n' cs)
        have HBE := Lib.hid hbE
        have HOE := Lib.hid ho'
        clear HO9 HO11 ho' hbs hBs s3 hv' hb hbw kb zb hsl2 cu fu hbE
        go_wp2_with fail
        generalize (w11.setCell ⟨gs, x, none⟩ (.int .u8 ((GfM.add (PolyM.co s x) x2).toNat : Nat))).setCell ⟨b', i, none⟩ (.slice (some ⟨gs, 0, none⟩) n' cs) = w13 at *
        obtain ⟨AE, cE, hvE, _, _, hrE, _⟩ := HOE.out.rows
        obtain rfl : some ⟨b', 0, none⟩ = AE := by injection hvE
        have HRE := Lib.hid hrE
        clear hrE hvE HOE s1 s2 f11 fr11
        refine Drawn.wp_region_flowL 13 [Drawn.SP.is (.pointer (some ⟨bf, 0, none⟩)), Drawn.SP.is (.agg #[.int .i64 N, .int .i64 T, .int .i64 L, .int .i64 W, .int .i64 S, .int .i64 R]), Drawn.SP.is (.slice A1 b.length u1), Drawn.SP.is (.int .i64 (b.length : Nat)), Drawn.SP.is (.agg #[.int .i64 N, .int .i64 T, .int .i64 L, .int .i64 W, .int .i64 S, .int .i64 R]), Drawn.SP.ints (all m), Drawn.SP.is (.slice (some ⟨b', 0, none⟩) m dX), Drawn.SP.is (.bool false), Drawn.SP.is (.bool true), Drawn.SP.is (.bool true), Drawn.SP.is (.bool true), Drawn.SP.is (.bool true), Drawn.SP.is (.bool true)] (by kernel_rfl) (by kernel_rfl) ?_ ?_
        · intro i hi a w14 hb hev hdep
          rcases (show i = 0 ∨ i = 1 ∨ i = 2 ∨ i = 3 ∨ i = 4 ∨ i = 5 ∨ i = 6 ∨ i = 7 ∨ i = 8 ∨ i = 9 ∨ i = 10 ∨ i = 11 ∨ i = 12 by omega) with rfl | rfl | rfl | rfl | rfl | rfl | rfl | rfl | rfl | rfl | rfl | rfl | rfl
          · have e9 : a.tmps[9]?.getD undef = .pointer (some ⟨bf, 0, none⟩) := hev 9 rfl
            refine Drawn.wpOp_flow 118 rfl rfl rfl ?_
            clear hev hdep hb
            go_simp
            exact ⟨_, rfl, rfl, Below.refl _ _⟩
          · have e3 : a.tmps[3]?.getD undef = .pointer (some ⟨w.heap.size, 0, none⟩) := hev 3 rfl
            refine Drawn.wpOp_flow 119 rfl rfl rfl ?_
            obtain ⟨c0, c1, c2, c3, c4, c5⟩ := six (HA7.out.below (HBE.out.trans (hb.mono HBE.out.size))).plan
            clear hev hdep hb
            go_simp
            exact ⟨_, rfl, rfl, Below.refl _ _⟩
          · have e7 : a.tmps[7]?.getD undef = .slice A1 b.length u1 := hev 7 rfl
            refine Drawn.wpOp_flow 120 rfl rfl rfl ?_
            clear hev hdep hb
            go_simp
            exact ⟨_, rfl, rfl, Below.refl _ _⟩
          · have d2 : a.tmps[120]?.getD undef = .slice A1 b.length u1 := hdep 2 rfl
            refine Drawn.wpOp_flow 121 rfl rfl rfl ?_
            clear hev hdep hb
            go_simp
            exact ⟨_, rfl, rfl, Below.refl _ _⟩
          · have e3 : a.tmps[3]?.getD undef = .pointer (some ⟨w.heap.size, 0, none⟩) := hev 3 rfl
            refine Drawn.wpOp_flow 122 rfl rfl rfl ?_
            obtain ⟨c0, c1, c2, c3, c4, c5⟩ := six (HA7.out.below (HBE.out.trans (hb.mono HBE.out.size))).plan
            clear hev hdep hb
            go_simp
            exact ⟨_, rfl, rfl, Below.refl _ _⟩
          · have d4 : a.tmps[122]?.getD undef = .agg #[.int .i64 N, .int .i64 T, .int .i64 L, .int .i64 W, .int .i64 S, .int .i64 R] := hdep 4 rfl
            refine Drawn.wpOp_flow 123 rfl rfl rfl ?_
            clear hev hdep
            have C := HKL.out w14
            clear hb
            go_simp
            refine C.mono ?_
            rintro e w' ⟨AW, cw, rfl, kw, zw, hW, hb', _⟩
            exact ⟨_, rfl, ⟨AW, cw, rfl, kw, zw, hW⟩, hb'⟩
          · have e10 : a.tmps[10]?.getD undef = .slice (some ⟨b', 0, none⟩) m dX := hev 10 rfl
            refine Drawn.wpOp_flow 124 rfl rfl rfl ?_
            clear hev hdep hb
            go_simp
            exact ⟨_, rfl, rfl, Below.refl _ _⟩
          · have d0 : a.tmps[118]?.getD undef = .pointer (some ⟨bf, 0, none⟩) := hdep 0 rfl
            have d1 : a.tmps[119]?.getD undef = .agg #[.int .i64 N, .int .i64 T, .int .i64 L, .int .i64 W, .int .i64 S, .int .i64 R] := hdep 1 rfl
            have d3 : a.tmps[121]?.getD undef = .int .i64 (b.length : Nat) := hdep 3 rfl
            obtain ⟨AW, cw, d5, kw, zw, hW⟩ : (Drawn.SP.ints (all m)).p (a.tmps[123]?.getD undef) w14 := hdep 5 rfl
            have d6 : a.tmps[124]?.getD undef = .slice (some ⟨b', 0, none⟩) m dX := hdep 6 rfl
            refine Drawn.wpOp_flow 125 rfl rfl rfl ?_
            clear hev hdep
            have C := HKA.out bf AW (some ⟨b', 0, none⟩) cw dX w14 (HT7.out.below (HBE.out.trans (hb.mono HBE.out.size))) hW (by rw [← HALL.out]; exact kw) zw (HRE.out.below hb) k3 z3
            have HC := Lib.hid C
            clear C
            rw [HALL.out] at d5
            clear hb hW kw zw
            go_simp
            refine HC.out.mono ?_
            rintro e w' ⟨rfl, hb'⟩
            exact ⟨_, rfl, rfl, hb'⟩
          · have d7 : a.tmps[125]?.getD undef = .bool false := hdep 7 rfl
            refine Drawn.wpOp_flow 126 rfl rfl rfl ?_
            clear hev hdep hb
            go_simp
            exact ⟨_, rfl, rfl, Below.refl _ _⟩
          · have d8 : a.tmps[126]?.getD undef = .bool true := hdep 8 rfl
            refine Drawn.wpOp_flow 127 rfl rfl rfl ?_
            clear hev hdep hb
            go_simp
            exact ⟨_, rfl, rfl, Below.refl _ _⟩
          · have dg : a.tmps[127]?.getD undef = .bool true := hdep 9 rfl
            refine Drawn.wpOp_flow 128 rfl (Drawn.wanted_of rfl rfl rfl dg) rfl ?_
            clear hev hdep
            have C := alive_any w14
            clear hb
            go_simp
            refine C.mono ?_
            rintro e w' ⟨rfl, hb'⟩
            exact ⟨_, rfl, rfl, hb'⟩
          · have d9 : a.tmps[127]?.getD undef = .bool true := hdep 9 rfl
            have d10 : a.tmps[128]?.getD undef = .bool true := hdep 10 rfl
            refine Drawn.wpOp_flow 129 rfl rfl rfl ?_
            clear hev hdep hb
            go_simp
            exact ⟨_, rfl, rfl, Below.refl _ _⟩
          · have d11 : a.tmps[129]?.getD undef = .bool true := hdep 11 rfl
            refine Drawn.wpOp_flow 6 rfl rfl rfl ?_
            clear hev hdep hb
            go_simp
            exact ⟨_, rfl, rfl, Below.refl _ _⟩
        · intro xq w14 hb hxq
          have vq0 : xq 0 = .pointer (some ⟨bf, 0, none⟩) := hxq 0 (by omega)
          have vq1 : xq 1 = .agg #[.int .i64 N, .int .i64 T, .int .i64 L, .int .i64 W, .int .i64 S, .int .i64 R] := hxq 1 (by omega)
          have vq2 : xq 2 = .slice A1 b.length u1 := hxq 2 (by omega)
          have vq3 : xq 3 = .int .i64 (b.length : Nat) := hxq 3 (by omega)
          have vq4 : xq 4 = .agg #[.int .i64 N, .int .i64 T, .int .i64 L, .int .i64 W, .int .i64 S, .int .i64 R] := hxq 4 (by omega)
          have vq6 : xq 6 = .slice (some ⟨b', 0, none⟩) m dX := hxq 6 (by omega)
          have vq7 : xq 7 = .bool false := hxq 7 (by omega)
          have vq8 : xq 8 = .bool true := hxq 8 (by omega)
          have vq9 : xq 9 = .bool true := hxq 9 (by omega)
          have vq10 : xq 10 = .bool true := hxq 10 (by omega)
          have vq11 : xq 11 = .bool true := hxq 11 (by omega)
          have vq12 : xq 12 = .bool true := hxq 12 (by omega)
          show Exit.then _ _ Exit.normal (Drawn.acts _ [(6, some (xq 12)), (129, some (xq 11)), (128, some (xq 10)), (127, some (xq 9)), (126, some (xq 8)), (125, some (xq 7)), (124, some (xq 6)), (123, some (xq 5)), (122, some (xq 4)), (121, some (xq 3)), (120, some (xq 2)), (119, some (xq 1)), (118, some (xq 0))]) _
          rw [vq0, vq1, vq2, vq3, vq4, vq6, vq7, vq8, vq9, vq10, vq11, vq12]
          clear hxq vq0 vq1 vq2 vq3 vq4 vq6 vq7 vq8 vq9 vq10 vq11 vq12
          generalize xq 5 = yq5
          clear xq
          simp only [Drawn.acts]
          go_simp
          go_at_K
          go_wp2
          go_ret
          exact ⟨rfl, bstep HB7.out (HBE.out.trans (hb.mono HBE.out.size))⟩

theorem tells_law (q : P) (A1 : Option Addr) (b : List UInt8) (u1 : Nat) (A2 : Option Addr) (tp : List UInt8) (u2 : Nat) (x0 x1 x2 : UInt8) (w : World) (hp : q.In) (h1 : BytesAt w A1 b) (k1 : b.length ≤ u1) (z1 : u1 ≤ maxLen) (h2 : BytesAt w A2 tp) (k2 : tp.length ≤ u2) (z2 : u2 ≤ maxLen) :
    Calls Try.prog 5 #[q.val, .agg #[.slice A1 b.length u1, .slice A2 tp.length u2], .agg #[.int .u8 (x0.toNat : Nat), .int .u8 (x1.toNat : Nat), .int .u8 (x2.toNat : Nat)]] w fun e w' => e = .returned (.bool true) ∧ Below w.heap.size w w' := by
  obtain ⟨N, T, L, W, S, R⟩ := q
  by_cases hl : N ≤ 12 ∧ L ≤ 12 ∧ T ≤ 12
  · rcases hr : (⟨N, T, L, W, S, R⟩ : P).right with _ | _
    · exact tells_arg N T L W S R A1 A2 b tp u1 u2 x0 x1 x2 w hp hl hr
    · by_cases hf : 60 < b.length
      · exact tells_long N T L W S R A1 A2 b tp u1 u2 x0 x1 x2 w hp hl hr hf
      · by_cases hg : b.length = 0
        · exact tells_empty N T L W S R A1 A2 b tp u1 u2 x0 x1 x2 w hp hl hr hg
        · by_cases hc : (tp.length : Int) < cost ⟨N, T, L, W, S, R⟩ b.length
          · exact tells_short N T L W S R A1 A2 b tp u1 u2 x0 x1 x2 w hp hl hr (by omega) hg hc
          · by_cases hm : N = T + L
            · exact tells_just N T L W S R A1 A2 b tp u1 u2 x0 x1 x2 w hp hl hr (by omega) hg (by omega) hm
            · by_cases hx : x2 = 0
              · exact tells_none N T L W S R A1 A2 b tp u1 u2 x0 x1 x2 w hp hl hr (by omega) hg (by omega) hm hx
              · exact tells_main N T L W S R A1 A2 b tp u1 u2 x0 x1 x2 w hp h1 k1 z1 h2 k2 z2 hl hr (by omega) hg (by omega) hm hx
  · exact tells_heavy N T L W S R A1 A2 b tp u1 u2 x0 x1 x2 w hp hl

end Go.Proofs.Ytcnhfbahnbnnlaa.Law11
