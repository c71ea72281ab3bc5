/- the document's own answers of layer 10 -/
import Derived.Test.YtchcgiapjhmflaaGreatLaw08
import Derived.Test.YtchcgiapjhmflaaGreatR09
import Derived.Test.YtchcgiapjhmflaaGreatR03
import Derived.Test.YtchcgiapjhmflaaGreatMB
set_option maxRecDepth 100000
namespace Go.Proofs.YtchcgiapjhmflaaGreat.R10
open Go.RowKit PlanM StripeM DealM Law08

theorem step_append_row {ops : Array Oper} {o : Oper} {a : Act} {w : World} {K : Act → World → Prop} {Q : Exit → Act → World → Prop} {E : Prop} (hgd : o.guard = none) (s x : Operand)
    (ho : o.op = .call { callee := .builtin .append, args := #[s, x], argTypes := #[35, 35] })
    (base : Nat) (v : Value) (m : List (List UInt8)) (hs : a.eval s = v) (hown : OwnM w base v m) (g c : Nat) (r : List UInt8) (A : Option Addr) (cr : Nat) (hx : a.eval x = .slice (some ⟨g, 0, none⟩) 1 c)
    (hc : w.cell? ⟨g, 0, none⟩ = some (.slice A r.length cr)) (h1 : r.length ≤ cr) (h2 : cr ≤ maxLen) (hr : BytesAt w A r) (hne : 0 < r.length → ∀ a, A = some a → v.ownBlock ≠ some a.block)
    (hl : m.length < 1099511627776) (hbase : base ≤ w.heap.size)
    (h : ∀ v' w', OwnM w' base v' (m ++ [r]) → Below base w w' → K (a.put o.dst v') w') : if Region.wanted o (yielded ops a.tmps) = true then Oper.wp Tryz.prog o a w K Q else E := by
  have hw : Region.wanted o (yielded ops a.tmps) = true := by simp [Region.wanted, hgd]
  rw [if_pos hw]
  exact wp_append_row s x ho base v m hs hown g c r A cr hx hc h1 h2 hr hne hl hbase h

theorem poly_any (N T L W S R : Int) (A1 A2 : Option Addr) (r tape : List UInt8) (c1 c2 : Nat) (w : World) (hN : 0 ≤ N) (hL : 0 ≤ L) (hNL : N + L ≤ 256) (h1 : BytesAt w A1 r) (h2 : BytesAt w A2 tape) (hr : L.toNat ≤ r.length) (hr2 : r.length ≤ 1048576) (ht : tape.length ≤ 1048576) :
    Calls Tryz.prog 25 #[.agg #[.int .i64 N, .int .i64 T, .int .i64 L, .int .i64 W, .int .i64 S, .int .i64 R], .slice A1 r.length c1, .slice A2 tape.length c2] w (RetNew w (poly ⟨N, T, L, W, S, R⟩ r tape)) := by
  have HA := Lib.hid (PlanLies.new w N T L W S R)
  have hb0 := balloc w (.cells #[.int .i64 N, .int .i64 T, .int .i64 L, .int .i64 W, .int .i64 S, .int .i64 R] 23)
  have K1 := fun w => R08.secrets_any ⟨N, T, L, W, S, R⟩ w hN hL hNL
  have hsl : (P.secrets ⟨N, T, L, W, S, R⟩).length = L.toNat := secrets_len _
  have hpo : poly ⟨N, T, L, W, S, R⟩ r tape = PolyM.padd (LagrM.thr (P.secrets ⟨N, T, L, W, S, R⟩) r) (PolyM.pmul (PolyM.proot (P.secrets ⟨N, T, L, W, S, R⟩)) tape) := rfl
  rw [hpo]
  simp only [P.val] at K1
  generalize P.secrets ⟨N, T, L, W, S, R⟩ = sec at *
  have l1 : (LagrM.thr sec r).length = sec.length := LagrM.thr_len _ _
  have l2 := PolyM.proot_len sec
  have l3 := PolyM.pmul_len (PolyM.proot sec) tape
  have l4 : (PolyM.pmul (PolyM.proot sec) tape).length ≤ 1099511627 := by rw [l3]; split <;> omega
  have K2 := fun A c W (h : BytesAt W A sec) (h1 : BytesAt W A1 r) => R03.through_any A A1 sec r c c1 W h h1 (by omega) (by omega)
  have K3 := fun A c W (h : BytesAt W A sec) => R02.root_any A sec c W h (by omega)
  have K4 := fun A c W (h : BytesAt W A (PolyM.proot sec)) (h2 : BytesAt W A2 tape) => R02.mul_any A A2 (PolyM.proot sec) tape c c2 W h h2 (by omega) (by omega)
  have K5 := fun A B c d W (h : BytesAt W A (LagrM.thr sec r)) (k : BytesAt W B (PolyM.pmul (PolyM.proot sec) tape)) => R02.sum_new A B _ _ c d W h k (by omega) l4
  generalize PolyM.pmul (PolyM.proot sec) tape = pm at *
  generalize LagrM.thr sec r = th at *
  generalize PolyM.proot sec = rt at *
  have B1 := Lib.hid h1; have B2 := Lib.hid h2
  clear h1 h2 hpo
  have H1 := Lib.hid K1
  have H2 := Lib.hid K2
  have H3 := Lib.hid K3
  have H4 := Lib.hid K4
  have H5 := Lib.hid K5
  clear K1 K2 K3 K4 K5 hsl l1 l2 l3 l4
  go_enter Tryz.func25, Tryz.ntmps25
  go_wp2_with fail
  generalize w.alloc (.cells #[.int .i64 N, .int .i64 T, .int .i64 L, .int .i64 W, .int .i64 S, .int .i64 R] 23) = w0 at *
  replace B1 := Lib.hid (B1.out.below hb0)
  replace B2 := Lib.hid (B2.out.below hb0)
  have c0 := HA.out.c0; have c1 := HA.out.c1; have c2 := HA.out.c2; have c3 := HA.out.c3; have c4 := HA.out.c4; have c5 := HA.out.c5
  skip
  refine (H1.out _).mono ?_
  rintro e w1 ⟨X, dX, rfl, _, _, hX, hb1, _⟩
  clear c0 c1 c2 c3 c4 c5
  replace B1 := Lib.hid (B1.out.below hb1)
  replace B2 := Lib.hid (B2.out.below hb1)
  replace HA := Lib.hid (HA.out.below hb1)
  have HX := Lib.hid hX
  clear hX
  have c0 := HA.out.c0; have c1 := HA.out.c1; have c2 := HA.out.c2; have c3 := HA.out.c3; have c4 := HA.out.c4; have c5 := HA.out.c5
  go_wp2_with fail
  refine (H2.out X dX _ HX.out B1.out).mono ?_
  rintro e w2 ⟨Y, dY, rfl, _, _, hY, hb2⟩
  clear c0 c1 c2 c3 c4 c5
  replace B1 := Lib.hid (B1.out.below hb2)
  replace B2 := Lib.hid (B2.out.below hb2)
  replace HX := Lib.hid (HX.out.below hb2)
  replace HA := Lib.hid (HA.out.below hb2)
  have HY := Lib.hid hY
  clear hY
  have c0 := HA.out.c0; have c1 := HA.out.c1; have c2 := HA.out.c2; have c3 := HA.out.c3; have c4 := HA.out.c4; have c5 := HA.out.c5
  go_wp2_with fail
  refine (H3.out X dX _ HX.out).mono ?_
  rintro e w3 ⟨Z, dZ, rfl, _, _, hZ, hb3⟩
  clear c0 c1 c2 c3 c4 c5
  replace B1 := Lib.hid (B1.out.below hb3)
  replace B2 := Lib.hid (B2.out.below hb3)
  replace HX := Lib.hid (HX.out.below hb3)
  replace HY := Lib.hid (HY.out.below hb3)
  replace HA := Lib.hid (HA.out.below hb3)
  have HZ := Lib.hid hZ
  clear hZ
  have c0 := HA.out.c0; have c1 := HA.out.c1; have c2 := HA.out.c2; have c3 := HA.out.c3; have c4 := HA.out.c4; have c5 := HA.out.c5
  go_wp2_with fail
  refine (H4.out Z dZ _ HZ.out B2.out).mono ?_
  rintro e w4 ⟨U, dU, rfl, _, _, hU, hb4⟩
  clear c0 c1 c2 c3 c4 c5
  replace B1 := Lib.hid (B1.out.below hb4)
  replace B2 := Lib.hid (B2.out.below hb4)
  replace HX := Lib.hid (HX.out.below hb4)
  replace HY := Lib.hid (HY.out.below hb4)
  replace HZ := Lib.hid (HZ.out.below hb4)
  replace HA := Lib.hid (HA.out.below hb4)
  have HU := Lib.hid hU
  clear hU
  have c0 := HA.out.c0; have c1 := HA.out.c1; have c2 := HA.out.c2; have c3 := HA.out.c3; have c4 := HA.out.c4; have c5 := HA.out.c5
  go_wp2_with fail
  refine (H5.out Y U dY dU _ HY.out HU.out).mono ?_
  rintro e w5 ⟨V, dV, rfl, hv1, hv2, hV, hb5, hvn⟩
  have HVN := Lib.hid hvn
  clear hvn
  clear c0 c1 c2 c3 c4 c5
  replace B1 := Lib.hid (B1.out.below hb5)
  replace B2 := Lib.hid (B2.out.below hb5)
  replace HX := Lib.hid (HX.out.below hb5)
  replace HY := Lib.hid (HY.out.below hb5)
  replace HZ := Lib.hid (HZ.out.below hb5)
  replace HU := Lib.hid (HU.out.below hb5)
  replace HA := Lib.hid (HA.out.below hb5)
  have HV := Lib.hid hV
  clear hV
  go_wp2
  go_ret
  have hbw : Below w.heap.size w w4 := bstep hb0 (bstep hb1 (bstep hb2 (bstep hb3 (hb4))))
  exact ⟨V, dV, rfl, hv1, hv2, HV.out, bstep hbw hb5, HVN.out.mono hbw.size⟩
theorem cost_any (N T L W S R size : Int) (w : World) (hL : 1 ≤ L ∧ L ≤ 256) (hT : 0 ≤ T ∧ T ≤ 256) :
    Calls Tryz.prog 6 #[.agg #[.int .i64 N, .int .i64 T, .int .i64 L, .int .i64 W, .int .i64 S, .int .i64 R], .int .i64 size] w fun e w' => e = .returned (.int .i64 (cost ⟨N, T, L, W, S, R⟩ size)) ∧ Below w.heap.size w w' := by
  have HA := Lib.hid (PlanLies.new w N T L W S R)
  have hb0 := balloc w (.cells #[.int .i64 N, .int .i64 T, .int .i64 L, .int .i64 W, .int .i64 S, .int .i64 R] 23)
  have K1 := fun w => R08.stripes_any ⟨N, T, L, W, S, R⟩ size w hL
  have hs := stripes_le ⟨N, T, L, W, S, R⟩ size hL.1
  have hc : cost ⟨N, T, L, W, S, R⟩ size = T * (P.stripes ⟨N, T, L, W, S, R⟩ size : Nat) := rfl
  rw [hc]
  simp only [P.val] at K1
  generalize P.stripes ⟨N, T, L, W, S, R⟩ size = n at *
  have h0 : 0 ≤ T * (n : Int) := Int.mul_nonneg hT.1 (by omega)
  have h1 : T * (n : Int) ≤ 256 * 240 := Int.mul_le_mul hT.2 (by omega) (by omega) (by omega)
  have i1 : IntKind.i64.wrap (T * (n : Int)) = T * (n : Int) := IntWalk.i64_in _ (by omega)
  have H1 := Lib.hid K1
  clear K1 hc
  go_enter Tryz.func6, Tryz.ntmps6
  go_wp2_with fail
  generalize w.alloc (.cells #[.int .i64 N, .int .i64 T, .int .i64 L, .int .i64 W, .int .i64 S, .int .i64 R] 23) = w0 at *
  have c0 := HA.out.c0; have c1 := HA.out.c1; have c2 := HA.out.c2; have c3 := HA.out.c3; have c4 := HA.out.c4; have c5 := HA.out.c5
  skip
  go_region_held3 (fun w' => w'.cell? ⟨w.heap.size, 0, none⟩ = some (.int .i64 N) ∧ w'.cell? ⟨w.heap.size, 1, none⟩ = some (.int .i64 T) ∧ w'.cell? ⟨w.heap.size, 2, none⟩ = some (.int .i64 L) ∧ w'.cell? ⟨w.heap.size, 3, none⟩ = some (.int .i64 W) ∧ w'.cell? ⟨w.heap.size, 4, none⟩ = some (.int .i64 S) ∧ w'.cell? ⟨w.heap.size, 5, none⟩ = some (.int .i64 R)) (first | (exact ⟨HA.out.c0, HA.out.c1, HA.out.c2, HA.out.c3, HA.out.c4, HA.out.c5⟩) | go_keep) ((first
    | (go_simp; go_at_call 10; refine (H1.out _).mono ?_; rintro e w1 ⟨rfl, hb1⟩; have hb1 : Below w0.heap.size w0 w1 := (by first | (exact hb1) | (exact bstep (bdraw w0 _) hb1)); replace HA := Lib.hid (HA.out.below hb1))))
  clear c0 c1 c2 c3 c4 c5
  all_goals
    go_wp2
    go_ret
    exact ⟨rfl, bstep hb0 (hb1)⟩
set_option maxHeartbeats 1000000 in
theorem share_any (A : Option Addr) (m : List (List UInt8)) (c : Nat) (i : Int) (w : World) (h : RowsAt w A m) (hm : m.length ≤ 1048576) (hr : ∀ k, (h : k < m.length) → m[k].length ≤ 1099511627) :
    Calls Tryz.prog 15 #[.slice A m.length c, .int .i64 i] w (RetNew w (share m i)) := by
  have HH := Lib.hid h; have HR := Lib.hid hr
  clear h hr
  go_enter Tryz.func15, Tryz.ntmps15
  go_wp2
  go_loopw [5, 6] (fun v j wr => ∃ k : Nat, k ≤ m.length ∧ j = .int .i64 k ∧ Own wr w.heap.size v (share (m.take k) i) ∧ Below w.heap.size w wr)
    (fun _ j _ => m.length - (intOf j).toNat)
  case atStart => exact ⟨0, Nat.zero_le _, rfl, Own.nil _ _, Below.refl _ _⟩
  case round =>
    obtain ⟨k, hk, rfl, hown, hb3⟩ := hrel
    rename World => w3
    have HO := Lib.hid hown
    have hz := hb3.size
    clear hown
    by_cases hlt : k < m.length
    · obtain ⟨b1, o1, B, cr, rfl, f1, g1, g2, hB⟩ := HH.out.row hlt
      have l1 : b1 < w.heap.size := cell_lt f1
      replace f1 := (hb3.cell (p := ⟨b1, o1 + k, none⟩) l1).trans f1
      have HB := Lib.hid (hB.below hb3)
      have hml := HR.out k hlt
      have hs := share_take m i k hlt
      have hlen : (share (m.take k) i).length ≤ 1048576 := by rw [share_len, List.length_take]; omega
      generalize share (m.take k) i = t at *
      generalize m[k] = r at *
      have hxi : PolyM.ev r (point i) = PolyM.ev r (point i) := rfl
      obtain ⟨x, hx⟩ : ∃ x, x = point i := ⟨_, rfl⟩
      rw [← hx] at hs
      have KP := Lib.hid (fun W => (show Calls Tryz.prog 20 #[.int .i64 i] W fun e w' => e = .returned (.int .u8 (x.toNat : Nat)) ∧ W = w' from by rw [hx]; exact R08.point_any i W))
      obtain ⟨y, hy⟩ : ∃ y, y = PolyM.ev r x := ⟨_, rfl⟩
      rw [← hy] at hs
      have KE := Lib.hid (fun W (h : BytesAt W B r) => (show Calls Tryz.prog 26 #[.slice B r.length cr, .int .u8 (x.toNat : Nat)] W fun e w' => e = .returned (.int .u8 (y.toNat : Nat)) ∧ W = w' from by rw [hy]; exact R02.eval_any B r cr x W h (by omega)))
      have HS := Lib.hid hs; have HLEN := Lib.hid hlen
      clear hs hx hy hB hlen hml g1 g2 hxi
      go_wp2_with fail
      go_region_held3 (fun w' => w'.cell? ⟨b1, o1 + k, none⟩ = some (.slice B r.length cr)) (first | (exact f1) | (exact (hb8.cell (p := ⟨b1, o1 + k, none⟩) l1).trans f1) | go_keep)
        ((first
         | (refine step_append_u8 rfl _ _ rfl w.heap.size _ t rfl (by first | exact HO.out.alloc _ | exact (HO.out.alloc _).drewN _) w3.heap.size 1 y rfl (by simp) (by have := HLEN.out; omega) (by simp; omega) ?_; intro v' w7 hown1 hb7; have hb8 : Below w.heap.size w3 w7 := (by first | (exact ((Below.refl _ _).alloc hz _).trans hb7) | (exact (below_drewN ((Below.refl _ _).alloc hz _) _).trans hb7)))
         | (go_simp; go_at_call 20; refine (KP.out _).mono ?_; rintro e w' ⟨rfl, rfl⟩)
         | (go_simp; go_at_call 26; refine (KE.out _ (by first | exact HB.out | exact HB.out.drewN 1)).mono ?_; rintro e w' ⟨rfl, rfl⟩)))
      all_goals
        go_wp2
        go_roundw
        case rel => exact ⟨k + 1, by omega, by go_num, by rw [HS.out]; exact hown1, hb3.trans hb8⟩
        case measure => simp [intOf] <;> omega
    · obtain rfl : k = m.length := by omega
      have ho := HO.out
      rw [List.take_length] at ho
      have HO := Lib.hid ho
      clear ho
      go_wp2
      go_ret
      exact RetNew.of_own HO.out hb3
set_option maxHeartbeats 2000000 in
theorem polys_wide (N T L W S R : Int) (A1 A2 : Option Addr) (blob tape : List UInt8) (u1 u2 : Nat) (w : World) (hM : (⟨N, T, L, W, S, R⟩ : P).May) (h1 : BytesAt w A1 blob) (h2 : BytesAt w A2 tape) (k1 : blob.length ≤ u1) (z1 : u1 ≤ maxLen) (k2 : tape.length ≤ u2) (_z2 : u2 ≤ maxLen)
    (hb : blob.length ≤ 240) (hct : cost ⟨N, T, L, W, S, R⟩ blob.length ≤ tape.length) :
    Calls Tryz.prog 13 #[.agg #[.int .i64 N, .int .i64 T, .int .i64 L, .int .i64 W, .int .i64 S, .int .i64 R], .slice A1 blob.length u1, .slice A2 tape.length u2] w (RetRows w (polys ⟨N, T, L, W, S, R⟩ blob tape)) := by
  unfold P.May at hM
  obtain ⟨m1, m2, m3, m4, m5, m6, m7, m8, m9⟩ := hM
  simp only at m1 m2 m3 m4 m5 m6 m7 m8 m9
  unfold maxLen at _z2
  have HA := Lib.hid (PlanLies.new w N T L W S R)
  have hb0 := balloc w (.cells #[.int .i64 N, .int .i64 T, .int .i64 L, .int .i64 W, .int .i64 S, .int .i64 R] 23)
  have K1 := fun A c w h h1 h2 => R09.cut_any N T L W S R A blob c w (by omega) h h1 h2 hb
  have K2 := fun A1 A2 r t u1 u2 w h1 h2 h3 h4 h5 => poly_any N T L W S R A1 A2 r t u1 u2 w (by omega) (by omega) m5 h1 h2 h3 h4 h5
  have B1 := Lib.hid h1; have B2 := Lib.hid h2; have H1 := Lib.hid K1; have H2 := Lib.hid K2
  clear K1 K2 h1 h2
  go_enter Tryz.func13, Tryz.ntmps13
  go_wp2_with fail
  generalize w.alloc (.cells #[.int .i64 N, .int .i64 T, .int .i64 L, .int .i64 W, .int .i64 S, .int .i64 R] 23) = w0 at *
  replace B1 := Lib.hid (B1.out.below hb0)
  replace B2 := Lib.hid (B2.out.below hb0)
  have c0 := HA.out.c0; have c1 := HA.out.c1; have c2 := HA.out.c2; have c3 := HA.out.c3; have c4 := HA.out.c4; have c5 := HA.out.c5
  skip
  refine (H1.out A1 u1 _ B1.out k1 z1).mono ?_
  rintro e w1 ⟨X, dX, rfl, hx1, hx2, hX, hb1, hxn⟩
  clear c0 c1 c2 c3 c4 c5
  replace B1 := Lib.hid (B1.out.below hb1)
  replace B2 := Lib.hid (B2.out.below hb1)
  replace HA := Lib.hid (HA.out.below hb1)
  have HX := Lib.hid hX
  clear hX
  have hcl : (cut ⟨N, T, L, W, S, R⟩ blob).length ≤ 240 := by unfold cut; rw [cutTo_len]; exact stripes_le _ _ m2
  have hcn : (cut ⟨N, T, L, W, S, R⟩ blob).length = P.stripes ⟨N, T, L, W, S, R⟩ blob.length := by unfold cut; rw [cutTo_len]
  obtain ⟨n, hn⟩ : ∃ n, n = P.stripes ⟨N, T, L, W, S, R⟩ blob.length := ⟨_, rfl⟩
  obtain ⟨t0, rfl⟩ : ∃ t0 : Nat, T = t0 := ⟨T.toNat, by omega⟩
  obtain ⟨l, rfl⟩ : ∃ l : Nat, L = l := ⟨L.toNat, by omega⟩
  rw [← hn] at hcn
  have hct2 : t0 * n ≤ tape.length := by
    have e : cost ⟨N, t0, l, W, S, R⟩ blob.length = (t0 : Int) * (P.stripes ⟨N, t0, l, W, S, R⟩ blob.length : Nat) := rfl
    rw [e, ← hn, ← Int.natCast_mul] at hct
    omega
  have hbig : t0 * n ≤ 256 * 240 := Nat.mul_le_mul (by omega) (by rw [hn]; exact stripes_le _ _ m2)
  have hps : polys ⟨N, t0, l, W, S, R⟩ blob tape = polysTo ⟨N, t0, l, W, S, R⟩ blob tape n := by unfold polys; rw [hn]
  rw [hps]
  have hct1 : cut ⟨N, t0, l, W, S, R⟩ blob = cutTo l blob n := by unfold cut; rw [hn]; rfl
  rw [hct1] at HX hcl
  have hn240 : n ≤ 240 := by rw [cutTo_len] at hcl; exact hcl
  have hsl : (cut ⟨N, t0, l, W, S, R⟩ blob).length = n := hcn
  rw [hsl]
  have hpt := fun k => (show polysTo ⟨N, t0, l, W, S, R⟩ blob tape (k + 1) = polysTo ⟨N, t0, l, W, S, R⟩ blob tape k ++ [poly ⟨N, t0, l, W, S, R⟩ (row l blob k) (take_ t0 tape k)] from polysTo_succ _ _ _ _)
  have hpl := fun k => (show (polysTo ⟨N, t0, l, W, S, R⟩ blob tape k).length = k from polysTo_len _ _ _ _)
  have hp0 : polysTo ⟨N, t0, l, W, S, R⟩ blob tape 0 = [] := rfl
  have H3 := Lib.hid (fun A1 A2 r tp c1 c2 w (h1 : BytesAt w A1 r) (h2 : BytesAt w A2 tp) h3 h4 h5 => (show Calls Tryz.prog 25 #[.agg #[.int .i64 N, .int .i64 t0, .int .i64 l, .int .i64 W, .int .i64 S, .int .i64 R], .slice A1 r.length c1, .slice A2 tp.length c2] w (RetNew w (poly ⟨N, t0, l, W, S, R⟩ r tp)) from H2.out A1 A2 r tp c1 c2 w h1 h2 h3 h4 h5))
  generalize polysTo ⟨N, t0, l, W, S, R⟩ blob tape = PT at *
  generalize poly ⟨N, t0, l, W, S, R⟩ = PO at *
  have HPT := Lib.hid hpt; have HPL := Lib.hid hpl; have HX0 := Lib.hid (HX.out)
  have HP0 := Lib.hid hp0; have HPS := Lib.hid hps
  have hbw := bstep hb0 hb1
  clear hpt hpl hn hcn hct hct1 hcl hsl hps H1 H2 HX hp0 B1
  go_wp2_with fail
  go_loopw [8, 9] (fun v j wr => ∃ k : Nat, k ≤ n ∧ j = .int .i64 k ∧ OwnM wr w1.heap.size v (PT k) ∧ Below w1.heap.size w1 wr)
    (fun _ j _ => n - (intOf j).toNat)
  case atStart => exact ⟨0, Nat.zero_le _, rfl, by rw [HP0.out]; exact OwnM.nil _ _, Below.refl _ _⟩
  case round =>
    obtain ⟨k, hk, rfl, hown, hb3⟩ := hrel
    rename World => w3
    have HO := Lib.hid hown
    have hz := hb3.size
    have HB2 := Lib.hid (B2.out.below hb3)
    have HA3 := Lib.hid (HA.out.below hb3)
    clear hown
    by_cases hlt : k < n
    · obtain ⟨b1, o1, B, cr, rfl, f1, g1, g2, hB⟩ := HX0.out.row (i := k) (by rw [cutTo_len]; exact hlt)
      have l1 : b1 < w1.heap.size := cell_lt f1
      rw [cutTo_get] at f1 g1 hB
      have rl := row_len l blob k
      rw [rl] at f1 g1
      obtain ⟨r, hr⟩ : ∃ r, r = row l blob k := ⟨_, rfl⟩
      rw [← hr] at hB rl
      replace f1 := (hb3.cell (p := ⟨b1, o1 + k, none⟩) l1).trans f1
      have HB := Lib.hid (hB.below hb3)
      obtain ⟨x, hx⟩ : ∃ x, x = k * t0 := ⟨_, rfl⟩
      obtain ⟨y, hy⟩ : ∃ y, y = (k + 1) * t0 := ⟨_, rfl⟩
      have hy2 : y ≤ t0 * n := by rw [hy, Nat.mul_comm]; exact Nat.mul_le_mul (Nat.le_refl _) (by omega)
      have hxy : y = x + t0 := by rw [hy, hx, Nat.add_mul, Nat.one_mul]
      obtain ⟨b2, o2, rfl, hcl0⟩ := HB2.out 0 (by omega)
      clear hcl0
      have j1 : ((k : Int) * (t0 : Int)) = (x : Int) := by rw [← Int.natCast_mul, ← hx]
      have i1 : IntKind.i64.wrap (x : Int) = (x : Int) := IntWalk.i64_in _ (by omega)
      have i2 : IntKind.i64.wrap ((k : Int) + 1) = (k : Int) + 1 := IntWalk.i64_in _ (by omega)
      have j3 : (((k : Int) + 1) * (t0 : Int)) = (y : Int) := by rw [show ((k : Int) + 1) = ((k + 1 : Nat) : Int) from by omega, ← Int.natCast_mul, ← hy]
      have i3 : IntKind.i64.wrap (y : Int) = (y : Int) := IntWalk.i64_in _ (by omega)
      have b5' : ¬ (u2 = x) := by omega
      have b1' : (x : Int) ≤ (y : Int) := by omega
      have b2' : (y : Int) ≤ (u2 : Int) := by omega
      have tl : (take_ t0 tape k).length = y - x := by rw [take_len _ _ _ (by rw [← hy]; omega)]; omega
      have hbt := (HB2.out.drop x).take t0
      have htk : (tape.drop x).take t0 = take_ t0 tape k := by unfold take_; rw [hx]
      rw [htk] at hbt
      have hpt := HPT.out k; have hpl := HPL.out k
      clear htk
      rw [← hr] at hpt
      clear hr
      generalize take_ t0 tape k = tp at hpt tl hbt
      have HBT := Lib.hid hbt
      generalize PT k = PT0 at hpt hpl HO
      have KP := Lib.hid (fun w (h1 : BytesAt w B r) (h2 : BytesAt w (some ⟨b2, o2 + x, none⟩) tp) => (show Calls Tryz.prog 25 #[.agg #[.int .i64 N, .int .i64 t0, .int .i64 l, .int .i64 W, .int .i64 S, .int .i64 R], .slice B l cr, .slice (some ⟨b2, o2 + x, none⟩) (y - x) (u2 - x)] w (RetNew w (PO r tp)) from by
        have C := H3.out B (some ⟨b2, o2 + x, none⟩) r tp cr (u2 - x) w h1 h2 (by omega) (by omega) (by omega)
        rw [rl, tl] at C
        exact C))
      have HPT1 := Lib.hid hpt; have HPL1 := Lib.hid hpl
      have hol := HO.out.ownlt
      have HOL := Lib.hid hol
      have b3' : x ≤ y := by omega
      have b4' : y ≤ u2 := by omega
      have HXY := Lib.hid hxy
      clear hpt hpl hbt tl rl hB hx hy hxy hol
      have c0 := HA3.out.c0; have c1 := HA3.out.c1; have c2 := HA3.out.c2; have c3 := HA3.out.c3; have c4 := HA3.out.c4; have c5 := HA3.out.c5
      go_wp2_with fail
      go_region_held3 (fun w' => w'.cell? ⟨w.heap.size, 0, none⟩ = some (.int .i64 N) ∧ w'.cell? ⟨w.heap.size, 1, none⟩ = some (.int .i64 t0) ∧ w'.cell? ⟨w.heap.size, 2, none⟩ = some (.int .i64 l) ∧ w'.cell? ⟨w.heap.size, 3, none⟩ = some (.int .i64 W) ∧ w'.cell? ⟨w.heap.size, 4, none⟩ = some (.int .i64 S) ∧ w'.cell? ⟨w.heap.size, 5, none⟩ = some (.int .i64 R) ∧ w'.cell? ⟨b1, o1 + k, none⟩ = some (.slice B l cr)) (first | (exact ⟨c0, c1, c2, c3, c4, c5, f1⟩) | (exact ⟨HA4.out.c0, HA4.out.c1, HA4.out.c2, HA4.out.c3, HA4.out.c4, HA4.out.c5, f4⟩) | (exact ⟨HA5.out.c0, HA5.out.c1, HA5.out.c2, HA5.out.c3, HA5.out.c4, HA5.out.c5, f5⟩) | go_keep)
        ((first
         | (refine step_append_row rfl _ _ rfl w1.heap.size _ PT0 rfl (by first | exact HO4.out.alloc _ | exact (HO4.out.alloc _).drewN _) w4.heap.size 1 (PO r tp) V dV rfl (by simp) hv1 hv2 (by first | exact HV.out.alloc _ | exact (HV.out.alloc _).drewN _) (fun _ a e e' => by have h1 := (HOL.out _ e').2; have h2 := HVN.out a e; omega) (by have := HPL1.out; omega) (by have := hb4.size; simp; omega) ?_; intro v' w7 hown1 hb7; have hb8 : Below w1.heap.size w3 w7 := (by first | (exact ((hb4.mono hz).alloc hz4 _).trans hb7) | (exact (below_drewN ((hb4.mono hz).alloc hz4 _) _).trans hb7)); have HA5 := Lib.hid (HA3.out.keep hb8 (cell_lt HA.out.c0)); have f5 := (hb8.cell (p := ⟨b1, o1 + k, none⟩) l1).trans f1)
         | (go_simp; go_at_call 25; refine (KP.out _ (by first | exact HB.out | exact HB.out.drewN 1) (by first | exact HBT.out | exact HBT.out.drewN 1)).mono ?_; rintro e w4 ⟨V, dV, rfl, hv1, hv2, hV, hb4, hvn⟩; have hb4 : Below w3.heap.size w3 w4 := (by first | (exact hb4) | (exact bstep (bdraw w3 _) hb4)); have HA4 := Lib.hid (HA3.out.below hb4); have f4 := (hb4.cell (p := ⟨b1, o1 + k, none⟩) (by have := hb3.size; show b1 < _; omega)).trans f1; have HV := Lib.hid hV; have HO4 := Lib.hid (HO.out.below hb4); have HVN := Lib.hid (show ∀ a, V = some a → w3.heap.size ≤ a.block from hvn); have hz4 : w1.heap.size ≤ w4.heap.size := (by have := hb4.size; omega); clear hV hvn)))
      all_goals
        go_wp2
        go_roundw
        case rel => exact ⟨k + 1, by omega, by go_num, by rw [HPT1.out]; exact hown1, hb3.trans hb8⟩
        case measure => simp [intOf] <;> omega
    · obtain rfl : k = n := by omega
      go_wp2
      go_ret
      have h3 := HO.out.rows
      obtain ⟨X2, d2, rfl, e1, e2, hX2, hnx⟩ := h3
      unfold RetRows
      rw [HPS.out]
      exact ⟨X2, d2, rfl, e1, e2, hX2, hbw.trans (hb3.mono (by have := hbw.size; omega)), fun a e => by have := hnx a e; have := hbw.size; omega⟩
theorem polys_any (N T L W S R : Int) (A1 A2 : Option Addr) (blob tape : List UInt8) (u1 u2 : Nat) (w : World) (hM : (⟨N, T, L, W, S, R⟩ : P).May) (h1 : BytesAt w A1 blob) (h2 : BytesAt w A2 tape) (k1 : blob.length ≤ u1) (z1 : u1 ≤ maxLen) (k2 : tape.length ≤ u2) (z2 : u2 ≤ maxLen)
    (hb : blob.length ≤ 240) (_ht : tape.length ≤ 1048576) (hct : cost ⟨N, T, L, W, S, R⟩ blob.length ≤ tape.length) :
    Calls Tryz.prog 13 #[.agg #[.int .i64 N, .int .i64 T, .int .i64 L, .int .i64 W, .int .i64 S, .int .i64 R], .slice A1 blob.length u1, .slice A2 tape.length u2] w (RetRows w (polys ⟨N, T, L, W, S, R⟩ blob tape)) :=
  polys_wide N T L W S R A1 A2 blob tape u1 u2 w hM h1 h2 k1 z1 k2 z2 hb hct
end Go.Proofs.YtchcgiapjhmflaaGreat.R10
