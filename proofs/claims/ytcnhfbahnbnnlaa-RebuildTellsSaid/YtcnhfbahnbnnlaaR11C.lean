/- the document's own answers of layer 11: whether all agree -/
import Derived.Test.YtcnhfbahnbnnlaaR11B
set_option maxRecDepth 100000
namespace Go.Proofs.Ytcnhfbahnbnnlaa.R11
open Go.RowKit PlanM StripeM LagrM DealM RebM Law08

set_option maxHeartbeats 4000000 in
theorem agree_any (N T L W S R : Int) (A1 A2 : Option Addr) (who : List Int) (sh : List (List UInt8)) (u1 u2 s : Nat) (w : World) (hTL : 1 ≤ T + L ∧ T + L ≤ 256) (h1 : IntsAt w A1 who) (h2 : RowsAt w A2 sh) (k1 : who.length ≤ u1) (z1 : u1 ≤ maxLen) (hw : need ⟨N, T, L, W, S, R⟩ ≤ who.length) (hws : sh.length = who.length) (hw2 : who.length ≤ 1048576)
    (hj : ∀ i, (hi : i < sh.length) → sh[i].length = s) (hs : s ≤ 1048576) :
    Calls Try.prog 14 #[.agg #[.int .i64 N, .int .i64 T, .int .i64 L, .int .i64 W, .int .i64 S, .int .i64 R], .slice A1 who.length u1, .slice A2 sh.length u2] w fun e w' => e = .returned (.bool (ragree ⟨N, T, L, W, S, R⟩ who sh)) ∧ Below w.heap.size w w' := by
  have HA := Lib.hid (PlanLies.new w N T L W S R)
  have hb0 := Lib.hid (balloc w (.cells #[.int .i64 N, .int .i64 T, .int .i64 L, .int .i64 W, .int .i64 S, .int .i64 R] 23))
  have hn1 : 1 ≤ who.length := by
    have : need ⟨N, T, L, W, S, R⟩ = (T + L).toNat := rfl
    omega
  have hs0 : 0 < sh.length := by omega
  have hl0 : (sh.getD 0 []).length = s := by rw [← List.getElem_eq_getD (h := hs0)]; exact hj 0 hs0
  have hrl : ∀ k, (rpoly ⟨N, T, L, W, S, R⟩ who sh k).length ≤ 1099511627 := fun k => by
    unfold rpoly
    rw [thr_len, points_len, List.length_take]
    unfold need
    show min (T + L).toNat _ ≤ _
    omega
  have KP := fun j V h1 h2 hjs hj2 => poly_any N T L W S R A1 A2 who sh u1 u2 j V (by omega) h1 h2 k1 z1 hw (by omega) hjs hj2
  have HP0 := Lib.hid fun j V h1 h2 (hjs : j < s) => KP j V h1 h2 (fun i hi => by rw [hj i hi]; exact hjs) (by omega)
  have HIF := Lib.hid (ragR_iff ⟨N, T, L, W, S, R⟩ who sh)
  have HTO := Lib.hid (ragTo_iff ⟨N, T, L, W, S, R⟩ who sh)
  have hres : ragree ⟨N, T, L, W, S, R⟩ who sh = ragTo ⟨N, T, L, W, S, R⟩ who sh s := by unfold ragree; rw [hl0]
  rw [hres]
  obtain ⟨z, hz⟩ : ∃ z, z = ragTo ⟨N, T, L, W, S, R⟩ who sh s := ⟨_, rfl⟩
  rw [← hz]
  have HZ := Lib.hid hz
  generalize ragTo ⟨N, T, L, W, S, R⟩ who sh = rt at *
  generalize ragR ⟨N, T, L, W, S, R⟩ who sh = rr at *
  generalize rpoly ⟨N, T, L, W, S, R⟩ who sh = rp at *
  have H1 := Lib.hid h1; have H2 := Lib.hid h2; have HJ := Lib.hid hj; have HRL := Lib.hid hrl; have HWS := Lib.hid hws
  clear h1 h2 KP hrl hj hl0 hres hz hws hTL
  go_enter Try.func14, Try.ntmps14
  go_wp2
  generalize w.alloc (.cells #[.int .i64 N, .int .i64 T, .int .i64 L, .int .i64 W, .int .i64 S, .int .i64 R] 23) = w0 at *
  replace H1 := Lib.hid (H1.out.below hb0.out)
  replace H2 := Lib.hid (H2.out.below hb0.out)
  go_loopw [7] (fun i wr => ∃ k : Nat, k ≤ s ∧ i = .int .i64 k ∧ (∀ j, j < k → rr j who.length = true) ∧ Below w0.heap.size w0 wr) (fun i _ => s - (intOf i).toNat)
  case atStart => exact ⟨0, Nat.zero_le _, rfl, fun j h => by omega, Below.refl _ _⟩
  case round =>
    obtain ⟨k, hk, rfl, hall, hbr⟩ := hrel
    rename World => wr
    have HAL := Lib.hid hall
    clear hall
    obtain ⟨b1, o1, B0, d0, rfl, f0, _, _, _⟩ := (H2.out.below hbr).row hs0
    rw [HJ.out 0 hs0] at f0
    have f0 : wr.cell? ⟨b1, o1, none⟩ = some (.slice B0 s d0) := f0
    by_cases hlt : k < s
    · obtain ⟨c0, c1, c2, c3, c4, c5⟩ := six (HA.out.below hbr)
      go_wp2_with fail
      refine (HP0.out k wr (H1.out.below hbr) (H2.out.below hbr) hlt).mono ?_
      rintro e w2 ⟨Y, dy, rfl, _, _, hY, hb2⟩
      have HY := Lib.hid hY
      have hbr2 := bstep hbr hb2
      have hpl := HRL.out k
      have hif := HIF.out k who.length
      obtain ⟨pk, hpk⟩ : ∃ pk, pk = rp k := ⟨_, rfl⟩
      rw [← hpk] at HY hpl hif ⊢
      have HIK := Lib.hid hif; have HPL := Lib.hid hpl
      clear c0 c1 c2 c3 c4 c5 hY hif hpl hpk f0
      go_wp2
      go_loopw [9] (fun i wx => ∃ t : Nat, t ≤ who.length ∧ i = .int .i64 t ∧ (∀ j, j < t → PolyM.ev pk (point (who.getD j 0)) = at_ sh j k) ∧ Below w2.heap.size w2 wx) (fun i _ => who.length - (intOf i).toNat)
      case atStart => exact ⟨0, Nat.zero_le _, rfl, fun j h => by omega, Below.refl _ _⟩
      case round =>
        obtain ⟨i, hi, rfl, hal, hbi⟩ := hrel
        rename World => wi
        have HL := Lib.hid hal
        clear hal
        by_cases hil : i < who.length
        · have his : i < sh.length := by rw [HWS.out]; exact hil
          obtain ⟨wb, wo, rfl, g1⟩ := (H1.out.below (bstep hbr2 hbi)).at hil
          obtain ⟨b1', o1', B, d, eo, g2, gx, gy, hB⟩ := (H2.out.below (bstep hbr2 hbi)).row his
          obtain ⟨rfl, rfl⟩ : b1 = b1' ∧ o1 = o1' := by injection eo with h; injection h with h1 h2; exact ⟨h1, h2⟩
          have hsl := HJ.out i his
          obtain ⟨b2, o2, rfl, g3⟩ := hB k (by rw [hsl]; exact hlt)
          have hat := at_get his (show k < sh[i].length by rw [hsl]; exact hlt)
          have hgd : who.getD i 0 = who[i] := (List.getElem_eq_getD (h := hil) 0).symm
          rw [hsl] at g2
          obtain ⟨y, hy⟩ : ∃ y, y = sh[i][k]'(by rw [hsl]; exact hlt) := ⟨_, rfl⟩
          rw [← hy] at g3 hat
          obtain ⟨c, hc⟩ : ∃ c, c = who[i] := ⟨_, rfl⟩
          rw [← hc] at g1 hgd
          obtain ⟨pc, hpc⟩ : ∃ pc, pc = point c := ⟨_, rfl⟩
          have HPC : Hid (∀ V, Calls Try.prog 38 #[.int .i64 c] V fun e w' => e = .returned (.int .u8 (pc.toNat : Nat)) ∧ V = w') := Lib.hid fun V => by rw [hpc]; exact R08.point_any c V
          obtain ⟨ev1, hev⟩ : ∃ ev1, ev1 = PolyM.ev pk pc := ⟨_, rfl⟩
          have HE : Hid (∀ V, BytesAt V Y pk → Calls Try.prog 36 #[.slice Y pk.length dy, .int .u8 (pc.toNat : Nat)] V fun e w' => e = .returned (.int .u8 (ev1.toNat : Nat)) ∧ V = w') := Lib.hid fun V h => by
            rw [hev]; exact R02.eval_any Y pk dy pc V h (by have := HPL.out; omega)
          have hone : PolyM.ev pk (point (who.getD i 0)) = at_ sh i k ↔ ev1 = y := by rw [hgd, ← hpc, ← hev, hat]
          have HON := Lib.hid hone
          have F1 := Lib.hid g1; have F2 := Lib.hid g2; have F3 := Lib.hid g3
          clear g1 g2 g3 gx gy hone hat hgd hy hc hpc hev hB eo hsl
          by_cases heq : ev1 = y
          · have hnext : ∀ j, j < i + 1 → PolyM.ev pk (point (who.getD j 0)) = at_ sh j k := fun j hj => by
              by_cases e : j = i
              · subst e; exact HON.out.mpr heq
              · exact HL.out j (by omega)
            have hne : ((ev1.toNat : Int) != (y.toNat : Int)) = false := by rw [heq]; simp
            have HX := Lib.hid hnext
            clear hnext heq
            go_wp2_with fail
            refine Drawn.wp_region_flowL 15 [Drawn.SP.is (.slice Y pk.length dy), Drawn.SP.is (.slice (some ⟨wb, wo, none⟩) who.length u1), Drawn.SP.is (.int .i64 (i : Nat)), Drawn.SP.is (.pointer (some ⟨wb, wo + i, none⟩)), Drawn.SP.is (.int .i64 c), Drawn.SP.is (.int .u8 (pc.toNat : Nat)), Drawn.SP.is (.int .u8 (ev1.toNat : Nat)), Drawn.SP.is (.slice (some ⟨b1, o1, none⟩) sh.length u2), Drawn.SP.is (.int .i64 (i : Nat)), Drawn.SP.is (.pointer (some ⟨b1, o1 + i, none⟩)), Drawn.SP.is (.slice (some ⟨b2, o2, none⟩) s d), Drawn.SP.is (.int .i64 (k : Nat)), Drawn.SP.is (.pointer (some ⟨b2, o2 + k, none⟩)), Drawn.SP.is (.int .u8 (y.toNat : Nat)), Drawn.SP.is (.bool false)] (by kernel_rfl) (by kernel_rfl) ?_ ?_
            · intro i hi a wq hb hev hdep
              rcases (show i = 0 ∨ i = 1 ∨ i = 2 ∨ i = 3 ∨ i = 4 ∨ i = 5 ∨ i = 6 ∨ i = 7 ∨ i = 8 ∨ i = 9 ∨ i = 10 ∨ i = 11 ∨ i = 12 ∨ i = 13 ∨ i = 14 by omega) with rfl | rfl | rfl | rfl | rfl | rfl | rfl | rfl | rfl | rfl | rfl | rfl | rfl | rfl | rfl
              · have e8 : a.tmps[8]?.getD undef = .slice Y pk.length dy := hev 8 rfl
                refine Drawn.wpOp_flow 29 rfl rfl rfl ?_
                clear hev hdep hb
                go_simp
                exact ⟨_, rfl, rfl, Below.refl _ _⟩
              · have e1 : a.tmps[1]?.getD undef = .slice (some ⟨wb, wo, none⟩) who.length u1 := hev 1 rfl
                refine Drawn.wpOp_flow 30 rfl rfl rfl ?_
                clear hev hdep hb
                go_simp
                exact ⟨_, rfl, rfl, Below.refl _ _⟩
              · have e9 : a.tmps[9]?.getD undef = .int .i64 (i : Nat) := hev 9 rfl
                refine Drawn.wpOp_flow 31 rfl rfl rfl ?_
                clear hev hdep hb
                go_simp
                exact ⟨_, rfl, rfl, Below.refl _ _⟩
              · have d1 : a.tmps[30]?.getD undef = .slice (some ⟨wb, wo, none⟩) who.length u1 := hdep 1 rfl
                have d2 : a.tmps[31]?.getD undef = .int .i64 (i : Nat) := hdep 2 rfl
                refine Drawn.wpOp_flow 32 rfl rfl rfl ?_
                clear hev hdep hb
                go_simp
                exact ⟨_, rfl, rfl, Below.refl _ _⟩
              · have d3 : a.tmps[32]?.getD undef = .pointer (some ⟨wb, wo + i, none⟩) := hdep 3 rfl
                refine Drawn.wpOp_flow 33 rfl rfl rfl ?_
                have f1 := (hb.cell (p := ⟨wb, wo + i, none⟩) (cell_lt F1.out)).trans F1.out
                have f2 := (hb.cell (p := ⟨b1, o1 + i, none⟩) (cell_lt F2.out)).trans F2.out
                have f3 := (hb.cell (p := ⟨b2, o2 + k, none⟩) (cell_lt F3.out)).trans F3.out
                clear hev hdep hb
                go_simp
                exact ⟨_, rfl, rfl, Below.refl _ _⟩
              · have d4 : a.tmps[33]?.getD undef = .int .i64 c := hdep 4 rfl
                refine Drawn.wpOp_flow 34 rfl rfl rfl ?_
                clear hev hdep
                go_simp
                refine (HPC.out wq).mono ?_
                rintro e w' ⟨rfl, rfl⟩
                exact ⟨_, rfl, rfl, Below.refl _ _⟩
              · have d0 : a.tmps[29]?.getD undef = .slice Y pk.length dy := hdep 0 rfl
                have d5 : a.tmps[34]?.getD undef = .int .u8 (pc.toNat : Nat) := hdep 5 rfl
                refine Drawn.wpOp_flow 35 rfl rfl rfl ?_
                clear hev hdep
                have C := HE.out wq (HY.out.below ((hbi.mono (Nat.le_refl _)).trans (hb.mono hbi.size)))
                clear hb
                go_simp
                refine C.mono ?_
                rintro e w' ⟨rfl, rfl⟩
                exact ⟨_, rfl, rfl, Below.refl _ _⟩
              · have e2 : a.tmps[2]?.getD undef = .slice (some ⟨b1, o1, none⟩) sh.length u2 := hev 2 rfl
                refine Drawn.wpOp_flow 36 rfl rfl rfl ?_
                clear hev hdep hb
                go_simp
                exact ⟨_, rfl, rfl, Below.refl _ _⟩
              · have e9 : a.tmps[9]?.getD undef = .int .i64 (i : Nat) := hev 9 rfl
                refine Drawn.wpOp_flow 37 rfl rfl rfl ?_
                clear hev hdep hb
                go_simp
                exact ⟨_, rfl, rfl, Below.refl _ _⟩
              · have d7 : a.tmps[36]?.getD undef = .slice (some ⟨b1, o1, none⟩) sh.length u2 := hdep 7 rfl
                have d8 : a.tmps[37]?.getD undef = .int .i64 (i : Nat) := hdep 8 rfl
                refine Drawn.wpOp_flow 38 rfl rfl rfl ?_
                clear hev hdep hb
                go_simp
                exact ⟨_, rfl, rfl, Below.refl _ _⟩
              · have d9 : a.tmps[38]?.getD undef = .pointer (some ⟨b1, o1 + i, none⟩) := hdep 9 rfl
                refine Drawn.wpOp_flow 39 rfl rfl rfl ?_
                have f1 := (hb.cell (p := ⟨wb, wo + i, none⟩) (cell_lt F1.out)).trans F1.out
                have f2 := (hb.cell (p := ⟨b1, o1 + i, none⟩) (cell_lt F2.out)).trans F2.out
                have f3 := (hb.cell (p := ⟨b2, o2 + k, none⟩) (cell_lt F3.out)).trans F3.out
                clear hev hdep hb
                go_simp
                exact ⟨_, rfl, rfl, Below.refl _ _⟩
              · have e7 : a.tmps[7]?.getD undef = .int .i64 (k : Nat) := hev 7 rfl
                refine Drawn.wpOp_flow 40 rfl rfl rfl ?_
                clear hev hdep hb
                go_simp
                exact ⟨_, rfl, rfl, Below.refl _ _⟩
              · have d10 : a.tmps[39]?.getD undef = .slice (some ⟨b2, o2, none⟩) s d := hdep 10 rfl
                have d11 : a.tmps[40]?.getD undef = .int .i64 (k : Nat) := hdep 11 rfl
                refine Drawn.wpOp_flow 41 rfl rfl rfl ?_
                clear hev hdep hb
                go_simp
                exact ⟨_, rfl, rfl, Below.refl _ _⟩
              · have d12 : a.tmps[41]?.getD undef = .pointer (some ⟨b2, o2 + k, none⟩) := hdep 12 rfl
                refine Drawn.wpOp_flow 42 rfl rfl rfl ?_
                have f1 := (hb.cell (p := ⟨wb, wo + i, none⟩) (cell_lt F1.out)).trans F1.out
                have f2 := (hb.cell (p := ⟨b1, o1 + i, none⟩) (cell_lt F2.out)).trans F2.out
                have f3 := (hb.cell (p := ⟨b2, o2 + k, none⟩) (cell_lt F3.out)).trans F3.out
                clear hev hdep hb
                go_simp
                exact ⟨_, rfl, rfl, Below.refl _ _⟩
              · have d6 : a.tmps[35]?.getD undef = .int .u8 (ev1.toNat : Nat) := hdep 6 rfl
                have d13 : a.tmps[42]?.getD undef = .int .u8 (y.toNat : Nat) := hdep 13 rfl
                refine Drawn.wpOp_flow 43 rfl rfl rfl ?_
                clear hev hdep hb
                go_simp
                exact ⟨_, rfl, rfl, Below.refl _ _⟩
            · intro xq wq hb hxq
              have vq0 : xq 0 = .slice Y pk.length dy := hxq 0 (by omega)
              have vq1 : xq 1 = .slice (some ⟨wb, wo, none⟩) who.length u1 := hxq 1 (by omega)
              have vq2 : xq 2 = .int .i64 (i : Nat) := hxq 2 (by omega)
              have vq3 : xq 3 = .pointer (some ⟨wb, wo + i, none⟩) := hxq 3 (by omega)
              have vq4 : xq 4 = .int .i64 c := hxq 4 (by omega)
              have vq5 : xq 5 = .int .u8 (pc.toNat : Nat) := hxq 5 (by omega)
              have vq6 : xq 6 = .int .u8 (ev1.toNat : Nat) := hxq 6 (by omega)
              have vq7 : xq 7 = .slice (some ⟨b1, o1, none⟩) sh.length u2 := hxq 7 (by omega)
              have vq8 : xq 8 = .int .i64 (i : Nat) := hxq 8 (by omega)
              have vq9 : xq 9 = .pointer (some ⟨b1, o1 + i, none⟩) := hxq 9 (by omega)
              have vq10 : xq 10 = .slice (some ⟨b2, o2, none⟩) s d := hxq 10 (by omega)
              have vq11 : xq 11 = .int .i64 (k : Nat) := hxq 11 (by omega)
              have vq12 : xq 12 = .pointer (some ⟨b2, o2 + k, none⟩) := hxq 12 (by omega)
              have vq13 : xq 13 = .int .u8 (y.toNat : Nat) := hxq 13 (by omega)
              have vq14 : xq 14 = .bool false := hxq 14 (by omega)
              show Exit.then _ _ Exit.normal (Drawn.acts _ [(43, some (xq 14)), (42, some (xq 13)), (41, some (xq 12)), (40, some (xq 11)), (39, some (xq 10)), (38, some (xq 9)), (37, some (xq 8)), (36, some (xq 7)), (35, some (xq 6)), (34, some (xq 5)), (33, some (xq 4)), (32, some (xq 3)), (31, some (xq 2)), (30, some (xq 1)), (29, some (xq 0))]) _
              rw [vq0, vq1, vq2, vq3, vq4, vq5, vq6, vq7, vq8, vq9, vq10, vq11, vq12, vq13, vq14]
              clear hxq vq0 vq1 vq2 vq3 vq4 vq5 vq6 vq7 vq8 vq9 vq10 vq11 vq12 vq13 vq14
              clear xq
              simp only [Drawn.acts]
              go_simp
              have hbi2 := hbi.trans (hb.mono hbi.size)
              clear hb hne
              go_at_K
              go_wp2
              go_roundw
              case rel => exact ⟨i + 1, by omega, by go_num, HX.out, hbi2⟩
              case measure => simp [intOf] <;> omega
          · have hbad : z = false := by
              rw [HZ.out]
              rcases hq : rt s with _ | _
              · rfl
              · exfalso
                have h1 := (HTO.out s).mp hq k hlt
                exact heq (HON.out.mp (HIK.out.mp h1 i hil))
            have hne : ((ev1.toNat : Int) != (y.toNat : Int)) = true := by
              rw [bne_iff_ne]; intro h; exact heq (UInt8.toNat_inj.mp (by omega))
            have HX := Lib.hid hbad
            clear hbad heq
            go_wp2_with fail
            refine Drawn.wp_region_flowL 15 [Drawn.SP.is (.slice Y pk.length dy), Drawn.SP.is (.slice (some ⟨wb, wo, none⟩) who.length u1), Drawn.SP.is (.int .i64 (i : Nat)), Drawn.SP.is (.pointer (some ⟨wb, wo + i, none⟩)), Drawn.SP.is (.int .i64 c), Drawn.SP.is (.int .u8 (pc.toNat : Nat)), Drawn.SP.is (.int .u8 (ev1.toNat : Nat)), Drawn.SP.is (.slice (some ⟨b1, o1, none⟩) sh.length u2), Drawn.SP.is (.int .i64 (i : Nat)), Drawn.SP.is (.pointer (some ⟨b1, o1 + i, none⟩)), Drawn.SP.is (.slice (some ⟨b2, o2, none⟩) s d), Drawn.SP.is (.int .i64 (k : Nat)), Drawn.SP.is (.pointer (some ⟨b2, o2 + k, none⟩)), Drawn.SP.is (.int .u8 (y.toNat : Nat)), Drawn.SP.is (.bool true)] (by kernel_rfl) (by kernel_rfl) ?_ ?_
            · intro i hi a wq hb hev hdep
              rcases (show i = 0 ∨ i = 1 ∨ i = 2 ∨ i = 3 ∨ i = 4 ∨ i = 5 ∨ i = 6 ∨ i = 7 ∨ i = 8 ∨ i = 9 ∨ i = 10 ∨ i = 11 ∨ i = 12 ∨ i = 13 ∨ i = 14 by omega) with rfl | rfl | rfl | rfl | rfl | rfl | rfl | rfl | rfl | rfl | rfl | rfl | rfl | rfl | rfl
              · have e8 : a.tmps[8]?.getD undef = .slice Y pk.length dy := hev 8 rfl
                refine Drawn.wpOp_flow 29 rfl rfl rfl ?_
                clear hev hdep hb
                go_simp
                exact ⟨_, rfl, rfl, Below.refl _ _⟩
              · have e1 : a.tmps[1]?.getD undef = .slice (some ⟨wb, wo, none⟩) who.length u1 := hev 1 rfl
                refine Drawn.wpOp_flow 30 rfl rfl rfl ?_
                clear hev hdep hb
                go_simp
                exact ⟨_, rfl, rfl, Below.refl _ _⟩
              · have e9 : a.tmps[9]?.getD undef = .int .i64 (i : Nat) := hev 9 rfl
                refine Drawn.wpOp_flow 31 rfl rfl rfl ?_
                clear hev hdep hb
                go_simp
                exact ⟨_, rfl, rfl, Below.refl _ _⟩
              · have d1 : a.tmps[30]?.getD undef = .slice (some ⟨wb, wo, none⟩) who.length u1 := hdep 1 rfl
                have d2 : a.tmps[31]?.getD undef = .int .i64 (i : Nat) := hdep 2 rfl
                refine Drawn.wpOp_flow 32 rfl rfl rfl ?_
                clear hev hdep hb
                go_simp
                exact ⟨_, rfl, rfl, Below.refl _ _⟩
              · have d3 : a.tmps[32]?.getD undef = .pointer (some ⟨wb, wo + i, none⟩) := hdep 3 rfl
                refine Drawn.wpOp_flow 33 rfl rfl rfl ?_
                have f1 := (hb.cell (p := ⟨wb, wo + i, none⟩) (cell_lt F1.out)).trans F1.out
                have f2 := (hb.cell (p := ⟨b1, o1 + i, none⟩) (cell_lt F2.out)).trans F2.out
                have f3 := (hb.cell (p := ⟨b2, o2 + k, none⟩) (cell_lt F3.out)).trans F3.out
                clear hev hdep hb
                go_simp
                exact ⟨_, rfl, rfl, Below.refl _ _⟩
              · have d4 : a.tmps[33]?.getD undef = .int .i64 c := hdep 4 rfl
                refine Drawn.wpOp_flow 34 rfl rfl rfl ?_
                clear hev hdep
                go_simp
                refine (HPC.out wq).mono ?_
                rintro e w' ⟨rfl, rfl⟩
                exact ⟨_, rfl, rfl, Below.refl _ _⟩
              · have d0 : a.tmps[29]?.getD undef = .slice Y pk.length dy := hdep 0 rfl
                have d5 : a.tmps[34]?.getD undef = .int .u8 (pc.toNat : Nat) := hdep 5 rfl
                refine Drawn.wpOp_flow 35 rfl rfl rfl ?_
                clear hev hdep
                have C := HE.out wq (HY.out.below ((hbi.mono (Nat.le_refl _)).trans (hb.mono hbi.size)))
                clear hb
                go_simp
                refine C.mono ?_
                rintro e w' ⟨rfl, rfl⟩
                exact ⟨_, rfl, rfl, Below.refl _ _⟩
              · have e2 : a.tmps[2]?.getD undef = .slice (some ⟨b1, o1, none⟩) sh.length u2 := hev 2 rfl
                refine Drawn.wpOp_flow 36 rfl rfl rfl ?_
                clear hev hdep hb
                go_simp
                exact ⟨_, rfl, rfl, Below.refl _ _⟩
              · have e9 : a.tmps[9]?.getD undef = .int .i64 (i : Nat) := hev 9 rfl
                refine Drawn.wpOp_flow 37 rfl rfl rfl ?_
                clear hev hdep hb
                go_simp
                exact ⟨_, rfl, rfl, Below.refl _ _⟩
              · have d7 : a.tmps[36]?.getD undef = .slice (some ⟨b1, o1, none⟩) sh.length u2 := hdep 7 rfl
                have d8 : a.tmps[37]?.getD undef = .int .i64 (i : Nat) := hdep 8 rfl
                refine Drawn.wpOp_flow 38 rfl rfl rfl ?_
                clear hev hdep hb
                go_simp
                exact ⟨_, rfl, rfl, Below.refl _ _⟩
              · have d9 : a.tmps[38]?.getD undef = .pointer (some ⟨b1, o1 + i, none⟩) := hdep 9 rfl
                refine Drawn.wpOp_flow 39 rfl rfl rfl ?_
                have f1 := (hb.cell (p := ⟨wb, wo + i, none⟩) (cell_lt F1.out)).trans F1.out
                have f2 := (hb.cell (p := ⟨b1, o1 + i, none⟩) (cell_lt F2.out)).trans F2.out
                have f3 := (hb.cell (p := ⟨b2, o2 + k, none⟩) (cell_lt F3.out)).trans F3.out
                clear hev hdep hb
                go_simp
                exact ⟨_, rfl, rfl, Below.refl _ _⟩
              · have e7 : a.tmps[7]?.getD undef = .int .i64 (k : Nat) := hev 7 rfl
                refine Drawn.wpOp_flow 40 rfl rfl rfl ?_
                clear hev hdep hb
                go_simp
                exact ⟨_, rfl, rfl, Below.refl _ _⟩
              · have d10 : a.tmps[39]?.getD undef = .slice (some ⟨b2, o2, none⟩) s d := hdep 10 rfl
                have d11 : a.tmps[40]?.getD undef = .int .i64 (k : Nat) := hdep 11 rfl
                refine Drawn.wpOp_flow 41 rfl rfl rfl ?_
                clear hev hdep hb
                go_simp
                exact ⟨_, rfl, rfl, Below.refl _ _⟩
              · have d12 : a.tmps[41]?.getD undef = .pointer (some ⟨b2, o2 + k, none⟩) := hdep 12 rfl
                refine Drawn.wpOp_flow 42 rfl rfl rfl ?_
                have f1 := (hb.cell (p := ⟨wb, wo + i, none⟩) (cell_lt F1.out)).trans F1.out
                have f2 := (hb.cell (p := ⟨b1, o1 + i, none⟩) (cell_lt F2.out)).trans F2.out
                have f3 := (hb.cell (p := ⟨b2, o2 + k, none⟩) (cell_lt F3.out)).trans F3.out
                clear hev hdep hb
                go_simp
                exact ⟨_, rfl, rfl, Below.refl _ _⟩
              · have d6 : a.tmps[35]?.getD undef = .int .u8 (ev1.toNat : Nat) := hdep 6 rfl
                have d13 : a.tmps[42]?.getD undef = .int .u8 (y.toNat : Nat) := hdep 13 rfl
                refine Drawn.wpOp_flow 43 rfl rfl rfl ?_
                clear hev hdep hb
                go_simp
                exact ⟨_, rfl, rfl, Below.refl _ _⟩
            · intro xq wq hb hxq
              have vq0 : xq 0 = .slice Y pk.length dy := hxq 0 (by omega)
              have vq1 : xq 1 = .slice (some ⟨wb, wo, none⟩) who.length u1 := hxq 1 (by omega)
              have vq2 : xq 2 = .int .i64 (i : Nat) := hxq 2 (by omega)
              have vq3 : xq 3 = .pointer (some ⟨wb, wo + i, none⟩) := hxq 3 (by omega)
              have vq4 : xq 4 = .int .i64 c := hxq 4 (by omega)
              have vq5 : xq 5 = .int .u8 (pc.toNat : Nat) := hxq 5 (by omega)
              have vq6 : xq 6 = .int .u8 (ev1.toNat : Nat) := hxq 6 (by omega)
              have vq7 : xq 7 = .slice (some ⟨b1, o1, none⟩) sh.length u2 := hxq 7 (by omega)
              have vq8 : xq 8 = .int .i64 (i : Nat) := hxq 8 (by omega)
              have vq9 : xq 9 = .pointer (some ⟨b1, o1 + i, none⟩) := hxq 9 (by omega)
              have vq10 : xq 10 = .slice (some ⟨b2, o2, none⟩) s d := hxq 10 (by omega)
              have vq11 : xq 11 = .int .i64 (k : Nat) := hxq 11 (by omega)
              have vq12 : xq 12 = .pointer (some ⟨b2, o2 + k, none⟩) := hxq 12 (by omega)
              have vq13 : xq 13 = .int .u8 (y.toNat : Nat) := hxq 13 (by omega)
              have vq14 : xq 14 = .bool true := hxq 14 (by omega)
              show Exit.then _ _ Exit.normal (Drawn.acts _ [(43, some (xq 14)), (42, some (xq 13)), (41, some (xq 12)), (40, some (xq 11)), (39, some (xq 10)), (38, some (xq 9)), (37, some (xq 8)), (36, some (xq 7)), (35, some (xq 6)), (34, some (xq 5)), (33, some (xq 4)), (32, some (xq 3)), (31, some (xq 2)), (30, some (xq 1)), (29, some (xq 0))]) _
              rw [vq0, vq1, vq2, vq3, vq4, vq5, vq6, vq7, vq8, vq9, vq10, vq11, vq12, vq13, vq14]
              clear hxq vq0 vq1 vq2 vq3 vq4 vq5 vq6 vq7 vq8 vq9 vq10 vq11 vq12 vq13 vq14
              clear xq
              simp only [Drawn.acts]
              go_simp
              go_at_K
              go_wp2
              go_ret
              exact ⟨ret_bool HX.out.symm, bstep hb0.out (bstep hbr2 (hbi.trans (hb.mono hbi.size)))⟩
        · obtain rfl : i = who.length := by omega
          have hk2 : rr k who.length = true := HIK.out.mpr HL.out
          have hnext : ∀ j, j < k + 1 → rr j who.length = true := fun j hj => by
            by_cases e : j = k
            · subst e; exact hk2
            · exact HAL.out j (by omega)
          have HX := Lib.hid hnext
          clear hnext hk2
          go_wp2
          go_roundw
          case rel => exact ⟨k + 1, by omega, by go_num, HX.out, bstep hbr2 hbi⟩
          case measure => simp [intOf] <;> omega
    · obtain rfl : k = s := by omega
      have hgood : z = true := by rw [HZ.out]; exact (HTO.out k).mpr HAL.out
      have HX := Lib.hid hgood
      clear hgood
      go_wp2
      go_ret
      exact ⟨ret_bool HX.out.symm, bstep hb0.out hbr⟩
end Go.Proofs.Ytcnhfbahnbnnlaa.R11
