/- package deal: a stripe's values; what a gathering is told of them -/
import Derived.Test.YtmeenipcfmeopaaDealA
set_option maxRecDepth 100000
namespace Go.Proofs.Ytmeenipcfmeopaa.Deal
open Go.RowKit PlanM StripeM DealM Plan Stripe

theorem val_any (b0 bf bw : Nat) (Z : Option Addr) (q : List UInt8) (d : Nat) (x : UInt8) (w : World) (ht : Gf.Tab w b0) (hf : w.cell? ⟨bf, 0, none⟩ = some (.pointer (some ⟨b0, 0, none⟩))) (hw : w.cell? ⟨bw, 0, none⟩ = some (.slice Z q.length d)) (hZ : BytesAt w Z q) (hq : q.length ≤ 1099511627776) :
    Calls Try.prog 55 #[.int .u8 (x.toNat : Nat), .pointer (some ⟨bf, 0, none⟩), .pointer (some ⟨bw, 0, none⟩)] w fun e w' => e = .returned (.int .u8 ((PolyM.ev q x).toNat : Nat)) ∧ ∃ n, w' = w.drewN n := by
  have HT := Lib.hid ht; have HZ := Lib.hid hZ
  clear ht hZ
  go_enter Try.func55, Try.ntmps55
  go_wp2_with fail
  refine (Poly.eval_any b0 Z q d x _ HT.out HZ.out hq).mono ?_
  rintro e w1 ⟨rfl, n, rfl⟩
  go_wp2
  go_ret
  exact ⟨rfl, n, rfl⟩

set_option maxHeartbeats 2000000 in
theorem add_any (G Rb R cap c bf bw : Nat) (A : Option Addr) (ps : List UInt8) (m : Nat → List UInt8) (y : UInt8 → UInt8) (w : World) (h : Gat w G Rb R cap A c ps m) (ha : GA G Rb R A) (hn : ps.length ≤ 1048576) (hm : ∀ i, i < ps.length → (m i).length < cap) (hcap : cap ≤ 1048576)
    (hv : ∀ (x : UInt8) (V : World), Keeps (GF Rb R ps.length) w V → Calls Try.prog 55 #[.int .u8 (x.toNat : Nat), .pointer (some ⟨bf, 0, none⟩), .pointer (some ⟨bw, 0, none⟩)] V fun e V' => e = .returned (.int .u8 ((y x).toNat : Nat)) ∧ ∃ n, V' = V.drewN n) :
    Calls Try.prog 33 #[.pointer (some ⟨G, 0, none⟩), .func (.func 55) #[] #[.pointer (some ⟨bf, 0, none⟩), .pointer (some ⟨bw, 0, none⟩)]] w fun e w' =>
      e = .returned (.tuple #[]) ∧ Gat w' G Rb R cap A c ps (fun i => m i ++ [y (PolyM.co ps i)]) ∧ Keeps (GF Rb R ps.length) w w' := by
  have e0 := h.g0
  have H := Lib.hid h; have HA := Lib.hid ha; have HM := Lib.hid hm; have HV := Lib.hid hv
  obtain ⟨n, hnn⟩ : ∃ n, n = ps.length := ⟨_, rfl⟩
  rw [← hnn] at e0 hn
  have HN := Lib.hid hnn
  clear h ha hm hv hnn
  go_enter Try.func33, Try.ntmps33
  go_wp2_with fail
  go_loopw [11] (fun i wr => ∃ k : Nat, k ≤ n ∧ i = .int .i64 k ∧ Gat wr G Rb R cap A c ps (fun i => if i < k then m i ++ [y (PolyM.co ps i)] else m i) ∧ Keeps (GF Rb R ps.length) w wr)
    (fun i _ => n - (intOf i).toNat)
  case atStart => exact ⟨0, Nat.zero_le _, rfl, H.out.congr fun i _ => by rw [if_neg (by omega)], Keeps.refl _ _⟩
  case round =>
    obtain ⟨k, hk, rfl, hg, hq⟩ := hrel
    rename World => wr
    clear e0
    have HG := Lib.hid hg; have HQ := Lib.hid hq
    clear hg hq
    by_cases hlt : k < n
    · have hkp : k < ps.length := by rw [← HN.out]; exact hlt
      obtain ⟨b, o, hA, ec⟩ := HG.out.pts k hkp
      have ek := HG.out.head hkp
      have e1 := HG.out.g1
      have ef := HG.out.frozen k
      have er := HG.out.row k hkp
      have hmk := HM.out k hkp
      simp only [Nat.lt_irrefl, if_false] at ek er
      rw [← HN.out] at e1
      subst hA
      have hx : ps[k] = PolyM.co ps k := (PolyM.co_get ps k hkp).symm
      rw [hx] at ec
      obtain ⟨x, hxx⟩ : ∃ x, x = PolyM.co ps k := ⟨_, rfl⟩
      rw [← hxx] at ec
      have HX := Lib.hid hxx
      have ER := Lib.hid er
      obtain ⟨l, hl⟩ : ∃ l, l = m k := ⟨_, rfl⟩
      rw [← hl] at ek hmk ER
      have HL := Lib.hid hl
      clear er hxx hx hl
      obtain ⟨z, hz⟩ : ∃ z, z = y x := ⟨_, rfl⟩
      have HVX := Lib.hid fun V hV => HV.out x V hV
      rw [← hz] at HVX
      have HZ := Lib.hid hz
      obtain ⟨ll, hll⟩ : ∃ ll, ll = l.length := ⟨_, rfl⟩
      rw [← hll] at ek hmk
      have HLL := Lib.hid hll
      clear hll hz
      go_wp2_with fail
      have hRk : Rb ≠ R + k := by have := HA.out.rb; omega
      have hGk : G ≠ R + k := by have := HA.out.g; omega
      have hsz := (HG.out.row k hkp).lt
      refine Drawn.wp_region_flowS (T3 (R + k) cap l z) (T3.tr _ _ _ _) 18 [Drawn.SQ.is (T3 (R + k) cap l z) (.pointer (some ⟨G, 0, none⟩)), Drawn.SQ.is (T3 (R + k) cap l z) (.pointer (some ⟨G, 0, none⟩)), Drawn.SQ.is (T3 (R + k) cap l z) (.pointer (some ⟨G, 1, none⟩)), Drawn.SQ.is (T3 (R + k) cap l z) (.slice (some ⟨Rb, 0, none⟩) n n), Drawn.SQ.is (T3 (R + k) cap l z) (.int .i64 (k : Nat)), Drawn.SQ.is (T3 (R + k) cap l z) (.pointer (some ⟨G, 0, none⟩)), Drawn.SQ.is (T3 (R + k) cap l z) (.pointer (some ⟨G, 0, none⟩)), Drawn.SQ.is (T3 (R + k) cap l z) (.pointer (some ⟨G, 1, none⟩)), Drawn.SQ.is (T3 (R + k) cap l z) (.slice (some ⟨Rb, 0, none⟩) n n), Drawn.SQ.is (T3 (R + k) cap l z) (.int .i64 (k : Nat)), Drawn.SQ.is (T3 (R + k) cap l z) (.pointer (some ⟨Rb, k, none⟩)), Drawn.SQ.is (T3 (R + k) cap l z) (.slice (some ⟨R + k, 0, none⟩) ll cap), Drawn.SQ.is (T3 (R + k) cap l z) (.func (.func 55) #[] #[.pointer (some ⟨bf, 0, none⟩), .pointer (some ⟨bw, 0, none⟩)]), Drawn.SQ.is (T3 (R + k) cap l z) (.int .u8 (x.toNat : Nat)), Drawn.SQ.is (T3 (R + k) cap l z) (.int .u8 (z.toNat : Nat)), SQ.val (R + k) cap l z, SQ.row (R + k) cap (ll + 1) l z, Drawn.SQ.is (T3 (R + k) cap l z) (.pointer (some ⟨Rb, k, none⟩))] (.below (bdraw _ 1)) (by kernel_rfl) (by kernel_rfl) ?_ ?_
      · intro i hi a w1 hb hev hdep
        rcases (show i = 0 ∨ i = 1 ∨ i = 2 ∨ i = 3 ∨ i = 4 ∨ i = 5 ∨ i = 6 ∨ i = 7 ∨ i = 8 ∨ i = 9 ∨ i = 10 ∨ i = 11 ∨ i = 12 ∨ i = 13 ∨ i = 14 ∨ i = 15 ∨ i = 16 ∨ i = 17 by omega) with rfl | rfl | rfl | rfl | rfl | rfl | rfl | rfl | rfl | rfl | rfl | rfl | rfl | rfl | rfl | rfl | rfl | rfl
        · have e0 : a.tmps[0]?.getD undef = .pointer (some ⟨G, 0, none⟩) := hev 0 rfl
          refine Drawn.wpOp_flowS (T3 (R + k) cap l z) 16 rfl rfl rfl ?_
          clear hev hdep hb
          go_simp
          exact ⟨_, rfl, rfl, .refl _⟩
        · have d0 : a.tmps[16]?.getD undef = .pointer (some ⟨G, 0, none⟩) := hdep 0 rfl
          refine Drawn.wpOp_flowS (T3 (R + k) cap l z) 17 rfl rfl rfl ?_
          clear hev hdep hb
          go_simp
          exact ⟨_, rfl, rfl, .refl _⟩
        · have d1 : a.tmps[17]?.getD undef = .pointer (some ⟨G, 0, none⟩) := hdep 1 rfl
          refine Drawn.wpOp_flowS (T3 (R + k) cap l z) 18 rfl rfl rfl ?_
          clear hev hdep hb
          go_simp
          exact ⟨_, rfl, rfl, .refl _⟩
        · have d2 : a.tmps[18]?.getD undef = .pointer (some ⟨G, 1, none⟩) := hdep 2 rfl
          refine Drawn.wpOp_flowS (T3 (R + k) cap l z) 19 rfl rfl rfl ?_
          have c1 := hb.k.cell e1 hGk
          have c2 := hb.k.cell ek hRk
          clear hev hdep hb
          go_simp
          exact ⟨_, rfl, rfl, .refl _⟩
        · have e4 : a.tmps[4]?.getD undef = .int .i64 (k : Nat) := hev 4 rfl
          refine Drawn.wpOp_flowS (T3 (R + k) cap l z) 20 rfl rfl rfl ?_
          clear hev hdep hb
          go_simp
          exact ⟨_, rfl, rfl, .refl _⟩
        · have e0 : a.tmps[0]?.getD undef = .pointer (some ⟨G, 0, none⟩) := hev 0 rfl
          refine Drawn.wpOp_flowS (T3 (R + k) cap l z) 21 rfl rfl rfl ?_
          clear hev hdep hb
          go_simp
          exact ⟨_, rfl, rfl, .refl _⟩
        · have d5 : a.tmps[21]?.getD undef = .pointer (some ⟨G, 0, none⟩) := hdep 5 rfl
          refine Drawn.wpOp_flowS (T3 (R + k) cap l z) 22 rfl rfl rfl ?_
          clear hev hdep hb
          go_simp
          exact ⟨_, rfl, rfl, .refl _⟩
        · have d6 : a.tmps[22]?.getD undef = .pointer (some ⟨G, 0, none⟩) := hdep 6 rfl
          refine Drawn.wpOp_flowS (T3 (R + k) cap l z) 23 rfl rfl rfl ?_
          clear hev hdep hb
          go_simp
          exact ⟨_, rfl, rfl, .refl _⟩
        · have d7 : a.tmps[23]?.getD undef = .pointer (some ⟨G, 1, none⟩) := hdep 7 rfl
          refine Drawn.wpOp_flowS (T3 (R + k) cap l z) 24 rfl rfl rfl ?_
          have c1 := hb.k.cell e1 hGk
          have c2 := hb.k.cell ek hRk
          clear hev hdep hb
          go_simp
          exact ⟨_, rfl, rfl, .refl _⟩
        · have e4 : a.tmps[4]?.getD undef = .int .i64 (k : Nat) := hev 4 rfl
          refine Drawn.wpOp_flowS (T3 (R + k) cap l z) 25 rfl rfl rfl ?_
          clear hev hdep hb
          go_simp
          exact ⟨_, rfl, rfl, .refl _⟩
        · have d8 : a.tmps[24]?.getD undef = .slice (some ⟨Rb, 0, none⟩) n n := hdep 8 rfl
          have d9 : a.tmps[25]?.getD undef = .int .i64 (k : Nat) := hdep 9 rfl
          refine Drawn.wpOp_flowS (T3 (R + k) cap l z) 26 rfl rfl rfl ?_
          clear hev hdep hb
          go_simp
          exact ⟨_, rfl, rfl, .refl _⟩
        · have d10 : a.tmps[26]?.getD undef = .pointer (some ⟨Rb, k, none⟩) := hdep 10 rfl
          refine Drawn.wpOp_flowS (T3 (R + k) cap l z) 27 rfl rfl rfl ?_
          have c1 := hb.k.cell e1 hGk
          have c2 := hb.k.cell ek hRk
          clear hev hdep hb
          go_simp
          exact ⟨_, rfl, rfl, .refl _⟩
        · have e1 : a.tmps[1]?.getD undef = .func (.func 55) #[] #[.pointer (some ⟨bf, 0, none⟩), .pointer (some ⟨bw, 0, none⟩)] := hev 1 rfl
          refine Drawn.wpOp_flowS (T3 (R + k) cap l z) 28 rfl rfl rfl ?_
          clear hev hdep hb
          go_simp
          exact ⟨_, rfl, rfl, .refl _⟩
        · have e5 : a.tmps[5]?.getD undef = .int .u8 (x.toNat : Nat) := hev 5 rfl
          refine Drawn.wpOp_flowS (T3 (R + k) cap l z) 29 rfl rfl rfl ?_
          clear hev hdep hb
          go_simp
          exact ⟨_, rfl, rfl, .refl _⟩
        · have d12 : a.tmps[28]?.getD undef = .func (.func 55) #[] #[.pointer (some ⟨bf, 0, none⟩), .pointer (some ⟨bw, 0, none⟩)] := hdep 12 rfl
          have d13 : a.tmps[29]?.getD undef = .int .u8 (x.toNat : Nat) := hdep 13 rfl
          refine Drawn.wpOp_flowS (T3 (R + k) cap l z) 30 rfl rfl rfl ?_
          clear hev hdep
          have C := HVX.out w1 (HQ.out.trans (hb.k.mono fun i _ e => .inr (by subst e; exact ⟨by omega, by rw [← HN.out]; omega⟩)))
          clear hb
          go_simp
          refine C.mono ?_
          rintro e w' ⟨rfl, nd, rfl⟩
          exact ⟨_, rfl, rfl, .below (bdraw _ _)⟩
        · have d14 : a.tmps[30]?.getD undef = .int .u8 (z.toNat : Nat) := hdep 14 rfl
          refine Drawn.wpOp_flowS (T3 (R + k) cap l z) 31 rfl rfl rfl ?_
          clear hev hdep
          have hz3 := hb.k.size
          clear hb
          go_simp
          exact ⟨_, rfl, ⟨w1.heap.size, rfl, by simp, by omega⟩, .below (balloc _ _)⟩
        · have d11 : a.tmps[27]?.getD undef = .slice (some ⟨R + k, 0, none⟩) ll cap := hdep 11 rfl
          obtain ⟨gb, d15, hgb, hne⟩ : (SQ.val (R + k) cap l z).p (a.tmps[31]?.getD undef) w1 := hdep 15 rfl
          refine Drawn.wpOp_flowS (T3 (R + k) cap l z) 32 rfl rfl rfl ?_
          clear hev hdep
          have P2 := hb.p (.inl ER.out)
          clear hb
          refine wp_append_pad (.tmp 27) (.tmp 31) rfl (R + k) ll cap l z (by simp only [Act.eval, Array.getD_eq_getD_getElem?]; exact d11) HLL.out.symm P2 hmk gb 1 (by simp only [Act.eval, Array.getD_eq_getD_getElem?]; exact d15) hgb ?_
          intro w2 hr2 hg2
          exact ⟨_, rfl, ⟨rfl, hr2⟩, .grow hg2 hr2⟩
        · have d3 : a.tmps[19]?.getD undef = .slice (some ⟨Rb, 0, none⟩) n n := hdep 3 rfl
          have d4 : a.tmps[20]?.getD undef = .int .i64 (k : Nat) := hdep 4 rfl
          refine Drawn.wpOp_flowS (T3 (R + k) cap l z) 33 rfl rfl rfl ?_
          clear hev hdep hb
          go_simp
          exact ⟨_, rfl, rfl, .refl _⟩
      · intro xq w1 hb hxq
        have vq0 : xq 0 = .pointer (some ⟨G, 0, none⟩) := hxq 0 (by omega)
        have vq1 : xq 1 = .pointer (some ⟨G, 0, none⟩) := hxq 1 (by omega)
        have vq2 : xq 2 = .pointer (some ⟨G, 1, none⟩) := hxq 2 (by omega)
        have vq3 : xq 3 = .slice (some ⟨Rb, 0, none⟩) n n := hxq 3 (by omega)
        have vq4 : xq 4 = .int .i64 (k : Nat) := hxq 4 (by omega)
        have vq5 : xq 5 = .pointer (some ⟨G, 0, none⟩) := hxq 5 (by omega)
        have vq6 : xq 6 = .pointer (some ⟨G, 0, none⟩) := hxq 6 (by omega)
        have vq7 : xq 7 = .pointer (some ⟨G, 1, none⟩) := hxq 7 (by omega)
        have vq8 : xq 8 = .slice (some ⟨Rb, 0, none⟩) n n := hxq 8 (by omega)
        have vq9 : xq 9 = .int .i64 (k : Nat) := hxq 9 (by omega)
        have vq10 : xq 10 = .pointer (some ⟨Rb, k, none⟩) := hxq 10 (by omega)
        have vq11 : xq 11 = .slice (some ⟨R + k, 0, none⟩) ll cap := hxq 11 (by omega)
        have vq12 : xq 12 = .func (.func 55) #[] #[.pointer (some ⟨bf, 0, none⟩), .pointer (some ⟨bw, 0, none⟩)] := hxq 12 (by omega)
        have vq13 : xq 13 = .int .u8 (x.toNat : Nat) := hxq 13 (by omega)
        have vq14 : xq 14 = .int .u8 (z.toNat : Nat) := hxq 14 (by omega)
        obtain ⟨vq16, hrow⟩ : (SQ.row (R + k) cap (ll + 1) l z).p (xq 16) w1 := hxq 16 (by omega)
        have vq17 : xq 17 = .pointer (some ⟨Rb, k, none⟩) := hxq 17 (by omega)
        show wpList _ _ _ _ (Drawn.acts _ [(33, some (xq 17)), (32, some (xq 16)), (31, some (xq 15)), (30, some (xq 14)), (29, some (xq 13)), (28, some (xq 12)), (27, some (xq 11)), (26, some (xq 10)), (25, some (xq 9)), (24, some (xq 8)), (23, some (xq 7)), (22, some (xq 6)), (21, some (xq 5)), (20, some (xq 4)), (19, some (xq 3)), (18, some (xq 2)), (17, some (xq 1)), (16, some (xq 0))]) _
        rw [vq0, vq1, vq2, vq3, vq4, vq5, vq6, vq7, vq8, vq9, vq10, vq11, vq12, vq13, vq14, vq16, vq17]
        clear hxq vq0 vq1 vq2 vq3 vq4 vq5 vq6 vq7 vq8 vq9 vq10 vq11 vq12 vq13 vq14 vq16 vq17
        generalize xq 15 = yq15
        clear xq
        simp only [Drawn.acts, List.drop_succ_cons, List.drop_zero]
        go_simp
        have cs := hb.k.cell ek hRk
        have fs := hb.k.frozen ek hRk ef
        have HR2 := Lib.hid hrow; have HB := Lib.hid hb
        clear hrow hb
        go_wp2_with fail
        go_roundw
        case rel =>
          obtain ⟨g1, g2⟩ := HG.out.put HA.out hkp (l := l) (ll := ll) (by rw [HL.out]; simp) HLL.out.symm HB.out.k HR2.out
          refine ⟨k + 1, by omega, by go_num, g1.congr fun i _ => ?_, HQ.out.trans g2⟩
          by_cases e : i = k
          · subst e
            rw [if_pos rfl, if_pos (by omega), HL.out, HZ.out, HX.out]
          · rw [if_neg e]
            by_cases e2 : i < k
            · rw [if_pos e2, if_pos (by omega)]
            · rw [if_neg e2, if_neg (by omega)]
        case measure => simp [intOf] <;> omega
    · obtain rfl : k = n := by omega
      go_wp2_with fail
      go_end0
      exact ⟨rfl, HG.out.congr fun i hi => by rw [if_pos (by rw [HN.out]; exact hi)], HQ.out⟩
end Go.Proofs.Ytmeenipcfmeopaa.Deal
