/- the walk of CompactMoves -/
import Derived.Test.YthmllbijfgimcaaLaw23
set_option maxRecDepth 100000
set_option maxHeartbeats 4000000
namespace Go.Proofs.Ythmllbijfgimcaa.Law23
open Go.RowKit CptM Pairs Trips Compact

theorem gaps_same {l : List I2} {m : List Int} {s : Nat} (hap : Apart l) (hs : 1 ≤ s) (hs2 : s ≤ 256) (hm : Cov m l) : (SpaceM.runs (free m s)).map nat2 = gapsA l (s : Nat) := by
  obtain ⟨L, hL, hL1, hL2⟩ := apart_nat hap
  unfold gapsA
  rw [if_pos ⟨by omega, by omega, hap⟩]
  subst hL
  rw [nat2_back, Int.toNat_natCast, free_gaps hs2 hm hL1 hL2]
/-- what the law's loops read: the runs, the moves, the gaps -/
structure Lie (A Am Ag : Option Addr) (l : List I2) (M : List I3) (G : List I2) (w : World) : Prop where
  l : PairsAt w A l
  m : TripsAt w Am M
  g : PairsAt w Ag G
theorem Lie.below {A Am Ag : Option Addr} {l : List I2} {M : List I3} {G : List I2} {w w' : World} (h : Lie A Am Ag l M G w) (hb : Below w.heap.size w w') : Lie A Am Ag l M G w' := ⟨h.l.below hb, h.m.below hb, h.g.below hb⟩
theorem inL (l : List I2) (h : Compact.InL l) : R23.InL l := h
theorem moves_law (A : Option Addr) (l : List I2) (c : Nat) (slots : Int) (w : World) (hA : PairsAt w A l ∧ Compact.InL l) (h1 : l.length ≤ c) (h2 : c ≤ maxLen) (hs : Compact.In64 slots) :
    Calls Try.prog 3 #[.slice A l.length c, .int .i64 slots] w fun e w' => e = .returned (.bool true) ∧ Below w.heap.size w w' := by
  obtain ⟨hA, hin⟩ := hA
  by_cases hlong : 60 < l.length
  · have hlong' : (60 : Int) < (l.length : Int) := by omega
    have AL := Lib.hid (alive_any w)
    clear hA hin
    generalize l.length = ll at *
    go_enter Try.func3, Try.ntmps3
    go_wp2_with fail
    refine AL.out.mono ?_
    rintro e w1 ⟨rfl, hb1⟩
    have HB1 := Lib.hid hb1
    clear hb1
    go_wp2
    go_ret
    exact ⟨rfl, HB1.out⟩
  have hlong' : ¬ (60 : Int) < (l.length : Int) := by omega
  have HA := Lib.hid hA
  have HIN := Lib.hid hin
  have C1 := Lib.hid (R23.apart_any A l c w hA (inL l hin) h1 h2)
  have C2 := Lib.hid (fun W (hb : Below w.heap.size w W) => as_any A l c W (hA.below hb) h1 h2 (by omega))
  have C3 := Lib.hid (fun W (A' : Option Addr) (c' : Nat) (hA' : PairsAt W A' l) (q1 : l.length ≤ c') (q2 : c' ≤ maxLen) => Compact.apart_any A' l c' W hA' hin q1 q2)
  have C4 := Lib.hid (fun W (A' : Option Addr) (c' : Nat) (hA' : PairsAt W A' l) (q1 : l.length ≤ c') (q2 : c' ≤ maxLen) => Compact.moves_any A' l c' W hA' hin q1 q2)
  have C5 := Lib.hid (fun W (A' : Option Addr) (c' : Nat) (hA' : PairsAt W A' l) (q1 : l.length ≤ c') (q2 : c' ≤ maxLen) => Compact.gaps_any A' l c' slots W hA' hin q1 q2 hs)
  have C6 := Lib.hid (fun W (k : Nat) (hk : k ≤ l.length) (hap : Apart l) (hb : Below w.heap.size w W) => R23.to_any A l c k W (hA.below hb) hap hk h1 h2)
  have C7 := Lib.hid (fun W (s : Nat) (hap : Apart l) (hs2 : s ≤ 256) (hb : Below w.heap.size w W) => R23.gaps_any A l c s W (hA.below hb) (inL l hin) h1 h2 hap hs2)
  obtain ⟨N, hN⟩ : ∃ N, N = l.length := ⟨_, rfl⟩
  have HN := Lib.hid hN
  rw [← hN] at C1 C2 C3 C4 C5 C6 C7 hlong hlong' h1 ⊢
  clear hA hin hN
  unfold Compact.In64 at hs
  generalize hap : decide (Apart l) = ap at *
  go_enter Try.func3, Try.ntmps3
  go_wp2_with fail
  refine C1.out.mono ?_
  rintro e w1 ⟨rfl, hb1⟩
  have HB1 := Lib.hid hb1
  clear hb1 C1
  go_wp2_with fail
  refine (C2.out _ HB1.out).mono ?_
  rintro e w2 ⟨v2, rfl, hv2⟩
  have HB2 := Lib.hid (HB1.out.trans (hv2.below.mono HB1.out.size))
  obtain ⟨A2, c2, hv, q1, q2, q3, -⟩ := hv2.own.pairs
  rw [← HN.out] at hv q1
  subst hv
  have D := Lib.hid (C3.out w2 A2 c2 q3 q1 q2)
  clear hv2 q3 HB1
  go_wp2_with fail
  refine D.out.mono ?_
  rintro e w3 ⟨rfl, hb3⟩
  have HB3 := Lib.hid (HB2.out.trans (hb3.mono HB2.out.size))
  have hbb : (ap == ap) = true := by simp
  clear hb3 D HB2
  go_wp2_with fail
  refine (C2.out _ HB3.out).mono ?_
  rintro e w4 ⟨v4, rfl, hv4⟩
  have HB4 := Lib.hid (HB3.out.trans (hv4.below.mono HB3.out.size))
  obtain ⟨A4, c4, hv, q4, q5, q6, -⟩ := hv4.own.pairs
  rw [← HN.out] at hv q4
  subst hv
  have D := Lib.hid (C4.out w4 A4 c4 q6 q4 q5)
  clear hv4 q6 HB3
  go_wp2_with fail
  refine D.out.mono ?_
  rintro e w5 ⟨vm, rfl, hm, hb5⟩
  have HB5 := Lib.hid (HB4.out.trans (hb5.mono HB4.out.size))
  have HM := Lib.hid hm
  clear hb5 hm D HB4
  go_wp2_with fail
  refine (C2.out _ HB5.out).mono ?_
  rintro e w6 ⟨v6, rfl, hv6⟩
  have HB56 := Lib.hid hv6.below
  have HB6 := Lib.hid (HB5.out.trans (hv6.below.mono HB5.out.size))
  obtain ⟨A6, c6, hv, q7, q8, q9, -⟩ := hv6.own.pairs
  rw [← HN.out] at hv q7
  subst hv
  have D := Lib.hid (C5.out w6 A6 c6 q9 q7 q8)
  clear hv6 q9 HB5
  go_wp2_with fail
  refine D.out.mono ?_
  rintro e w7 ⟨vg, rfl, hg⟩
  have HB7 := Lib.hid (HB6.out.trans (hg.below.mono HB6.out.size))
  have HM7 := Lib.hid (HM.out.below (bstep HB56.out hg.below))
  have HG7 := Lib.hid hg.own
  clear hg D HB6 HM HB56 C3 C4 C5
  have AL := Lib.hid alive_any
  rcases ap with _ | _
  · have hna : ¬ Apart l := by rw [← decide_eq_false_iff_not]; exact hap
    have e1 : movesA l = [] := by unfold movesA; rw [if_neg hna]
    have e2 : gapsA l slots = [] := by unfold gapsA; rw [if_neg (fun h => hna h.2.2)]
    obtain ⟨Am, cm, hv, -, -, -, -⟩ := HM7.out.trips
    rw [e1] at hv
    subst hv
    obtain ⟨Ag, cg, hv, -, -, -, -⟩ := HG7.out.pairs
    rw [e2] at hv
    subst hv
    clear e1 e2 hna hap HM7 HG7
    simp only [List.length_nil]
    go_wp2_with fail
    refine (AL.out _).mono ?_
    rintro e w8 ⟨rfl, hb8⟩
    have HBF := Lib.hid (HB7.out.trans (hb8.mono HB7.out.size))
    clear hb8
    go_wp2
    go_ret
    exact ⟨rfl, HBF.out⟩
  have hap' : Apart l := by rw [← decide_eq_true_iff (p := Apart l)]; exact hap
  have HAP := Lib.hid hap'
  have hma : movesA l = moves l := by unfold movesA; rw [if_pos hap']
  obtain ⟨Am, cm, hv, m1, m2, m3, -⟩ := HM7.out.trips
  obtain ⟨Ag, cg, hv2, g1, g2, g3, -⟩ := HG7.out.pairs
  obtain ⟨M, hM⟩ : ∃ M, M = moves l := ⟨_, rfl⟩
  obtain ⟨G, hG⟩ : ∃ G, G = gapsA l slots := ⟨_, rfl⟩
  have HMM := Lib.hid hM; have HGG := Lib.hid hG
  rw [hma, ← hM] at hv m1 m3
  rw [← hG] at hv2 g1 g3
  subst hv; subst hv2
  have HL7 := Lib.hid (show Lie A Am Ag l M G w7 from ⟨HA.out.below HB7.out, m3, g3⟩)
  have hMl : M.length ≤ N := by rw [hM, HN.out]; exact movesTo_len l l.length (Nat.le_refl _)
  have hGl : G.length ≤ 1000 := by
    rw [hG]; unfold gapsA; split
    · rw [List.length_map]; refine Nat.le_trans (betw_len _ _ _) ?_
      rw [List.length_map]; have := apart_len hap'; omega
    · simp
  obtain ⟨mn, hmn⟩ : ∃ mn, mn = M.length := ⟨_, rfl⟩
  obtain ⟨gn, hgn⟩ : ∃ gn, gn = G.length := ⟨_, rfl⟩
  have HMN := Lib.hid hmn; have HGN := Lib.hid hgn
  rw [← hmn] at hMl m1 ⊢
  rw [← hgn] at hGl g1 ⊢
  clear hM hG hma hap' hap m3 g3 hmn hgn HM7 HG7 HA
  go_wp2
  go_loopw [8, 45] (fun iv xv wr => ∃ k j : Nat, xv = .int .i64 k ∧ k ≤ N ∧ iv = .int .i64 j ∧ j ≤ k ∧ Hid (j = (movesTo l k).length ∧ Below w7.heap.size w7 wr)) (fun _ xv _ => N - (intOf xv).toNat)
  case atStart => exact ⟨0, 0, rfl, Nat.zero_le _, rfl, Nat.le_refl _, Lib.hid ⟨rfl, Below.refl _ _⟩⟩
  case round =>
    obtain ⟨k, j, rfl, hk, rfl, hjk, HK⟩ := hrel
    rename World => wr
    by_cases hlt : k < N
    · have hkl : k < l.length := by have := HN.out; omega
      obtain ⟨b, o, hAe, e0, e1⟩ := (HL7.out.below HK.out.2).l k hkl
      subst hAe
      have hst := fun h => movesTo_stay l k hkl h
      have hmv := fun h => movesTo_move l k hkl h
      have hat := fun h => moves_at l k hkl h
      rw [← HK.out.1] at hat
      have hin := HIN.out l[k] (List.getElem_mem hkl)
      have hx := to_in HAP.out k (by omega)
      obtain ⟨p, hp⟩ : ∃ p, p = l[k].1 := ⟨_, rfl⟩
      obtain ⟨q, hq⟩ : ∃ q, q = l[k].2 := ⟨_, rfl⟩
      rw [← hp] at e0 hst hmv hat
      rw [← hq] at e1 hmv hat
      obtain ⟨t, ht⟩ : ∃ t, t = to l k := ⟨_, rfl⟩
      have hba := balloc wr (.cells #[.int .i64 p, .int .i64 q] 32)
      have hbB := bstep HK.out.2 hba
      have D := Lib.hid (C6.out _ k hk HAP.out (HB7.out.trans (hbB.mono HB7.out.size)))
      rw [← ht] at D hst hmv hat
      have HST := Lib.hid hst; have HMV := Lib.hid hmv; have HAT := Lib.hid hat
      have HBB := Lib.hid hbB
      have HJ := Lib.hid HK.out.1
      clear hp hq ht hst hmv hat hba hbB hin hx HK
      go_wp2_with fail
      refine D.out.mono ?_
      rintro e w8 ⟨rfl, rfl⟩
      clear D
      by_cases hpt : t = p
      · have HN2 : Hid (j = (movesTo l (k + 1)).length ∧ Below w7.heap.size w7 (wr.alloc (.cells #[.int .i64 p, .int .i64 q] 32))) := Lib.hid ⟨by rw [HST.out hpt]; exact HJ.out, HBB.out⟩
        subst hpt
        clear HST HMV HAT HJ
        go_wp2
        go_roundw
        case rel => exact ⟨k + 1, j, by go_num, by omega, rfl, by omega, HN2⟩
        case measure => simp [intOf] <;> omega
      · obtain ⟨hjm, hel⟩ := HAT.out hpt
        rw [← HMM.out] at hjm
        simp only [← HMM.out] at hel
        obtain ⟨b', o', hAe, c0, c1, c2⟩ := (HL7.out.below HBB.out).m j hjm
        subst hAe
        rw [hel] at c0 c1 c2
        simp only at c0 c1 c2
        have hjn : j < mn := by have := HMN.out; omega
        have hjn' : ¬ (mn : Int) ≤ (j : Int) := by omega
        have d1 : decide ((mn : Int) ≤ (j : Int)) = false := by simp; omega
        have HN2 : Hid (∀ n, j + 1 = (movesTo l (k + 1)).length ∧ Below w7.heap.size w7 ((wr.alloc (.cells #[.int .i64 p, .int .i64 q] 32)).drewN n)) := Lib.hid fun n => ⟨by rw [HMV.out hpt, List.length_append, ← HJ.out]; rfl, below_drewN HBB.out n⟩
        have i1 : IntKind.i64.wrap ((j : Int) + 1) = (j : Int) + 1 := IntWalk.i64_in _ (by omega)
        clear HST HMV HAT HJ hel hjm
        go_wp2
        go_quiet (fail)
        have HN3 := Lib.hid (HN2.out nq)
        generalize (wr.alloc (.cells #[.int .i64 p, .int .i64 q] 32)).drewN nq = wq at *
        clear HN2
        go_wp2
        go_roundw
        case rel => exact ⟨k + 1, j + 1, by go_num, by omega, by go_num, by omega, HN3⟩
        case measure => simp [intOf] <;> omega
    · have hjn : j = mn := by
        have h1 := HK.out.1
        rw [show k = l.length by have := HN.out; omega] at h1
        rw [h1, HMN.out, HMM.out]; rfl
      have HBW := Lib.hid HK.out.2
      subst hjn
      clear HK
      by_cases hsl : 1 ≤ slots ∧ slots ≤ 256
      · obtain ⟨s, rfl⟩ : ∃ s : Nat, slots = (s : Nat) := ⟨slots.toNat, by omega⟩
        have D := Lib.hid (C7.out wr s HAP.out (by omega) (HB7.out.trans (HBW.out.mono HB7.out.size)))
        have hs1 : (1 : Int) ≤ (s : Int) := hsl.1
        have hs2 : (s : Int) ≤ 256 := hsl.2
        clear hsl
        go_wp2_with fail
        refine D.out.mono ?_
        rintro e w8 ⟨vw, mm, rfl, hw, hcov, hb8⟩
        have HB8 := Lib.hid (HBW.out.trans (hb8.mono HBW.out.size))
        rw [gaps_same HAP.out (by omega) (by omega) hcov, ← HGG.out] at hw
        obtain ⟨Aw, cw, hv, -, -, hpw, -⟩ := hw.pairs
        rw [← HGN.out] at hv
        subst hv
        have HW := Lib.hid hpw
        clear hw hpw hcov hb8 D HBW
        go_wp2
        go_loopw [99] (fun xv wr => ∃ k : Nat, xv = .int .i64 k ∧ k ≤ gn ∧ Hid (Below w8.heap.size w8 wr)) (fun xv _ => gn - (intOf xv).toNat)
        case atStart => exact ⟨0, rfl, Nat.zero_le _, Lib.hid (Below.refl _ _)⟩
        case round =>
          obtain ⟨k, rfl, hk2, HK⟩ := hrel
          rename World => wq
          by_cases hlt2 : k < gn
          · have hkg : k < G.length := by have := HGN.out; omega
            obtain ⟨b, o, hAe, c0, c1⟩ := (HL7.out.below (HB8.out.trans (HK.out.mono HB8.out.size))).g k hkg
            subst hAe
            obtain ⟨b', o', hAe, c2, c3⟩ := (HW.out.below HK.out) k hkg
            subst hAe
            have HN2 : Hid (∀ n, Below w8.heap.size w8 (wq.drewN n)) := Lib.hid fun n => below_drewN HK.out n
            have hki : (k : Int) < (gn : Int) := by omega
            generalize G[k].1 = p at *
            generalize G[k].2 = q at *
            have b1 : (p == p) = true := by simp
            have b2 : (q == q) = true := by simp
            clear HK
            go_wp2
            go_quiet (fail)
            have HN3 := Lib.hid (HN2.out nq)
            generalize wq.drewN nq = wz at *
            clear HN2
            go_wp2
            go_roundw
            case rel => exact ⟨k + 1, by go_num, by omega, HN3⟩
            case measure => simp [intOf] <;> omega
          · obtain rfl : k = gn := by omega
            have HBZ := Lib.hid (HB7.out.trans ((HB8.out.trans (HK.out.mono HB8.out.size)).mono HB7.out.size))
            clear HK
            go_wp2_with fail
            refine (AL.out _).mono ?_
            rintro e w9 ⟨rfl, hb9⟩
            have HBF := Lib.hid (HBZ.out.trans (hb9.mono HBZ.out.size))
            clear hb9
            go_wp2
            go_ret
            exact ⟨rfl, HBF.out⟩
      · have hg0 : gn = 0 := by
          rw [HGN.out, HGG.out]; unfold gapsA; rw [if_neg (fun h => hsl ⟨h.1, h.2.1⟩)]; rfl
        have hsl2 : slots < 1 ∨ (¬ slots < 1 ∧ 256 < slots) := by omega
        subst hg0
        have HL0 : Hid (Below w7.heap.size w7 wr) := Lib.hid HBW.out
        rcases hsl2 with hs1 | ⟨hs1, hs2⟩
        all_goals
          clear HBW hsl
          go_wp2
          go_loopw [99] (fun xv wv => xv = .int .i64 0 ∧ Hid (wv = wr)) (fun xv _ => 0)
          case atStart => exact ⟨rfl, Lib.hid rfl⟩
          case round =>
            obtain ⟨rfl, HK⟩ := hrel
            rename World => wq
            have hq := HK.out
            subst hq
            have HBZ := Lib.hid (HB7.out.trans (HL0.out.mono HB7.out.size))
            clear HK
            go_wp2_with fail
            refine (AL.out _).mono ?_
            rintro e w9 ⟨rfl, hb9⟩
            have HBF := Lib.hid (HBZ.out.trans (hb9.mono HBZ.out.size))
            clear hb9
            go_wp2
            go_ret
            exact ⟨rfl, HBF.out⟩
end Go.Proofs.Ythmllbijfgimcaa.Law23
