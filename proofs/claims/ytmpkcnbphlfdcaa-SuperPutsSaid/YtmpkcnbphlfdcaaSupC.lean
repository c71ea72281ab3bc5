/- package super: Right, Put, Get -/
import Derived.Test.YtmpkcnbphlfdcaaSupB
set_option maxRecDepth 100000
namespace Go.Proofs.Ytmpkcnbphlfdcaa.Super
open Go.RowKit SupM

theorem right_any (F D S : Int) (hi : Fits ⟨F, D, S⟩) (w : World) : Calls Try.prog 8 #[.agg #[.int .i64 F, .int .i64 D, .int .i64 S]] w fun e w' => e = .returned (.bool (Sp.right ⟨F, D, S⟩)) ∧ Below w.heap.size w w' := by
  have CB := Lib.hid (fun W => blank_any F D S W)
  have hg := sup_guard
  by_cases h0 : (⟨F, D, S⟩ : Sp) = ⟨0, 0, 0⟩
  · have hr : Sp.right ⟨F, D, S⟩ = true := right_blank _ (by injection h0 with a b c; exact ⟨c, a, b⟩)
    rw [decide_eq_true h0] at CB
    rw [hr]
    clear h0 hr
    go_enter Try.func8, Try.ntmps8
    go_wp2_with fail
    refine (CB.out _).mono ?_
    rintro e w1 ⟨rfl, hb1⟩
    go_wp2
    go_ret
    exact ⟨rfl, bstep (balloc _ _) hb1⟩
  · have hr := may_iff ⟨F, D, S⟩ (fun h => h0 (by obtain ⟨a, b, c⟩ := h; simp only at a b c; rw [a, b, c]))
    rw [decide_eq_false h0] at CB
    have CW := Lib.hid (fun W => written_any F D S hi W)
    have hl := wr_len ⟨F, D, S⟩
    have CS := Lib.hid (fun W X d h => said_any X (wr ⟨F, D, S⟩) d W h (by omega))
    have CT := Lib.hid (fun W => state_any S W)
    generalize wr ⟨F, D, S⟩ = L at *
    generalize saidOf L = z at *
    obtain ⟨F', D', S'⟩ := z
    simp only at hr CS
    have hq := eql_sup F D S F' D' S'
    generalize decide ((⟨F, D, S⟩ : Sp) = ⟨F', D', S'⟩) = q1 at *
    generalize (decide (S = 1) || decide (S = 2)) = q2 at *
    generalize Sp.right ⟨F, D, S⟩ = R at *
    clear h0 hi hl
    have HR := Lib.hid hr
    clear hr
    go_enter Try.func8, Try.ntmps8
    go_wp2_with fail
    refine (CB.out _).mono ?_
    rintro e w1 ⟨rfl, hb1⟩
    have hs := (SpAt.new w F D S 23).below hb1
    have HB := Lib.hid (bstep (balloc w (.cells #[.int .i64 F, .int .i64 D, .int .i64 S] 23)) hb1)
    obtain ⟨p, hp⟩ : ∃ p, p = w.heap.size := ⟨_, rfl⟩
    rw [← hp] at hs ⊢
    have c0 := hs.c0; have c1 := hs.c1; have c2 := hs.c2
    have HS := Lib.hid hs
    clear hs hb1 CB hp
    go_wp2_with fail
    refine (CW.out _).mono ?_
    rintro e w2 ⟨X, d, rfl, -, -, g3, hb2, -⟩
    have HX := Lib.hid g3
    have HS2 := Lib.hid (HS.out.below hb2)
    have HB2 := Lib.hid (bstep HB.out hb2)
    clear g3 hb2 HS HB c0 c1 c2
    go_wp2_with fail
    refine (CS.out _ X d HX.out).mono ?_
    rintro e w3 ⟨rfl, hb3⟩
    have hs := HS2.out.below hb3
    have hs2 := hs.below (balloc w3 (.cells #[.int .i64 F', .int .i64 D', .int .i64 S'] 23))
    have c0 := hs2.c0; have c1 := hs2.c1; have c2 := hs2.c2
    have HB3 := Lib.hid (bstep HB2.out hb3)
    have ht := SpAt.new w3 F' D' S' 23
    have d0 := ht.c0; have d1 := ht.c1; have d2 := ht.c2
    have HS3 := Lib.hid hs
    clear hs hs2 ht hb3 HB2 HS2 HX
    have HBX := Lib.hid (bstep HB3.out (balloc w3 (.cells #[.int .i64 F', .int .i64 D', .int .i64 S'] 23)))
    cases q1
    · have hr := HR.out
      rw [Bool.false_and, Bool.false_and] at hr
      subst hr
      go_wp2
      go_ret
      exact ⟨rfl, HBX.out⟩
    · have hr := HR.out
      rw [Bool.true_and] at hr
      have HR := Lib.hid hr
      have HS4 := Lib.hid (HS3.out.below (balloc w3 (.cells #[.int .i64 F', .int .i64 D', .int .i64 S'] 23)))
      clear hr
      go_wp2_with fail
      refine (CT.out _).mono ?_
      rintro e w4 ⟨rfl, hb4⟩
      have hs := HS4.out.below hb4
      have c0 := hs.c0; have c1 := hs.c1; have c2 := hs.c2
      have HB4 := Lib.hid (bstep HBX.out hb4)
      clear hs hb4
      cases q2
      · have hr := HR.out
        rw [Bool.false_and] at hr
        subst hr
        go_wp2
        go_ret
        exact ⟨rfl, HB4.out⟩
      · have hr := HR.out
        rw [Bool.true_and] at hr
        by_cases hdf : D ≤ F
        · rw [decide_eq_true hdf] at hr
          subst hr
          go_wp2
          go_ret
          exact ⟨rfl, HB4.out⟩
        · rw [decide_eq_false hdf] at hr
          subst hr
          go_wp2
          go_ret
          exact ⟨ret_bool (decide_eq_false (show ¬ D ≤ F by omega)), HB4.out⟩
/-- Put tells it as a sector, or nothing -/
theorem put_any (b : Nat) (F D S : Int) (hi : Fits ⟨F, D, S⟩) (w : World) (ht : Crc.Tab w b) : Calls Try.prog 6 #[.pointer (some ⟨b, 0, none⟩), .agg #[.int .i64 F, .int .i64 D, .int .i64 S]] w (RetNew w (putOf ⟨F, D, S⟩)) := by
  have CR := Lib.hid (fun W => right_any F D S hi W)
  have CB := Lib.hid (fun W => blank_any F D S W)
  have CW := Lib.hid (fun W => written_any F D S hi W)
  have hl := wr_len ⟨F, D, S⟩
  have CS := Lib.hid (fun W X d (hT : Crc.Tab W b) h => Sector.seal_any b X (wr ⟨F, D, S⟩) d W hT h)
  rw [show Sector.sealOf (wr ⟨F, D, S⟩) = SecM.sec (wr ⟨F, D, S⟩) from if_pos (by omega)] at CS
  have CZ := Lib.hid (fun W => Sector.zero_any W)
  have HT := Lib.hid ht
  clear ht
  obtain ⟨p, hp⟩ : ∃ p, p = w.heap.size := ⟨_, rfl⟩
  have HP := Lib.hid hp
  have hn := SpAt.new w F D S 23
  rw [← hp] at hn
  have HN := Lib.hid hn
  have HB := Lib.hid (balloc w (.cells #[.int .i64 F, .int .i64 D, .int .i64 S] 23))
  clear hp hn
  by_cases hr : Sp.right ⟨F, D, S⟩ = true
  · have hput : putOf ⟨F, D, S⟩ = Sp.put ⟨F, D, S⟩ := if_pos hr
    rw [hput]
    by_cases h0 : (⟨F, D, S⟩ : Sp) = ⟨0, 0, 0⟩
    · rw [put_blank _ (show SupM.blank (⟨F, D, S⟩ : Sp) from by injection h0 with a b c; exact ⟨c, a, b⟩)]
      rw [hr] at CR
      rw [decide_eq_true h0] at CB
      clear hput h0 hr hl CW CS
      go_enter Try.func6, Try.ntmps6
      go_wp2_with fail
      refine (CR.out _).mono ?_
      rintro e w1 ⟨rfl, hb1⟩
      have hs := HN.out.below hb1
      rw [HP.out] at hs
      have c0 := hs.c0; have c1 := hs.c1; have c2 := hs.c2
      have HB1 := Lib.hid (bstep HB.out hb1)
      clear hs hb1
      go_wp2_with fail
      refine (CB.out _).mono ?_
      rintro e w2 ⟨rfl, hb2⟩
      have HB2 := Lib.hid (bstep HB1.out hb2)
      clear hb2
      go_wp2_with fail
      refine (CZ.out _).mono ?_
      rintro e w3 ⟨X, d, rfl, g1, g2, g3, hb3, hn3⟩
      have G3 := Lib.hid g3; have HN3 := Lib.hid hn3
      clear g3 hn3
      go_wp2
      go_ret
      exact ⟨X, d, rfl, g1, g2, G3.out, bstep HB2.out hb3, HN3.out.mono HB2.out.size⟩
    · rw [put_wr _ hr (fun h => h0 (by obtain ⟨x, y, z⟩ := h; simp only at x y z; rw [x, y, z]))]
      rw [hr] at CR
      rw [decide_eq_false h0] at CB
      clear hput h0 hr hl
      generalize wr ⟨F, D, S⟩ = L at *
      generalize SecM.sec L = Z at *
      go_enter Try.func6, Try.ntmps6
      go_wp2_with fail
      refine (CR.out _).mono ?_
      rintro e w1 ⟨rfl, hb1⟩
      have hs := HN.out.below hb1
      have HN1 := Lib.hid hs
      rw [HP.out] at hs
      have c0 := hs.c0; have c1 := hs.c1; have c2 := hs.c2
      have HB1 := Lib.hid (bstep HB.out hb1)
      clear hs hb1
      go_wp2_with fail
      refine (CB.out _).mono ?_
      rintro e w2 ⟨rfl, hb2⟩
      have hs := HN1.out.below hb2
      rw [HP.out] at hs
      clear c0 c1 c2
      have c0 := hs.c0; have c1 := hs.c1; have c2 := hs.c2
      have HB2 := Lib.hid (bstep HB1.out hb2)
      clear hs hb2
      go_wp2_with fail
      refine (CW.out _).mono ?_
      rintro e w3 ⟨X, d, rfl, -, -, g3, hb3, -⟩
      have G3 := Lib.hid g3
      have HB3 := Lib.hid (bstep HB2.out hb3)
      clear g3 hb3 c0 c1 c2
      go_wp2_with fail
      refine (CS.out _ X d (HT.out.below HB3.out) G3.out).mono ?_
      rintro e w4 ⟨Y, f, rfl, g1, g2, g4, hb4, hn4⟩
      have G4 := Lib.hid g4; have HN4 := Lib.hid hn4
      clear g4 hn4
      go_wp2
      go_ret
      exact ⟨Y, f, rfl, g1, g2, G4.out, bstep HB3.out hb4, HN4.out.mono HB3.out.size⟩
  · have hput : putOf ⟨F, D, S⟩ = [] := if_neg hr
    rw [hput]
    have hr : Sp.right ⟨F, D, S⟩ = false := by simpa using hr
    rw [hr] at CR
    clear hput hr hl CW CS
    go_enter Try.func6, Try.ntmps6
    go_wp2_with fail
    refine (CR.out _).mono ?_
    rintro e w1 ⟨rfl, hb1⟩
    go_wp2
    go_ret
    exact RetNew.of_nil (bstep HB.out hb1)
/-- Get tells what a sector says, and whether it does -/
theorem get_any (t : Nat) (A : Option Addr) (b : List UInt8) (c : Nat) (w : World) (ht : Crc.Tab w t) (h : BytesAt w A b) (hbl : b.length ≤ 1048576) :
    Calls Try.prog 10 #[.pointer (some ⟨t, 0, none⟩), .slice A b.length c] w fun e w' => e = .returned (.tuple #[.agg #[.int .i64 (get_ b).F, .int .i64 (get_ b).D, .int .i64 (get_ b).S], .bool (gets b)]) ∧ Below w.heap.size w w' := by
  have CS := Lib.hid (fun W h => said_any A b c W h hbl)
  have hz : I64 (saidOf b).F ∧ I64 (saidOf b).D ∧ I64 (saidOf b).S := by
    have h1 := PackM.numV_lt b (st2 b) 4
    have h2 := PackM.numV_lt b (st3 b) 4
    have h3 := PackM.numV_lt b (st1 b) 1
    unfold I64 saidOf
    simp only
    refine ⟨⟨?_, ?_⟩, ⟨?_, ?_⟩, ⟨?_, ?_⟩⟩ <;> omega
  have hg : decide (b = putOf (saidOf b)) = gets b ∧ (gets b = true → saidOf b = get_ b) ∧ (gets b = false → get_ b = ⟨0, 0, 0⟩) := by
    rcases gets_iff b with h | rfl
    · exact h
    · refine ⟨?_, fun h => ?_, fun _ => gets_nil.2⟩
      · rw [gets_nil.1, said_nil]; decide +kernel
      · rw [gets_nil.1] at h; cases h
  have hpl := putOf_len (saidOf b)
  generalize hzz : saidOf b = z at *
  obtain ⟨F, D, S⟩ := z
  clear hzz
  have CP := Lib.hid (fun W (hT : Crc.Tab W t) => put_any t F D S hz W hT)
  have CE := Lib.hid (fun W B d h1 h2 => Equal.equal_any A B b (putOf ⟨F, D, S⟩) c d W h1 h2)
  obtain ⟨hg1, hg2, hg3⟩ := hg
  rw [hg1] at CE
  generalize putOf ⟨F, D, S⟩ = P at *
  generalize get_ b = r at *
  generalize gets b = g at *
  simp only at CS
  have H := Lib.hid h; have HT := Lib.hid ht
  have HG2 := Lib.hid hg2; have HG3 := Lib.hid hg3
  clear h ht hg1 hg2 hg3 hz
  go_enter Try.func10, Try.ntmps10
  go_wp2_with fail
  have hq := SpW.new w 0 0 0 23
  have hb0 := balloc w (.cells #[.int .i64 0, .int .i64 0, .int .i64 0] 23)
  have e1 : (w.alloc (.cells #[.int .i64 0, .int .i64 0, .int .i64 0] 23)).heap.size = w.heap.size + 1 := by simp
  generalize w.alloc (.cells #[.int .i64 0, .int .i64 0, .int .i64 0] 23) = w1 at *
  obtain ⟨q, hq0⟩ : ∃ q, q = w.heap.size := ⟨_, rfl⟩
  rw [← hq0] at hq ⊢
  have HQ0 := Lib.hid hq0; have HQ := Lib.hid hq; have HB0 := Lib.hid hb0; have E1 := Lib.hid e1
  clear hq0 hq hb0 e1
  refine (CS.out w1 (H.out.below HB0.out)).mono ?_
  rintro e w2 ⟨rfl, hb2⟩
  have HQ2 := Lib.hid (HQ.out.below hb2)
  have HB2 := Lib.hid (bstep HB0.out hb2)
  have hn : ¬ q = w2.heap.size := by have := hb2.size; have := E1.out; have := HQ0.out; omega
  have hp := SpAt.new w2 F D S 23
  have hb3 := balloc w2 (.cells #[.int .i64 F, .int .i64 D, .int .i64 S] 23)
  obtain ⟨p, hp0⟩ : ∃ p, p = w2.heap.size := ⟨_, rfl⟩
  have HP := Lib.hid hp; have HP0 := Lib.hid hp0; have HB3 := Lib.hid hb3
  have d0 := hp.c0; have d1 := hp.c1; have d2 := hp.c2
  have HN := Lib.hid hn
  clear hp hp0 hn hb2 HQ CS hb3
  go_wp2_with fail
  have HBX := Lib.hid (bstep HB2.out HB3.out)
  refine (CP.out _ (HT.out.below HBX.out)).mono ?_
  rintro e w4 ⟨X, d, rfl, -, -, g3, hb4, -⟩
  have HX := Lib.hid g3
  have HB4 := Lib.hid (bstep HBX.out hb4)
  have HQ4 := Lib.hid ((HQ2.out.below HB3.out).below hb4)
  have HP4 := Lib.hid (HP.out.below hb4)
  clear g3 hb4 HBX d0 d1 d2 HP HB3 CP
  have hP0 := HP0.out
  have hn := HN.out
  rw [← hP0] at HP4 hn ⊢
  have HN := Lib.hid hn
  clear hP0 hn HP0
  go_wp2_with fail
  refine (CE.out w4 X d (H.out.below HB4.out) HX.out).mono ?_
  rintro e w5 ⟨rfl, rfl⟩
  have d0 := HP4.out.c0; have d1 := HP4.out.c1; have d2 := HP4.out.c2
  have c0 := HQ4.out.sp.c0; have c1 := HQ4.out.sp.c1; have c2 := HQ4.out.sp.c2; have f0 := HQ4.out.f0; have f1 := HQ4.out.f1; have f2 := HQ4.out.f2
  have n1 := HN.out
  have n2 : ¬ p = q := fun e => n1 e.symm
  cases g
  · have hr := HG3.out rfl
    have HS := Lib.hid (HQ4.out.set 0 0 0).sp
    have HBZ := Lib.hid (below_keeps HB4.out (put3_keeps _ q 0 0 0) (fun x e => by have := HQ0.out; omega) HB4.out.size)
    subst hr
    go_wp2
    exact Go.bodyPost_ret (results_sup2 rfl _ _ q 0 0 0 rfl HS.out _ rfl) rfl ⟨rfl, HBZ.out⟩
  · have hr := HG2.out rfl
    have HS := Lib.hid (HQ4.out.set F D S).sp
    have HBZ := Lib.hid (below_keeps HB4.out (put3_keeps _ q F D S) (fun x e => by have := HQ0.out; omega) HB4.out.size)
    subst hr
    go_wp2
    exact Go.bodyPost_ret (results_sup2 rfl _ _ q F D S rfl HS.out _ rfl) rfl ⟨rfl, HBZ.out⟩
end Go.Proofs.Ytmpkcnbphlfdcaa.Super
