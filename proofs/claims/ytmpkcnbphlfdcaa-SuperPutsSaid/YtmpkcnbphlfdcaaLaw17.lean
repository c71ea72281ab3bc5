/- the walks of layer 17's laws -/
import Derived.Test.YtmpkcnbphlfdcaaSupC
import Derived.Test.YtmpkcnbphlfdcaaR17B
import Derived.Test.YtmpkcnbphlfdcaaOpenU
set_option maxRecDepth 100000
namespace Go.Proofs.Ytmpkcnbphlfdcaa.Law17
open Go.RowKit SupM Super

theorem fits_small (F D S : Int) (h : (0 ≤ F ∧ F ≤ 9) ∧ (0 ≤ D ∧ D ≤ 9) ∧ (0 ≤ S ∧ S ≤ 9)) : Fits ⟨F, D, S⟩ := by
  unfold Fits I64; simp only; omega
theorem alive_any (w : World) : Calls Try.prog 9 #[] w fun e w' => e = .returned (.bool true) ∧ Below w.heap.size w w' := by
  have hm : (⟨7, 3, 1⟩ : Sp).May := by decide +kernel
  have hz : (⟨0, 0, 0⟩ : Sp).May := by decide +kernel
  have hp1 : putOf ⟨7, 3, 1⟩ = Sp.put ⟨7, 3, 1⟩ := if_pos (decide_eq_true hm)
  have hp0 : putOf ⟨0, 0, 0⟩ = Sp.put ⟨0, 0, 0⟩ := if_pos (decide_eq_true hz)
  have hl1 := Sp.put_len ⟨7, 3, 1⟩
  have hl0 := Sp.put_len ⟨0, 0, 0⟩
  obtain ⟨hg1, hg2⟩ := get_put ⟨7, 3, 1⟩ hm
  have C1 := Lib.hid (fun W t ht => put_any t 7 3 1 (fits_small _ _ _ (by omega)) W ht)
  have C2 := Lib.hid (fun W t X d ht h => get_any t X (Sp.put ⟨7, 3, 1⟩) d W ht h (by omega))
  have C3 := Lib.hid (fun W t ht => put_any t 0 0 0 (fits_small _ _ _ (by omega)) W ht)
  have C4 := Lib.hid (fun W => right_any 1 0 0 (fits_small _ _ _ (by omega)) W)
  rw [hp1] at C1; rw [hp0] at C3; rw [hg1, hg2] at C2
  rw [show Sp.right ⟨1, 0, 0⟩ = false from by decide +kernel] at C4
  simp only at C2
  have HL0 := Lib.hid hl0
  generalize Sp.put ⟨7, 3, 1⟩ = Z1 at *
  generalize Sp.put ⟨0, 0, 0⟩ = Z0 at *
  clear hm hz hp1 hp0 hl1 hl0 hg1 hg2
  go_enter Try.func9, Try.ntmps9
  go_wp2_with fail
  refine (Crc.new_any _).mono ?_
  rintro e w1 ⟨t, rfl, ht, hb1⟩
  have HT := Lib.hid ht
  clear ht
  go_wp2_with fail
  refine (C1.out w1 t HT.out).mono ?_
  rintro e w2 ⟨X, d, rfl, -, -, g3, hb2, -⟩
  have HX := Lib.hid g3
  have HT2 := Lib.hid (HT.out.below hb2)
  clear g3
  go_wp2_with fail
  refine (C2.out w2 t X d HT2.out HX.out).mono ?_
  rintro e w3 ⟨rfl, hb3⟩
  have HT3 := Lib.hid (HT2.out.below hb3)
  have hb4 := balloc w3 (.cells #[.int .i64 7, .int .i64 3, .int .i64 1] 23)
  have hs := SpAt.new w3 7 3 1 23
  have HS := Lib.hid hs
  have HT4 := Lib.hid (HT3.out.below hb4)
  have HB := Lib.hid (bstep hb1 (bstep hb2 (bstep hb3 hb4)))
  clear hs hb1 hb2 hb3 hb4 HX C1 C2
  go_wp2_with fail
  refine (C3.out _ t HT4.out).mono ?_
  rintro e w5 ⟨Y, f, rfl, -, -, -, hb5, -⟩
  have hs := HS.out.below hb5
  have c0 := hs.c0; have c1 := hs.c1
  have HB5 := Lib.hid (bstep HB.out hb5)
  have q : (((Z0.length : Nat) : Int) == 64) = true := by rw [HL0.out]; rfl
  clear hs hb5 HB
  go_wp2_with fail
  refine (C4.out _).mono ?_
  rintro e w6 ⟨rfl, hb6⟩
  have HB6 := Lib.hid (bstep HB5.out hb6)
  clear hb6
  go_wp2
  go_ret
  exact ⟨rfl, HB6.out⟩

theorem puts_any (F D S : Int) (w : World) (hi : Fits ⟨F, D, S⟩) :
    Calls Try.prog 3 #[.agg #[.int .i64 F, .int .i64 D, .int .i64 S]] w fun e w' => e = .returned (.bool true) ∧ Below w.heap.size w w' := by
  have CP := Lib.hid (fun W t ht => put_any t F D S hi W ht)
  have CR := Lib.hid (fun W => R17.right_any F D S W)
  have CR2 := Lib.hid (fun W => right_any F D S hi W)
  have HN := Lib.hid (SpAt.new w F D S 23)
  have HB := Lib.hid (balloc w (.cells #[.int .i64 F, .int .i64 D, .int .i64 S] 23))
  by_cases hr : Sp.right ⟨F, D, S⟩ = true
  · have hm : Sp.May ⟨F, D, S⟩ := of_decide_eq_true hr
    have hput : putOf ⟨F, D, S⟩ = Sp.put ⟨F, D, S⟩ := if_pos hr
    obtain ⟨hg1, hg2⟩ := get_put ⟨F, D, S⟩ hm
    have hl1 := Sp.put_len ⟨F, D, S⟩
    have CG := Lib.hid (fun W t X d ht h => get_any t X (Sp.put ⟨F, D, S⟩) d W ht h (by omega))
    have CQ := Lib.hid (fun W => R17.put_any F D S hi hr W)
    have HZm := Lib.hid (show (Sp.put ⟨F, D, S⟩).length ≤ maxLen from by rw [hl1]; unfold maxLen; omega)
    have hq := eql_sup F D S F D S
    rw [decide_eq_true rfl] at hq
    have hgd := sup_guard
    rw [hput] at CP; rw [hg1, hg2] at CG; rw [hr] at CR CR2
    simp only at CG
    generalize Sp.put ⟨F, D, S⟩ = Z at *
    clear hm hput hg1 hg2 hl1 hr hi
    go_enter Try.func3, Try.ntmps3
    go_wp2_with fail
    obtain ⟨p, hp⟩ : ∃ p, p = w.heap.size := ⟨_, rfl⟩
    rw [← hp] at HN ⊢
    clear hp
    refine (Crc.new_any _).mono ?_
    rintro e w1 ⟨t, rfl, ht, hb1⟩
    have HT := Lib.hid ht
    have hs := HN.out.below hb1
    have c0 := hs.c0; have c1 := hs.c1; have c2 := hs.c2
    have HS := Lib.hid hs
    have HB1 := Lib.hid (bstep HB.out hb1)
    clear ht hs hb1 HN HB
    go_wp2_with fail
    refine (CP.out w1 t HT.out).mono ?_
    rintro e w2 ⟨X, d, rfl, -, -, g3, hb2, -⟩
    have HX := Lib.hid g3
    have HT2 := Lib.hid (HT.out.below hb2)
    have hs := HS.out.below hb2
    clear c0 c1 c2
    have c0 := hs.c0; have c1 := hs.c1; have c2 := hs.c2
    have HS2 := Lib.hid hs
    have HB2 := Lib.hid (bstep HB1.out hb2)
    clear g3 hs hb2 HS HB1 CP HT
    go_wp2_with fail
    refine (CR.out w2).mono ?_
    rintro e w3 ⟨rfl, hb3⟩
    have HX3 := Lib.hid (HX.out.below hb3)
    have HT3 := Lib.hid (HT2.out.below hb3)
    have HS3 := Lib.hid (HS2.out.below hb3)
    have HB3 := Lib.hid (bstep HB2.out hb3)
    clear hb3 HS2 HB2 CR HT2 HX c0 c1 c2
    go_wp2_with fail
    refine (CG.out w3 t X d HT3.out HX3.out).mono ?_
    rintro e w4 ⟨rfl, hb4⟩
    have hb5 := balloc w4 (.cells #[.int .i64 F, .int .i64 D, .int .i64 S] 23)
    have hn := SpAt.new w4 F D S 23
    have hs := (HS3.out.below hb4).below hb5
    have c0 := hs.c0; have c1 := hs.c1; have c2 := hs.c2
    have HS4 := Lib.hid hs
    have HN4 := Lib.hid hn
    have HX4 := Lib.hid ((HX3.out.below hb4).below hb5)
    have HB4 := Lib.hid (bstep HB3.out (bstep hb4 hb5))
    clear hn hs hb4 hb5 HS3 HB3 CG HT3 HX3
    go_wp2_with fail
    generalize w4.alloc (.cells #[.int .i64 F, .int .i64 D, .int .i64 S] 23) = w5 at *
    refine (CR2.out _).mono ?_
    rintro e w6 ⟨rfl, hb6⟩
    have hs := HS4.out.below hb6
    clear c0 c1 c2
    have c0 := hs.c0; have c1 := hs.c1; have c2 := hs.c2
    have HS6 := Lib.hid hs
    have HN6 := Lib.hid (HN4.out.below hb6)
    have HX6 := Lib.hid (HX4.out.below hb6)
    have HB6 := Lib.hid (bstep HB4.out hb6)
    clear hs hb6 HS4 HN4 HX4 HB4 CR2
    go_wp2_with fail
    refine (CQ.out _).mono ?_
    rintro e w7 ⟨Y, f, rfl, -, -, g7, hb7, -⟩
    have HY := Lib.hid g7
    have HS7 := Lib.hid (HS6.out.below hb7)
    have HN7 := Lib.hid (HN6.out.below hb7)
    have HX7 := Lib.hid (HX6.out.below hb7)
    have HB7 := Lib.hid (bstep HB6.out hb7)
    clear g7 hb7 HS6 HN6 HX6 HB6 CQ c0 c1 c2
    go_wp2_with fail
    refine (R01.same_eq X Y Z Z d f w7 HX7.out HY.out HZm.out rfl).mono ?_
    rintro e w8 ⟨rfl, hqq⟩
    have hb8 := bquiet hqq
    have hs := HS7.out.below hb8
    have hn := HN7.out.below hb8
    have c0 := hs.c0; have c1 := hs.c1; have c2 := hs.c2
    have d0 := hn.c0; have d1 := hn.c1; have d2 := hn.c2
    have HB8 := Lib.hid (bstep HB7.out hb8)
    clear hs hn hb8 hqq HS7 HN7 HX7 HB7 HY
    go_wp2_with fail
    refine (alive_any _).mono ?_
    rintro e w9 ⟨rfl, hb9⟩
    go_wp2
    go_ret
    exact ⟨rfl, bstep HB8.out hb9⟩
  · have hput : putOf ⟨F, D, S⟩ = [] := if_neg hr
    have hr : Sp.right ⟨F, D, S⟩ = false := by simpa using hr
    rw [hput] at CP; rw [hr] at CR CR2
    clear hput hr hi
    go_enter Try.func3, Try.ntmps3
    go_wp2_with fail
    obtain ⟨p, hp⟩ : ∃ p, p = w.heap.size := ⟨_, rfl⟩
    rw [← hp] at HN ⊢
    clear hp
    refine (Crc.new_any _).mono ?_
    rintro e w1 ⟨t, rfl, ht, hb1⟩
    have HT := Lib.hid ht
    have hs := HN.out.below hb1
    have c0 := hs.c0; have c1 := hs.c1; have c2 := hs.c2
    have HS := Lib.hid hs
    have HB1 := Lib.hid (bstep HB.out hb1)
    clear ht hs hb1 HN HB
    go_wp2_with fail
    refine (CP.out w1 t HT.out).mono ?_
    rintro e w2 ⟨X, d, rfl, -, -, -, hb2, -⟩
    have hs := HS.out.below hb2
    clear c0 c1 c2
    have c0 := hs.c0; have c1 := hs.c1; have c2 := hs.c2
    have HS2 := Lib.hid hs
    have HB2 := Lib.hid (bstep HB1.out hb2)
    clear hs hb2 HS HB1 CP HT
    go_wp2_with fail
    refine (CR.out w2).mono ?_
    rintro e w3 ⟨rfl, hb3⟩
    have hs := HS2.out.below hb3
    clear c0 c1 c2
    have c0 := hs.c0; have c1 := hs.c1; have c2 := hs.c2
    have HB3 := Lib.hid (bstep HB2.out hb3)
    clear hb3 HS2 HB2 CR hs
    go_wp2_with fail
    refine (CR2.out w3).mono ?_
    rintro e w4 ⟨rfl, hb4⟩
    have HB4 := Lib.hid (bstep HB3.out hb4)
    clear hb4 HB3 CR2 c0 c1 c2
    go_wp2_with fail
    refine (alive_any _).mono ?_
    rintro e w9 ⟨rfl, hb9⟩
    go_wp2
    go_ret
    exact ⟨rfl, bstep HB4.out hb9⟩
end Go.Proofs.Ytmpkcnbphlfdcaa.Law17
