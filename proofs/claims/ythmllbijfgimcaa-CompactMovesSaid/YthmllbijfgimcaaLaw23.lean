/- layer 23's laws: the example, runs told as the program's -/
import Derived.Test.YthmllbijfgimcaaMCP
import Derived.Test.YthmllbijfgimcaaMRP
set_option maxRecDepth 100000
set_option maxHeartbeats 1000000
namespace Go.Proofs.Ythmllbijfgimcaa.Law23
open Go.RowKit CptM Pairs Trips Compact

theorem as_any (A : Option Addr) (l : List I2) (c : Nat) (w : World) (hA : PairsAt w A l) (_h1 : l.length ≤ c) (_h2 : c ≤ maxLen) (hl : l.length ≤ 1000) :
    Calls Try.prog 8 #[.slice A l.length c] w fun e w' => ∃ v, e = .returned v ∧ Had w w.heap.size 37 v l w' := by
  have HA := Lib.hid hA
  obtain ⟨N, hN⟩ : ∃ N, N = l.length := ⟨_, rfl⟩
  have HN := Lib.hid hN
  obtain ⟨i0, hi, hz, hs1, hb1⟩ := Compact.run_info'
  have HI := Lib.hid (And.intro hi (And.intro hz (And.intro hs1 hb1)))
  rw [← hN] at hl ⊢
  clear hA hN hi hz hs1 hb1 _h1 _h2
  go_enter Try.func8, Try.ntmps8
  go_wp2
  go_loopw [3, 8] (fun v i wr => ∃ k : Nat, i = .int .i64 k ∧ k ≤ N ∧ Hid (Had w w.heap.size 37 v (l.take k) wr)) (fun _ i _ => N - (intOf i).toNat)
  case atStart => exact ⟨0, rfl, Nat.zero_le _, Lib.hid ⟨OwnPr.nil _ _ _, Below.refl _ _⟩⟩
  case round =>
    obtain ⟨k, rfl, hk, HK⟩ := hrel
    rename World => wr
    by_cases hlt : k < N
    · have hkl : k < l.length := by have := HN.out; omega
      obtain ⟨b, o, hAe, e0, e1⟩ := (HA.out.below HK.out.below) k hkl
      subst hAe
      have HT := Lib.hid (List.take_succ_eq_append_getElem hkl)
      have hlen : (l.take k).length + 1 < 1099511627776 := by rw [List.length_take]; omega
      have HLEN := Lib.hid hlen
      obtain ⟨p, hp⟩ : ∃ p, p = l[k].1 := ⟨_, rfl⟩
      obtain ⟨q, hq⟩ : ∃ q, q = l[k].2 := ⟨_, rfl⟩
      have HP : Hid (l[k] = (p, q)) := Lib.hid (Prod.ext hp.symm hq.symm)
      rw [← hp] at e0
      rw [← hq] at e1
      have hb1 := balloc wr (.cells #[.int .i64 p, .int .i64 q] 32)
      have hb2 := bstep hb1 (balloc (wr.alloc (.cells #[.int .i64 p, .int .i64 q] 32)) (.cells #[.int .i64 p, .int .i64 q] 37))
      have HOW := Lib.hid (HK.out.own.below hb2)
      have HFB := Lib.hid (HK.out.below.trans (hb2.mono HK.out.below.size))
      have hL := PairsAt.lit (wr.alloc (.cells #[.int .i64 p, .int .i64 q] 32)) (p, q) 37
      rw [show (wr.alloc (.cells #[.int .i64 p, .int .i64 q] 32)).heap.size = wr.heap.size + 1 by simp] at hL
      have HL := Lib.hid hL
      clear hL
      clear hp hq hb1 hb2 HK hlen
      go_wp2_with (at_builtin; refine wpList_append_pairs Try.underlying26 HI.out.1 HI.out.2.1 HI.out.2.2.1 HI.out.2.2.2 rfl rfl _ _ rfl w.heap.size u3 _ rfl HOW.out (some ⟨wr.heap.size + 1, 0, none⟩) 1 1 [(p, q)] rfl rfl HL.out HLEN.out (by omega) HFB.out.size ?_; intro v' w2 ha; have HN2 := Lib.hid (And.intro ha.own (ha.below HOW.out HFB.out (Nat.le_refl _) HFB.out.size)); clear ha)
      go_roundw
      case rel => exact ⟨k + 1, by go_num, by omega, Lib.hid ⟨by rw [HT.out, HP.out]; exact HN2.out.1, HN2.out.2⟩⟩
      case measure => simp [intOf] <;> omega
    · have HF : Hid (Had w w.heap.size 37 u3 l wr) := Lib.hid (by
        have h := HK.out
        rw [show l.take k = l from List.take_of_length_le (by have := HN.out; omega)] at h
        exact h)
      clear HK
      have hlt' : ¬ (k : Int) < (N : Int) := by omega
      go_wp2
      go_ret
      exact ⟨_, rfl, HF.out⟩
theorem lit2 (w : World) (a b c d : Int) (t : TypeId) : PairsAt (w.alloc (.cells #[.int .i64 a, .int .i64 b, .int .i64 c, .int .i64 d] t)) (some ⟨w.heap.size, 0, none⟩) [(a, b), (c, d)] := fun i hi => by
  rcases (show i = 0 ∨ i = 1 by simp at hi; omega) with rfl | rfl
  · exact ⟨w.heap.size, 0, rfl, by simp, by simp⟩
  · exact ⟨w.heap.size, 0, rfl, by simp, by simp⟩
theorem two_moves : movesA [(1, 2), (5, 1)] = [(1, 0, 2), (5, 2, 1)] := by decide +kernel
theorem alive_any (w : World) : Calls Try.prog 5 #[] w fun e w' => e = .returned (.bool true) ∧ Below w.heap.size w w' := by
  have hb := balloc w (.cells #[.int .i64 1, .int .i64 2, .int .i64 5, .int .i64 1] 37)
  have HC := Lib.hid (moves_any _ [(1, 2), (5, 1)] 2 _ (lit2 w 1 2 5 1 37) (fun r hr => by
    rcases List.mem_cons.1 hr with rfl | hr
    · unfold Compact.In64; simp
    · rcases List.mem_cons.1 hr with rfl | hr
      · unfold Compact.In64; simp
      · cases hr) (Nat.le_refl _) (by unfold maxLen; omega))
  have HB := Lib.hid hb
  rw [two_moves] at HC
  go_enter Try.func5, Try.ntmps5
  clear hb
  go_wp2_with fail
  refine HC.out.mono ?_
  rintro e w1 ⟨v, rfl, ho, hb1⟩
  have HBF := Lib.hid (bstep HB.out hb1)
  obtain ⟨A, c, hv, hc1, hc2, ht, -⟩ := ho.trips
  subst hv
  obtain ⟨b, o, hA, c0, c1, c2⟩ := ht 0 (by simp)
  subst hA
  obtain ⟨b', o', hA, c3, c4, c5⟩ := ht 1 (by simp)
  injection hA with hA; injection hA with q1 q2; subst q1; subst q2
  simp only [List.getElem_cons_zero, List.getElem_cons_succ, Nat.zero_mul, Nat.one_mul, Nat.add_zero] at c0 c1 c2 c3 c4 c5
  clear ho hb1 ht HC HB
  go_wp2
  go_ret
  exact ⟨rfl, HBF.out⟩
end Go.Proofs.Ythmllbijfgimcaa.Law23
