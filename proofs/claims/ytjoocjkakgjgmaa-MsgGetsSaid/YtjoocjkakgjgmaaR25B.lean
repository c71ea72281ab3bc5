/- the document's own answers of layer 25: Right -/
import Derived.Test.YtjoocjkakgjgmaaR25A
set_option maxRecDepth 100000
set_option maxHeartbeats 20000000
namespace Go.Proofs.Ytjoocjkakgjgmaa.R25
open Go.RowKit MsgM Msg
open R07 (StrsAt Sane)

theorem right_any (x : Mv) (hf : Fits x.m) (w : World) (hx : Lies w x) (hwl : x.m.who.length ≤ 1048576) :
    Calls Try.prog 11 #[.agg #[.int .i64 x.m.K, .int .i64 x.m.F, .int .i64 x.m.T, .int .i64 x.m.B, .string x.m.s, .int .i64 x.m.A, .int .i64 x.m.E, .int .i64 x.m.M, .int .i64 x.m.S, .int .i64 x.m.W, .slice x.P x.m.who.length x.p, .slice x.Q x.m.names.length x.q, .slice x.D x.m.data.length x.d]] w fun e w' => e = .returned (.bool x.m.right) ∧ Below w.heap.size w w' := by
  obtain ⟨Q, hQ⟩ : ∃ Q, Q = x.m.right := ⟨_, rfl⟩
  rw [← hQ]
  have HNO : Hid (¬ (okA x.m = true ∧ ¬ badB x.m ∧ 1 ≤ x.m.K ∧ x.m.K ≤ 25 ∧ 0 ≤ x.m.S ∧ x.m.S ≤ 240 ∧ x.m.who.length ≤ 255 ∧ x.m.names.length ≤ 8 ∧ x.m.data.length ≤ 240 ∧ (x.m.s.size = 0 ∨ nam x.m.s = true)) → Q = false) := Lib.hid fun h => by rw [hQ]; exact right_not h
  have HYES : Hid ((okA x.m = true ∧ ¬ badB x.m ∧ 1 ≤ x.m.K ∧ x.m.K ≤ 25 ∧ 0 ≤ x.m.S ∧ x.m.S ≤ 240 ∧ x.m.who.length ≤ 255 ∧ x.m.names.length ≤ 8 ∧ x.m.data.length ≤ 240 ∧ (x.m.s.size = 0 ∨ nam x.m.s = true)) → Q = true) := Lib.hid fun h => by rw [hQ]; exact (right_ref _).2 h
  clear hQ
  have HX := Lib.hid hx
  have z1 : (w.alloc (.cells #[.int .i64 x.m.K, .int .i64 x.m.F, .int .i64 x.m.T, .int .i64 x.m.B, .string x.m.s, .int .i64 x.m.A, .int .i64 x.m.E, .int .i64 x.m.M, .int .i64 x.m.S, .int .i64 x.m.W, .slice x.P x.m.who.length x.p, .slice x.Q x.m.names.length x.q, .slice x.D x.m.data.length x.d] 26)).heap.size = w.heap.size + 1 := by simp
  have HR0 : Hid (MsB (w.alloc (.cells #[.int .i64 x.m.K, .int .i64 x.m.F, .int .i64 x.m.T, .int .i64 x.m.B, .string x.m.s, .int .i64 x.m.A, .int .i64 x.m.E, .int .i64 x.m.M, .int .i64 x.m.S, .int .i64 x.m.W, .slice x.P x.m.who.length x.p, .slice x.Q x.m.names.length x.q, .slice x.D x.m.data.length x.d] 26)) w.heap.size x) := Lib.hid (MsB.new w x)
  have HB0 := Lib.hid (balloc w (.cells #[.int .i64 x.m.K, .int .i64 x.m.F, .int .i64 x.m.T, .int .i64 x.m.B, .string x.m.s, .int .i64 x.m.A, .int .i64 x.m.E, .int .i64 x.m.M, .int .i64 x.m.S, .int .i64 x.m.W, .slice x.P x.m.who.length x.p, .slice x.Q x.m.names.length x.q, .slice x.D x.m.data.length x.d] 26))
  have HOW : Hid (OwnI ((w.alloc (.cells #[.int .i64 x.m.K, .int .i64 x.m.F, .int .i64 x.m.T, .int .i64 x.m.B, .string x.m.s, .int .i64 x.m.A, .int .i64 x.m.E, .int .i64 x.m.M, .int .i64 x.m.S, .int .i64 x.m.W, .slice x.P x.m.who.length x.p, .slice x.Q x.m.names.length x.q, .slice x.D x.m.data.length x.d] 26)).alloc (.cells #[.int .i64 x.m.B, .int .i64 x.m.A, .int .i64 x.m.E, .int .i64 x.m.M] 3)) (w.heap.size + 1) (.slice (some ⟨w.heap.size + 1, 0, none⟩) 4 4) [x.m.B, x.m.A, x.m.E, x.m.M]) := Lib.hid (by
    have h1 := ownV_lit (w.alloc (.cells #[.int .i64 x.m.K, .int .i64 x.m.F, .int .i64 x.m.T, .int .i64 x.m.B, .string x.m.s, .int .i64 x.m.A, .int .i64 x.m.E, .int .i64 x.m.M, .int .i64 x.m.S, .int .i64 x.m.W, .slice x.P x.m.who.length x.p, .slice x.Q x.m.names.length x.q, .slice x.D x.m.data.length x.d] 26)) (w.heap.size + 1) 3 #[.int .i64 x.m.B, .int .i64 x.m.A, .int .i64 x.m.E, .int .i64 x.m.M] (by omega) (by simp [maxLen])
    rw [z1] at h1
    exact h1)
  have HBW : Hid (Below (w.heap.size + 1) (w.alloc (.cells #[.int .i64 x.m.K, .int .i64 x.m.F, .int .i64 x.m.T, .int .i64 x.m.B, .string x.m.s, .int .i64 x.m.A, .int .i64 x.m.E, .int .i64 x.m.M, .int .i64 x.m.S, .int .i64 x.m.W, .slice x.P x.m.who.length x.p, .slice x.Q x.m.names.length x.q, .slice x.D x.m.data.length x.d] 26)) ((w.alloc (.cells #[.int .i64 x.m.K, .int .i64 x.m.F, .int .i64 x.m.T, .int .i64 x.m.B, .string x.m.s, .int .i64 x.m.A, .int .i64 x.m.E, .int .i64 x.m.M, .int .i64 x.m.S, .int .i64 x.m.W, .slice x.P x.m.who.length x.p, .slice x.Q x.m.names.length x.q, .slice x.D x.m.data.length x.d] 26)).alloc (.cells #[.int .i64 x.m.B, .int .i64 x.m.A, .int .i64 x.m.E, .int .i64 x.m.M] 3))) := Lib.hid (by rw [← z1]; exact balloc _ _)
  have HSZ : Hid (w.heap.size + 1 ≤ ((w.alloc (.cells #[.int .i64 x.m.K, .int .i64 x.m.F, .int .i64 x.m.T, .int .i64 x.m.B, .string x.m.s, .int .i64 x.m.A, .int .i64 x.m.E, .int .i64 x.m.M, .int .i64 x.m.S, .int .i64 x.m.W, .slice x.P x.m.who.length x.p, .slice x.Q x.m.names.length x.q, .slice x.D x.m.data.length x.d] 26)).alloc (.cells #[.int .i64 x.m.B, .int .i64 x.m.A, .int .i64 x.m.E, .int .i64 x.m.M] 3)).heap.size) := Lib.hid (by have := HBW.out.size; omega)
  have HWI : Hid (IntsAt ((w.alloc (.cells #[.int .i64 x.m.K, .int .i64 x.m.F, .int .i64 x.m.T, .int .i64 x.m.B, .string x.m.s, .int .i64 x.m.A, .int .i64 x.m.E, .int .i64 x.m.M, .int .i64 x.m.S, .int .i64 x.m.W, .slice x.P x.m.who.length x.p, .slice x.Q x.m.names.length x.q, .slice x.D x.m.data.length x.d] 26)).alloc (.cells #[.int .i64 x.m.B, .int .i64 x.m.A, .int .i64 x.m.E, .int .i64 x.m.M] 3)) x.P x.m.who) := Lib.hid ((hx.who.below HB0.out).below (balloc _ _))
  obtain ⟨l, hl⟩ : ∃ l, l = [x.m.B, x.m.A, x.m.E, x.m.M] ++ x.m.who := ⟨_, rfl⟩
  have HLL := Lib.hid hl
  have HOKA : Hid (okA x.m = (l.all num && x.m.names.all nam)) := Lib.hid (by rw [hl]; rfl)
  have HLN : Hid (l.length ≤ 2097152) := Lib.hid (by rw [hl, List.length_append]; simp; omega)
  have HWL : Hid ([x.m.B, x.m.A, x.m.E, x.m.M].length + x.m.who.length < 1099511627776) := Lib.hid (by simp; omega)
  have CN := Lib.hid (fun W n hn => R07.right_any n W (hf.names n hn))
  have CS := Lib.hid (fun W => R07.right_any x.m.s W hf.n)
  have HNL : Hid (x.m.names.length ≤ 9223372036854775807) := Lib.hid (by have := hx.q; have := hx.q2; unfold maxLen at this; omega)
  have HDL : Hid (x.m.data.length ≤ 9223372036854775807) := Lib.hid (by have := hx.d; have := hx.d2; unfold maxLen at this; omega)
  clear hf hx hl hwl z1
  go_enter Try.func11, Try.ntmps11
  go_wp2_with (at_builtin; refine wpList_append_ints rfl _ _ rfl (w.heap.size + 1) (.slice (some ⟨w.heap.size + 1, 0, none⟩) 4 4) [x.m.B, x.m.A, x.m.E, x.m.M] rfl HOW.out x.P x.m.who.length x.p x.m.who rfl rfl HWI.out HWL.out HSZ.out ?_; intro v' w1 ha; have HAB : Hid (Below (w.heap.size + 1) (w.alloc (.cells #[.int .i64 x.m.K, .int .i64 x.m.F, .int .i64 x.m.T, .int .i64 x.m.B, .string x.m.s, .int .i64 x.m.A, .int .i64 x.m.E, .int .i64 x.m.M, .int .i64 x.m.S, .int .i64 x.m.W, .slice x.P x.m.who.length x.p, .slice x.Q x.m.names.length x.q, .slice x.D x.m.data.length x.d] 26)) w1) := Lib.hid (ha.below HOW.out HBW.out (Nat.le_refl _) HSZ.out); obtain ⟨LA, cl, hv, hc1, hc2, hL, _⟩ := ha.own.ints; rw [← HLL.out] at hv hL; subst hv; have HL := Lib.hid hL; clear hL hc1 hc2 ha)
  obtain ⟨p, hp⟩ : ∃ p, p = w.heap.size := ⟨_, rfl⟩
  have HP1 : Hid (MsB w1 p x) := Lib.hid ((HAB.out.block _ (by omega)).trans (by rw [hp]; exact HR0.out))
  have HB1 : Hid (Below w.heap.size w w1) := Lib.hid (HB0.out.trans (HAB.out.mono (by omega)))
  have HN1 : Hid (StrsAt w1 x.Q x.m.names) := Lib.hid (HX.out.names.below HB1.out)
  rw [← hp]
  clear hp HAB HR0 HB0 HOW HBW HSZ HWI HLL HWL HX
  obtain ⟨c0, c1, c2, c3, c4, c5, c6, c7, c8, c9, c10, c11, c12⟩ := HP1.out.all
  go_loopw [4] (fun i wr => ∃ k : Nat, k ≤ l.length ∧ i = .int .i64 k ∧ wr = w1 ∧ Hid (∀ j, (h : j < l.length) → j < k → num l[j] = true))
    (fun i _ => l.length - (intOf i).toNat)
  case atStart => exact ⟨0, Nat.zero_le _, rfl, rfl, Lib.hid fun j _ h => by omega⟩
  case round =>
    obtain ⟨k, hk, rfl, rfl, HJ⟩ := hrel
    rename World => w1
    by_cases hlt : k < l.length
    · obtain ⟨b, o, hLA, e0⟩ := HL.out.at hlt
      subst hLA
      have hln := HLN.out
      have HNU : Hid (num l[k] = true → ∀ j, (h : j < l.length) → j < k + 1 → num l[j] = true) := Lib.hid fun hn j h hj => by
        by_cases e : j = k
        · subst e; exact hn
        · exact HJ.out j h (by omega)
      have HBAD : Hid (num l[k] = false → okA x.m = false) := Lib.hid fun hn => by
        have ha : l.all num = false := by rw [List.all_eq_false]; exact ⟨_, List.getElem_mem hlt, by rw [hn]; simp⟩
        rw [HOKA.out, ha]; rfl
      obtain ⟨u, hu⟩ : ∃ u, u = l[k] := ⟨_, rfl⟩
      rw [← hu] at e0 HNU HBAD
      clear hu HJ c0 c1 c2 c3 c4 c5 c6 c7 c8 c9 c10 c11 c12
      by_cases h1 : u < 0
      · have hQ : Q = false := HNO.out fun hh => by
          have h2 : num u = false := by unfold num; rw [decide_eq_false (by omega)]; rfl
          rw [HBAD.out h2] at hh; cases hh.1
        subst hQ
        clear HNO HYES HNU HBAD
        go_wp2
        go_ret
        exact ⟨rfl, HB1.out⟩
      · by_cases h2 : u > 4294967295
        · have hQ : Q = false := HNO.out fun hh => by
            have h2 : num u = false := by unfold num; rw [decide_eq_false (p := u ≤ 4294967295) (by omega), Bool.and_false]
            rw [HBAD.out h2] at hh; cases hh.1
          subst hQ
          clear HNO HYES HNU HBAD
          go_wp2
          go_ret
          exact ⟨rfl, HB1.out⟩
        · have HNN := Lib.hid (HNU.out (by rw [num_iff]; omega))
          clear HNU HBAD
          go_wp2
          go_roundw
          case rel => exact ⟨k + 1, by omega, by go_num, by trivial, HNN⟩
          case measure => simp [intOf] <;> omega
    · obtain rfl : k = l.length := by omega
      have HALL : Hid (l.all num = true) := Lib.hid (by
        rw [List.all_eq_true]
        intro y hy
        obtain ⟨j, hj, rfl⟩ := List.getElem_of_mem hy
        exact HJ.out j hj (by omega))
      clear HJ HL HLN
      go_wp2_with fail
      go_loopw [5] (fun i wr => ∃ k : Nat, k ≤ x.m.names.length ∧ i = .int .i64 k ∧ wr = w1 ∧ Hid (∀ j, (h : j < x.m.names.length) → j < k → nam x.m.names[j] = true))
        (fun i _ => x.m.names.length - (intOf i).toNat)
      case atStart => exact ⟨0, Nat.zero_le _, rfl, rfl, Lib.hid fun j _ h => by omega⟩
      case round =>
        obtain ⟨k, hk, rfl, rfl, HJ⟩ := hrel
        rename World => w1
        by_cases hlt : k < x.m.names.length
        · obtain ⟨b, o, hLA, e0⟩ := HN1.out.at hlt
          have hln := HNL.out
          have C := Lib.hid (CN.out w1 _ (List.getElem_mem hlt))
          have HNU : Hid (nam x.m.names[k] = true → ∀ j, (h : j < x.m.names.length) → j < k + 1 → nam x.m.names[j] = true) := Lib.hid fun hn j h hj => by
            by_cases e : j = k
            · subst e; exact hn
            · exact HJ.out j h (by omega)
          have HBAD : Hid (nam x.m.names[k] = false → okA x.m = false) := Lib.hid fun hn => by
            have ha : x.m.names.all nam = false := by rw [List.all_eq_false]; exact ⟨_, List.getElem_mem hlt, by rw [hn]; simp⟩
            rw [HOKA.out, ha, Bool.and_false]
          have hnm : LabM.right x.m.names[k].data.toList = nam x.m.names[k] := rfl
          rw [hnm] at C
          clear hnm
          obtain ⟨u, hu⟩ : ∃ u, u = x.m.names[k] := ⟨_, rfl⟩
          rw [← hu] at e0 HNU HBAD C
          rw [hLA] at c11
          clear hu HJ hLA c0 c1 c2 c3 c4 c5 c6 c7 c8 c9 c10 c12
          go_wp2_with fail
          refine C.out.mono ?_
          rintro e w2 ⟨rfl, rfl⟩
          clear C
          rcases hu : nam u with _ | _
          · have hQ : Q = false := HNO.out fun hh => by rw [HBAD.out hu] at hh; cases hh.1
            subst hQ
            clear HNO HYES HNU HBAD hu
            go_wp2
            go_ret
            exact ⟨rfl, HB1.out⟩
          · have HNN := Lib.hid (HNU.out hu)
            clear HNU HBAD hu
            go_wp2
            go_roundw
            case rel => exact ⟨k + 1, by omega, by go_num, by trivial, HNN⟩
            case measure => simp [intOf] <;> omega
        · obtain rfl : k = x.m.names.length := by omega
          have HOK : Hid (okA x.m = true) := Lib.hid (by
            have : x.m.names.all nam = true := by
              rw [List.all_eq_true]
              intro y hy
              obtain ⟨j, hj, rfl⟩ := List.getElem_of_mem hy
              exact HJ.out j hj (by omega)
            rw [HOKA.out, HALL.out, this]; rfl)
          have hnl := HNL.out; have hdl := HDL.out
          clear HJ HALL HOKA HN1 CN HNL HDL hk
          by_cases hb0 : x.m.F < 0
          · have hQ : Q = false := HNO.out fun hh => hh.2.1 (by unfold badB; omega)
            subst hQ
            clear HNO HYES HOK CS
            go_wp2
            go_ret
            exact ⟨rfl, HB1.out⟩
          by_cases hb1 : x.m.F > 256
          · have hQ : Q = false := HNO.out fun hh => hh.2.1 (by unfold badB; omega)
            subst hQ
            clear HNO HYES HOK CS
            go_wp2
            go_ret
            exact ⟨rfl, HB1.out⟩
          by_cases hb2 : x.m.T < 0
          · have hQ : Q = false := HNO.out fun hh => hh.2.1 (by unfold badB; omega)
            subst hQ
            clear HNO HYES HOK CS
            go_wp2
            go_ret
            exact ⟨rfl, HB1.out⟩
          by_cases hb3 : x.m.T > 256
          · have hQ : Q = false := HNO.out fun hh => hh.2.1 (by unfold badB; omega)
            subst hQ
            clear HNO HYES HOK CS
            go_wp2
            go_ret
            exact ⟨rfl, HB1.out⟩
          by_cases hb4 : x.m.F = x.m.T
          · have hQ : Q = false := HNO.out fun hh => hh.2.1 (by unfold badB; omega)
            subst hQ
            have hb1 : (x.m.F == x.m.T) = true := by rw [hb4]; simp
            clear HNO HYES HOK CS hb4
            go_wp2
            go_ret
            exact ⟨rfl, HB1.out⟩
          have hbe : (x.m.F == x.m.T) = false := by simp [hb4]
          by_cases hb5 : x.m.W < 0
          · have hQ : Q = false := HNO.out fun hh => hh.2.1 (by unfold badB; omega)
            subst hQ
            clear HNO HYES HOK CS
            go_wp2
            go_ret
            exact ⟨rfl, HB1.out⟩
          by_cases hb6 : x.m.W > 255
          · have hQ : Q = false := HNO.out fun hh => hh.2.1 (by unfold badB; omega)
            subst hQ
            clear HNO HYES HOK CS
            go_wp2
            go_ret
            exact ⟨rfl, HB1.out⟩
          have HNB : Hid (¬ badB x.m) := Lib.hid (by unfold badB; omega)
          by_cases hg0 : x.m.K ≥ 1
          rotate_left
          · have hQ : Q = false := HNO.out fun hh => hg0 (by have := hh.2.2; omega)
            subst hQ
            clear HNO HYES HOK CS HNB
            go_wp2_with (with_reducible refine wpList_skip_same (j := 41) (b := false) rfl rfl (by kernel_rfl) (by kernel_rfl) ?_)
            go_ret
            exact ⟨rfl, HB1.out⟩
          by_cases hg1 : x.m.K ≤ 25
          rotate_left
          · have hQ : Q = false := HNO.out fun hh => hg1 (by have := hh.2.2; omega)
            subst hQ
            clear HNO HYES HOK CS HNB
            go_wp2_with (with_reducible refine wpList_skip_same (j := 41) (b := false) rfl rfl (by kernel_rfl) (by kernel_rfl) ?_)
            go_ret
            exact ⟨rfl, HB1.out⟩
          by_cases hg2 : x.m.S ≥ 0
          rotate_left
          · have hQ : Q = false := HNO.out fun hh => hg2 (by have := hh.2.2; omega)
            subst hQ
            clear HNO HYES HOK CS HNB
            go_wp2_with (with_reducible refine wpList_skip_same (j := 41) (b := false) rfl rfl (by kernel_rfl) (by kernel_rfl) ?_)
            go_ret
            exact ⟨rfl, HB1.out⟩
          by_cases hg3 : x.m.S ≤ 240
          rotate_left
          · have hQ : Q = false := HNO.out fun hh => hg3 (by have := hh.2.2; omega)
            subst hQ
            clear HNO HYES HOK CS HNB
            go_wp2_with (with_reducible refine wpList_skip_same (j := 41) (b := false) rfl rfl (by kernel_rfl) (by kernel_rfl) ?_)
            go_ret
            exact ⟨rfl, HB1.out⟩
          by_cases hg4 : (x.m.who.length : Int) ≤ 255
          rotate_left
          · have hQ : Q = false := HNO.out fun hh => hg4 (by have := hh.2.2; omega)
            subst hQ
            clear HNO HYES HOK CS HNB
            go_wp2_with (with_reducible refine wpList_skip_same (j := 41) (b := false) rfl rfl (by kernel_rfl) (by kernel_rfl) ?_)
            go_ret
            exact ⟨rfl, HB1.out⟩
          by_cases hg5 : (x.m.names.length : Int) ≤ 8
          rotate_left
          · have hQ : Q = false := HNO.out fun hh => hg5 (by have := hh.2.2; omega)
            subst hQ
            clear HNO HYES HOK CS HNB
            go_wp2_with (with_reducible refine wpList_skip_same (j := 41) (b := false) rfl rfl (by kernel_rfl) (by kernel_rfl) ?_)
            go_ret
            exact ⟨rfl, HB1.out⟩
          by_cases hg6 : (x.m.data.length : Int) ≤ 240
          rotate_left
          · have hQ : Q = false := HNO.out fun hh => hg6 (by have := hh.2.2; omega)
            subst hQ
            clear HNO HYES HOK CS HNB
            go_wp2_with (with_reducible refine wpList_skip_same (j := 41) (b := false) rfl rfl (by kernel_rfl) (by kernel_rfl) ?_)
            go_ret
            exact ⟨rfl, HB1.out⟩
          by_cases hs : x.m.s.size = 0
          · have hQ : Q = true := HYES.out ⟨HOK.out, HNB.out, by omega, by omega, by omega, by omega, by omega, by omega, by omega, .inl hs⟩
            subst hQ
            have hs1 : ((x.m.s.size : Int) == 0) = true := by rw [hs]; rfl
            clear HNO HYES HOK CS HNB
            go_wp2
            go_ret
            exact ⟨rfl, HB1.out⟩
          · have hs1 : ((x.m.s.size : Int) == 0) = false := by simp only [beq_eq_false_iff_ne]; omega
            have HQ : Hid (Q = nam x.m.s) := Lib.hid (by
              rcases hn : nam x.m.s with _ | _
              · exact HNO.out fun hh => by
                  rcases hh.2.2.2.2.2.2.2.2.2 with e | e
                  · exact hs e
                  · rw [hn] at e; cases e
              · exact HYES.out ⟨HOK.out, HNB.out, by omega, by omega, by omega, by omega, by omega, by omega, by omega, .inr hn⟩)
            have hnm : LabM.right x.m.s.data.toList = nam x.m.s := rfl
            rw [hnm] at CS
            clear hnm HNO HYES HOK HNB hs
            generalize nam x.m.s = bs at *
            go_wp2_with fail
            refine (CS.out w1).mono ?_
            rintro e w2 ⟨rfl, rfl⟩
            clear CS
            have hQ := HQ.out
            subst hQ
            clear HQ
            go_wp2
            go_ret
            exact ⟨rfl, HB1.out⟩
end Go.Proofs.Ytjoocjkakgjgmaa.R25
