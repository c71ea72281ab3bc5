/- the document's own answers of layer 8 -/
import Derived.Test.YtjoocjkakgjgmaaInts
import Derived.Test.YtjoocjkakgjgmaaPlanMath
import Derived.Deep.QuietTactic
import Derived.IntWalk
import Derived.Deep.RegionHeld3
set_option maxRecDepth 100000
namespace Go.Proofs.Ytjoocjkakgjgmaa.R08
open Go.RowKit PlanM

theorem sameI_at {l1 l2 : List Int} (k : Nat) (h1 : k < l1.length) (h2 : k < l2.length) (h : l1[k] ≠ l2[k]) : decide (l1 = l2) = false :=
  decide_eq_false fun e => h (by subst e; rfl)
theorem sameI_all {l1 l2 : List Int} (h : l1.length = l2.length) (hs : ∀ i (h1 : i < l1.length) (h2 : i < l2.length), l1[i] = l2[i]) : decide (l1 = l2) = true :=
  decide_eq_true (List.ext_getElem h fun i h1 h2 => hs i h1 h2)
theorem sameI_any (A1 A2 : Option Addr) (l1 l2 : List Int) (c1 c2 : Nat) (w : World)
    (h1 : IntsAt w A1 l1) (h2 : IntsAt w A2 l2) (m1 : l1.length ≤ maxLen) (_m2 : l2.length ≤ maxLen) :
    Calls Try.prog 35 #[.slice A1 l1.length c1, .slice A2 l2.length c2] w
      fun e w' => e = .returned (.bool (decide (l1 = l2))) ∧ ∃ n, w' = w.drewN n := by
  unfold maxLen at m1 _m2
  by_cases hl : l1.length = l2.length
  · have hl' : ((l1.length : Int) != (l2.length : Int)) = false := by rw [hl]; simp
    have HL := Lib.hid hl
    clear hl
    go_enter Try.func35, Try.ntmps35
    go_wp2
    clear hl'
    go_loopw [5] (fun i wr => ∃ k n : Nat, k ≤ l1.length ∧ i = .int .i64 k ∧ (∀ j, j < k → ∀ (g1 : j < l1.length) (g2 : j < l2.length), l1[j] = l2[j]) ∧ wr = w.drewN n)
      (fun i _ => l1.length - (intOf i).toNat)
    case atStart => exact ⟨0, 0, by omega, rfl, fun j hj => absurd hj (by omega), rfl⟩
    case round =>
      obtain ⟨k, n, hk, rfl, hs, hwr⟩ := hrel
      have HW := Lib.hid hwr
      have HS := Lib.hid hs
      have h1 : IntsAt wr A1 l1 := by rw [hwr]; exact h1
      have h2 : IntsAt wr A2 l2 := by rw [hwr]; exact h2
      clear hwr hs
      by_cases hlt : k < l1.length
      · have hlt2 : k < l2.length := by have := HL.out; omega
        obtain ⟨b1, o1, rfl, e1⟩ := h1.at hlt
        obtain ⟨b2, o2, rfl, e2⟩ := h2.at hlt2
        clear h1 h2
        by_cases he : l1[k] = l2[k]
        · have HE := Lib.hid he
          obtain ⟨u, hu⟩ : ∃ u, u = l1[k] := ⟨_, rfl⟩
          rw [← he, ← hu] at e2
          rw [← hu] at e1
          have he' : (u != u) = false := by simp
          clear he hu
          go_wp2
          go_quiet (fail)
          go_wp2
          go_roundw
          case rel =>
            refine ⟨k + 1, n + nq, by omega, by go_num, fun j hj g1 g2 => ?_, by rw [HW.out, World.drewN_drewN]⟩
            by_cases e : j = k
            · subst e; exact HE.out
            · exact HS.out j (by omega) g1 g2
          case measure => simp [intOf] <;> omega
        · have he' : (l1[k] != l2[k]) = true := by simpa using he
          have HE := Lib.hid he
          clear he
          go_wp2
          go_quiet (fail)
          go_wp2
          go_ret
          exact ⟨ret_bool (sameI_at k hlt hlt2 HE.out).symm, n + nq, by rw [HW.out, World.drewN_drewN]⟩
      · go_wp2
        go_ret
        exact ⟨ret_bool (sameI_all HL.out fun i h1 h2 => HS.out i (by omega) h1 h2).symm, n, HW.out⟩
  · have hl' : ((l1.length : Int) != (l2.length : Int)) = true := by rw [bne_iff_ne]; omega
    have HL := Lib.hid hl
    clear hl
    go_enter Try.func35, Try.ntmps35
    go_wp2
    go_ret
    exact ⟨ret_bool (decide_eq_false fun e => HL.out (by rw [e])).symm, 0, rfl⟩
end Go.Proofs.Ytjoocjkakgjgmaa.R08
