/- the document's own answers of layer 3 -/
import Derived.Test.YtgdgbhjbeldcmaaR02
import Derived.Test.YtgdgbhjbeldcmaaLagrMath
import Derived.IntWalk
set_option maxRecDepth 100000
namespace Go.Proofs.Ytgdgbhjbeldcmaa.R03
open Go.RowKit

theorem unlike_any (A : Option Addr) (l : List UInt8) (c : Nat) (w : World) (h : BytesAt w A l) (hl : l.length ≤ 1099511627776) :
    Calls Try.prog 26 #[.slice A l.length c] w fun e w' => e = .returned (.bool (LagrM.unl l)) ∧ ∃ n, w' = w.drewN n := by
  go_enter Try.func26, Try.ntmps26
  go_wp2
  go_loopw [3] (fun i wr => ∃ k n : Nat, k ≤ l.length ∧ i = .int .i64 k ∧ LagrM.Un l k ∧ wr = w.drewN n)
    (fun i _ => l.length - (intOf i).toNat)
  case atStart => exact ⟨0, 0, Nat.zero_le _, rfl, LagrM.Un.zero l, rfl⟩
  case round =>
    obtain ⟨k, n, hk, rfl, hun, hwr⟩ := hrel
    have HW := Lib.hid hwr
    have HU := Lib.hid hun
    have h0 := h
    clear hwr hun
    by_cases hlt : k < l.length
    · go_wp2
      go_loopw [4] (fun j wq => ∃ t m : Nat, t ≤ k ∧ j = .int .i64 t ∧ LagrM.Ui l k t ∧ wq = w.drewN m)
        (fun j _ => k - (intOf j).toNat)
      case atStart => exact ⟨0, n, Nat.zero_le _, rfl, LagrM.Ui.zero l k, HW.out⟩
      case round =>
        obtain ⟨t, m, ht, rfl, hui, hwq⟩ := hrel
        have HQ := Lib.hid hwq
        have HI := Lib.hid hui
        have h : BytesAt wr A l := by rw [hwq]; exact h0
        clear hwq hui
        by_cases hlt2 : t < k
        · obtain ⟨b, o, rfl, e1⟩ := h k hlt
          obtain ⟨b2, o2, hA, e2⟩ := h t (by omega)
          obtain ⟨rfl, rfl⟩ : b = b2 ∧ o = o2 := by injection hA with hA; injection hA with h1 h2; exact ⟨h1, h2⟩
          have hq := toNat_beq l[k] l[t]
          have g1 := LagrM.Ui.succ (xs := l) HI.out
          rw [PolyM.co_get l k hlt, PolyM.co_get l t (by omega)] at g1
          have g2 : l[k] = l[t] → LagrM.unl l = false := fun e => LagrM.not_unl (i := k) (j := t) hlt (by omega) (by omega) (by rw [PolyM.co_get l k hlt, PolyM.co_get l t (by omega), e])
          have G1 := Lib.hid g1
          have G2 := Lib.hid g2
          clear g1 g2 hA h h0
          generalize l[k] = x at *
          generalize l[t] = y at *
          by_cases hxy : x = y
          · have q : ((x.toNat : Int) == (y.toNat : Int)) = true := by rw [hq]; simpa using hxy
            have hf := G2.out hxy
            have HF := Lib.hid hf
            clear hq hxy hf
            go_wp2
            go_quiet (fail)
            go_wp2
            go_ret
            exact ⟨ret_bool HF.out.symm, m + nq, by rw [HQ.out, World.drewN_drewN]⟩
          · have q : ((x.toNat : Int) == (y.toNat : Int)) = false := by rw [hq]; simpa using hxy
            have hf := G1.out hxy
            have HF := Lib.hid hf
            clear hq hxy hf
            go_wp2
            go_quiet (fail)
            go_wp2
            go_roundw
            case rel => exact ⟨t + 1, m + nq, by omega, by go_num, HF.out, by rw [HQ.out, World.drewN_drewN]⟩
            case measure => simp [intOf] <;> omega
        · obtain rfl : t = k := by omega
          go_wp2
          go_roundw
          case rel => exact ⟨t + 1, m, by omega, by go_num, HU.out.succ HI.out, HQ.out⟩
          case measure => simp [intOf] <;> omega
    · obtain rfl : k = l.length := by omega
      have hu := HU.out.unl
      have HF := Lib.hid hu
      clear hu
      go_wp2
      go_ret
      exact ⟨ret_bool HF.out.symm, n, HW.out⟩

end Go.Proofs.Ytgdgbhjbeldcmaa.R03
