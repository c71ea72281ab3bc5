/- the contracts of package label: a name, and its bytes -/
import Derived.Test.YtjoocjkakgjgmaaR07
import Derived.Test.YtjoocjkakgjgmaaPack
set_option maxRecDepth 100000
namespace Go.Proofs.Ytjoocjkakgjgmaa.LabM
/-- a byte that may stand in a name -/
def okb (c : UInt8) : Bool := (decide (97 ≤ c.toNat) && decide (c.toNat ≤ 122)) || (decide (48 ≤ c.toNat) && decide (c.toNat ≤ 57)) || decide (c.toNat = 45)
theorem okc_okb (i : Nat) (c : UInt8) (h : i = 0 → c.toNat ≠ 45) : okc i c = okb c := by
  unfold okc okb
  by_cases hi : i = 0
  · subst hi; simp [h rfl]
  · simp [hi]
theorem okc_dash {c : UInt8} (h : c.toNat = 45) : okc 0 c = false := by unfold okc; simp [h]
/-- of 17 bytes: they are a name's just if they are what Put writes of it -/
theorem getOk_put {b : List UInt8} (hb : b.length = 17) : getOk b = (right (nameAt b) && decide (b = putB (nameAt b))) := by
  by_cases h : getOk b = true
  · obtain ⟨h1, h2, h3⟩ := (getOk_iff b).1 h
    have hn : (nameAt b).length = (b.getD 0 0).toNat := by unfold nameAt; rw [List.length_take, List.length_drop]; omega
    have e : b = putB (nameAt b) := by
      unfold putB
      rw [if_pos h2, hn]
      rcases b with _ | ⟨x, b⟩
      · simp at hb
      simp only [List.getD_cons_zero] at h1 h3 hn ⊢
      have hb' : b.length = 16 := by simpa using hb
      have ex : UInt8.ofNat x.toNat = x := by rw [UInt8.ofNat_toNat]
      rw [ex]
      congr 1
      have en : nameAt (x :: b) = b.take x.toNat := by unfold nameAt; simp
      rw [en]
      conv => lhs; rw [← List.take_append_drop x.toNat b]
      congr 1
      apply List.ext_getElem
      · simp; omega
      · intro i hi1 hi2
        rw [List.getElem_drop, List.getElem_replicate]
        have := h3 (1 + x.toNat + i) (by simp at hi1 ⊢; omega) (by omega)
        have hx : (x :: b)[1 + x.toNat + i]'(by simp at hi1 ⊢; omega) = b[x.toNat + i]'(by simp at hi1 ⊢; omega) := by
          rw [List.getElem_cons]; simp [show 1 + x.toNat + i - 1 = x.toNat + i from by omega]
        rw [← hx]; exact this
    rw [h, h2, decide_eq_true e]; rfl
  · have hf : getOk b = false := by simpa using h
    rw [hf]
    rcases hr : right (nameAt b) with _ | _
    · rfl
    · by_cases e : b = putB (nameAt b)
      · have := (get_put hr).1
        rw [← e] at this
        exact absurd this h
      · rw [decide_eq_false e]; rfl
end Go.Proofs.Ytjoocjkakgjgmaa.LabM
namespace Go.Proofs.Ytjoocjkakgjgmaa.Label
open Go.RowKit R07

theorem may_any (c : UInt8) (w : World) : Calls Try.prog 56 #[.int .u8 (c.toNat : Nat)] w fun e w' => e = .returned (.bool (LabM.okb c)) ∧ w' = w := by
  have hc := c.toNat_lt
  unfold LabM.okb
  generalize c.toNat = n at *
  by_cases a1 : 97 ≤ n
  · have b1 : decide ((97 : Int) ≤ (n : Int)) = true := decide_eq_true (by omega)
    by_cases a2 : n ≤ 122
    · have b2 : decide ((n : Int) ≤ 122) = true := decide_eq_true (by omega)
      have e : (decide (97 ≤ n) && decide (n ≤ 122) || decide (48 ≤ n) && decide (n ≤ 57) || decide (n = 45)) = true := by simp [a1, a2]
      rw [e]; clear e a1 a2
      go_enter Try.func56, Try.ntmps56
      go_wp2
      go_ret
      exact ⟨rfl, rfl⟩
    · have b2 : decide ((n : Int) ≤ 122) = false := decide_eq_false (by omega)
      have b3 : decide ((48 : Int) ≤ (n : Int)) = true := decide_eq_true (by omega)
      have b4 : decide ((n : Int) ≤ 57) = false := decide_eq_false (by omega)
      have b5 : ((n : Int) == 45) = false := by simp; omega
      have e : (decide (97 ≤ n) && decide (n ≤ 122) || decide (48 ≤ n) && decide (n ≤ 57) || decide (n = 45)) = false := by
        simp [a2, show ¬ n ≤ 57 from by omega, show ¬ n = 45 from by omega]
      rw [e]; clear e a1 a2
      go_enter Try.func56, Try.ntmps56
      go_wp2
      go_ret
      exact ⟨rfl, rfl⟩
  · have b1 : decide ((97 : Int) ≤ (n : Int)) = false := decide_eq_false (by omega)
    by_cases a3 : 48 ≤ n
    · have b3 : decide ((48 : Int) ≤ (n : Int)) = true := decide_eq_true (by omega)
      by_cases a4 : n ≤ 57
      · have b4 : decide ((n : Int) ≤ 57) = true := decide_eq_true (by omega)
        have e : (decide (97 ≤ n) && decide (n ≤ 122) || decide (48 ≤ n) && decide (n ≤ 57) || decide (n = 45)) = true := by simp [a3, a4]
        rw [e]; clear e a1 a3 a4
        go_enter Try.func56, Try.ntmps56
        go_wp2
        go_ret
        exact ⟨rfl, rfl⟩
      · have b4 : decide ((n : Int) ≤ 57) = false := decide_eq_false (by omega)
        have b5 : ((n : Int) == 45) = false := by simp; omega
        have e : (decide (97 ≤ n) && decide (n ≤ 122) || decide (48 ≤ n) && decide (n ≤ 57) || decide (n = 45)) = false := by
          simp [a1, a4, show ¬ n = 45 from by omega]
        rw [e]; clear e a1 a3 a4
        go_enter Try.func56, Try.ntmps56
        go_wp2
        go_ret
        exact ⟨rfl, rfl⟩
    · have b3 : decide ((48 : Int) ≤ (n : Int)) = false := decide_eq_false (by omega)
      rcases hx : decide (n = 45) with _ | _
      · have hx := of_decide_eq_false hx
        have b5 : ((n : Int) == 45) = false := by simp; omega
        have e : (decide (97 ≤ n) && decide (n ≤ 122) || decide (48 ≤ n) && decide (n ≤ 57) || false) = false := by simp [a1, a3]
        rw [e]; clear e a1 a3 hx
        go_enter Try.func56, Try.ntmps56
        go_wp2
        go_ret
        exact ⟨rfl, rfl⟩
      · have hx := of_decide_eq_true hx
        have b5 : ((n : Int) == 45) = true := by simp; omega
        have e : (decide (97 ≤ n) && decide (n ≤ 122) || decide (48 ≤ n) && decide (n ≤ 57) || true) = true := by simp
        rw [e]; clear e a1 a3 hx
        go_enter Try.func56, Try.ntmps56
        go_wp2
        go_ret
        exact ⟨rfl, rfl⟩

set_option maxHeartbeats 1000000 in
theorem right_any (s : ByteArray) (w : World) (hs : s.size ≤ 9223372036854775807) :
    Calls Try.prog 29 #[.string s] w fun e w' => e = .returned (.bool (LabM.right s.data.toList)) ∧ ∃ n, w' = w.drewN n := by
  by_cases h1 : s.size < 1
  · have hf := LabM.right_short (s := s.data.toList) (.inl (by rw [← size_len]; exact h1))
    rw [hf]
    clear hf
    go_enter Try.func29, Try.ntmps29
    go_wp2
    go_ret
    exact ⟨rfl, 0, rfl⟩
  by_cases h2 : 16 < s.size
  · have hf := LabM.right_short (s := s.data.toList) (.inr (by rw [← size_len]; exact h2))
    rw [hf]
    clear hf
    go_enter Try.func29, Try.ntmps29
    go_wp2
    go_ret
    exact ⟨rfl, 0, rfl⟩
  have h0 : 0 < s.size := by omega
  have hc0 := s[0].toNat_lt
  by_cases h3 : s[0].toNat = 45
  · have hf := LabM.right_at (s := s.data.toList) (i := 0) (by rw [← size_len]; exact h0) (by rw [← R07.get_at s 0 h0]; exact LabM.okc_dash h3)
    rw [hf]
    have b5 : ((s[0].toNat : Int) == 45) = true := by simp; omega
    clear hf h3
    go_enter Try.func29, Try.ntmps29
    go_wp2
    go_ret
    exact ⟨rfl, 0, rfl⟩
  have b5 : ((s[0].toNat : Int) == 45) = false := by simp; omega
  have hokc : ∀ i, (h : i < s.size) → LabM.okc i s[i] = LabM.okb s[i] := fun i hi => LabM.okc_okb i _ (fun e => by subst e; exact h3)
  have hno : ∀ i, (h : i < s.size) → LabM.okb s[i] = false → LabM.right s.data.toList = false := fun i hi hx => LabM.right_at (i := i) (by rw [← size_len]; exact hi) (by rw [← R07.get_at s i hi, hokc i hi]; exact hx)
  have hyes : (∀ i, (h : i < s.size) → LabM.okb s[i] = true) → LabM.right s.data.toList = true := fun hx => (LabM.right_iff _).2 ⟨by rw [← size_len]; omega, by rw [← size_len]; omega, fun i hi => by
    rw [← R07.get_at s i (by rw [size_len]; exact hi), hokc]; exact hx i (by rw [size_len]; exact hi)⟩
  have HNO := Lib.hid hno; have HYES := Lib.hid hyes
  clear hno hyes hokc h3
  go_enter Try.func29, Try.ntmps29
  go_wp2
  go_loop [19] (fun i => ∃ k : Nat, k ≤ s.size ∧ i = .int .i64 k ∧ ∀ j, (h : j < s.size) → j < k → LabM.okb s[j] = true)
    (fun i => s.size - (intOf i).toNat)
  case atStart => exact ⟨0, Nat.zero_le _, rfl, fun j _ h => by omega⟩
  case round =>
    obtain ⟨k, hk, rfl, hw⟩ := hrel
    have HW := Lib.hid hw
    clear hw
    by_cases hlt : k < s.size
    · have hck := s[k].toNat_lt
      have C := fun W => may_any s[k] W
      rcases hx : LabM.okb s[k] with _ | _
      · rw [hx] at C
        have hf := HNO.out k hlt hx
        have HC := Lib.hid C; have HF := Lib.hid hf
        clear hf hx C
        go_wp2_with fail
        refine (HC.out _).mono ?_
        rintro e w1 ⟨rfl, rfl⟩
        go_wp2
        go_ret
        exact ⟨ret_bool HF.out.symm, 0, rfl⟩
      · rw [hx] at C
        have hf : ∀ j, (h : j < s.size) → j < k + 1 → LabM.okb s[j] = true := fun j hj hjk => by
          by_cases e : j = k
          · subst e; exact hx
          · exact HW.out j hj (by omega)
        have HF := Lib.hid hf; have HC := Lib.hid C
        clear hf hx C
        go_wp2_with fail
        refine (HC.out _).mono ?_
        rintro e w1 ⟨rfl, rfl⟩
        go_wp2
        go_round
        case rel => exact ⟨k + 1, by omega, by go_num, HF.out⟩
        case measure => simp [intOf] <;> omega
    · obtain rfl : k = s.size := by omega
      have hf := HYES.out fun i hi => HW.out i hi hi
      have HF := Lib.hid hf
      clear hf
      go_wp2
      go_ret
      exact ⟨ret_bool HF.out.symm, 0, rfl⟩
end Go.Proofs.Ytjoocjkakgjgmaa.Label
