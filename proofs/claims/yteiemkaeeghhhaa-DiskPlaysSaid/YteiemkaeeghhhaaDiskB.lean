/- package disk: turn, and what Write and Rot do to a sector -/
import Derived.Test.YteiemkaeeghhhaaDiskA
import Derived.Test.YteiemkaeeghhhaaR05
set_option maxRecDepth 100000
namespace Go.Proofs.Yteiemkaeeghhhaa.Disk
open Go.RowKit DiskM CrcM

theorem setS_self (b : List UInt8) (i : Nat) (_h : 64 * i + 64 ≤ b.length) : setS b i (sect b i) = b := by
  unfold setS sect
  have e : b.drop (64 * i) = (b.drop (64 * i)).take 64 ++ b.drop (64 * i + 64) := by
    rw [show b.drop (64 * i + 64) = (b.drop (64 * i)).drop 64 from by rw [List.drop_drop]]
    exact (List.take_append_drop 64 _).symm
  rw [← e, List.take_append_drop]
theorem setS_get (b s : List UInt8) (i d : Nat) (h : 64 * i + 64 ≤ b.length) (hs : s.length = 64) (hd : d < 64) : (setS b i s)[64 * i + d]? = s[d]? := by
  unfold setS
  have hl : (b.take (64 * i)).length = 64 * i := by rw [List.length_take]; omega
  rw [List.getElem?_append_right (by rw [hl]; omega), hl, show 64 * i + d - 64 * i = d from by omega, List.getElem?_append_left (by omega)]
theorem setS_set (b s : List UInt8) (i d : Nat) (y : UInt8) (h : 64 * i + 64 ≤ b.length) (hs : s.length = 64) (hd : d < 64) : (setS b i s).set (64 * i + d) y = setS b i (s.set d y) := by
  unfold setS
  have hl : (b.take (64 * i)).length = 64 * i := by rw [List.length_take]; omega
  rw [List.set_append_right _ _ (by rw [hl]; omega), hl, show 64 * i + d - 64 * i = d from by omega, List.set_append_left _ _ (by omega)]
theorem turn_end (l : List UInt8) (f mask k : Nat) (_hm : mask < 2 ^ 32) (hk : k ≤ 32) (h : mask / 2 ^ k = 0 ∨ 8 * l.length ≤ f + k) : turnTo l f mask k = turn l f mask := by
  have step : ∀ n, turnTo l f mask (k + n) = turnTo l f mask k := by
    intro n
    induction n with
    | zero => rfl
    | succ n ih =>
      have e : turnTo l f mask (k + (n + 1)) = if mask.testBit (k + n) ∧ f + (k + n) < 8 * l.length then turn1 (turnTo l f mask (k + n)) (f + (k + n)) else turnTo l f mask (k + n) := rfl
      rw [e, if_neg ?_, ih]
      rintro ⟨h1, h2⟩
      rcases h with h | h
      · rw [Nat.testBit_eq_decide_div_mod_eq, Nat.pow_add, ← Nat.div_div_eq_div_mul, h] at h1
        simp at h1
      · omega
  have := step (32 - k)
  rw [show k + (32 - k) = 32 from by omega] at this
  exact this.symm
/-- one round -/
theorem turn_step (l : List UInt8) (f mask k : Nat) (h : f + k < 8 * l.length) :
    turnTo l f mask (k + 1) = (turnTo l f mask k).set ((f + k) / 8) ((turnTo l f mask k).getD ((f + k) / 8) 0 ^^^ UInt8.ofNat (bit mask k * 2 ^ ((f + k) % 8))) := by
  have e : turnTo l f mask (k + 1) = if mask.testBit k ∧ f + k < 8 * l.length then turn1 (turnTo l f mask k) (f + k) else turnTo l f mask k := rfl
  have hlen := turnTo_len l f mask k
  have htb : mask.testBit k = decide (bit mask k = 1) := by rw [Nat.testBit_eq_decide_div_mod_eq]; rfl
  have hb2 := bit_lt mask k
  rw [e, htb]
  by_cases h1 : bit mask k = 1
  · rw [if_pos ⟨decide_eq_true h1, h⟩, h1, Nat.one_mul]
    rfl
  · have h0 : bit mask k = 0 := by omega
    rw [if_neg (fun q => h1 (of_decide_eq_true q.1)), h0, Nat.zero_mul]
    have hx : ((turnTo l f mask k).getD ((f + k) / 8) 0 ^^^ UInt8.ofNat 0) = (turnTo l f mask k).getD ((f + k) / 8) 0 := by
      rw [← UInt8.toNat_inj, UInt8.toNat_xor]; simp
    rw [hx]
    have hi : (f + k) / 8 < (turnTo l f mask k).length := by rw [hlen]; omega
    rw [← List.getElem_eq_getD (h := hi), List.set_getElem_self]
theorem xor_some (y : UInt8) (b r : Nat) (hb : b < 2) (h : r < 8) : bits .xor .u8 (y.toNat : Int) ((b : Int) * 2 ^ r % 256) = ((y ^^^ UInt8.ofNat (b * 2 ^ r)).toNat : Nat) := by
  have hp : 2 ^ r < 256 := by
    have : 2 ^ r < 2 ^ 8 := Nat.pow_lt_pow_right (by omega) h
    exact this
  have hbp : b * 2 ^ r < 256 := by
    rcases (show b = 0 ∨ b = 1 by omega) with rfl | rfl <;> omega
  have e : ((b : Int) * (2 : Int) ^ r % 256) = ((b * 2 ^ r : Nat) : Int) := by
    have g : ∀ p : Nat, p < 256 → (p : Int) % 256 = (p : Int) := fun p h => by omega
    have := g _ hbp
    rw [Int.natCast_mul, Int.natCast_pow] at this ⊢
    exact this
  rw [e, u8_xor_nat _ _ y.toNat_lt hbp, UInt8.toNat_xor, UInt8.toNat_ofNat_of_lt' (by simp only [UInt8.size]; exact hbp)]

set_option maxHeartbeats 1000000 in
theorem turn_any (p g c : Nat) (m : Dk) (i f mask : Nat) (w : World) (h : DAt w p g c m) (hi : 64 * i + 64 ≤ m.b.length) (_hl : m.b.length ≤ 32768) (hf : f ≤ 9223372036854775807) (hm : mask < 4294967296) :
    Calls Try.prog 32 #[.slice (some ⟨g, 64 * i, none⟩) 64 64, .int .i64 (f : Nat), .int .u32 (mask : Nat)] w fun e w' =>
      e = .returned (.tuple #[]) ∧ DAt w' p g c ⟨setS m.b i (turn (sect m.b i) f mask), m.left, m.dead⟩ ∧ Keeps (fun k => k = g) w w' := by
  obtain ⟨s, hs⟩ : ∃ s, s = sect m.b i := ⟨_, rfl⟩
  have hsl : s.length = 64 := by rw [hs, sect_len _ _ hi]
  have h0 : DAt w p g c ⟨setS m.b i (turnTo s f mask 0), m.left, m.dead⟩ := by
    have e : setS m.b i (turnTo s f mask 0) = m.b := by rw [hs]; exact setS_self _ _ hi
    rw [e]; exact h
  rw [← hs]
  have hle : ∀ k, (turnTo s f mask k).length = 64 := fun k => by rw [turnTo_len, hsl]
  have hSl : ∀ k, (setS m.b i (turnTo s f mask k)).length = m.b.length := fun k => setS_len _ _ _ hi (hle k)
  have HG : Hid (∀ k d, d < 64 → (setS m.b i (turnTo s f mask k))[64 * i + d]? = (turnTo s f mask k)[d]?) := Lib.hid (fun k d hd => setS_get _ _ _ _ hi (hle k) hd)
  have HS : Hid (∀ k d y, d < 64 → (setS m.b i (turnTo s f mask k)).set (64 * i + d) y = setS m.b i ((turnTo s f mask k).set d y)) := Lib.hid (fun k d y hd => setS_set _ _ _ _ _ hi (hle k) hd)
  have HT : Hid (∀ k, f + k < 512 → turnTo s f mask (k + 1) = (turnTo s f mask k).set ((f + k) / 8) ((turnTo s f mask k).getD ((f + k) / 8) 0 ^^^ UInt8.ofNat (bit mask k * 2 ^ ((f + k) % 8)))) := Lib.hid (fun k h => turn_step s f mask k (by omega))
  have HE : Hid (∀ k, k ≤ 32 → (mask / 2 ^ k = 0 ∨ 512 ≤ f + k) → turnTo s f mask k = turn s f mask) := Lib.hid (fun k hk h => turn_end s f mask k hm hk (by omega))
  have HL := Lib.hid hle; have HSL := Lib.hid hSl; have H0 := Lib.hid h0
  obtain ⟨x, hx⟩ : ∃ x, x = 64 * i := ⟨_, rfl⟩
  rw [← hx] at HG HS ⊢
  have HI : Hid (x + 64 ≤ m.b.length) := Lib.hid (by omega)
  clear hle hSl h0 h hs hsl hx hi
  go_enter Try.func32, Try.ntmps32
  go_wp2
  go_loopw [1, 2] (fun b M wr => ∃ k a n : Nat, k ≤ 32 ∧ a = f + k ∧ n = mask / 2 ^ k ∧ b = .int .i64 (a : Nat) ∧ a ≤ 9223372036854775807 ∧ M = .int .u32 (n : Nat) ∧ DAt wr p g c ⟨setS m.b i (turnTo s f mask k), m.left, m.dead⟩ ∧ Keeps (fun k => k = g) w wr)
    (fun b _ _ => 32 - ((intOf b).toNat - f))
  case atStart => exact ⟨0, f, mask, by omega, rfl, by simp, rfl, hf, rfl, H0.out, .refl _ _⟩
  case round =>
    obtain ⟨k, a, M, hk, ha, hM, rfl, hfk, rfl, hd, hq⟩ := hrel
    rename World => wr
    have HD := Lib.hid hd; have HQ := Lib.hid hq
    clear hd hq
    have hMl : mask / 2 ^ k ≤ mask := Nat.div_le_self _ _
    have hM32 : k = 32 → mask / 2 ^ k = 0 := fun e => by rw [e]; exact Nat.div_eq_of_lt hm
    have hM1 : mask / 2 ^ (k + 1) = mask / 2 ^ k / 2 := by rw [Nat.pow_succ, Nat.div_div_eq_div_mul]
    have hbt : bit mask k = mask / 2 ^ k % 2 := rfl
    have HE := Lib.hid (HE.out k hk)
    rw [← hM] at hMl hM32 hM1 hbt HE
    rw [← ha] at HE
    by_cases hz : M = 0
    · have he := HE.out (.inl hz)
      have HD2 := HD.out
      rw [he] at HD2
      subst hz
      have HD3 := Lib.hid HD2
      clear HD2 he hbt hM1 hM ha hM32
      go_wp2
      go_end0
      exact ⟨rfl, HD3.out, HQ.out⟩
    have qz : ((M : Int) != 0) = true := by rw [bne_iff_ne]; omega
    by_cases hb : 512 ≤ a
    · have he := HE.out (.inr hb)
      have HD2 := HD.out
      rw [he] at HD2
      have HD3 := Lib.hid HD2
      clear HD2 he hbt hM1 hM ha hM32
      go_wp2
      go_end0
      exact ⟨rfl, HD3.out, HQ.out⟩
    have ht := HT.out k (by omega)
    rw [← ha] at ht
    have i4 : ((a : Int)).tdiv 8 = ((a / 8 : Nat) : Int) := rfl
    have i5 : ((a : Int)).tmod 8 = ((a % 8 : Nat) : Int) := rfl
    have i6 : ((a : Int) / 8) = ((a / 8 : Nat) : Int) := by omega
    have i7 : ((a : Int) % 8) = ((a % 8 : Nat) : Int) := by omega
    have id : a / 8 < 64 := by omega
    have ir : a % 8 < 8 := Nat.mod_lt _ (by omega)
    have hb1 : bits .and .u32 (M : Int) 1 = ((M % 2 : Nat) : Int) := by
      have := u32_and_nat M 1 (by omega) (by omega)
      rwa [Nat.and_one_is_mod] at this
    obtain ⟨b1, hb1'⟩ : ∃ b1, b1 = M % 2 := ⟨_, rfl⟩
    have hb2 : b1 < 2 := by omega
    rw [hbt, ← hb1'] at ht
    rw [← hb1'] at hb1
    generalize a / 8 = d at *
    generalize a % 8 = r at *
    obtain ⟨g', c', hv, _, hgl, hcell, hfr, hset⟩ := HD.out.own.place (i := x + d) (by show x + d < (setS m.b i (turnTo s f mask k)).length; rw [HSL.out]; have := HI.out; omega)
    injection hv with hv _ hv3
    injection hv with hv; injection hv with hv
    subst hv
    clear hv3 c'
    have hy : (setS m.b i (turnTo s f mask k))[x + d]? = some ((turnTo s f mask k).getD d 0) := by
      rw [HG.out k d id, ← List.getElem_eq_getD (h := by rw [HL.out]; exact id)]
      exact List.getElem?_eq_getElem (by rw [HL.out]; exact id)
    have hy2 := (List.getElem?_eq_some_iff.1 hy).2
    simp only at hcell
    rw [hy2] at hcell
    generalize hyy : (turnTo s f mask k).getD d 0 = y at *
    have hsl2 : ∀ y', (setS m.b i (turnTo s f mask k)).set (x + d) y' = setS m.b i ((turnTo s f mask k).set d y') := fun y' => HS.out k d y' id
    have HSET : Hid (∀ n, DAt ((wr.drewN n).setCell ⟨g, x + d, none⟩ (.int .u8 ((y ^^^ UInt8.ofNat (b1 * 2 ^ r)).toNat : Nat))) p g c ⟨setS m.b i (turnTo s f mask (k + 1)), m.left, m.dead⟩) := Lib.hid (fun n => by
      have ho := hset n (y ^^^ UInt8.ofNat (b1 * 2 ^ r))
      rw [hsl2, ← ht] at ho
      exact HD.out.turned (w' := (wr.drewN n).setCell ⟨g, x + d, none⟩ (.int .u8 ((y ^^^ UInt8.ofNat (b1 * 2 ^ r)).toNat : Nat))) ((Keeps.draw _ wr n).trans (.set _ _ _ _ rfl)) (by rw [HSL.out, HSL.out]) ho)
    have HK : Hid (∀ n, Keeps (fun k => k = g) w ((wr.drewN n).setCell ⟨g, x + d, none⟩ (.int .u8 ((y ^^^ UInt8.ofNat (b1 * 2 ^ r)).toNat : Nat)))) := Lib.hid (fun n => HQ.out.trans ((Keeps.draw _ wr n).trans (.set _ _ _ _ rfl)))
    have HX := Lib.hid (xor_some y b1 r hb2 ir)
    have HA := Lib.hid ha; have HMM := Lib.hid hM; have HM1 := Lib.hid hM1
    have hk32 : k < 32 := by
      rcases Nat.lt_or_ge k 32 with h | h
      · exact h
      · exact absurd (hM32 (by omega)) hz
    have hq1 : decide (a < 512) = true := decide_eq_true (by omega)
    clear hset hy hy2 hsl2 ht hbt hb1' hyy HE hM32 ha hM hM1
    go_wp2_with fail
    go_region
    all_goals
      go_wp2
      go_roundw
      case rel =>
        refine ⟨k + 1, a + 1, M / 2, by omega, by have := HA.out; omega, HM1.out.symm, by go_num, by omega, by go_num, ?_, ?_⟩
        · rw [HX.out]; exact (HSET.out 0).below (bdraw _ 1)
        · rw [HX.out]; exact (HK.out 0).trans (.draw _ _ 1)
      case measure =>
        have := HA.out
        simp [intOf]
        omega
end Go.Proofs.Yteiemkaeeghhhaa.Disk
