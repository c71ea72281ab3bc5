/- the document's own answers of layer 18: numbers to append to, Text -/
import Derived.Test.YtnjghhkebcojnaaChs
import Derived.Test.YtnjghhkebcojnaaR06
import Derived.Test.YtnjghhkebcojnaaInts
set_option maxRecDepth 100000
namespace Go.Proofs.Ytnjghhkebcojnaa.R18
open Go.RowKit EntM

theorem Own.of_row {w : World} {g base : Nat} {l : List UInt8} (h : Row w g l) (hb : base ≤ g) (hl : l.length ≤ maxLen) : Own w base (.slice (some ⟨g, 0, none⟩) l.length l.length) l :=
  ⟨by rw [vals_len, Nat.mul_one], .inr ⟨g, l.length, cells l, rfl, hb, h, Nat.le_refl _, hl, by rw [cells_size, Nat.mul_one], by unfold cells; rw [Nat.mul_one]; exact List.take_of_length_le (by rw [vals_len]; exact Nat.le_refl _)⟩⟩
theorem num_own (k n : Int) (w : World) (hk : -9223372036854775808 ≤ n ∧ n ≤ 9223372036854775807) :
    Calls Try.prog 42 #[.int .i64 k, .int .i64 n] w (RetOwn w (PackM.numB k n)) := by
  obtain ⟨hw1, hw4⟩ := PackM.wid_range k
  obtain ⟨W, hW⟩ : ∃ W, W = PackM.wid k := ⟨_, rfl⟩
  obtain ⟨m, hm⟩ : ∃ m, m = n.toNat := ⟨_, rfl⟩
  have hres : PackM.numB k n = PackM.be W m := by unfold PackM.numB; rw [hW, hm]
  rw [hres]
  rw [← hW] at hw1 hw4
  have C := fun w => R06.width_any k w
  rw [← hW] at C
  have HC := Lib.hid C
  clear hres hW C
  have hmk := fun W' => make_u8 W (by omega) W'
  by_cases hneg : n < 0
  all_goals
    go_enter Try.func42, Try.ntmps42
    go_wp2_with fail
    refine (HC.out w).mono ?_
    rintro e w' ⟨rfl, rfl⟩
    rename World => w0
    go_wp2_with fail
    go_loopw [1, 6] (fun v i wr => ∃ s : Nat, s ≤ W ∧ i = .int .i64 ((W : Int) - 1 - s) ∧ v = .int .i64 ((m / 256 ^ s : Nat) : Int) ∧ Row wr w0.heap.size (PackM.numTo W m s) ∧ Below w0.heap.size w0 wr)
      (fun _ i _ => (intOf i + 1).toNat)
    case atStart =>
      refine ⟨0, Nat.zero_le _, by simp, ?_, by rw [PackM.numTo_zero]; exact Row.new _ _, balloc _ _⟩
      rw [Nat.pow_zero, Nat.div_one, hm]
      first
        | (congr 1; omega)
    case round =>
      obtain ⟨s, hs, rfl, rfl, hr, hb⟩ := hrel
      clear hmk
      by_cases hlt : s < W
      · have hst := PackM.numTo_step W m s hlt
        have hl := PackM.numTo_len W m s hs
        obtain ⟨d, hd⟩ : ∃ d, d = W - s - 1 := ⟨_, rfl⟩
        have hdl : d < (PackM.numTo W m s).length := by rw [hl]; omega
        have hf := hr.frozen d
        have hc := hr.cell d hdl
        have hdd : m / 256 ^ (s + 1) = m / 256 ^ s / 256 := by rw [Nat.pow_succ, Nat.div_div_eq_div_mul]
        have hq : m / 256 ^ s ≤ m := Nat.div_le_self _ _
        obtain ⟨q, hqq⟩ : ∃ q, q = m / 256 ^ s := ⟨_, rfl⟩
        rw [← hqq] at hst hdd hq ⊢
        rw [← hd] at hst
        have i1 : (W : Int) - 1 - s = (d : Int) := by omega
        rw [i1]
        obtain ⟨y, hy⟩ : ∃ y, y = UInt8.ofNat (q % 256) := ⟨_, rfl⟩
        have hyv : ((q : Int) % 256 % 256) = (y.toNat : Nat) := by rw [hy, UInt8.toNat_ofNat_of_lt' (by simp only [UInt8.size]; omega)]; omega
        have hyv2 : ((q : Int) % 256) = (y.toNat : Nat) := by omega
        have hml : (m : Int) ≤ 9223372036854775807 := by omega
        have hql : (q : Int) ≤ 9223372036854775807 := by omega
        rw [← hy] at hst
        have i2 : d < W := by omega
        have HST := Lib.hid hst; have HR := Lib.hid hr; have HDD := Lib.hid hdd; have HD := Lib.hid hd
        generalize (PackM.numTo W m s)[d] = old at *
        clear hst hr hl hdd hqq hd hy i1 hm hdl
        go_wp2
        go_roundw
        case rel =>
          refine ⟨s + 1, by omega, ?_, ?_, by rw [← HST.out]; exact HR.out.set d y, hb.setCell (Nat.le_refl _) _⟩
          · have := HD.out; congr 1; omega
          · rw [HDD.out]; congr 1
        case measure => simp [intOf] <;> omega
      · obtain rfl : s = W := by omega
        rw [PackM.numTo_done] at hr
        have HR := Lib.hid hr
        clear hr
        go_wp2
        go_ret
        have ho := Own.of_row HR.out (Nat.le_refl _) (by rw [PackM.be_len]; unfold maxLen; omega)
        rw [PackM.be_len] at ho
        exact ⟨_, rfl, ho, hb⟩

theorem item_as (c : Ch) : item c = if c.data = [] then PackM.numB 2 c.at_ ++ [0] else PackM.numB 2 c.at_ ++ [1] ++ c.data := by
  by_cases h : c.data = []
  · rw [if_pos h, item_bare h]
  · rw [if_neg h, item_given h]
end Go.Proofs.Ytnjghhkebcojnaa.R18
