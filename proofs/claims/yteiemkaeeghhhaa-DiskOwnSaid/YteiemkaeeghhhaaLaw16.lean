/- the walks of layer 16's laws: light, alive -/
import Derived.Test.YteiemkaeeghhhaaActs16
import Derived.Test.YteiemkaeeghhhaaDiskF
import Derived.Test.YteiemkaeeghhhaaR01
import Derived.Lib.SmallJoins
set_option maxRecDepth 100000
namespace Go.Proofs.Yteiemkaeeghhhaa.Law16
open Go.RowKit DiskM Disk

def lightB (l : List Act16) : Bool := (l.all fun a => decide (a.b.length ≤ 100)) && decide (l.length ≤ 60)
theorem lightB_iff (l : List Act16) : lightB l = true ↔ (∀ i, (h : i < l.length) → l[i].b.length ≤ 100) ∧ l.length ≤ 60 := by
  unfold lightB
  rw [Bool.and_eq_true, List.all_eq_true, decide_eq_true_eq]
  constructor
  · rintro ⟨h1, h2⟩; exact ⟨fun i hi => by simpa using h1 _ (List.getElem_mem hi), h2⟩
  · rintro ⟨h1, h2⟩
    refine ⟨fun r hr => ?_, h2⟩
    obtain ⟨i, hi, rfl⟩ := List.mem_iff_getElem.1 hr
    simpa using h1 i hi
theorem light_any (A : Option Addr) (l : List Act16) (c : Nat) (w : World) (h : ActsAt16 w A l) (hl : l.length ≤ 9223372036854775807) :
    Calls Try.prog 6 #[.slice A l.length c] w fun e w' => e = .returned (.bool (lightB l)) ∧ Below w.heap.size w w' := by
  go_enter Try.func6, Try.ntmps6
  go_wp2
  go_loopw [7] (fun i wr => ∃ k : Nat, k ≤ l.length ∧ i = .int .i64 k ∧ (∀ j, (h : j < l.length) → j < k → l[j].b.length ≤ 100) ∧ Below w.heap.size w wr)
    (fun i _ => l.length - (intOf i).toNat)
  case atStart => exact ⟨0, Nat.zero_le _, rfl, fun j _ h => by omega, Below.refl _ _⟩
  case round =>
    obtain ⟨k, hk, rfl, hw, hb⟩ := hrel
    rename World => w0
    have HW := Lib.hid hw
    clear hw
    by_cases hlt : k < l.length
    · obtain ⟨b, o, B, cb, hA, ha⟩ := h.below hb k hlt
      subst hA
      have e0 := ha.c0; have e1 := ha.c1; have e2 := ha.c2; have e3 := ha.c3; have e4 := ha.c4
      have hlx : l[k].b.length ≤ 9223372036854775807 := by have h1 := ha.h1; have h2 := ha.h2; unfold maxLen at h2; omega
      have g1 : l[k].b.length ≤ 100 → ∀ j, (h : j < l.length) → j < k + 1 → l[j].b.length ≤ 100 := fun hx j hj hjk => by
        by_cases e : j = k
        · subst e; exact hx
        · exact HW.out j hj (by omega)
      have g2 : 100 < l[k].b.length → lightB l = false := fun hx => by
        rcases hq : lightB l with _ | _
        · rfl
        · have := ((lightB_iff l).1 hq).1 k hlt; omega
      have G1 := Lib.hid g1; have G2 := Lib.hid g2
      clear g1 g2 ha
      by_cases hx : 100 < l[k].b.length
      · have hf := G2.out hx
        have HF := Lib.hid hf
        clear hf
        go_wp2
        go_ret
        exact ⟨ret_bool HF.out.symm, hb.alloc hb.size _⟩
      · have hf := G1.out (by omega)
        have HF := Lib.hid hf
        clear hf
        go_wp2
        go_roundw
        case rel => exact ⟨k + 1, by omega, by go_num, HF.out, hb.alloc hb.size _⟩
        case measure => simp [intOf] <;> omega
    · obtain rfl : k = l.length := by omega
      have hf : lightB l = decide ((l.length : Int) ≤ 60) := by
        rw [Bool.eq_iff_iff, lightB_iff, decide_eq_true_eq]
        constructor
        · rintro ⟨_, h2⟩; omega
        · intro h2; exact ⟨fun i hi => HW.out i hi hi, by omega⟩
      have HF := Lib.hid hf
      clear hf
      go_wp2
      go_ret
      exact ⟨ret_bool HF.out.symm, hb⟩
/-- a disk in memory of the call's own -/
theorem own_keep {w0 w w' : World} {p g : Nat} (hb : Below w0.heap.size w0 w) (q : Keeps (PG p g) w w') (hp : w0.heap.size ≤ p) (hg : w0.heap.size ≤ g) : Below w0.heap.size w0 w' :=
  below_keeps hb q (fun k hk => by rcases hk with rfl | rfl <;> assumption) hb.size
theorem alive_any (w : World) : Calls Try.prog 7 #[] w fun e w' => e = .returned (.bool true) ∧ Below w.heap.size w w' := by
  have n0 : new_ 2 = ⟨SecM.noughts 128, -1, false⟩ := by kernel_rfl
  have HL : Hid ((SecM.noughts 128).length = 128) := Lib.hid (SecM.noughts_len _)
  have HN : Hid (∀ W, Calls Try.prog 8 #[.int .i64 2] W fun e w' => ∃ p g c, e = .returned (.pointer (some ⟨p, 0, none⟩)) ∧ DAt w' p g c ⟨SecM.noughts 128, -1, false⟩ ∧ W.heap.size ≤ p ∧ W.heap.size ≤ g ∧ Below W.heap.size W w') := Lib.hid (fun W => by
    have := new_any 2 W (by omega)
    rw [n0] at this
    exact this)
  obtain ⟨b0, hb0⟩ : ∃ b0, b0 = SecM.noughts 128 := ⟨_, rfl⟩
  rw [← hb0] at HN HL
  have hw1 : Dk.write ⟨b0, 1, false⟩ 0 (SecM.noughts 64) = (⟨setS b0 0 (SecM.noughts 64), 0, false⟩, true) := by rw [hb0]; kernel_rfl
  have hw2 : Dk.write ⟨setS b0 0 (SecM.noughts 64), 0, false⟩ 1 [] = (⟨setS b0 0 (SecM.noughts 64), 0, true⟩, false) := by rw [hb0]; kernel_rfl
  have hl2 : (setS b0 0 (SecM.noughts 64)).length = 128 := by rw [hb0]; decide +kernel
  obtain ⟨b1, hb1⟩ : ∃ b1, b1 = setS b0 0 (SecM.noughts 64) := ⟨_, rfl⟩
  rw [← hb1] at hw1 hw2 hl2
  have HW1 : Hid (∀ p g c A cl W, DAt W p g c ⟨b0, 1, false⟩ → BytesAt W A (SecM.noughts 64) → (∀ a, A = some a → a.block ≠ p) → Calls Try.prog 10 #[.pointer (some ⟨p, 0, none⟩), .int .i64 0, .slice A 64 cl] W fun e w' => e = .returned (.bool true) ∧ DAt w' p g c ⟨b1, 0, false⟩ ∧ Keeps (PG p g) W w') := Lib.hid (fun p g c A cl W h hA hp => by
    have := write_any p g c ⟨b0, 1, false⟩ 0 A (SecM.noughts 64) cl W h (by show b0.length ≤ _; rw [HL.out]; omega) (fun e => by cases e) (by show _ ≤ (1 : Int) ∧ (1 : Int) ≤ _; omega) (by omega) hA (fun _ => hp) (by rw [SecM.noughts_len]; unfold maxLen; omega)
    rw [hw1, SecM.noughts_len] at this
    exact this)
  have HW2 : Hid (∀ p g c W, DAt W p g c ⟨b1, 0, false⟩ → Calls Try.prog 10 #[.pointer (some ⟨p, 0, none⟩), .int .i64 1, .slice none 0 0] W fun e w' => e = .returned (.bool false) ∧ DAt w' p g c ⟨b1, 0, true⟩ ∧ Keeps (PG p g) W w') := Lib.hid (fun p g c W h => by
    have := write_any p g c ⟨b1, 0, false⟩ 1 none [] 0 W h (by show b1.length ≤ _; rw [hl2]; omega) (fun e => by cases e) (by show _ ≤ (0 : Int) ∧ (0 : Int) ≤ _; omega) (by omega) (BytesAt.nil _ _) (fun _ a e => by cases e) (by unfold maxLen; simp)
    rw [hw2] at this
    exact this)
  have HS : Hid (∀ p g c W, DAt W p g c ⟨b1, 0, true⟩ → Calls Try.prog 21 #[.pointer (some ⟨p, 0, none⟩)] W fun e w' => e = .returned (.int .i64 2) ∧ W = w') := Lib.hid (fun p g c W h => by
    have := size_any p g c _ W h (by show b1.length ≤ _; rw [hl2]; omega)
    rw [show (⟨b1, 0, true⟩ : Dk).b.length = 128 from hl2] at this
    exact this)
  have hmk : ∀ W : World, (Instr.makeSlice 30 (.int .i64 64) (.int .i64 64)).run Try.prog W = .ok (.slice (some ⟨W.heap.size, 0, none⟩) 64 64) (W.alloc (.cells (cells (List.replicate 64 0)) 5)) := fun W => make_u8 64 (by omega) W
  have HR := Lib.hid (fun (W : World) => Row.new W (SecM.noughts 64))
  have hCC : cells (SecM.noughts 64) = cells (List.replicate 64 0) := rfl
  rw [hCC] at HR
  generalize cells (List.replicate 64 0) = CC at *
  clear hw1 hw2 hl2 hb1 hb0 n0 HL hCC
  go_enter Try.func7, Try.ntmps7
  go_wp2_with fail
  refine (HN.out w).mono ?_
  rintro e w1 ⟨p, g, c, rfl, h1, hp, hg, hb1⟩
  have H1 := Lib.hid h1
  clear h1
  go_wp2_with fail
  refine (Disk.power_any p g c _ 1 w1 H1.out).mono ?_
  rintro e w2 ⟨rfl, h2, q2⟩
  have H2 := Lib.hid h2
  have HB2 := Lib.hid (own_keep hb1 (q2.mono (G := PG p g) fun k _ h => .inl h) hp hg)
  clear h2 q2 hb1
  have hz2 := HB2.out.size
  go_wp2_with fail
  have H3 := Lib.hid (H2.out.below (balloc w2 (.cells CC 5)))
  have hlt := H2.out.lt
  refine (HW1.out p g c _ 64 _ H3.out (HR.out w2).bytes (fun a e => by injection e with e; subst e; show w2.heap.size ≠ p; omega)).mono ?_
  rintro e w3 ⟨rfl, h4, q4⟩
  have H4 := Lib.hid h4
  have HB4 := Lib.hid (own_keep (HB2.out.alloc hz2 _) q4 hp hg)
  clear h4 q4 hlt hz2
  go_wp2_with fail
  refine (HW2.out p g c w3 H4.out).mono ?_
  rintro e w4 ⟨rfl, h5, q5⟩
  have H5 := Lib.hid h5
  have HB5 := Lib.hid (own_keep HB4.out q5 hp hg)
  clear h5 q5
  go_wp2_with fail
  refine (dead_any p g c _ w4 H5.out).mono ?_
  rintro e w5 ⟨rfl, rfl⟩
  go_wp2_with fail
  refine (HS.out p g c w4 H5.out).mono ?_
  rintro e w5 ⟨rfl, rfl⟩
  go_wp2
  go_ret
  exact ⟨rfl, HB5.out⟩
end Go.Proofs.Yteiemkaeeghhhaa.Law16
