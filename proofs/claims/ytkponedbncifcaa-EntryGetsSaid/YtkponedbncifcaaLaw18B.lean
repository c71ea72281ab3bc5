/- the walk of EntryGets -/
import Derived.Test.YtkponedbncifcaaLaw18
set_option maxRecDepth 100000
namespace Go.Proofs.Ytkponedbncifcaa.Law18
open Go.RowKit EntM Entry

theorem fit_small {ss : List (List UInt8)} (h : ∀ x ∈ ss, x.length ≤ 100) : Fit ss := fun s rest e => by
  subst e
  refine ⟨by have := h s (by simp); omega, fun i hi _ => by have := h rest[i] (List.mem_cons_of_mem _ (List.getElem_mem hi)); omega⟩
set_option maxHeartbeats 4000000 in
theorem gets_any (A : Option Addr) (ss : List (List UInt8)) (c : Nat) (w : World) (h : RowsAt w A ss) (hc : ss.length ≤ c) (hc2 : c ≤ maxLen) :
    Calls Try.prog 4 #[.slice A ss.length c] w fun e w' => e = .returned (.bool true) ∧ Below w.heap.size w w' := by
  by_cases h40 : 40 < ss.length
  · go_enter Try.func4, Try.ntmps4
    go_wp2_with fail
    refine (alive_any _).mono ?_
    rintro e w1 ⟨rfl, hb1⟩
    go_wp2
    go_ret
    exact ⟨rfl, hb1⟩
  · have hn : ss.length ≤ 40 := by omega
    clear h40
    have H := Lib.hid h
    clear h
    go_enter Try.func4, Try.ntmps4
    go_wp2_with fail
    go_loopw [15] (fun i wr => ∃ k : Nat, k ≤ ss.length ∧ i = .int .i64 k ∧ (∀ j, (h : j < ss.length) → j < k → ss[j].length ≤ 100) ∧ Below w.heap.size w wr)
      (fun i _ => ss.length - (intOf i).toNat)
    case atStart => exact ⟨0, Nat.zero_le _, rfl, fun j _ h => by omega, Below.refl _ _⟩
    case round =>
      obtain ⟨k, hk, rfl, hw, hb⟩ := hrel
      rename World => w0
      have HW := Lib.hid hw; have HB := Lib.hid hb
      clear hw hb
      by_cases hlt : k < ss.length
      · obtain ⟨b, o, B, cb, rfl, e1, l1, l1', pb⟩ := (H.out.below HB.out).row hlt
        have HW2 : Hid (ss[k].length ≤ 100 → ∀ j, (h : j < ss.length) → j < k + 1 → ss[j].length ≤ 100) := Lib.hid fun hx j hj hjk => by
          by_cases e : j = k
          · subst e; exact hx
          · exact HW.out j hj (by omega)
        have hlx : ss[k].length ≤ 9223372036854775807 := by unfold maxLen at l1'; omega
        clear pb HW
        generalize ss[k] = x at *
        by_cases hx : 100 < x.length
        · clear HW2
          go_wp2_with fail
          refine (alive_any _).mono ?_
          rintro e w1 ⟨rfl, hb1⟩
          go_wp2
          go_ret
          exact ⟨rfl, bstep HB.out hb1⟩
        · have HF := Lib.hid (HW2.out (by omega))
          clear HW2
          go_wp2
          go_roundw
          case rel => exact ⟨k + 1, by omega, by go_num, HF.out, HB.out⟩
          case measure => simp [intOf] <;> omega
      · obtain rfl : k = ss.length := by omega
        have HS : Hid (∀ x ∈ ss, x.length ≤ 100) := Lib.hid fun x hx => by
          obtain ⟨j, hj, rfl⟩ := List.mem_iff_getElem.1 hx
          exact HW.out j hj hj
        have C1 := Lib.hid (fun W t (ht : Crc.Tab W t) h => Entry.get_any t A ss c W ht h hc hc2 (by omega) (fit_small HS.out))
        have C2 := Lib.hid (fun W h => R18.get_any A ss c W h (by omega) (fun x hx => by have := HS.out x hx; omega))
        have C3 := Lib.hid (fun W L l d h1 h2 h3 h4 => R18.are_any A ss c L l d W h1 h2 h3 (by omega) true h4)
        have HGO : Hid (∀ l ok, Got ss l ok → l.length ≤ 15000 ∧ (ok = true → Are ss l)) := Lib.hid fun l ok h => by
          rcases h with ⟨rfl, h⟩ | ⟨rfl, rfl, h⟩
          · exact ⟨by have := h.1.few; omega, fun _ => h⟩
          · exact ⟨by simp, fun e => by cases e⟩
        clear HW HS
        go_wp2_with fail
        refine (Crc.new_any _).mono ?_
        rintro e w1 ⟨t, rfl, ht, hb1⟩
        have HT := Lib.hid ht
        have HB1 := Lib.hid (bstep HB.out hb1)
        clear ht hb1 HB
        go_wp2_with fail
        refine (C1.out w1 t HT.out (H.out.below HB1.out)).mono ?_
        rintro e w2 ⟨l, ok, X, d, rfl, d1, d2, r2, g2, hb2⟩
        have HR2 := Lib.hid r2
        have HG2 := Lib.hid g2
        have HB2 := Lib.hid (bstep HB1.out hb2)
        clear r2 g2 hb2 HB1 C1 HT
        go_wp2_with fail
        refine (C2.out w2 (H.out.below HB2.out)).mono ?_
        rintro e w3 ⟨l', ok', Y, f, rfl, f1, f2, r3, g3, hb3⟩
        obtain ⟨rfl, rfl⟩ := HG2.out.one g3
        obtain ⟨hl50, ha⟩ := HGO.out l ok HG2.out
        have HA := Lib.hid ha
        have HY := Lib.hid r3
        have HX := Lib.hid (HR2.out.below hb3)
        have HB3 := Lib.hid (bstep HB2.out hb3)
        clear r3 g3 hb3 HB2 C2 HGO HR2 HG2 ha
        have C4 := Lib.hid (fun W h1 h2 => R18.same_any X Y l l d f W h1 h2 (by omega) (by omega))
        rw [R18.sameC_self] at C4
        cases ok
        · go_wp2_with fail
          refine (C4.out w3 HX.out HY.out).mono ?_
          rintro e w4 ⟨rfl, q, rfl⟩
          go_wp2_with fail
          refine (alive_any _).mono ?_
          rintro e w5 ⟨rfl, hb5⟩
          go_wp2
          go_ret
          exact ⟨rfl, bstep (bstep HB3.out (bdraw _ _)) hb5⟩
        · have HARE := Lib.hid (HA.out rfl)
          go_wp2_with fail
          refine (C3.out w3 X l d (H.out.below HB3.out) HX.out (by omega) ⟨fun _ => HARE.out, fun _ => trivial⟩).mono ?_
          rintro e w4 ⟨rfl, hb4⟩
          have HX4 := Lib.hid (HX.out.below hb4)
          have HY4 := Lib.hid (HY.out.below hb4)
          have HB4 := Lib.hid (bstep HB3.out hb4)
          clear hb4 HX HY HB3
          go_wp2_with fail
          refine (C4.out w4 HX4.out HY4.out).mono ?_
          rintro e w5 ⟨rfl, q, rfl⟩
          go_wp2_with fail
          refine (alive_any _).mono ?_
          rintro e w6 ⟨rfl, hb6⟩
          go_wp2
          go_ret
          exact ⟨rfl, bstep (bstep HB4.out (bdraw _ _)) hb6⟩
end Go.Proofs.Ytkponedbncifcaa.Law18
