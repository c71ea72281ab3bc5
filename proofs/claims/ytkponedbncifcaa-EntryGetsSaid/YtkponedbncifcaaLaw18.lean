/- the walks of layer 18's laws: whether changes are few, the document's example, what any sectors are -/
import Derived.Test.YtkponedbncifcaaMRE
set_option maxRecDepth 100000
namespace Go.Proofs.Ytkponedbncifcaa.Law18
open Go.RowKit EntM Entry

/-- what the law asks of changes: not too much -/
def fewB (l : List Ch) : Bool := decide ((∀ x ∈ l, x.data.length ≤ 100) ∧ l.length ≤ 50)
theorem fewB_iff (l : List Ch) : fewB l = true ↔ (∀ i, (h : i < l.length) → l[i].data.length ≤ 100) ∧ l.length ≤ 50 := by
  unfold fewB
  rw [decide_eq_true_eq]
  refine and_congr_left fun _ => ⟨fun h i hi => h _ (List.getElem_mem hi), fun h x hx => ?_⟩
  obtain ⟨i, hi, rfl⟩ := List.mem_iff_getElem.1 hx
  exact h i hi
set_option maxHeartbeats 2000000 in
theorem few_any (A : Option Addr) (l : List Ch) (c : Nat) (w : World) (h : ChsAt w A l) (hl : l.length ≤ 9223372036854775807) :
    Calls Try.prog 5 #[.slice A l.length c] w fun e w' => e = .returned (.bool (fewB l)) ∧ Below w.heap.size w w' := by
  go_enter Try.func5, Try.ntmps5
  go_wp2
  go_loopw [7] (fun i wr => ∃ k : Nat, k ≤ l.length ∧ i = .int .i64 k ∧ (∀ j, (h : j < l.length) → j < k → l[j].data.length ≤ 100) ∧ Below w.heap.size w wr)
    (fun i _ => l.length - (intOf i).toNat)
  case atStart => exact ⟨0, Nat.zero_le _, rfl, fun j _ h => by omega, Below.refl _ _⟩
  case round =>
    obtain ⟨k, hk, rfl, hw, hb⟩ := hrel
    rename World => w0
    have HW := Lib.hid hw
    clear hw
    by_cases hlt : k < l.length
    · obtain ⟨b, o, B, cb, hA, ha⟩ := h.below hb k hlt
      subst hA
      have e0 := ha.c0; have e1 := ha.c1
      have hlx : l[k].data.length ≤ 9223372036854775807 := by have h1 := ha.h1; have h2 := ha.h2; unfold maxLen at h2; omega
      have g1 : l[k].data.length ≤ 100 → ∀ j, (h : j < l.length) → j < k + 1 → l[j].data.length ≤ 100 := fun hx j hj hjk => by
        by_cases e : j = k
        · subst e; exact hx
        · exact HW.out j hj (by omega)
      have g2 : 100 < l[k].data.length → fewB l = false := fun hx => by
        rcases hq : fewB l with _ | _
        · rfl
        · have := ((fewB_iff l).1 hq).1 k hlt; omega
      have G1 := Lib.hid g1; have G2 := Lib.hid g2
      clear g1 g2 ha
      by_cases hx : 100 < l[k].data.length
      · have hf := G2.out hx
        have HF := Lib.hid hf
        clear hf
        go_wp2
        go_ret
        exact ⟨ret_bool HF.out.symm, hb.alloc hb.size _⟩
      · have hf := G1.out (by omega)
        have HF := Lib.hid hf
        clear hf
        go_wp2
        go_roundw
        case rel => exact ⟨k + 1, by omega, by go_num, HF.out, hb.alloc hb.size _⟩
        case measure => simp [intOf] <;> omega
    · obtain rfl : k = l.length := by omega
      have hf : fewB l = decide ((l.length : Int) ≤ 50) := by
        rw [Bool.eq_iff_iff, fewB_iff, decide_eq_true_eq]
        constructor
        · rintro ⟨_, h2⟩; omega
        · intro h2; exact ⟨fun i hi => HW.out i hi hi, by omega⟩
      have HF := Lib.hid hf
      clear hf
      go_wp2
      go_ret
      exact ⟨ret_bool HF.out.symm, hb⟩
theorem fit_put {b : List UInt8} (hb : bodies b ≤ 255) (more : List (List UInt8)) : Fit (putB b ++ more) := fun s rest e => by
  unfold putB at e
  rw [List.cons_append] at e
  injection e with e1 e2
  subst e1; subst e2
  rw [hnum_head b hb, SecM.sec_len _ (by rw [head_len]; omega)]
  refine ⟨by omega, fun i hi h => ?_⟩
  rw [List.getElem_append_left (by simpa using h)]
  simp only [List.getElem_map, List.getElem_range]
  rw [SecM.sec_len _ (body_len b i)]; omega
/-- the document's example -/
def ex : List Ch := [⟨40, []⟩]
theorem ex_may : May ex := (checkV_may ex).1 (by decide +kernel)
theorem ex_put : putV ex = put ex := putV_may ex_may
theorem ex_len : (put ex).length = 2 := by rw [put_length]; decide +kernel
set_option maxHeartbeats 2000000 in
theorem alive_any (w : World) : Calls Try.prog 6 #[] w fun e w' => e = .returned (.bool true) ∧ Below w.heap.size w w' := by
  have C1 := Lib.hid (fun W t (ht : Crc.Tab W t) A c (h : ChsAt W A ex) => Entry.put_any t A ex c W ht h (by unfold ex; simp))
  have hf := fit_put (b := text ex) (by have := ex_may.bodies; omega) []
  rw [List.append_nil] at hf
  have C2 := Lib.hid (fun W t (ht : Crc.Tab W t) A c (h : RowsAt W A (put ex)) h1 h2 => Entry.get_any t A (put ex) c W ht h h1 h2 (by rw [ex_len]; omega) hf)
  have HGO : Hid (∀ l ok, Got (put ex) l ok → l = ex ∧ ok = true) := Lib.hid fun l ok h => by
    have k := Are.back ex_may []
    rw [List.append_nil] at k
    exact h.one (.inl ⟨rfl, k⟩)
  have hc : checkV ex = 0 := (checkV_may ex).2 ex_may
  have HX : Hid (∀ W : World, ChsAt (W.alloc (.cells #[.int .i64 40, .slice none 0 0] 43)) (some ⟨W.heap.size, 0, none⟩) ex) := Lib.hid fun W => ChsAt.one W ⟨40, []⟩ none 0 43 (Nat.le_refl _) (Nat.zero_le _) (BytesAt.nil _ _) (by unfold AtIn; simp)
  have HXL : Hid (∀ W A, ChsAt W A ex → ∃ b o B c, A = some ⟨b, o, none⟩ ∧ W.cell? ⟨b, o, none⟩ = some (.int .i64 40) ∧ W.cell? ⟨b, o + 1, none⟩ = some (.slice B 0 c)) := Lib.hid fun W A h => by
    obtain ⟨b, o, B, c, e, h0⟩ := h 0 (by unfold ex; simp)
    have k0 := h0.c0; have k1 := h0.c1
    rw [show o + 0 * 2 = o from by omega] at k0 k1
    exact ⟨b, o, B, c, e, k0, k1⟩
  rw [ex_put, hc] at C1
  unfold RetPut at C1
  rw [ex_len] at C1 C2
  unfold RetGot at C2
  have hex : ex.length = 1 := rfl
  rw [hex] at C1
  generalize put ex = P at *
  clear hf hc
  go_enter Try.func6, Try.ntmps6
  go_wp2_with fail
  refine (Crc.new_any _).mono ?_
  rintro e w1 ⟨t, rfl, ht, hb1⟩
  have HX1 := Lib.hid (HX.out w1)
  have HT := Lib.hid (ht.below (balloc w1 (.cells #[.int .i64 40, .slice none 0 0] 43)))
  have HB1 := Lib.hid (bstep hb1 (balloc w1 (.cells #[.int .i64 40, .slice none 0 0] 43)))
  clear ht hb1 HX
  go_wp2_with fail
  refine (C1.out _ t HT.out _ 1 HX1.out).mono ?_
  rintro e w2 ⟨X, d, rfl, d1, d2, r2, hb2⟩
  have HR2 := Lib.hid r2
  have HT2 := Lib.hid (HT.out.below hb2)
  have HB2 := Lib.hid (bstep HB1.out hb2)
  clear r2 hb2 HX1 HB1 HT C1
  go_wp2_with fail
  refine (C2.out w2 t HT2.out X d HR2.out d1 d2).mono ?_
  rintro e w3 ⟨l, ok, Y, f, rfl, f1, f2, r3, g3, hb3⟩
  obtain ⟨rfl, rfl⟩ := HGO.out l ok g3
  obtain ⟨b, o, B, cb, rfl, k0, k1⟩ := HXL.out w3 Y r3
  have HB3 := Lib.hid (bstep HB2.out hb3)
  rw [hex] at f1 ⊢
  clear r3 g3 hb3 HB2 C2 HGO HXL HT2 HR2
  go_wp2_with fail
  refine (Entry.most_any _).mono ?_
  rintro e w4 ⟨rfl, rfl⟩
  go_wp2
  go_ret
  exact ⟨rfl, HB3.out⟩
end Go.Proofs.Ytkponedbncifcaa.Law18
