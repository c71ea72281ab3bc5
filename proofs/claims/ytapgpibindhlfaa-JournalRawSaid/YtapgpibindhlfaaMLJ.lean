/- merged: Law19, Law19A -/
import Derived.Test.YtapgpibindhlfaaMJO
import Derived.Test.YtapgpibindhlfaaMRJ
import Derived.Test.YtapgpibindhlfaaCrc
import Derived.Test.YtapgpibindhlfaaR01

/- the walks of layer 19's laws: whether changes are few, the document's example, disks of some sectors -/
set_option maxRecDepth 100000
namespace Go.Proofs.Ytapgpibindhlfaa.Law19
open Go.RowKit EntM DiskM JourM Disk Jour
open Law16 (Fine nrm)

/-- what the law asks of changes: not too much -/
def fewB (l : List Ch) : Bool := decide ((∀ x ∈ l, x.data.length ≤ 100) ∧ l.length ≤ 20)
theorem fewB_iff (l : List Ch) : fewB l = true ↔ (∀ i, (h : i < l.length) → l[i].data.length ≤ 100) ∧ l.length ≤ 20 := by
  unfold fewB
  rw [decide_eq_true_eq]
  refine and_congr_left fun _ => ⟨fun h i hi => h _ (List.getElem_mem hi), fun h x hx => ?_⟩
  obtain ⟨i, hi, rfl⟩ := List.mem_iff_getElem.1 hx
  exact h i hi
set_option maxHeartbeats 2000000 in
theorem few_any (A : Option Addr) (l : List Ch) (c : Nat) (w : World) (h : ChsAt w A l) (hl : l.length ≤ 9223372036854775807) :
    Calls Try.prog 5 #[.slice A l.length c] w fun e w' => e = .returned (.bool (fewB l)) ∧ Below w.heap.size w w' := by
  go_enter Try.func5, Try.ntmps5
  go_wp2
  go_loopw [7] (fun i wr => ∃ k : Nat, k ≤ l.length ∧ i = .int .i64 k ∧ (∀ j, (h : j < l.length) → j < k → l[j].data.length ≤ 100) ∧ Below w.heap.size w wr)
    (fun i _ => l.length - (intOf i).toNat)
  case atStart => exact ⟨0, Nat.zero_le _, rfl, fun j _ h => by omega, Below.refl _ _⟩
  case round =>
    obtain ⟨k, hk, rfl, hw, hb⟩ := hrel
    rename World => w0
    have HW := Lib.hid hw
    clear hw
    by_cases hlt : k < l.length
    · obtain ⟨b, o, B, cb, hA, ha⟩ := h.below hb k hlt
      subst hA
      have e0 := ha.c0; have e1 := ha.c1
      have hlx : l[k].data.length ≤ 9223372036854775807 := by have h1 := ha.h1; have h2 := ha.h2; unfold maxLen at h2; omega
      have g1 : l[k].data.length ≤ 100 → ∀ j, (h : j < l.length) → j < k + 1 → l[j].data.length ≤ 100 := fun hx j hj hjk => by
        by_cases e : j = k
        · subst e; exact hx
        · exact HW.out j hj (by omega)
      have g2 : 100 < l[k].data.length → fewB l = false := fun hx => by
        rcases hq : fewB l with _ | _
        · rfl
        · have := ((fewB_iff l).1 hq).1 k hlt; omega
      have G1 := Lib.hid g1; have G2 := Lib.hid g2
      clear g1 g2 ha
      by_cases hx : 100 < l[k].data.length
      · have hf := G2.out hx
        have HF := Lib.hid hf
        clear hf
        go_wp2
        go_ret
        exact ⟨ret_bool HF.out.symm, hb.alloc hb.size _⟩
      · have hf := G1.out (by omega)
        have HF := Lib.hid hf
        clear hf
        go_wp2
        go_roundw
        case rel => exact ⟨k + 1, by omega, by go_num, HF.out, hb.alloc hb.size _⟩
        case measure => simp [intOf] <;> omega
    · obtain rfl : k = l.length := by omega
      have hf : fewB l = decide ((l.length : Int) ≤ 20) := by
        rw [Bool.eq_iff_iff, fewB_iff, decide_eq_true_eq]
        constructor
        · rintro ⟨_, h2⟩; omega
        · intro h2; exact ⟨fun i hi => HW.out i hi hi, by omega⟩
      have HF := Lib.hid hf
      clear hf
      go_wp2
      go_ret
      exact ⟨ret_bool HF.out.symm, hb⟩

/-! the document's example -/
theorem runW_count {n : Nat} {m : Dk} {cs : List Ch} (h : ∀ c ∈ cs, Fits n c) (hb : m.b.length = 64 * n) (k : Nat) (hl : m.left = ((cs.length + k : Nat) : Int)) (hd : m.dead = false) :
    runW m cs = (⟨apply m.b cs, (k : Int), false⟩, true) := by
  induction cs generalizing m with
  | nil =>
    obtain ⟨b, l, d⟩ := m
    simp only [List.length_nil] at hd hl
    subst hd
    rw [hl, Nat.zero_add]
    rfl
  | cons c cs ih =>
    have hf := h c (by simp)
    have h0 := hf.at0
    have hn := hf.atn
    rw [List.length_cons] at hl
    have hw : m.write c.at_ c.data = (⟨wr m.b c, m.left - 1, false⟩, true) := by
      unfold Dk.write Dk.may Dk.off
      have e1 : isS m.b c.at_ = true := decide_eq_true (by rw [hb]; omega)
      rw [e1, hf.data, hd, decide_eq_false (by omega), if_pos (by rfl), if_neg (by decide), if_pos (by omega)]
      rfl
    rw [runW_cons, hw, if_pos (by rfl)]
    exact ih (m := ⟨wr m.b c, m.left - 1, false⟩) (fun c hc => h c (by simp [hc])) (hf.len hb) (by show m.left - 1 = _; omega) rfl
theorem writes_fits {n : Nat} {l : List Ch} (hr : Right n l) : ∀ c ∈ writes l, Fits n c := fun c hc => by
  have hn := hr.there.1
  unfold writes at hc
  split at hc
  · simp at hc
  · rcases List.mem_append.1 hc with hc | hc
    · exact firsts_fits hr c (by unfold firsts; exact List.mem_append.2 (.inl hc))
    · rcases List.mem_cons.1 hc with hc | hc
      · exact firsts_fits hr c (by unfold firsts; rw [hc]; simp)
      · rcases List.mem_append.1 hc with hc | hc
        · exact hr.fits c hc
        · rcases List.mem_cons.1 hc with rfl | hc
          · exact ⟨by simp, by simp; omega, rfl⟩
          · have hbl := JourM.bodies_le hr.may
            simp only [List.mem_map, List.mem_range] at hc
            obtain ⟨j, hj, rfl⟩ := hc
            exact ⟨by simp only; omega, by simp only; omega, rfl⟩
theorem do_clean {n : Nat} {m : Dk} {P : List Stp} (hb : m.b.length = 64 * n) (h : (runS m (P ++ (places n).map .clr)).2 = true) : cleanV n (runS m (P ++ (places n).map .clr)).1.b = true := by
  rw [runS_append] at h ⊢
  by_cases h1 : (runS m P).2 = true
  · rw [if_pos h1] at h ⊢
    refine cleanV_iff.2 fun i k1 k2 k3 => clr_clear (n := n) _ (fun i hi => (places_in hi).2.2) (by rw [runS_len]; exact hb) h i k3 (.inl ?_)
    unfold places nj
    simp only [List.mem_map, List.mem_range]
    exact ⟨i - 1, by omega, by omega⟩
  · rw [if_neg h1] at h; cases h
def ex : List Ch := [⟨36, []⟩]
theorem ex_right : Right 40 ex := ⟨(checkV_may ex).1 (by decide +kernel), by decide, by intro c hc; unfold ex at hc; simp at hc; subst hc; decide⟩
theorem doS_of {n : Nat} {m : Dk} {l : List Ch} (h : l ≠ []) (hr : Right n l) (hb : m.b.length = 64 * n) (hc : clean m.b) : doS n m l = ((runW m (writes l)).1, if (runW m (writes l)).2 = true then 0 else 15) := by
  unfold doS
  rw [if_neg (by rw [(checkV_may l).2 hr.may]; decide), if_neg (fun k => k hr.there), if_neg h, do_eq h hr hb hc]
theorem clean_noughts : clean (SecM.noughts 2560) := fun i _ h2 => sect_noughts 40 i (by omega)
theorem ex_len : (writes ex).length = 5 := by
  have hb : bodies (text ex) = 1 := by decide +kernel
  unfold writes
  rw [if_neg (by unfold ex; simp), hb]
  rfl
theorem ex_do1 : ∃ b1, doS 40 ⟨SecM.noughts 2560, 5, false⟩ ex = (⟨b1, 0, false⟩, 0) ∧ b1.length = 64 * 40 ∧ cleanV 40 b1 = true := by
  have hne : ex ≠ [] := by unfold ex; simp
  have hl : (SecM.noughts 2560).length = 64 * 40 := SecM.noughts_len _
  have h1 := doS_of (m := ⟨SecM.noughts 2560, 5, false⟩) hne ex_right hl clean_noughts
  have h2 := runW_count (m := ⟨SecM.noughts 2560, 5, false⟩) (writes_fits ex_right) hl 0 (by rw [ex_len]; rfl) rfl
  have h3 := do_eq (m := ⟨SecM.noughts 2560, 5, false⟩) hne ex_right hl clean_noughts
  have h4 := do_clean (n := 40) (m := ⟨SecM.noughts 2560, 5, false⟩) (P := (firsts ex).map .put) hl (by rw [h3, h2])
  rw [h2] at h1
  refine ⟨apply (SecM.noughts 2560) (writes ex), by rw [h1]; rfl, apply_len (writes_fits ex_right) hl, ?_⟩
  rw [h3, h2] at h4
  exact h4
theorem ex_do2 {b1 : List UInt8} (hl : b1.length = 64 * 40) (hc : cleanV 40 b1 = true) : doS 40 ⟨b1, 0, false⟩ ex = (⟨b1, 0, true⟩, 15) := by
  have hne : ex ≠ [] := by unfold ex; simp
  rw [doS_of (m := ⟨b1, 0, false⟩) hne ex_right hl (clean_of (by omega) hc)]
  have h5 := ex_len
  have hf := writes_fits ex_right
  rcases hw : writes ex with _ | ⟨c, cs⟩
  · rw [hw] at h5; cases h5
  · have hfc := hf c (by rw [hw]; simp)
    have h0 := hfc.at0
    have hn := hfc.atn
    have e : (⟨b1, 0, false⟩ : Dk).write c.at_ c.data = (⟨b1, 0, true⟩, false) := by
      unfold Dk.write Dk.may Dk.off
      have e1 : isS b1 c.at_ = true := decide_eq_true (by rw [hl]; omega)
      rw [e1, hfc.data]
      rfl
    rw [runW_cons, e]
    rfl
theorem ex_rec {b1 : List UInt8} (hc : cleanV 40 b1 = true) : recD 40 ⟨b1, -1, false⟩ = (⟨b1, -1, false⟩, true) := rec_clean (by omega) (clean_of (by omega) hc)
set_option maxHeartbeats 4000000 in
theorem alive_any (w : World) : Calls Try.prog 6 #[] w fun e w' => e = .returned (.bool true) ∧ Below w.heap.size w w' := by
  obtain ⟨b1, hd1, hbl, hcl⟩ := ex_do1
  have hd2 := ex_do2 hbl hcl
  have hrc := ex_rec hcl
  have hnew : new_ 40 = ⟨SecM.noughts 2560, -1, false⟩ := rfl
  have hf1 : Fine ⟨SecM.noughts 2560, 5, false⟩ := ⟨(fun e => nomatch e), by show _ ≤ (5 : Int); omega, by show (5 : Int) ≤ _; omega⟩
  have hf2 : Fine ⟨b1, 0, false⟩ := ⟨(fun e => nomatch e), by show _ ≤ (0 : Int); omega, by show (0 : Int) ≤ _; omega⟩
  have hf3 : Fine ⟨b1, -1, false⟩ := ⟨(fun e => nomatch e), by show _ ≤ (-1 : Int); omega, by show (-1 : Int) ≤ _; omega⟩
  have CN := Lib.hid (fun W => new_any 40 W (by omega))
  rw [hnew] at CN
  have CX := Lib.hid (fun W tb p g c A (ht : Crc.Tab W tb) h (hl : ChsP (Off p g) W A ex) => do_any tb p g c 40 ⟨SecM.noughts 2560, 5, false⟩ A ex 1 W ht h (SecM.noughts_len _) (by omega) hf1 hl (by unfold ex; simp))
  rw [hd1] at CX
  have CY := Lib.hid (fun W tb p g c A (ht : Crc.Tab W tb) h (hl : ChsP (Off p g) W A ex) => do_any tb p g c 40 ⟨b1, 0, false⟩ A ex 1 W ht h hbl (by omega) hf2 hl (by unfold ex; simp))
  rw [hd2] at CY
  have CR := Lib.hid (fun W tb p g c (ht : Crc.Tab W tb) h => recover_any tb p g c 40 ⟨b1, -1, false⟩ W ht h hbl (by omega) hf3)
  rw [hrc] at CR
  have CC := Lib.hid (fun W p g c h => clean_any p g c 40 ⟨b1, -1, false⟩ W h hbl (by omega))
  rw [hcl] at CC
  simp only [if_true] at CR
  have hex : ex.length = 1 := rfl
  rw [hex] at CX CY
  have HX : Hid (∀ (W : World) (p g : Nat), ChsP (Off p g) (W.alloc (.cells #[.int .i64 36, .slice none 0 0] 50)) (some ⟨W.heap.size, 0, none⟩) ex) := Lib.hid fun W p g => fun i hi => by
    have h := ChsAt.one W ⟨36, []⟩ none 0 50 (Nat.le_refl _) (Nat.zero_le _) (BytesAt.nil _ _) (by unfold AtIn; simp) i hi
    obtain ⟨b, o, B, c, e, h0⟩ := h
    have e0 : ex[i] = ⟨36, []⟩ := by
      have hi' : i < 1 := hi
      match i, hi' with
      | 0, _ => rfl
    exact ⟨b, o, e, B, c, h0, fun hlen => by rw [e0] at hlen; simp at hlen⟩
  clear hd1 hbl hcl hd2 hrc hnew hf1 hf2 hf3 hex
  go_enter Try.func6, Try.ntmps6
  go_wp2_with fail
  refine (Crc.new_any _).mono ?_
  rintro e w1 ⟨t, rfl, ht, hb1⟩
  have HT1 := Lib.hid ht; have HB1 := Lib.hid hb1
  clear ht hb1
  go_wp2_with fail
  refine (CN.out w1).mono ?_
  rintro e w2 ⟨p, g, c, rfl, hd2, hp, hg, hb2⟩
  have HD2 := Lib.hid hd2
  have hs1 := HB1.out.size
  have HP : Hid (w.heap.size ≤ p ∧ w.heap.size ≤ g ∧ w1.heap.size ≤ p ∧ w1.heap.size ≤ g) := Lib.hid (by omega)
  have HT2 := Lib.hid (HT1.out.below hb2)
  have HTL : Hid (∀ W, Keeps (PG p g) w2 W → Crc.Tab W t) := Lib.hid fun W q i hi => q.cell (HT2.out i hi) (fun e => by
    have h1 := cell_lt (HT1.out i hi)
    simp only at h1
    have := HP.out
    rcases e with e | e <;> (simp only at e; omega))
  have HB2 := Lib.hid (bstep HB1.out hb2)
  clear hd2 hp hg hb2 hs1 CN HT1 HT2 HB1
  go_wp2_with fail
  refine (power_any p g c _ 5 w2 HD2.out).mono ?_
  rintro e w3 ⟨rfl, hd3, hk3⟩
  have HD3 := Lib.hid hd3
  have HK3 : Hid (Keeps (PG p g) w2 w3) := Lib.hid (hk3.mono fun k _ h => .inl h)
  clear hd3 hk3 HD2
  have hb4 := balloc w3 (.cells #[.int .i64 36, .slice none 0 0] 50)
  have HK4 := Lib.hid (HK3.out.trans (.of_below _ hb4))
  have C4 := Lib.hid (CX.out _ t p g c _ (HTL.out _ HK4.out) (HD3.out.below hb4) (HX.out w3 p g))
  clear hb4 CX
  go_wp2_with fail
  refine C4.out.mono ?_
  rintro e w5 ⟨rfl, hd5, hk5⟩
  have HD5 := Lib.hid hd5
  have HK5 := Lib.hid (HK4.out.trans hk5)
  clear hd5 hk5 C4 HK3 HK4 HD3
  have hb6 := balloc w5 (.cells #[.int .i64 36, .slice none 0 0] 50)
  have HK6 := Lib.hid (HK5.out.trans (.of_below _ hb6))
  have C6 := Lib.hid (CY.out _ t p g c _ (HTL.out _ HK6.out) (HD5.out.below hb6) (HX.out w5 p g))
  clear hb6 CY
  go_wp2_with fail
  refine C6.out.mono ?_
  rintro e w7 ⟨rfl, hd7, hk7⟩
  have HD7 := Lib.hid hd7
  have HK7 := Lib.hid (HK6.out.trans hk7)
  clear hd7 hk7 C6 HK5 HK6 HD5
  go_wp2_with fail
  refine (power_any p g c _ (-1) w7 HD7.out).mono ?_
  rintro e w8 ⟨rfl, hd8, hk8⟩
  have HD8 := Lib.hid hd8
  have HK8 : Hid (Keeps (PG p g) w2 w8) := Lib.hid (HK7.out.trans (hk8.mono fun k _ h => .inl h))
  have C9 := Lib.hid (CR.out w8 t p g c (HTL.out _ HK8.out) HD8.out)
  clear hd8 hk8 HD7 HK7 CR
  go_wp2_with fail
  refine C9.out.mono ?_
  rintro e w9 ⟨rfl, hd9, hk9⟩
  have HK9 := Lib.hid (HK8.out.trans hk9)
  have C10 := Lib.hid (CC.out w9 p g c hd9)
  clear hd9 hk9 HD8 HK8 C9 CC HTL HX
  go_wp2_with fail
  refine C10.out.mono ?_
  rintro e w10 ⟨rfl, hb10⟩
  have HBE := Lib.hid (below_keeps HB2.out (HK9.out.trans (.of_below _ hb10)) (fun k hk => by have := HP.out; rcases hk with hk | hk <;> omega) HB2.out.size)
  clear hb10 C10
  go_wp2
  go_ret
  exact ⟨rfl, HBE.out⟩
end Go.Proofs.Ytapgpibindhlfaa.Law19

/- the walks of layer 19's laws: two disks of the same sectors -/
set_option maxRecDepth 100000
namespace Go.Proofs.Ytapgpibindhlfaa.Law19
open Go.RowKit EntM DiskM JourM Disk Jour
open Law16 (Fine nrm)

/-- nothing lies in the journal, as far as there is one -/
def cleanTo (n : Nat) (b : List UInt8) : Prop := ∀ i, 1 ≤ i → i < 34 → i < n → sect b i = SecM.noughts 64
theorem cleanTo_set {n i : Nat} {b s : List UInt8} (hb : b.length = 64 * n) (hi : i < n) (hs : s.length = 64) (ho : i = 0 ∨ 34 ≤ i) (h : cleanTo n b) : cleanTo n (setS b i s) := fun j h1 h2 h3 => by
  rw [sect_other b i j s (by omega) hs (by omega)]
  exact h j h1 h2 h3
theorem write_ever {b s : List UInt8} {n i : Nat} (hb : b.length = 64 * n) (hi : i < n) (hs : s.length = 64) : (⟨b, -1, false⟩ : Dk).write ((i : Nat) : Int) s = (⟨setS b i s, -1, false⟩, true) := by
  have e1 : isS b ((i : Nat) : Int) = true := isS_nat (by omega)
  have e2 : okD s = true := decide_eq_true (.inr hs)
  have := R16.write_goes (m := ⟨b, -1, false⟩) (i := ((i : Nat) : Int)) (d := s) e1 e2 (by simp) rfl
  rw [this, JourM.full_64 hs]
  simp
/-- two disks of these bytes, apart, in new memory -/
structure Pair (w0 : World) (p1 g1 c1 p2 g2 c2 : Nat) (m1 m2 : Dk) (w : World) : Prop where
  d1 : DAt w p1 g1 c1 m1
  d2 : DAt w p2 g2 c2 m2
  n1 : w0.heap.size ≤ p1 ∧ w0.heap.size ≤ g1
  n2 : w0.heap.size ≤ p2 ∧ w0.heap.size ≤ g2
  apart : Off p1 g1 p2 ∧ Off p1 g1 g2
  below : Below w0.heap.size w0 w
theorem Off.sym {p1 g1 p2 g2 : Nat} (h : Off p1 g1 p2 ∧ Off p1 g1 g2) : Off p2 g2 p1 ∧ Off p2 g2 g1 := ⟨⟨fun e => h.1.1 e.symm, fun e => h.2.1 e.symm⟩, fun e => h.1.2 e.symm, fun e => h.2.2 e.symm⟩
theorem Pair.step1 {w0 w w' : World} {p1 g1 c1 p2 g2 c2 : Nat} {m1 m2 m : Dk} (h : Pair w0 p1 g1 c1 p2 g2 c2 m1 m2 w) (hd : DAt w' p1 g1 c1 m) (hk : Keeps (PG p1 g1) w w') : Pair w0 p1 g1 c1 p2 g2 c2 m m2 w' :=
  ⟨hd, h.d2.keep hk h.apart.1.not h.apart.2.not, h.n1, h.n2, h.apart, below_keeps h.below hk (fun k hk => by have := h.n1; rcases hk with hk | hk <;> omega) h.below.size⟩
theorem Pair.step2 {w0 w w' : World} {p1 g1 c1 p2 g2 c2 : Nat} {m1 m2 m : Dk} (h : Pair w0 p1 g1 c1 p2 g2 c2 m1 m2 w) (hd : DAt w' p2 g2 c2 m) (hk : Keeps (PG p2 g2) w w') : Pair w0 p1 g1 c1 p2 g2 c2 m1 m w' :=
  ⟨h.d1.keep hk (Off.sym h.apart).1.not (Off.sym h.apart).2.not, hd, h.n1, h.n2, h.apart, below_keeps h.below hk (fun k hk => by have := h.n2; rcases hk with hk | hk <;> omega) h.below.size⟩
theorem Pair.step {w0 w w' : World} {p1 g1 c1 p2 g2 c2 : Nat} {m1 m2 : Dk} (h : Pair w0 p1 g1 c1 p2 g2 c2 m1 m2 w) (hb : Below w.heap.size w w') : Pair w0 p1 g1 c1 p2 g2 c2 m1 m2 w' :=
  ⟨h.d1.below hb, h.d2.below hb, h.n1, h.n2, h.apart, bstep h.below hb⟩
theorem Pair.lt {w0 w : World} {p1 g1 c1 p2 g2 c2 : Nat} {m1 m2 : Dk} (h : Pair w0 p1 g1 c1 p2 g2 c2 m1 m2 w) : (p1 < w.heap.size ∧ g1 < w.heap.size) ∧ p2 < w.heap.size ∧ g2 < w.heap.size := ⟨h.d1.lt, h.d2.lt⟩
theorem size_small {n : Nat} (h : n ≤ 60) : size (n : Int) ≤ 60 ∧ (0 < n → size (n : Int) = n) := by
  unfold size
  split
  · exact ⟨by omega, fun h => by omega⟩
  · rw [if_neg (by omega)]; exact ⟨by omega, fun _ => by omega⟩
set_option maxHeartbeats 4000000 in
theorem some_any (n : Nat) (A : Option Addr) (bl : List UInt8) (cb : Nat) (w : World) (hn : n ≤ 60) (hA : BytesAt w A bl) (h0 : 0 < bl.length) (hbl : bl.length ≤ 100) :
    Calls Try.prog 8 #[.int .i64 (n : Nat), .slice A bl.length cb] w fun e w' => ∃ p1 g1 c1 p2 g2 c2 b, e = .returned (.tuple #[.pointer (some ⟨p1, 0, none⟩), .pointer (some ⟨p2, 0, none⟩)]) ∧
      Pair w p1 g1 c1 p2 g2 c2 ⟨b, -1, false⟩ ⟨b, -1, false⟩ w' ∧ b.length = 64 * size (n : Int) ∧ cleanTo (size (n : Int)) b := by
  obtain ⟨z, hz⟩ : ∃ z, z = size (n : Int) := ⟨_, rfl⟩
  obtain ⟨hz60, hzn⟩ := size_small hn
  have CN1 := Lib.hid (fun W => new_any (n : Int) W (by omega))
  have CN2 := Lib.hid (fun W => R16.new_any (n : Int) W (by omega))
  have hnew : new_ (n : Int) = ⟨SecM.noughts (64 * z), -1, false⟩ := by rw [hz]; rfl
  have hcl0 : cleanTo z (SecM.noughts (64 * z)) := fun i _ _ h => sect_noughts z i h
  have hl0 : (SecM.noughts (64 * z)).length = 64 * z := SecM.noughts_len _
  rw [hnew] at CN1 CN2
  rw [← hz] at hz60 hzn ⊢
  have CS := Lib.hid (fun W p g c b (hd : DAt W p g c ⟨b, -1, false⟩) (hb : b.length = 64 * z) => size_any p g c ⟨b, -1, false⟩ W hd (by show b.length ≤ _; omega))
  have HZ64 : Hid (∀ b : List UInt8, b.length = 64 * z → b.length / 64 = z) := Lib.hid fun b hb => by omega
  have CW1 := Lib.hid (fun W p g c b (i : Nat) X s cs (hd : DAt W p g c ⟨b, -1, false⟩) (hb : b.length = 64 * z) (hi : i < z) (hX : BytesAt W X s) (hs : s.length = 64) (hp : 0 < s.length → ∀ a, X = some a → a.block ≠ p) => write_any p g c ⟨b, -1, false⟩ ((i : Nat) : Int) X s cs W hd (by show b.length ≤ _; omega) (fun e => nomatch e) ⟨by show _ ≤ (-1 : Int); omega, by show (-1 : Int) ≤ _; omega⟩ (by omega) hX hp (by rw [hs]; unfold maxLen; omega))
  have CW2 := Lib.hid (fun W p g c b (i : Nat) X s cs (hd : DAt W p g c ⟨b, -1, false⟩) (hb : b.length = 64 * z) (hi : i < z) (hX : BytesAt W X s) (hs : s.length = 64) (hp : 0 < s.length → ∀ a, X = some a → a.block ≠ p ∧ a.block ≠ g) => R16.write_any p g c ⟨b, -1, false⟩ ((i : Nat) : Int) X s cs W hd (by show b.length ≤ _; omega) ⟨by show _ ≤ (-1 : Int); omega, by show (-1 : Int) ≤ _; omega⟩ hX hp (by rw [hs]; unfold maxLen; omega))
  have HWE : Hid (∀ (b s : List UInt8) (i : Nat), b.length = 64 * z → i < z → s.length = 64 → (⟨b, -1, false⟩ : Dk).write ((i : Nat) : Int) s = (⟨setS b i s, -1, false⟩, true)) := Lib.hid fun b s i hb hi hs => write_ever hb hi hs
  have HCS : Hid (∀ (b s : List UInt8) (i : Nat), b.length = 64 * z → i < z → s.length = 64 → (i = 0 ∨ 34 ≤ i) → cleanTo z b → (setS b i s).length = 64 * z ∧ cleanTo z (setS b i s)) := Lib.hid fun b s i hb hi hs ho hc => ⟨by rw [setS_len b i s (by omega) hs, hb], cleanTo_set hb hi hs ho hc⟩
  have HA := Lib.hid hA
  have HC0 := Lib.hid hcl0; have HL0 := Lib.hid hl0
  have hmk : ∀ W : World, (Instr.makeSlice 23 (.int .i64 64) (.int .i64 64)).run Try.prog W = .ok (.slice (some ⟨W.heap.size, 0, none⟩) 64 64) (W.alloc (.cells (cells (List.replicate 64 0)) 5)) := fun W => make_u8 64 (by omega) W
  have HOM := Lib.hid (fun W : World => Own.make W 64 (by unfold maxLen; omega))
  generalize cells (List.replicate 64 0) = ZC at *
  obtain ⟨Z0, hZ0⟩ : ∃ Z0 : List UInt8, Z0 = List.replicate 64 0 := ⟨_, rfl⟩
  have HZ0 : Hid (Z0.length = 64) := Lib.hid (by rw [hZ0]; simp)
  rw [← hZ0] at HOM
  clear hZ0
  obtain ⟨bn, hbn⟩ : ∃ bn, bn = bl.length := ⟨_, rfl⟩
  have HBN := Lib.hid hbn
  rw [← hbn] at h0 hbl ⊢
  generalize SecM.noughts (64 * z) = N0 at *
  clear hnew hcl0 hl0 hA hz hbn
  go_enter Try.func8, Try.ntmps8
  go_wp2_with fail
  refine (CN1.out w).mono ?_
  rintro e w1 ⟨p1, g1, c1, rfl, hd1, hp1, hg1, hb1⟩
  have HD1 := Lib.hid hd1; have HB1 := Lib.hid hb1
  have hlt1 := hd1.lt
  clear hd1 hb1 CN1
  go_wp2_with fail
  refine (CN2.out w1).mono ?_
  rintro e w2 ⟨p2, g2, c2, rfl, hd2, hp2, hg2, hb2⟩
  have hs1 := HB1.out.size
  have HPR : Hid (Pair w p1 g1 c1 p2 g2 c2 ⟨N0, -1, false⟩ ⟨N0, -1, false⟩ w2) := Lib.hid ⟨HD1.out.below hb2, hd2, ⟨hp1, hg1⟩, ⟨by omega, by omega⟩, ⟨⟨by omega, by omega⟩, by omega, by omega⟩, bstep HB1.out hb2⟩
  clear hd2 hb2 CN2 HD1 HB1 hlt1 hp1 hg1 hp2 hg2 hs1
  go_wp2
  go_loopw [8] (fun iv wr => ∃ (i : Nat) (b : List UInt8), i ≤ 60 ∧ iv = .int .i64 (i : Nat) ∧ Pair w p1 g1 c1 p2 g2 c2 ⟨b, -1, false⟩ ⟨b, -1, false⟩ wr ∧ b.length = 64 * z ∧ cleanTo z b)
    (fun iv _ => 60 - (intOf iv).toNat)
  case atStart => exact ⟨0, N0, by omega, rfl, HPR.out, HL0.out, HC0.out⟩
  case round =>
    obtain ⟨i, b, hi, rfl, hpr, hbl2, hcl⟩ := hrel
    rename World => w3
    have HP := Lib.hid hpr; have HBL := Lib.hid hbl2; have HCL := Lib.hid hcl
    have C := CS.out w3 p1 g1 c1 b hpr.d1 hbl2
    rw [show (⟨b, -1, false⟩ : Dk).b.length / 64 = z from HZ64.out b hbl2] at C
    have CZ := Lib.hid C
    clear hpr hbl2 hcl C HPR HL0 HC0
    by_cases hiz : i < z
    · by_cases hin : i < n
      · by_cases hout : i = 0 ∨ 34 ≤ i
        · have hq : (((i : Nat) : Int) == 0) = true ∨ ((((i : Nat) : Int) == 0) = false ∧ decide ((34 : Int) ≤ (i : Int)) = true) := by
            rcases hout with h | h
            · left; rw [h]; rfl
            · right; exact ⟨by rw [beq_eq_false_iff_ne]; omega, decide_eq_true (by omega)⟩
          have hq2 : decide ((0 : Int) < (bn : Int)) = true := decide_eq_true (by omega)
          have HOUT := Lib.hid hout
          have HNB : Hid (((bn : Nat) : Int) ≠ 0) := Lib.hid (by omega)
          clear hout
          have HIN := Lib.hid hin; have HIZ := Lib.hid hiz
          rcases hq with hq | ⟨hq, hq3⟩
          all_goals
            go_wp2_with fail
            refine CZ.out.mono ?_
            rintro e w4 ⟨rfl, rfl⟩
            have ho0 := HOM.out w3
            have HB5 := Lib.hid (balloc w3 (.cells ZC 5))
            have HP5 := Lib.hid (HP.out.step HB5.out)
            have hlt := HP.out.lt
            have hwz := HP.out.below.size
            obtain ⟨gs, hgs⟩ : ∃ gs, gs = w3.heap.size := ⟨_, rfl⟩
            have hA5 := HA.out.below (bstep HP.out.below HB5.out)
            have hAl : 0 < bl.length → ∀ a, A = some a → a.block < w.heap.size := fun h a e => HA.out.lt h a e
            have HAL := Lib.hid hAl
            rw [← hgs] at ho0 hlt hwz
            have hgn : gs < (w3.alloc (.cells ZC 5)).heap.size := by rw [hgs]; simp
            have HO0 := Lib.hid ho0; have HA5 := Lib.hid hA5
            clear ho0 hA5 hAl HP CZ
            go_wp2_with fail
            rw [← hgs]
            generalize w3.alloc (.cells ZC 5) = w5 at *
            clear hmk hgs HB5
            go_loopw [40] (fun kv wr => ∃ (k : Nat) (sl : List UInt8), k ≤ 64 ∧ kv = .int .i64 (k : Nat) ∧ sl.length = 64 ∧ Own wr 0 (.slice (some ⟨gs, 0, none⟩) 64 64) sl ∧ Keeps (fun j => j = gs) w5 wr)
              (fun kv _ => 64 - (intOf kv).toNat)
            case atStart => exact ⟨0, Z0, by omega, rfl, HZ0.out, HO0.out, .refl _ _⟩
            case round =>
              obtain ⟨k, sl, hk, rfl, hsl, hown, hkp⟩ := hrel
              rename World => w6
              have HSL := Lib.hid hsl; have HO6 := Lib.hid hown; have HK6 := Lib.hid hkp
              clear hsl hkp HO0
              by_cases hlt2 : k < 64
              · obtain ⟨g', cap', hv, _, hgl, hcell, hfr, hset⟩ := hown.place (i := k) (by rw [HSL.out]; exact hlt2)
                injection hv with hv _ _
                injection hv with hv
                injection hv with hv
                subst hv
                obtain ⟨x, hx⟩ : ∃ x, x = i + k := ⟨_, rfl⟩
                obtain ⟨y, hy⟩ : ∃ y, y = x % bn := ⟨_, rfl⟩
                have hyl : y < bn := by rw [hy]; exact Nat.mod_lt _ h0
                have hyl2 : y < bl.length := by rw [← HBN.out]; exact hyl
                obtain ⟨ab, ao, hAe, hbc⟩ := HA5.out y hyl2
                have hab := HAL.out (by omega) _ hAe
                simp only at hab
                have hbc6 := HK6.out.cell hbc (by show ¬ ab = gs; omega)
                subst hAe
                have i1 : IntKind.i64.wrap (((i : Nat) : Int) + ((k : Nat) : Int)) = ((x : Nat) : Int) := by rw [IntWalk.i64_in _ (by omega)]; omega
                have i2 : (((x : Nat) : Int)).tmod ((bn : Nat) : Int) = ((y : Nat) : Int) := by rw [hy]; rfl
                have i3 : (((x : Nat) : Int)) % ((bn : Nat) : Int) = ((y : Nat) : Int) := by rw [hy]; rfl
                have hnb : ¬ ((bn : Nat) : Int) = 0 := by omega
                have hSET : Hid (∀ u : UInt8, Own (w6.setCell ⟨gs, k, none⟩ (.int .u8 (u.toNat : Nat))) 0 (.slice (some ⟨gs, 0, none⟩) 64 64) (sl.set k u)) := Lib.hid fun u => hset 0 u
                have hKS : Hid (∀ u : Value, Keeps (fun j => j = gs) w5 (w6.setCell ⟨gs, k, none⟩ u)) := Lib.hid fun u => HK6.out.trans (.set _ _ _ _ rfl)
                have hSL2 : Hid (∀ u : UInt8, (sl.set k u).length = 64) := Lib.hid fun u => by rw [List.length_set]; exact HSL.out
                obtain ⟨u, hu⟩ : ∃ u, u = bl[y] := ⟨_, rfl⟩
                rw [← hu] at hbc6
                generalize sl[k] = v0 at *
                clear hset hown hx hy hab hbc hu hgl
                go_wp2
                go_roundw
                case rel => exact ⟨k + 1, sl.set k u, by omega, by go_num, hSL2.out u, hSET.out u, hKS.out _⟩
                case measure => simp [intOf] <;> omega
              · have HP6 : Hid (Pair w p1 g1 c1 p2 g2 c2 ⟨b, -1, false⟩ ⟨b, -1, false⟩ w6) := Lib.hid
                  ⟨HP5.out.d1.keep HK6.out (by show ¬ p1 = gs; omega) (by show ¬ g1 = gs; omega), HP5.out.d2.keep HK6.out (by show ¬ p2 = gs; omega) (by show ¬ g2 = gs; omega), HP5.out.n1, HP5.out.n2, HP5.out.apart, below_keeps HP5.out.below HK6.out (fun j hj => by subst hj; exact hwz) HP5.out.below.size⟩
                obtain ⟨AX, dX, hv, q1, q2, hX⟩ := HO6.out.bytes
                injection hv with hv1 hv2 hv3
                subst hv1; subst hv3
                have HX := Lib.hid hX
                have C1 := CW1.out w6 p1 g1 c1 b i (some ⟨gs, 0, none⟩) sl 64 HP6.out.d1 HBL.out HIZ.out hX HSL.out (fun _ a e => by injection e with e; subst e; show ¬ gs = p1; omega)
                rw [HWE.out b sl i HBL.out HIZ.out HSL.out, HSL.out] at C1
                have C1h := Lib.hid C1
                have HNEW := Lib.hid (HCS.out b sl i HBL.out HIZ.out HSL.out HOUT.out HCL.out)
                clear hX C1 hown hv2 q1 q2 HO6 HK6
                go_wp2_with fail
                refine C1h.out.mono ?_
                rintro e w7 ⟨rfl, hd7, hk7⟩
                have HP7 := Lib.hid (HP6.out.step1 hd7 hk7)
                have hX7 := hk7.bytes HX.out (fun a e => by injection e with e; subst e; exact Off.not ⟨by show ¬ gs = p1; omega, by show ¬ gs = g1; omega⟩)
                have C2 := CW2.out w7 p2 g2 c2 b i (some ⟨gs, 0, none⟩) sl 64 HP7.out.d2 HBL.out HIZ.out hX7 HSL.out (fun _ a e => by injection e with e; subst e; exact ⟨by show ¬ gs = p2; omega, by show ¬ gs = g2; omega⟩)
                rw [HWE.out b sl i HBL.out HIZ.out HSL.out, HSL.out] at C2
                have C2h := Lib.hid C2
                clear hd7 hk7 hX7 C2 C1h
                go_wp2_with fail
                refine C2h.out.mono ?_
                rintro e w8 ⟨rfl, hd8, hk8⟩
                have HP8 := Lib.hid (HP7.out.step2 hd8 hk8)
                clear hd8 hk8 C2h
                go_wp2
                go_roundw
                case rel => exact ⟨i + 1, setS b i sl, by omega, by go_num, HP8.out, HNEW.out.1, HNEW.out.2⟩
                case measure => simp [intOf] <;> omega
        · have hq : (((i : Nat) : Int) == 0) = false := by rw [beq_eq_false_iff_ne]; omega
          have hq3 : decide ((34 : Int) ≤ (i : Int)) = false := decide_eq_false (by omega)
          go_wp2_with fail
          refine CZ.out.mono ?_
          rintro e w4 ⟨rfl, rfl⟩
          go_wp2
          go_roundw
          case rel => exact ⟨i + 1, b, by omega, by go_num, HP.out, HBL.out, HCL.out⟩
          case measure => simp [intOf] <;> omega
      · go_wp2_with fail
        refine CZ.out.mono ?_
        rintro e w4 ⟨rfl, rfl⟩
        go_wp2
        go_ret2
        exact ⟨p1, g1, c1, p2, g2, c2, b, rfl, HP.out, HBL.out, HCL.out⟩
    · go_wp2_with fail
      refine CZ.out.mono ?_
      rintro e w4 ⟨rfl, rfl⟩
      go_wp2
      go_ret2
      exact ⟨p1, g1, c1, p2, g2, c2, b, rfl, HP.out, HBL.out, HCL.out⟩
end Go.Proofs.Ytapgpibindhlfaa.Law19
