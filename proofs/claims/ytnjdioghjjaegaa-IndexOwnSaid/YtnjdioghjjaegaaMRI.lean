/- merged: R22, R22B, R22C -/
import Derived.Test.YtnjdioghjjaegaaMIZ
import Derived.Test.YtnjdioghjjaegaaSkip

/- the document's own answers of layer 22: less, Find, Drop -/
set_option maxRecDepth 100000
namespace Go.Proofs.Ytnjdioghjjaegaa.R22
open Go.RowKit IdxM Ents Index

/-- texts of a size that a text may have -/
def SaneE (l : List En) : Prop := ∀ x ∈ l, x.name.size ≤ 9223372036854775807
theorem SaneE.drop {l : List En} (h : SaneE l) (i : Nat) : SaneE (drop l i) := fun x hx => by
  unfold IdxM.drop at hx
  rcases List.mem_append.1 hx with q | q
  · exact h x (List.mem_of_mem_take q)
  · exact h x (List.mem_of_mem_drop q)
theorem SaneE.dropK {l : List En} (h : SaneE l) (k : Ky) : SaneE (dropK l k) := by
  unfold IdxM.dropK; split
  · exact h.drop _
  · exact h
theorem SaneE.ins {l : List En} {e : En} (h : SaneE l) (he : e.name.size ≤ 9223372036854775807) : SaneE (ins l e) := fun x hx => by
  unfold IdxM.ins at hx
  rcases List.mem_append.1 hx with q | q
  · exact h x (List.mem_of_mem_take q)
  · rcases List.mem_cons.1 q with q | q
    · rw [q]; exact he
    · exact h x (List.mem_of_mem_drop q)
theorem SaneE.putK {l : List En} {e : En} (h : SaneE l) (he : e.name.size ≤ 9223372036854775807) : SaneE (putK l e) := (h.dropK _).ins he
theorem find_here {l : List En} {k : Ky} (hr : Rise l) {i : Nat} (hi : i < l.length) (e : l[i].key = k) (hall : ∀ j, (h : j < l.length) → j < i → l[j].key ≠ k) : has l k = true ∧ plc l k = i := by
  have hf : find En.key l k = some i := by
    unfold find
    rw [List.findIdx?_eq_some_iff_getElem]
    exact ⟨hi, by simpa using e, fun j hj => by simpa using hall j (by omega) hj⟩
  have hh : has l k = true := by unfold has; rw [hf]; rfl
  have := find_has hr hh
  rw [hf] at this
  injection this with this
  exact ⟨hh, this.symm⟩
theorem find_none {l : List En} {k : Ky} (hall : ∀ j, (h : j < l.length) → l[j].key ≠ k) : has l k = false := not_has fun x hx => by
  obtain ⟨i, hi, rfl⟩ := List.mem_iff_getElem.1 hx
  exact hall i hi

theorem less_any (a c : ByteArray) (i p q j r s : Int) (w : World) (ha : a.size ≤ 9223372036854775807) (hc : c.size ≤ 9223372036854775807) :
    Calls Try.prog 22 #[.agg #[.string a, .int .i64 i, .int .i64 p, .int .i64 q], .agg #[.string c, .int .i64 j, .int .i64 r, .int .i64 s]] w fun e w' => e = .returned (.bool (kless (a, i) (c, j))) ∧ Below w.heap.size w w' := by
  have HB := Lib.hid ((balloc w (.cells #[.string a, .int .i64 i, .int .i64 p, .int .i64 q] 28)).alloc (by simp) (.cells #[.string c, .int .i64 j, .int .i64 r, .int .i64 s] 28))
  by_cases h : a = c
  · subst h
    have qq : (a.toList == a.toList) = true := by simp
    rw [kless_pair]
    go_enter Try.func22, Try.ntmps22
    go_wp2
    go_ret
    exact ⟨rfl, HB.out⟩
  · have qq : (a.toList == c.toList) = false := R07.str_ne h
    rw [kless_not (by exact h)]
    have C := fun V => R07.less_any a c V ha hc
    simp only at C ⊢
    rw [show LabM.lessS a c = LabM.less a.data.toList c.data.toList from rfl]
    generalize LabM.less a.data.toList c.data.toList = r at *
    have HC := Lib.hid C
    clear C h ha hc
    go_enter Try.func22, Try.ntmps22
    go_wp2_with fail
    refine (HC.out _).mono ?_
    rintro e w1 ⟨rfl, m, rfl⟩
    have HB2 := Lib.hid (bstep HB.out (bdraw _ m))
    go_wp2
    go_ret
    exact ⟨rfl, HB2.out⟩

/-- the place that the document tells: of none -1 -/
def fz (l : List En) (k : Ky) : Int := if has l k = true then (plc l k : Nat) else -1
theorem fz_has {l : List En} {k : Ky} (h : has l k = true) : fz l k = (plc l k : Nat) := if_pos h
theorem fz_not {l : List En} {k : Ky} (h : has l k = false) : fz l k = -1 := if_neg (by rw [h]; simp)
theorem find_any (A : Option Addr) (l : List En) (n c : Nat) (kn : ByteArray) (kr : Int) (w : World) (h : EntsAt w A l) (hn : n = l.length) (hl : n ≤ 1048576) (hr : Rise l) :
    Calls Try.prog 7 #[.slice A n c, .string kn, .int .i64 kr] w fun e w' => e = .returned (.int .i64 (fz l (kn, kr))) ∧ w' = w := by
  have H := Lib.hid h; have HN := Lib.hid hn; have HR := Lib.hid hr
  clear h hn hr
  go_enter Try.func7, Try.ntmps7
  go_wp2
  go_loopw [7] (fun s7 wr => ∃ k : Nat, s7 = .int .i64 k ∧ k ≤ n ∧ Hid (∀ j, (h : j < l.length) → j < k → l[j].key ≠ (kn, kr)) ∧ wr = w) (fun s7 _ => n - (intOf s7).toNat)
  case atStart => exact ⟨0, rfl, Nat.zero_le _, Lib.hid fun j _ h => by omega, rfl⟩
  case round =>
    obtain ⟨k, rfl, hk, HALL, rfl⟩ := hrel
    by_cases hlt : k < n
    · have hL : k < l.length := by rw [← HN.out]; exact hlt
      obtain ⟨b, o, rfl, he⟩ := H.out k hL
      obtain ⟨y, hy⟩ : ∃ y, y = l[k] := ⟨_, rfl⟩
      rw [← hy] at he
      have HY := Lib.hid hy
      obtain ⟨yn, yr, ya, yc⟩ := y
      obtain ⟨c0, c1, c2, c3⟩ := he
      simp only at c0 c1 c2 c3
      have e1 : IntKind.i64.wrap ((k : Int) + 1) = (k : Int) + 1 := IntWalk.i64_in _ (by omega)
      clear hy c2 c3
      by_cases hq : yn = kn
      · by_cases hq2 : yr = kr
        · subst hq
          subst hq2
          have q : (yn.toList == yn.toList) = true := by simp
          have HF : Hid (has l (yn, yr) = true ∧ plc l (yn, yr) = k) := Lib.hid (find_here HR.out (by rw [← HN.out]; exact hlt) (by rw [← HY.out]; rfl) HALL.out)
          go_wp2
          go_ret
          exact ⟨by rw [fz_has HF.out.1, HF.out.2]; rfl, rfl⟩
        · subst hq
          have q : (yn.toList == yn.toList) = true := by simp
          have q2 : (yr == kr) = false := by simpa using hq2
          have HF : Hid (∀ j, (h : j < l.length) → j < k + 1 → l[j].key ≠ (yn, kr)) := Lib.hid fun j h hj e => by
            by_cases ej : j = k
            · subst ej; rw [← HY.out] at e; exact hq2 (congrArg Prod.snd e)
            · exact HALL.out j h (by omega) e
          go_wp2
          go_roundw
          case rel => exact ⟨k + 1, by go_num, by omega, HF, by first | rfl | trivial⟩
          case measure => simp [intOf] <;> omega
      · have q : (yn.toList == kn.toList) = false := R07.str_ne hq
        have HF : Hid (∀ j, (h : j < l.length) → j < k + 1 → l[j].key ≠ (kn, kr)) := Lib.hid fun j h hj e => by
          by_cases ej : j = k
          · subst ej; rw [← HY.out] at e; exact hq (congrArg Prod.fst e)
          · exact HALL.out j h (by omega) e
        clear hq
        go_wp2
        go_roundw
        case rel => exact ⟨k + 1, by go_num, by omega, HF, by first | rfl | trivial⟩
        case measure => simp [intOf] <;> omega
    · obtain rfl : k = n := by omega
      have HF : Hid (has l (kn, kr) = false) := Lib.hid (find_none fun j h => HALL.out j h (by rw [HN.out]; exact h))
      go_wp2
      go_ret
      exact ⟨by rw [fz_not HF.out]; rfl, rfl⟩

theorem E_info : (Try.prog.info? 28).map (fun i => (i.zero, i.size, i.bytes)) = some (some (.agg #[.string ByteArray.empty, .int .i64 0, .int .i64 0, .int .i64 0]), 4, 40) := by kernel_rfl
theorem E_info' : ∃ i, Try.prog.info? 28 = some i ∧ i.zero = some (.agg #[.string ByteArray.empty, .int .i64 0, .int .i64 0, .int .i64 0]) ∧ i.size = 4 ∧ i.bytes = 40 := by
  obtain ⟨i0, h, a, b, c⟩ := info_parts E_info
  exact ⟨i0, h, a, b, c⟩
theorem wpList_append_E {ops : Array Oper} {rest : List Oper} {o : Oper} {a : Act} {w : World} {Q : Exit → Act → World → Prop} (hgd : o.guard = none) (s x : Operand)
    (ho : o.op = .call { callee := .builtin .append, args := #[s, x], argTypes := #[26, 26] })
    (base : Nat) (v : Value) (xs : List En) (hs : a.eval s = v) (hown : OwnEn w base 28 v xs) (A : Option Addr) (m c : Nat) (ys : List En) (hx : a.eval x = .slice A m c) (hy : ys.length = m) (hA : EntsAt w A ys)
    (hl : xs.length + m < 1099511627776) (hbase : base ≤ w.heap.size)
    (h : ∀ v' w', AppdEn w base 28 v (xs ++ ys) v' w' → wpList Try.prog ops Q rest (a.put o.dst v') w') : wpList Try.prog ops Q (o :: rest) a w := by
  obtain ⟨i, hi, hz, hs1, hb⟩ := E_info'
  exact wpList_append_ents Try.underlying26 hi hz hs1 hb zero_cells hgd s x ho base v xs hs hown A m c ys hx hy hA hl (by omega) hbase h
/-- entries of a new list, of the call's own -/
def RetE (w : World) (l : List En) (e : Ending) (w' : World) : Prop := ∃ v, e = .returned v ∧ OwnEn w' w.heap.size 28 v l ∧ Below w.heap.size w w'
theorem drop_any (b o : Nat) (l : List En) (n c i i1 : Nat) (w : World) (h : EntsAt w (some ⟨b, o, none⟩) l) (hn : n = l.length) (hc : n ≤ c) (_hc2 : c ≤ maxLen) (hl : n ≤ 1048576) (hi : i < n) (hi1 : i1 = i + 1) :
    Calls Try.prog 12 #[.slice (some ⟨b, o, none⟩) n c, .int .i64 (i : Nat)] w (RetE w (drop l i)) := by
  unfold maxLen at _hc2
  have hb0 := balloc w (.cells #[] 28)
  have HB0 := Lib.hid hb0
  have HE := Lib.hid (OwnEn.empty w w.heap.size 28 (Nat.le_refl _))
  have H1 := Lib.hid ((h.take i).below hb0)
  have ht1 : (l.take i).length = i := by rw [List.length_take]; omega
  have ht2 : (l.drop i1).length = n - i1 := by rw [List.length_drop, hn]
  have h2 : c = i1 ∧ EntsAt w (some ⟨b, o, none⟩) (l.drop i1) ∨ ¬ c = i1 ∧ EntsAt w (some ⟨b, o + i1 * 4, none⟩) (l.drop i1) := by
    by_cases hci : c = i1
    · refine .inl ⟨hci, ?_⟩
      rw [show l.drop i1 = [] from List.drop_eq_nil_of_le (by omega)]
      exact EntsAt.nil _ _
    · exact .inr ⟨hci, h.drop i1⟩
  have HT1 := Lib.hid ht1; have HT2 := Lib.hid ht2
  have HDEF : Hid (l.take i ++ l.drop i1 = drop l i) := Lib.hid (by rw [hi1]; rfl)
  have hs0 : (w.alloc (.cells #[] 28)).heap.size = w.heap.size + 1 := by simp
  have e1 : IntKind.i64.wrap ((i : Int) + 1) = (i1 : Int) := by rw [IntWalk.i64_in _ (by omega)]; omega
  have b0 : (0 : Int) ≤ (i : Int) := by omega
  have b1 : (i : Int) ≤ (c : Int) := by omega
  have b2 : (i1 : Int) ≤ (n : Int) := by omega
  have b3 : (0 : Int) ≤ (i1 : Int) := by omega
  clear h hb0 ht1 ht2 hn hi1
  rcases h2 with ⟨hci, h2⟩ | ⟨hci, h2⟩
  all_goals have H2 := Lib.hid h2
  all_goals clear h2
  all_goals
   go_enter Try.func12, Try.ntmps12
   go_wp2_with (first
    | (refine wpList_append_E rfl _ _ rfl w.heap.size _ [] rfl HE.out (some ⟨b, o, none⟩) i _ (l.take i) rfl HT1.out H1.out (by simp; omega) (by rw [hs0]; omega) ?_
       intro v1 w1 ha
       have HB1 : Hid (Below w.heap.size w w1) := Lib.hid (ha.below HE.out HB0.out (Nat.le_refl _) (by rw [hs0]; omega))
       have ho := ha.own
       rw [List.nil_append] at ho
       have HO1 := Lib.hid ho
       have H3 := Lib.hid (H2.out.belowK HB1.out (fun h0 a e => H2.out.lt h0 a e))
       clear ha ho)
    | (refine wpList_append_E rfl _ _ rfl w.heap.size _ (l.take i) rfl HO1.out _ (n - i1) _ (l.drop i1) rfl HT2.out H3.out (by rw [HT1.out]; omega) HB1.out.size ?_
       intro v2 w2 ha
       have HB2 : Hid (Below w.heap.size w w2) := Lib.hid (ha.below HO1.out HB1.out (Nat.le_refl _) HB1.out.size)
       have ho := ha.own
       rw [HDEF.out] at ho
       have HO2 := Lib.hid ho
       clear ha ho))
   go_ret
   exact ⟨_, rfl, HO2.out, HB2.out⟩
end Go.Proofs.Ytnjdioghjjaegaa.R22

/- the document's own answers of layer 22: Put, Names -/
set_option maxRecDepth 100000
namespace Go.Proofs.Ytnjdioghjjaegaa.R22
open Go.RowKit IdxM Ents Index

/-- what has been told behind k rounds -/
def outTo (l : List En) (y : En) (p k : Nat) : List En := if p < k then l.take p ++ y :: (l.drop p).take (k - p) else l.take k
section
variable {l : List En} {y : En} {p k : Nat}
theorem outTo_zero : outTo l y p 0 = [] := by unfold outTo; rw [if_neg (by omega)]; rfl
theorem outTo_ahead (hk : k < l.length) (h : k < p) : outTo l y p (k + 1) = outTo l y p k ++ [l[k]] := by
  unfold outTo
  rw [if_neg (by omega), if_neg (by omega), List.take_succ_eq_append_getElem hk]
theorem outTo_here (hk : k < l.length) (h : k = p) : outTo l y p (k + 1) = outTo l y p k ++ [y] ++ [l[k]] := by
  subst h
  unfold outTo
  rw [if_pos (by omega), if_neg (by omega), show k + 1 - k = 0 + 1 by omega, List.drop_eq_getElem_cons hk, List.take_succ_cons]
  simp
theorem outTo_behind (hk : k < l.length) (h : p < k) : outTo l y p (k + 1) = outTo l y p k ++ [l[k]] := by
  unfold outTo
  rw [if_pos (by omega), if_pos h, show k + 1 - p = (k - p) + 1 by omega, List.take_succ_eq_append_getElem (by rw [List.length_drop]; omega), List.getElem_drop]
  simp [show p + (k - p) = k by omega]
theorem outTo_end (h : p ≤ l.length) : outTo l y p l.length ++ (if p < l.length then [] else [y]) = l.take p ++ y :: l.drop p := by
  unfold outTo
  by_cases q : p < l.length
  · rw [if_pos q, if_pos q, List.append_nil, List.take_of_length_le (l := l.drop p) (by rw [List.length_drop]; exact Nat.le_refl _)]
  · rw [if_neg q, if_neg q]
    have : p = l.length := by omega
    subst this
    rw [List.take_length, List.drop_length]
theorem outTo_len (h : k ≤ l.length) : (outTo l y p k).length ≤ k + 1 := by
  unfold outTo; split
  · simp; omega
  · simp; omega
/-- the first that y is less than -/
theorem over_at (h : ∀ x ∈ l, ¬ x.key = y.key) (hp : p = plc l y.key) (hr : Rise l) (hk : k < l.length) (hkp : k ≤ p) : kless y.key l[k].key = decide (k = p) := by
  have h1 := keys_less (k := y.key) hr hk
  rcases kord.tri l[k].key y.key with c | c | c
  · rw [kord.asym c]
    rw [h1, decide_eq_true_eq] at c
    exact (decide_eq_false (by omega)).symm
  · exact absurd c (h _ (List.getElem_mem hk))
  · rw [c]
    have c2 := kord.asym c
    rw [h1, decide_eq_false_iff_not] at c2
    exact (decide_eq_true (by omega)).symm
end
theorem own_less {w0 w : World} {B : Nat} {e : TypeId} {v : Value} {l : List En} (h : OwnEn w B e v l) (hB : w0.heap.size ≤ B) : OwnEn w w0.heap.size e v l := by
  refine ⟨h.1, ?_⟩
  rcases h.2 with q | ⟨g, cap, cur, h1, h2, h3⟩
  · exact .inl q
  · exact .inr ⟨g, cap, cur, h1, by omega, h3⟩
set_option maxHeartbeats 4000000 in
theorem put_any (A : Option Addr) (l : List En) (n c : Nat) (yn : ByteArray) (yr ya yc : Int) (w : World) (h : EntsAt w A l) (hn : n = l.length) (hc : n ≤ c) (hc2 : c ≤ maxLen) (hl : n < 1048576) (hr : Rise l) (hs : SaneE l) (hy : yn.size ≤ 9223372036854775807) :
    Calls Try.prog 10 #[.slice A n c, .agg #[.string yn, .int .i64 yr, .int .i64 ya, .int .i64 yc]] w (RetE w (putK l ⟨yn, yr, ya, yc⟩)) := by
  have hb0 := balloc w (.cells #[.string yn, .int .i64 yr, .int .i64 ya, .int .i64 yc] 28)
  have HFIND := Lib.hid (find_any A l n c yn yr _ (h.below hb0) hn (by omega) hr)
  have HDROP := Lib.hid fun (b o p : Nat) (V : World) (hV : EntsAt V (some ⟨b, o, none⟩) l) (hp : p < n) => drop_any b o l n c p (p + 1) V hV hn hc hc2 (by omega) hp rfl
  have HA := Lib.hid (h.below hb0)
  have hlies : EnLies (w.alloc (.cells #[.string yn, .int .i64 yr, .int .i64 ya, .int .i64 yc] 28)) w.heap.size 0 ⟨yn, yr, ya, yc⟩ := ⟨by simp, by simp, by simp, by simp⟩
  have HLIES := Lib.hid hlies
  have HB0 := Lib.hid hb0; have HN := Lib.hid hn; have HR := Lib.hid hr; have HS := Lib.hid hs
  have HNONE := Lib.hid (dropK_none (k := (yn, yr)) hr)
  have HR1 := Lib.hid (rise_dropK hr (yn, yr)); have HS1 := Lib.hid (hs.dropK (yn, yr))
  have HPUT : Hid (putK l ⟨yn, yr, ya, yc⟩ = (dropK l (yn, yr)).take (plc (dropK l (yn, yr)) (yn, yr)) ++ ⟨yn, yr, ya, yc⟩ :: (dropK l (yn, yr)).drop (plc (dropK l (yn, yr)) (yn, yr))) := Lib.hid rfl
  have HLEN := Lib.hid (dropK_len l (yn, yr))
  have hbe : w.heap.size ≤ w.heap.size := Nat.le_refl _
  clear hb0 h hlies hn hr hs hc hc2
  rcases hhas : has l (yn, yr) with _ | _
  · have HD : Hid (dropK l (yn, yr) = l) := Lib.hid (dropK_not hhas)
    have HFZ : Hid (fz l (yn, yr) = -1) := Lib.hid (fz_not hhas)
    rw [HFZ.out] at HFIND
    have b1 : ¬ (0 : Int) ≤ -1 := by omega
    have HM : Hid (∃ l1, l1 = dropK l (yn, yr) ∧ n = l1.length ∧ EntsAt (w.alloc (.cells #[.string yn, .int .i64 yr, .int .i64 ya, .int .i64 yc] 28)) A l1) := Lib.hid ⟨l, HD.out.symm, HN.out, HA.out⟩
    obtain ⟨l1, hl1, hn1, hA1⟩ := HM.out
    have HL1 := Lib.hid hl1; have HN1 := Lib.hid hn1; have HA1 := Lib.hid hA1
    clear hhas hl1 hn1 hA1 HM HDROP HD HFZ
    go_enter Try.func10, Try.ntmps10
    go_wp2_with fail
    generalize w.alloc (.cells #[.string yn, .int .i64 yr, .int .i64 ya, .int .i64 yc] 28) = w1 at *
    refine HFIND.out.mono ?_
    rintro e wL ⟨rfl, rfl⟩
    have HBW := HB0
    clear HFIND HB0 HA
    obtain ⟨n1, hn1⟩ : ∃ n1, n1 = n := ⟨_, rfl⟩
    rw [← hn1] at HN1
    have hn1k : n1 ≤ 1048576 := by omega
    rw [← hn1]
    clear hn1
    obtain ⟨p, hp⟩ : ∃ p, p = plc (dropK l (yn, yr)) (yn, yr) := ⟨_, rfl⟩
    have HP := Lib.hid hp
    clear hp
    have hy' := hy
    generalize c = c1 at *
    go_wp2_with fail
    have HOVER : Hid (∀ k, (hk : k < l1.length) → k ≤ p → kless (yn, yr) l1[k].key = decide (k = p)) := Lib.hid fun k hk hkp => by
      have hL := HL1.out
      subst hL
      exact over_at (y := ⟨yn, yr, ya, yc⟩) HNONE.out HP.out HR1.out hk hkp
    have HSZ : Hid (∀ k, (hk : k < l1.length) → l1[k].name.size ≤ 9223372036854775807) := Lib.hid fun k hk => by
      have hL := HL1.out
      subst hL
      exact HS1.out _ (List.getElem_mem hk)
    have HPL : Hid (p ≤ l1.length) := Lib.hid (by rw [HP.out, HL1.out]; exact plc_le _ _)
    have HFIN : Hid (outTo l1 ⟨yn, yr, ya, yc⟩ p l1.length ++ (if p < l1.length then [] else [⟨yn, yr, ya, yc⟩]) = putK l ⟨yn, yr, ya, yc⟩) := Lib.hid (by
      rw [outTo_end HPL.out, HPUT.out, HP.out, HL1.out])
    clear HNONE HR1 HS1 HPUT HP HR HS
    have hwL := HBW.out.size
    go_loopw [6, 7, 8] (fun s6 s7 s8 wr => ∃ k : Nat, s8 = .int .i64 k ∧ k ≤ n1 ∧ s7 = .bool (decide (p < k)) ∧ Hid (Below wL.heap.size wL wr) ∧ Hid (OwnEn wr wL.heap.size 28 s6 (outTo l1 ⟨yn, yr, ya, yc⟩ p k))) (fun _ _ s8 _ => n1 - (intOf s8).toNat)
    case atStart => exact ⟨0, rfl, Nat.zero_le _, by rw [decide_eq_false (by omega)], Lib.hid (Below.refl _ _), Lib.hid (by rw [outTo_zero]; exact OwnEn.nil _ _ _)⟩
    case round =>
      obtain ⟨k, rfl, hk, rfl, HBL, HO⟩ := hrel
      rename World => wr
      by_cases hlt : k < n1
      · have hL : k < l1.length := by rw [← HN1.out]; exact hlt
        obtain ⟨b, o, hab, he⟩ := (HA1.out.below HBL.out) k hL
        subst hab
        obtain ⟨y, hy⟩ : ∃ y, y = l1[k] := ⟨_, rfl⟩
        rw [← hy] at he
        have hov := HOVER.out k hL
        have hsz := HSZ.out k hL
        rw [← hy] at hov hsz
        have HLEN2 := Lib.hid (Nat.le_trans (outTo_len (y := ⟨yn, yr, ya, yc⟩) (p := p) (Nat.le_of_lt hL)) (show k + 1 ≤ 1048577 by omega))
        have hkm : k ≤ 1048576 := by omega
        obtain ⟨zn, zr, za, zc⟩ := y
        have HE := Lib.hid he; have HYY := Lib.hid hy
        have HLW := Lib.hid (HLIES.out.below HBL.out)
        rcases Nat.lt_trichotomy p k with hpk | hpk | hpk
        · have hst : outTo l1 ⟨yn, yr, ya, yc⟩ p (k + 1) = outTo l1 ⟨yn, yr, ya, yc⟩ p k ++ [⟨zn, zr, za, zc⟩] := by rw [outTo_behind hL hpk, ← hy]
          have hpk1 : p < k + 1 := by omega
          have HST := Lib.hid hst
          have HPK1 := Lib.hid (decide_eq_true hpk1)
          rw [decide_eq_true hpk]
          clear hst hy hov hsz he hpk hpk1
          go_wp2_with fail
          refine Drawn.wp_region_flowL 10 [Drawn.SP.is (.bool true), Drawn.SP.is (.bool false), Drawn.SP.is (.bool false), Drawn.SP.is (undef), Drawn.SP.is (undef), Drawn.SP.is (undef), Drawn.SP.is (undef), Drawn.SP.is (undef), Drawn.SP.is (undef), Drawn.SP.is (.bool false)] (by kernel_rfl) (by kernel_rfl) ?_ ?_
          · intro i hi a w3 hb hev hdep
            rcases (show i = 0 ∨ i = 1 ∨ i = 2 ∨ i = 3 ∨ i = 4 ∨ i = 5 ∨ i = 6 ∨ i = 7 ∨ i = 8 ∨ i = 9 by omega) with rfl | rfl | rfl | rfl | rfl | rfl | rfl | rfl | rfl | rfl
            · have e7 : a.tmps[7]?.getD undef = .bool true := hev 7 rfl
              refine Drawn.wpOp_flow 26 rfl rfl rfl ?_
              clear hev hdep hb
              go_simp
              exact ⟨_, rfl, rfl, Below.refl _ _⟩
            · have d0 : a.tmps[26]?.getD undef = .bool true := hdep 0 rfl
              refine Drawn.wpOp_flow 27 rfl rfl rfl ?_
              clear hev hdep hb
              go_simp
              exact ⟨_, rfl, rfl, Below.refl _ _⟩
            · have d1 : a.tmps[27]?.getD undef = .bool false := hdep 1 rfl
              refine Drawn.wpOp_flow 28 rfl rfl rfl ?_
              clear hev hdep hb
              go_simp
              exact ⟨_, rfl, rfl, Below.refl _ _⟩
            · have dg : a.tmps[28]?.getD undef = .bool false := hdep 2 rfl
              exact Drawn.wpOp_flow_skip 29 rfl (Drawn.unwanted_of rfl rfl rfl dg rfl) rfl rfl
            · have dg : a.tmps[28]?.getD undef = .bool false := hdep 2 rfl
              exact Drawn.wpOp_flow_skip 30 rfl (Drawn.unwanted_of rfl rfl rfl dg rfl) rfl rfl
            · have dg : a.tmps[28]?.getD undef = .bool false := hdep 2 rfl
              exact Drawn.wpOp_flow_skip 31 rfl (Drawn.unwanted_of rfl rfl rfl dg rfl) rfl rfl
            · have dg : a.tmps[28]?.getD undef = .bool false := hdep 2 rfl
              exact Drawn.wpOp_flow_skip 32 rfl (Drawn.unwanted_of rfl rfl rfl dg rfl) rfl rfl
            · have dg : a.tmps[28]?.getD undef = .bool false := hdep 2 rfl
              exact Drawn.wpOp_flow_skip 33 rfl (Drawn.unwanted_of rfl rfl rfl dg rfl) rfl rfl
            · have dg : a.tmps[28]?.getD undef = .bool false := hdep 2 rfl
              exact Drawn.wpOp_flow_skip 34 rfl (Drawn.unwanted_of rfl rfl rfl dg rfl) rfl rfl
            · have d2 : a.tmps[28]?.getD undef = .bool false := hdep 2 rfl
              have d8 : a.tmps[34]?.getD undef = undef := hdep 8 rfl
              refine Drawn.wpOp_flow 35 rfl rfl rfl ?_
              clear hev hdep hb
              go_simp
              exact ⟨_, rfl, rfl, Below.refl _ _⟩
          · intro xq w3 hb hxq
            have vq0 : xq 0 = .bool true := hxq 0 (by omega)
            have vq1 : xq 1 = .bool false := hxq 1 (by omega)
            have vq2 : xq 2 = .bool false := hxq 2 (by omega)
            have vq3 : xq 3 = undef := hxq 3 (by omega)
            have vq4 : xq 4 = undef := hxq 4 (by omega)
            have vq5 : xq 5 = undef := hxq 5 (by omega)
            have vq6 : xq 6 = undef := hxq 6 (by omega)
            have vq7 : xq 7 = undef := hxq 7 (by omega)
            have vq8 : xq 8 = undef := hxq 8 (by omega)
            have vq9 : xq 9 = .bool false := hxq 9 (by omega)
            show Exit.then _ _ Exit.normal (Drawn.acts _ [(35, some (xq 9)), (34, some (xq 8)), (33, some (xq 7)), (32, some (xq 6)), (31, some (xq 5)), (30, some (xq 4)), (29, some (xq 3)), (28, some (xq 2)), (27, some (xq 1)), (26, some (xq 0))]) _
            rw [vq0, vq1, vq2, vq3, vq4, vq5, vq6, vq7, vq8, vq9]
            clear hxq vq0 vq1 vq2 vq3 vq4 vq5 vq6 vq7 vq8 vq9
            clear xq
            simp only [Drawn.acts]
            go_simp
            have HB3 := Lib.hid (bstep HBL.out hb)
            have HO3 := Lib.hid (HO.out.below hb)
            obtain ⟨c0, c1', c2, c3⟩ := HE.out.below hb
            simp only at c0 c1' c2 c3
            clear hb
            go_at_K
            go_wp2_with (first
              | (refine wpList_append_E rfl _ _ rfl wL.heap.size _ (outTo l1 ⟨yn, yr, ya, yc⟩ p k) rfl (HO3.out.below (balloc w3 _)) (some ⟨w3.heap.size, 0, none⟩) 1 1 [⟨zn, zr, za, zc⟩] rfl rfl (EntsAt.lit w3 ⟨zn, zr, za, zc⟩ _) (by have := HLEN2.out; omega) (Nat.le_trans HB3.out.size (by simp)) ?_
                 intro v5 w5 ha
                 have HB5 : Hid (Below wL.heap.size wL w5) := Lib.hid (ha.below (HO3.out.below (balloc w3 _)) (bstep HB3.out (balloc w3 _)) (Nat.le_refl _) (Nat.le_trans HB3.out.size (by simp)))
                 have ho := ha.own
                 rw [← HST.out] at ho
                 have HO5 := Lib.hid ho
                 clear ha ho))
            go_roundw
            case rel => exact ⟨k + 1, by go_num, by omega, by rw [HPK1.out], HB5, HO5⟩
            case measure => simp [intOf] <;> omega
        · have hpe : k = p := hpk.symm
          have hst : outTo l1 ⟨yn, yr, ya, yc⟩ p (k + 1) = outTo l1 ⟨yn, yr, ya, yc⟩ p k ++ [⟨yn, yr, ya, yc⟩] ++ [⟨zn, zr, za, zc⟩] := by rw [outTo_here hL hpe, ← hy]
          have hpk1 : p < k + 1 := by omega
          have HST := Lib.hid hst
          have HPK1 := Lib.hid (decide_eq_true hpk1)
          rw [decide_eq_false (show ¬ p < k by omega)]
          have hov2 := hov (by omega)
          rw [decide_eq_true hpe] at hov2
          have hless := fun V => less_any yn zn yr ya yc zr za zc V hy' hsz
          rw [show kless (yn, yr) (zn, zr) = true from hov2] at hless
          have HLESS := Lib.hid hless
          clear hst hy hov hov2 hsz he hpk hpk1 hpe hless
          go_wp2_with fail
          refine Drawn.wp_region_flowL 10 [Drawn.SP.is (.bool false), Drawn.SP.is (.bool true), Drawn.SP.is (.bool true), Drawn.SP.is (.agg #[.string yn, .int .i64 yr, .int .i64 ya, .int .i64 yc]), Drawn.SP.is (.slice (some ⟨b, o, none⟩) n1 c1), Drawn.SP.is (.int .i64 (k : Nat)), Drawn.SP.is (.pointer (some ⟨b, o + k * 4, none⟩)), Drawn.SP.is (.agg #[.string zn, .int .i64 zr, .int .i64 za, .int .i64 zc]), Drawn.SP.is (.bool true), Drawn.SP.is (.bool true)] (by kernel_rfl) (by kernel_rfl) ?_ ?_
          · intro i hi a w3 hb hev hdep
            rcases (show i = 0 ∨ i = 1 ∨ i = 2 ∨ i = 3 ∨ i = 4 ∨ i = 5 ∨ i = 6 ∨ i = 7 ∨ i = 8 ∨ i = 9 by omega) with rfl | rfl | rfl | rfl | rfl | rfl | rfl | rfl | rfl | rfl
            · have e7 : a.tmps[7]?.getD undef = .bool false := hev 7 rfl
              refine Drawn.wpOp_flow 26 rfl rfl rfl ?_
              clear hev hdep hb
              go_simp
              exact ⟨_, rfl, rfl, Below.refl _ _⟩
            · have d0 : a.tmps[26]?.getD undef = .bool false := hdep 0 rfl
              refine Drawn.wpOp_flow 27 rfl rfl rfl ?_
              clear hev hdep hb
              go_simp
              exact ⟨_, rfl, rfl, Below.refl _ _⟩
            · have d1 : a.tmps[27]?.getD undef = .bool true := hdep 1 rfl
              refine Drawn.wpOp_flow 28 rfl rfl rfl ?_
              clear hev hdep hb
              go_simp
              exact ⟨_, rfl, rfl, Below.refl _ _⟩
            · have e3 : a.tmps[3]?.getD undef = .pointer (some ⟨w.heap.size, 0, none⟩) := hev 3 rfl
              have dg : a.tmps[28]?.getD undef = .bool true := hdep 2 rfl
              refine Drawn.wpOp_flow 29 rfl (Drawn.wanted_of rfl rfl rfl dg) rfl ?_
              obtain ⟨d0, d1, d2, d3⟩ := HLW.out.below hb
              simp only [Nat.zero_add] at d0 d1 d2 d3
              obtain ⟨c0, c1', c2, c3⟩ := HE.out.below hb
              simp only at c0 c1' c2 c3
              clear dg
              clear hev hdep hb
              go_simp
              exact ⟨_, rfl, rfl, Below.refl _ _⟩
            · have e0 : a.tmps[0]?.getD undef = .slice (some ⟨b, o, none⟩) n1 c1 := hev 0 rfl
              have dg : a.tmps[28]?.getD undef = .bool true := hdep 2 rfl
              refine Drawn.wpOp_flow 30 rfl (Drawn.wanted_of rfl rfl rfl dg) rfl ?_
              clear dg
              clear hev hdep hb
              go_simp
              exact ⟨_, rfl, rfl, Below.refl _ _⟩
            · have e8 : a.tmps[8]?.getD undef = .int .i64 (k : Nat) := hev 8 rfl
              have dg : a.tmps[28]?.getD undef = .bool true := hdep 2 rfl
              refine Drawn.wpOp_flow 31 rfl (Drawn.wanted_of rfl rfl rfl dg) rfl ?_
              clear dg
              clear hev hdep hb
              go_simp
              exact ⟨_, rfl, rfl, Below.refl _ _⟩
            · have d4 : a.tmps[30]?.getD undef = .slice (some ⟨b, o, none⟩) n1 c1 := hdep 4 rfl
              have d5 : a.tmps[31]?.getD undef = .int .i64 (k : Nat) := hdep 5 rfl
              have dg : a.tmps[28]?.getD undef = .bool true := hdep 2 rfl
              refine Drawn.wpOp_flow 32 rfl (Drawn.wanted_of rfl rfl rfl dg) rfl ?_
              clear dg
              clear hev hdep hb
              go_simp
              exact ⟨_, rfl, rfl, Below.refl _ _⟩
            · have d6 : a.tmps[32]?.getD undef = .pointer (some ⟨b, o + k * 4, none⟩) := hdep 6 rfl
              have dg : a.tmps[28]?.getD undef = .bool true := hdep 2 rfl
              refine Drawn.wpOp_flow 33 rfl (Drawn.wanted_of rfl rfl rfl dg) rfl ?_
              obtain ⟨d0, d1, d2, d3⟩ := HLW.out.below hb
              simp only [Nat.zero_add] at d0 d1 d2 d3
              obtain ⟨c0, c1', c2, c3⟩ := HE.out.below hb
              simp only at c0 c1' c2 c3
              clear dg
              clear hev hdep hb
              go_simp
              exact ⟨_, rfl, rfl, Below.refl _ _⟩
            · have d3 : a.tmps[29]?.getD undef = .agg #[.string yn, .int .i64 yr, .int .i64 ya, .int .i64 yc] := hdep 3 rfl
              have d7 : a.tmps[33]?.getD undef = .agg #[.string zn, .int .i64 zr, .int .i64 za, .int .i64 zc] := hdep 7 rfl
              have dg : a.tmps[28]?.getD undef = .bool true := hdep 2 rfl
              refine Drawn.wpOp_flow 34 rfl (Drawn.wanted_of rfl rfl rfl dg) rfl ?_
              clear hev hdep
              go_simp
              refine (HLESS.out w3).mono ?_
              rintro e w4 ⟨rfl, hb4⟩
              exact ⟨_, rfl, rfl, hb4⟩
            · have d2 : a.tmps[28]?.getD undef = .bool true := hdep 2 rfl
              have d8 : a.tmps[34]?.getD undef = .bool true := hdep 8 rfl
              refine Drawn.wpOp_flow 35 rfl rfl rfl ?_
              clear hev hdep hb
              go_simp
              exact ⟨_, rfl, rfl, Below.refl _ _⟩
          · intro xq w3 hb hxq
            have vq0 : xq 0 = .bool false := hxq 0 (by omega)
            have vq1 : xq 1 = .bool true := hxq 1 (by omega)
            have vq2 : xq 2 = .bool true := hxq 2 (by omega)
            have vq3 : xq 3 = .agg #[.string yn, .int .i64 yr, .int .i64 ya, .int .i64 yc] := hxq 3 (by omega)
            have vq4 : xq 4 = .slice (some ⟨b, o, none⟩) n1 c1 := hxq 4 (by omega)
            have vq5 : xq 5 = .int .i64 (k : Nat) := hxq 5 (by omega)
            have vq6 : xq 6 = .pointer (some ⟨b, o + k * 4, none⟩) := hxq 6 (by omega)
            have vq7 : xq 7 = .agg #[.string zn, .int .i64 zr, .int .i64 za, .int .i64 zc] := hxq 7 (by omega)
            have vq8 : xq 8 = .bool true := hxq 8 (by omega)
            have vq9 : xq 9 = .bool true := hxq 9 (by omega)
            show Exit.then _ _ Exit.normal (Drawn.acts _ [(35, some (xq 9)), (34, some (xq 8)), (33, some (xq 7)), (32, some (xq 6)), (31, some (xq 5)), (30, some (xq 4)), (29, some (xq 3)), (28, some (xq 2)), (27, some (xq 1)), (26, some (xq 0))]) _
            rw [vq0, vq1, vq2, vq3, vq4, vq5, vq6, vq7, vq8, vq9]
            clear hxq vq0 vq1 vq2 vq3 vq4 vq5 vq6 vq7 vq8 vq9
            clear xq
            simp only [Drawn.acts]
            go_simp
            have HB3 := Lib.hid (bstep HBL.out hb)
            have HO3 := Lib.hid (HO.out.below hb)
            obtain ⟨d0, d1, d2, d3⟩ := HLW.out.below hb
            simp only [Nat.zero_add] at d0 d1 d2 d3
            clear hb
            go_at_K
            go_wp2_with (first
              | (refine wpList_append_E rfl _ _ rfl wL.heap.size _ (outTo l1 ⟨yn, yr, ya, yc⟩ p k) rfl (HO3.out.below (balloc w3 _)) (some ⟨w3.heap.size, 0, none⟩) 1 1 [⟨yn, yr, ya, yc⟩] rfl rfl (EntsAt.lit w3 ⟨yn, yr, ya, yc⟩ _) (by have := HLEN2.out; omega) (Nat.le_trans HB3.out.size (by simp)) ?_
                 intro v4 w4 ha
                 have HB4 : Hid (Below wL.heap.size wL w4) := Lib.hid (ha.below (HO3.out.below (balloc w3 _)) (bstep HB3.out (balloc w3 _)) (Nat.le_refl _) (Nat.le_trans HB3.out.size (by simp)))
                 have HO4 := Lib.hid ha.own
                 obtain ⟨c0, c1', c2, c3⟩ : EnLies w4 b (o + k * 4) ⟨zn, zr, za, zc⟩ := by
                   have := (HA1.out.below HB4.out) k (by rw [← HN1.out]; exact hlt)
                   obtain ⟨b', o', e', h'⟩ := this
                   injection e' with e'; injection e' with e1 e2; subst e1; subst e2
                   rw [← HYY.out] at h'; exact h'
                 simp only at c0 c1' c2 c3
                 clear ha d0 d1 d2 d3)
              | (refine wpList_append_E rfl _ _ rfl wL.heap.size _ (outTo l1 ⟨yn, yr, ya, yc⟩ p k ++ [⟨yn, yr, ya, yc⟩]) rfl (HO4.out.below (balloc w4 _)) (some ⟨w4.heap.size, 0, none⟩) 1 1 [⟨zn, zr, za, zc⟩] rfl rfl (EntsAt.lit w4 ⟨zn, zr, za, zc⟩ _) (by have := HLEN2.out; rw [List.length_append]; simp; omega) (Nat.le_trans HB4.out.size (by simp)) ?_
                 intro v5 w5 ha
                 have HB5 : Hid (Below wL.heap.size wL w5) := Lib.hid (ha.below (HO4.out.below (balloc w4 _)) (bstep HB4.out (balloc w4 _)) (Nat.le_refl _) (Nat.le_trans HB4.out.size (by simp)))
                 have ho := ha.own
                 rw [← HST.out] at ho
                 have HO5 := Lib.hid ho
                 clear ha ho))
            go_roundw
            case rel => exact ⟨k + 1, by go_num, by omega, by rw [HPK1.out], HB5, HO5⟩
            case measure => simp [intOf] <;> omega
        · have hst : outTo l1 ⟨yn, yr, ya, yc⟩ p (k + 1) = outTo l1 ⟨yn, yr, ya, yc⟩ p k ++ [⟨zn, zr, za, zc⟩] := by rw [outTo_ahead hL hpk, ← hy]
          have hpk1 : ¬ p < k + 1 := by omega
          have HST := Lib.hid hst
          have HPK1 := Lib.hid (decide_eq_false hpk1)
          rw [decide_eq_false (show ¬ p < k by omega)]
          have hov2 := hov (by omega)
          rw [decide_eq_false (show ¬ k = p by omega)] at hov2
          have hless := fun V => less_any yn zn yr ya yc zr za zc V hy' hsz
          rw [show kless (yn, yr) (zn, zr) = false from hov2] at hless
          have HLESS := Lib.hid hless
          clear hst hy hov hov2 hsz he hpk hpk1 hless
          go_wp2_with fail
          refine Drawn.wp_region_flowL 10 [Drawn.SP.is (.bool false), Drawn.SP.is (.bool true), Drawn.SP.is (.bool true), Drawn.SP.is (.agg #[.string yn, .int .i64 yr, .int .i64 ya, .int .i64 yc]), Drawn.SP.is (.slice (some ⟨b, o, none⟩) n1 c1), Drawn.SP.is (.int .i64 (k : Nat)), Drawn.SP.is (.pointer (some ⟨b, o + k * 4, none⟩)), Drawn.SP.is (.agg #[.string zn, .int .i64 zr, .int .i64 za, .int .i64 zc]), Drawn.SP.is (.bool false), Drawn.SP.is (.bool false)] (by kernel_rfl) (by kernel_rfl) ?_ ?_
          · intro i hi a w3 hb hev hdep
            rcases (show i = 0 ∨ i = 1 ∨ i = 2 ∨ i = 3 ∨ i = 4 ∨ i = 5 ∨ i = 6 ∨ i = 7 ∨ i = 8 ∨ i = 9 by omega) with rfl | rfl | rfl | rfl | rfl | rfl | rfl | rfl | rfl | rfl
            · have e7 : a.tmps[7]?.getD undef = .bool false := hev 7 rfl
              refine Drawn.wpOp_flow 26 rfl rfl rfl ?_
              clear hev hdep hb
              go_simp
              exact ⟨_, rfl, rfl, Below.refl _ _⟩
            · have d0 : a.tmps[26]?.getD undef = .bool false := hdep 0 rfl
              refine Drawn.wpOp_flow 27 rfl rfl rfl ?_
              clear hev hdep hb
              go_simp
              exact ⟨_, rfl, rfl, Below.refl _ _⟩
            · have d1 : a.tmps[27]?.getD undef = .bool true := hdep 1 rfl
              refine Drawn.wpOp_flow 28 rfl rfl rfl ?_
              clear hev hdep hb
              go_simp
              exact ⟨_, rfl, rfl, Below.refl _ _⟩
            · have e3 : a.tmps[3]?.getD undef = .pointer (some ⟨w.heap.size, 0, none⟩) := hev 3 rfl
              have dg : a.tmps[28]?.getD undef = .bool true := hdep 2 rfl
              refine Drawn.wpOp_flow 29 rfl (Drawn.wanted_of rfl rfl rfl dg) rfl ?_
              obtain ⟨d0, d1, d2, d3⟩ := HLW.out.below hb
              simp only [Nat.zero_add] at d0 d1 d2 d3
              obtain ⟨c0, c1', c2, c3⟩ := HE.out.below hb
              simp only at c0 c1' c2 c3
              clear dg
              clear hev hdep hb
              go_simp
              exact ⟨_, rfl, rfl, Below.refl _ _⟩
            · have e0 : a.tmps[0]?.getD undef = .slice (some ⟨b, o, none⟩) n1 c1 := hev 0 rfl
              have dg : a.tmps[28]?.getD undef = .bool true := hdep 2 rfl
              refine Drawn.wpOp_flow 30 rfl (Drawn.wanted_of rfl rfl rfl dg) rfl ?_
              clear dg
              clear hev hdep hb
              go_simp
              exact ⟨_, rfl, rfl, Below.refl _ _⟩
            · have e8 : a.tmps[8]?.getD undef = .int .i64 (k : Nat) := hev 8 rfl
              have dg : a.tmps[28]?.getD undef = .bool true := hdep 2 rfl
              refine Drawn.wpOp_flow 31 rfl (Drawn.wanted_of rfl rfl rfl dg) rfl ?_
              clear dg
              clear hev hdep hb
              go_simp
              exact ⟨_, rfl, rfl, Below.refl _ _⟩
            · have d4 : a.tmps[30]?.getD undef = .slice (some ⟨b, o, none⟩) n1 c1 := hdep 4 rfl
              have d5 : a.tmps[31]?.getD undef = .int .i64 (k : Nat) := hdep 5 rfl
              have dg : a.tmps[28]?.getD undef = .bool true := hdep 2 rfl
              refine Drawn.wpOp_flow 32 rfl (Drawn.wanted_of rfl rfl rfl dg) rfl ?_
              clear dg
              clear hev hdep hb
              go_simp
              exact ⟨_, rfl, rfl, Below.refl _ _⟩
            · have d6 : a.tmps[32]?.getD undef = .pointer (some ⟨b, o + k * 4, none⟩) := hdep 6 rfl
              have dg : a.tmps[28]?.getD undef = .bool true := hdep 2 rfl
              refine Drawn.wpOp_flow 33 rfl (Drawn.wanted_of rfl rfl rfl dg) rfl ?_
              obtain ⟨d0, d1, d2, d3⟩ := HLW.out.below hb
              simp only [Nat.zero_add] at d0 d1 d2 d3
              obtain ⟨c0, c1', c2, c3⟩ := HE.out.below hb
              simp only at c0 c1' c2 c3
              clear dg
              clear hev hdep hb
              go_simp
              exact ⟨_, rfl, rfl, Below.refl _ _⟩
            · have d3 : a.tmps[29]?.getD undef = .agg #[.string yn, .int .i64 yr, .int .i64 ya, .int .i64 yc] := hdep 3 rfl
              have d7 : a.tmps[33]?.getD undef = .agg #[.string zn, .int .i64 zr, .int .i64 za, .int .i64 zc] := hdep 7 rfl
              have dg : a.tmps[28]?.getD undef = .bool true := hdep 2 rfl
              refine Drawn.wpOp_flow 34 rfl (Drawn.wanted_of rfl rfl rfl dg) rfl ?_
              clear hev hdep
              go_simp
              refine (HLESS.out w3).mono ?_
              rintro e w4 ⟨rfl, hb4⟩
              exact ⟨_, rfl, rfl, hb4⟩
            · have d2 : a.tmps[28]?.getD undef = .bool true := hdep 2 rfl
              have d8 : a.tmps[34]?.getD undef = .bool false := hdep 8 rfl
              refine Drawn.wpOp_flow 35 rfl rfl rfl ?_
              clear hev hdep hb
              go_simp
              exact ⟨_, rfl, rfl, Below.refl _ _⟩
          · intro xq w3 hb hxq
            have vq0 : xq 0 = .bool false := hxq 0 (by omega)
            have vq1 : xq 1 = .bool true := hxq 1 (by omega)
            have vq2 : xq 2 = .bool true := hxq 2 (by omega)
            have vq3 : xq 3 = .agg #[.string yn, .int .i64 yr, .int .i64 ya, .int .i64 yc] := hxq 3 (by omega)
            have vq4 : xq 4 = .slice (some ⟨b, o, none⟩) n1 c1 := hxq 4 (by omega)
            have vq5 : xq 5 = .int .i64 (k : Nat) := hxq 5 (by omega)
            have vq6 : xq 6 = .pointer (some ⟨b, o + k * 4, none⟩) := hxq 6 (by omega)
            have vq7 : xq 7 = .agg #[.string zn, .int .i64 zr, .int .i64 za, .int .i64 zc] := hxq 7 (by omega)
            have vq8 : xq 8 = .bool false := hxq 8 (by omega)
            have vq9 : xq 9 = .bool false := hxq 9 (by omega)
            show Exit.then _ _ Exit.normal (Drawn.acts _ [(35, some (xq 9)), (34, some (xq 8)), (33, some (xq 7)), (32, some (xq 6)), (31, some (xq 5)), (30, some (xq 4)), (29, some (xq 3)), (28, some (xq 2)), (27, some (xq 1)), (26, some (xq 0))]) _
            rw [vq0, vq1, vq2, vq3, vq4, vq5, vq6, vq7, vq8, vq9]
            clear hxq vq0 vq1 vq2 vq3 vq4 vq5 vq6 vq7 vq8 vq9
            clear xq
            simp only [Drawn.acts]
            go_simp
            have HB3 := Lib.hid (bstep HBL.out hb)
            have HO3 := Lib.hid (HO.out.below hb)
            obtain ⟨c0, c1', c2, c3⟩ := HE.out.below hb
            simp only at c0 c1' c2 c3
            clear hb
            go_at_K
            go_wp2_with (first
              | (refine wpList_append_E rfl _ _ rfl wL.heap.size _ (outTo l1 ⟨yn, yr, ya, yc⟩ p k) rfl (HO3.out.below (balloc w3 _)) (some ⟨w3.heap.size, 0, none⟩) 1 1 [⟨zn, zr, za, zc⟩] rfl rfl (EntsAt.lit w3 ⟨zn, zr, za, zc⟩ _) (by have := HLEN2.out; omega) (Nat.le_trans HB3.out.size (by simp)) ?_
                 intro v5 w5 ha
                 have HB5 : Hid (Below wL.heap.size wL w5) := Lib.hid (ha.below (HO3.out.below (balloc w3 _)) (bstep HB3.out (balloc w3 _)) (Nat.le_refl _) (Nat.le_trans HB3.out.size (by simp)))
                 have ho := ha.own
                 rw [← HST.out] at ho
                 have HO5 := Lib.hid ho
                 clear ha ho))
            go_roundw
            case rel => exact ⟨k + 1, by go_num, by omega, by rw [HPK1.out], HB5, HO5⟩
            case measure => simp [intOf] <;> omega
      · obtain rfl : k = n1 := by omega
        have hN := HN1.out
        have hp := HPL.out
        have HF := HFIN.out
        rw [← hN] at HF hp
        have HLW := Lib.hid (HLIES.out.below HBL.out)
        have HLEN2 : Hid ((outTo l1 ⟨yn, yr, ya, yc⟩ p k).length ≤ 1048577) := Lib.hid (Nat.le_trans (outTo_len (by rw [hN]; exact Nat.le_refl _)) (by omega))
        by_cases hpk : p < k
        · rw [if_pos hpk, List.append_nil] at HF
          rw [decide_eq_true hpk]
          have HFF := Lib.hid HF
          clear HF hN hp hpk
          go_wp2
          go_ret
          exact ⟨_, rfl, by rw [← HFF.out]; exact own_less HO.out hwL, bstep HBW.out HBL.out⟩
        · rw [if_neg hpk] at HF
          rw [decide_eq_false hpk]
          have HFF := Lib.hid HF
          obtain ⟨d0, d1, d2, d3⟩ := HLW.out
          simp only [Nat.zero_add] at d0 d1 d2 d3
          clear HF hN hp hpk
          go_wp2_with (first
            | (refine wpList_append_E rfl _ _ rfl wL.heap.size _ (outTo l1 ⟨yn, yr, ya, yc⟩ p k) rfl (HO.out.below (balloc wr _)) (some ⟨wr.heap.size, 0, none⟩) 1 1 [⟨yn, yr, ya, yc⟩] rfl rfl (EntsAt.lit wr ⟨yn, yr, ya, yc⟩ _) (by have := HLEN2.out; omega) (Nat.le_trans HBL.out.size (by simp)) ?_
               intro v5 w5 ha
               have HB5 : Hid (Below wL.heap.size wL w5) := Lib.hid (ha.below (HO.out.below (balloc wr _)) (bstep HBL.out (balloc wr _)) (Nat.le_refl _) (Nat.le_trans HBL.out.size (by simp)))
               have ho := ha.own
               rw [HFF.out] at ho
               have HO5 := Lib.hid ho
               clear ha ho))
          go_ret
          exact ⟨_, rfl, own_less HO5.out hwL, bstep HBW.out HB5.out⟩
  · have HFZ : Hid (fz l (yn, yr) = (plc l (yn, yr) : Nat)) := Lib.hid (fz_has hhas)
    rw [HFZ.out] at HFIND
    have hpl : plc l (yn, yr) < n := by rw [HN.out]; exact has_lt HR.out hhas
    have HD : Hid (dropK l (yn, yr) = drop l (plc l (yn, yr))) := Lib.hid (dropK_has hhas)
    obtain ⟨pp, hpp⟩ : ∃ pp, pp = plc l (yn, yr) := ⟨_, rfl⟩
    rw [← hpp] at HFIND HD hpl
    obtain ⟨b, o, hab, -⟩ := HA.out 0 (by rw [← HN.out]; omega)
    subst hab
    have HDR := Lib.hid (HDROP.out b o pp _ HA.out hpl)
    rw [← HD.out] at HDR
    have hnl : (dropK l (yn, yr)).length = n - 1 := by rw [HD.out, drop_len (by rw [← HN.out]; exact hpl), HN.out]
    have HNL := Lib.hid hnl
    have b1 : (0 : Int) ≤ (pp : Int) := by omega
    clear hhas HDROP HD HFZ hpp hpl hnl
    go_enter Try.func10, Try.ntmps10
    go_wp2_with fail
    generalize w.alloc (.cells #[.string yn, .int .i64 yr, .int .i64 ya, .int .i64 yc] 28) = w0 at *
    refine HFIND.out.mono ?_
    rintro e w2 ⟨rfl, rfl⟩
    go_wp2_with fail
    refine HDR.out.mono ?_
    rintro e wL ⟨v1, rfl, ho, hbd⟩
    have HBW := Lib.hid (bstep HB0.out hbd)
    have HLIES2 := Lib.hid (HLIES.out.below hbd)
    obtain ⟨A1, c1, hv, -, -, hA1, -⟩ := ho.ents
    obtain ⟨l1, hl1⟩ : ∃ l1, l1 = dropK l (yn, yr) := ⟨_, rfl⟩
    rw [← hl1] at hv hA1
    obtain ⟨n1, hn1⟩ : ∃ n1, n1 = l1.length := ⟨_, rfl⟩
    have hn1k : n1 ≤ 1048576 := by have := HNL.out; rw [hn1, hl1]; omega
    rw [← hn1] at hv
    subst hv
    have HL1 := Lib.hid hl1; have HN1 := Lib.hid hn1; have HA1 := Lib.hid hA1
    clear ho hbd hA1 hl1 hn1 HLIES HFIND HB0 HDR HA
    have HLIES := HLIES2
    clear HLIES2
    obtain ⟨p, hp⟩ : ∃ p, p = plc (dropK l (yn, yr)) (yn, yr) := ⟨_, rfl⟩
    have HP := Lib.hid hp
    clear hp
    have hy' := hy
    go_wp2_with fail
    have HOVER : Hid (∀ k, (hk : k < l1.length) → k ≤ p → kless (yn, yr) l1[k].key = decide (k = p)) := Lib.hid fun k hk hkp => by
      have hL := HL1.out
      subst hL
      exact over_at (y := ⟨yn, yr, ya, yc⟩) HNONE.out HP.out HR1.out hk hkp
    have HSZ : Hid (∀ k, (hk : k < l1.length) → l1[k].name.size ≤ 9223372036854775807) := Lib.hid fun k hk => by
      have hL := HL1.out
      subst hL
      exact HS1.out _ (List.getElem_mem hk)
    have HPL : Hid (p ≤ l1.length) := Lib.hid (by rw [HP.out, HL1.out]; exact plc_le _ _)
    have HFIN : Hid (outTo l1 ⟨yn, yr, ya, yc⟩ p l1.length ++ (if p < l1.length then [] else [⟨yn, yr, ya, yc⟩]) = putK l ⟨yn, yr, ya, yc⟩) := Lib.hid (by
      rw [outTo_end HPL.out, HPUT.out, HP.out, HL1.out])
    clear HNONE HR1 HS1 HPUT HP HR HS
    have hwL := HBW.out.size
    go_loopw [6, 7, 8] (fun s6 s7 s8 wr => ∃ k : Nat, s8 = .int .i64 k ∧ k ≤ n1 ∧ s7 = .bool (decide (p < k)) ∧ Hid (Below wL.heap.size wL wr) ∧ Hid (OwnEn wr wL.heap.size 28 s6 (outTo l1 ⟨yn, yr, ya, yc⟩ p k))) (fun _ _ s8 _ => n1 - (intOf s8).toNat)
    case atStart => exact ⟨0, rfl, Nat.zero_le _, by rw [decide_eq_false (by omega)], Lib.hid (Below.refl _ _), Lib.hid (by rw [outTo_zero]; exact OwnEn.nil _ _ _)⟩
    case round =>
      obtain ⟨k, rfl, hk, rfl, HBL, HO⟩ := hrel
      rename World => wr
      by_cases hlt : k < n1
      · have hL : k < l1.length := by rw [← HN1.out]; exact hlt
        obtain ⟨b, o, hab, he⟩ := (HA1.out.below HBL.out) k hL
        subst hab
        obtain ⟨y, hy⟩ : ∃ y, y = l1[k] := ⟨_, rfl⟩
        rw [← hy] at he
        have hov := HOVER.out k hL
        have hsz := HSZ.out k hL
        rw [← hy] at hov hsz
        have HLEN2 := Lib.hid (Nat.le_trans (outTo_len (y := ⟨yn, yr, ya, yc⟩) (p := p) (Nat.le_of_lt hL)) (show k + 1 ≤ 1048577 by omega))
        have hkm : k ≤ 1048576 := by omega
        obtain ⟨zn, zr, za, zc⟩ := y
        have HE := Lib.hid he; have HYY := Lib.hid hy
        have HLW := Lib.hid (HLIES.out.below HBL.out)
        rcases Nat.lt_trichotomy p k with hpk | hpk | hpk
        · have hst : outTo l1 ⟨yn, yr, ya, yc⟩ p (k + 1) = outTo l1 ⟨yn, yr, ya, yc⟩ p k ++ [⟨zn, zr, za, zc⟩] := by rw [outTo_behind hL hpk, ← hy]
          have hpk1 : p < k + 1 := by omega
          have HST := Lib.hid hst
          have HPK1 := Lib.hid (decide_eq_true hpk1)
          rw [decide_eq_true hpk]
          clear hst hy hov hsz he hpk hpk1
          go_wp2_with fail
          refine Drawn.wp_region_flowL 10 [Drawn.SP.is (.bool true), Drawn.SP.is (.bool false), Drawn.SP.is (.bool false), Drawn.SP.is (undef), Drawn.SP.is (undef), Drawn.SP.is (undef), Drawn.SP.is (undef), Drawn.SP.is (undef), Drawn.SP.is (undef), Drawn.SP.is (.bool false)] (by kernel_rfl) (by kernel_rfl) ?_ ?_
          · intro i hi a w3 hb hev hdep
            rcases (show i = 0 ∨ i = 1 ∨ i = 2 ∨ i = 3 ∨ i = 4 ∨ i = 5 ∨ i = 6 ∨ i = 7 ∨ i = 8 ∨ i = 9 by omega) with rfl | rfl | rfl | rfl | rfl | rfl | rfl | rfl | rfl | rfl
            · have e7 : a.tmps[7]?.getD undef = .bool true := hev 7 rfl
              refine Drawn.wpOp_flow 26 rfl rfl rfl ?_
              clear hev hdep hb
              go_simp
              exact ⟨_, rfl, rfl, Below.refl _ _⟩
            · have d0 : a.tmps[26]?.getD undef = .bool true := hdep 0 rfl
              refine Drawn.wpOp_flow 27 rfl rfl rfl ?_
              clear hev hdep hb
              go_simp
              exact ⟨_, rfl, rfl, Below.refl _ _⟩
            · have d1 : a.tmps[27]?.getD undef = .bool false := hdep 1 rfl
              refine Drawn.wpOp_flow 28 rfl rfl rfl ?_
              clear hev hdep hb
              go_simp
              exact ⟨_, rfl, rfl, Below.refl _ _⟩
            · have dg : a.tmps[28]?.getD undef = .bool false := hdep 2 rfl
              exact Drawn.wpOp_flow_skip 29 rfl (Drawn.unwanted_of rfl rfl rfl dg rfl) rfl rfl
            · have dg : a.tmps[28]?.getD undef = .bool false := hdep 2 rfl
              exact Drawn.wpOp_flow_skip 30 rfl (Drawn.unwanted_of rfl rfl rfl dg rfl) rfl rfl
            · have dg : a.tmps[28]?.getD undef = .bool false := hdep 2 rfl
              exact Drawn.wpOp_flow_skip 31 rfl (Drawn.unwanted_of rfl rfl rfl dg rfl) rfl rfl
            · have dg : a.tmps[28]?.getD undef = .bool false := hdep 2 rfl
              exact Drawn.wpOp_flow_skip 32 rfl (Drawn.unwanted_of rfl rfl rfl dg rfl) rfl rfl
            · have dg : a.tmps[28]?.getD undef = .bool false := hdep 2 rfl
              exact Drawn.wpOp_flow_skip 33 rfl (Drawn.unwanted_of rfl rfl rfl dg rfl) rfl rfl
            · have dg : a.tmps[28]?.getD undef = .bool false := hdep 2 rfl
              exact Drawn.wpOp_flow_skip 34 rfl (Drawn.unwanted_of rfl rfl rfl dg rfl) rfl rfl
            · have d2 : a.tmps[28]?.getD undef = .bool false := hdep 2 rfl
              have d8 : a.tmps[34]?.getD undef = undef := hdep 8 rfl
              refine Drawn.wpOp_flow 35 rfl rfl rfl ?_
              clear hev hdep hb
              go_simp
              exact ⟨_, rfl, rfl, Below.refl _ _⟩
          · intro xq w3 hb hxq
            have vq0 : xq 0 = .bool true := hxq 0 (by omega)
            have vq1 : xq 1 = .bool false := hxq 1 (by omega)
            have vq2 : xq 2 = .bool false := hxq 2 (by omega)
            have vq3 : xq 3 = undef := hxq 3 (by omega)
            have vq4 : xq 4 = undef := hxq 4 (by omega)
            have vq5 : xq 5 = undef := hxq 5 (by omega)
            have vq6 : xq 6 = undef := hxq 6 (by omega)
            have vq7 : xq 7 = undef := hxq 7 (by omega)
            have vq8 : xq 8 = undef := hxq 8 (by omega)
            have vq9 : xq 9 = .bool false := hxq 9 (by omega)
            show Exit.then _ _ Exit.normal (Drawn.acts _ [(35, some (xq 9)), (34, some (xq 8)), (33, some (xq 7)), (32, some (xq 6)), (31, some (xq 5)), (30, some (xq 4)), (29, some (xq 3)), (28, some (xq 2)), (27, some (xq 1)), (26, some (xq 0))]) _
            rw [vq0, vq1, vq2, vq3, vq4, vq5, vq6, vq7, vq8, vq9]
            clear hxq vq0 vq1 vq2 vq3 vq4 vq5 vq6 vq7 vq8 vq9
            clear xq
            simp only [Drawn.acts]
            go_simp
            have HB3 := Lib.hid (bstep HBL.out hb)
            have HO3 := Lib.hid (HO.out.below hb)
            obtain ⟨c0, c1', c2, c3⟩ := HE.out.below hb
            simp only at c0 c1' c2 c3
            clear hb
            go_at_K
            go_wp2_with (first
              | (refine wpList_append_E rfl _ _ rfl wL.heap.size _ (outTo l1 ⟨yn, yr, ya, yc⟩ p k) rfl (HO3.out.below (balloc w3 _)) (some ⟨w3.heap.size, 0, none⟩) 1 1 [⟨zn, zr, za, zc⟩] rfl rfl (EntsAt.lit w3 ⟨zn, zr, za, zc⟩ _) (by have := HLEN2.out; omega) (Nat.le_trans HB3.out.size (by simp)) ?_
                 intro v5 w5 ha
                 have HB5 : Hid (Below wL.heap.size wL w5) := Lib.hid (ha.below (HO3.out.below (balloc w3 _)) (bstep HB3.out (balloc w3 _)) (Nat.le_refl _) (Nat.le_trans HB3.out.size (by simp)))
                 have ho := ha.own
                 rw [← HST.out] at ho
                 have HO5 := Lib.hid ho
                 clear ha ho))
            go_roundw
            case rel => exact ⟨k + 1, by go_num, by omega, by rw [HPK1.out], HB5, HO5⟩
            case measure => simp [intOf] <;> omega
        · have hpe : k = p := hpk.symm
          have hst : outTo l1 ⟨yn, yr, ya, yc⟩ p (k + 1) = outTo l1 ⟨yn, yr, ya, yc⟩ p k ++ [⟨yn, yr, ya, yc⟩] ++ [⟨zn, zr, za, zc⟩] := by rw [outTo_here hL hpe, ← hy]
          have hpk1 : p < k + 1 := by omega
          have HST := Lib.hid hst
          have HPK1 := Lib.hid (decide_eq_true hpk1)
          rw [decide_eq_false (show ¬ p < k by omega)]
          have hov2 := hov (by omega)
          rw [decide_eq_true hpe] at hov2
          have hless := fun V => less_any yn zn yr ya yc zr za zc V hy' hsz
          rw [show kless (yn, yr) (zn, zr) = true from hov2] at hless
          have HLESS := Lib.hid hless
          clear hst hy hov hov2 hsz he hpk hpk1 hpe hless
          go_wp2_with fail
          refine Drawn.wp_region_flowL 10 [Drawn.SP.is (.bool false), Drawn.SP.is (.bool true), Drawn.SP.is (.bool true), Drawn.SP.is (.agg #[.string yn, .int .i64 yr, .int .i64 ya, .int .i64 yc]), Drawn.SP.is (.slice (some ⟨b, o, none⟩) n1 c1), Drawn.SP.is (.int .i64 (k : Nat)), Drawn.SP.is (.pointer (some ⟨b, o + k * 4, none⟩)), Drawn.SP.is (.agg #[.string zn, .int .i64 zr, .int .i64 za, .int .i64 zc]), Drawn.SP.is (.bool true), Drawn.SP.is (.bool true)] (by kernel_rfl) (by kernel_rfl) ?_ ?_
          · intro i hi a w3 hb hev hdep
            rcases (show i = 0 ∨ i = 1 ∨ i = 2 ∨ i = 3 ∨ i = 4 ∨ i = 5 ∨ i = 6 ∨ i = 7 ∨ i = 8 ∨ i = 9 by omega) with rfl | rfl | rfl | rfl | rfl | rfl | rfl | rfl | rfl | rfl
            · have e7 : a.tmps[7]?.getD undef = .bool false := hev 7 rfl
              refine Drawn.wpOp_flow 26 rfl rfl rfl ?_
              clear hev hdep hb
              go_simp
              exact ⟨_, rfl, rfl, Below.refl _ _⟩
            · have d0 : a.tmps[26]?.getD undef = .bool false := hdep 0 rfl
              refine Drawn.wpOp_flow 27 rfl rfl rfl ?_
              clear hev hdep hb
              go_simp
              exact ⟨_, rfl, rfl, Below.refl _ _⟩
            · have d1 : a.tmps[27]?.getD undef = .bool true := hdep 1 rfl
              refine Drawn.wpOp_flow 28 rfl rfl rfl ?_
              clear hev hdep hb
              go_simp
              exact ⟨_, rfl, rfl, Below.refl _ _⟩
            · have e3 : a.tmps[3]?.getD undef = .pointer (some ⟨w.heap.size, 0, none⟩) := hev 3 rfl
              have dg : a.tmps[28]?.getD undef = .bool true := hdep 2 rfl
              refine Drawn.wpOp_flow 29 rfl (Drawn.wanted_of rfl rfl rfl dg) rfl ?_
              obtain ⟨d0, d1, d2, d3⟩ := HLW.out.below hb
              simp only [Nat.zero_add] at d0 d1 d2 d3
              obtain ⟨c0, c1', c2, c3⟩ := HE.out.below hb
              simp only at c0 c1' c2 c3
              clear dg
              clear hev hdep hb
              go_simp
              exact ⟨_, rfl, rfl, Below.refl _ _⟩
            · have e0 : a.tmps[0]?.getD undef = .slice (some ⟨b, o, none⟩) n1 c1 := hev 0 rfl
              have dg : a.tmps[28]?.getD undef = .bool true := hdep 2 rfl
              refine Drawn.wpOp_flow 30 rfl (Drawn.wanted_of rfl rfl rfl dg) rfl ?_
              clear dg
              clear hev hdep hb
              go_simp
              exact ⟨_, rfl, rfl, Below.refl _ _⟩
            · have e8 : a.tmps[8]?.getD undef = .int .i64 (k : Nat) := hev 8 rfl
              have dg : a.tmps[28]?.getD undef = .bool true := hdep 2 rfl
              refine Drawn.wpOp_flow 31 rfl (Drawn.wanted_of rfl rfl rfl dg) rfl ?_
              clear dg
              clear hev hdep hb
              go_simp
              exact ⟨_, rfl, rfl, Below.refl _ _⟩
            · have d4 : a.tmps[30]?.getD undef = .slice (some ⟨b, o, none⟩) n1 c1 := hdep 4 rfl
              have d5 : a.tmps[31]?.getD undef = .int .i64 (k : Nat) := hdep 5 rfl
              have dg : a.tmps[28]?.getD undef = .bool true := hdep 2 rfl
              refine Drawn.wpOp_flow 32 rfl (Drawn.wanted_of rfl rfl rfl dg) rfl ?_
              clear dg
              clear hev hdep hb
              go_simp
              exact ⟨_, rfl, rfl, Below.refl _ _⟩
            · have d6 : a.tmps[32]?.getD undef = .pointer (some ⟨b, o + k * 4, none⟩) := hdep 6 rfl
              have dg : a.tmps[28]?.getD undef = .bool true := hdep 2 rfl
              refine Drawn.wpOp_flow 33 rfl (Drawn.wanted_of rfl rfl rfl dg) rfl ?_
              obtain ⟨d0, d1, d2, d3⟩ := HLW.out.below hb
              simp only [Nat.zero_add] at d0 d1 d2 d3
              obtain ⟨c0, c1', c2, c3⟩ := HE.out.below hb
              simp only at c0 c1' c2 c3
              clear dg
              clear hev hdep hb
              go_simp
              exact ⟨_, rfl, rfl, Below.refl _ _⟩
            · have d3 : a.tmps[29]?.getD undef = .agg #[.string yn, .int .i64 yr, .int .i64 ya, .int .i64 yc] := hdep 3 rfl
              have d7 : a.tmps[33]?.getD undef = .agg #[.string zn, .int .i64 zr, .int .i64 za, .int .i64 zc] := hdep 7 rfl
              have dg : a.tmps[28]?.getD undef = .bool true := hdep 2 rfl
              refine Drawn.wpOp_flow 34 rfl (Drawn.wanted_of rfl rfl rfl dg) rfl ?_
              clear hev hdep
              go_simp
              refine (HLESS.out w3).mono ?_
              rintro e w4 ⟨rfl, hb4⟩
              exact ⟨_, rfl, rfl, hb4⟩
            · have d2 : a.tmps[28]?.getD undef = .bool true := hdep 2 rfl
              have d8 : a.tmps[34]?.getD undef = .bool true := hdep 8 rfl
              refine Drawn.wpOp_flow 35 rfl rfl rfl ?_
              clear hev hdep hb
              go_simp
              exact ⟨_, rfl, rfl, Below.refl _ _⟩
          · intro xq w3 hb hxq
            have vq0 : xq 0 = .bool false := hxq 0 (by omega)
            have vq1 : xq 1 = .bool true := hxq 1 (by omega)
            have vq2 : xq 2 = .bool true := hxq 2 (by omega)
            have vq3 : xq 3 = .agg #[.string yn, .int .i64 yr, .int .i64 ya, .int .i64 yc] := hxq 3 (by omega)
            have vq4 : xq 4 = .slice (some ⟨b, o, none⟩) n1 c1 := hxq 4 (by omega)
            have vq5 : xq 5 = .int .i64 (k : Nat) := hxq 5 (by omega)
            have vq6 : xq 6 = .pointer (some ⟨b, o + k * 4, none⟩) := hxq 6 (by omega)
            have vq7 : xq 7 = .agg #[.string zn, .int .i64 zr, .int .i64 za, .int .i64 zc] := hxq 7 (by omega)
            have vq8 : xq 8 = .bool true := hxq 8 (by omega)
            have vq9 : xq 9 = .bool true := hxq 9 (by omega)
            show Exit.then _ _ Exit.normal (Drawn.acts _ [(35, some (xq 9)), (34, some (xq 8)), (33, some (xq 7)), (32, some (xq 6)), (31, some (xq 5)), (30, some (xq 4)), (29, some (xq 3)), (28, some (xq 2)), (27, some (xq 1)), (26, some (xq 0))]) _
            rw [vq0, vq1, vq2, vq3, vq4, vq5, vq6, vq7, vq8, vq9]
            clear hxq vq0 vq1 vq2 vq3 vq4 vq5 vq6 vq7 vq8 vq9
            clear xq
            simp only [Drawn.acts]
            go_simp
            have HB3 := Lib.hid (bstep HBL.out hb)
            have HO3 := Lib.hid (HO.out.below hb)
            obtain ⟨d0, d1, d2, d3⟩ := HLW.out.below hb
            simp only [Nat.zero_add] at d0 d1 d2 d3
            clear hb
            go_at_K
            go_wp2_with (first
              | (refine wpList_append_E rfl _ _ rfl wL.heap.size _ (outTo l1 ⟨yn, yr, ya, yc⟩ p k) rfl (HO3.out.below (balloc w3 _)) (some ⟨w3.heap.size, 0, none⟩) 1 1 [⟨yn, yr, ya, yc⟩] rfl rfl (EntsAt.lit w3 ⟨yn, yr, ya, yc⟩ _) (by have := HLEN2.out; omega) (Nat.le_trans HB3.out.size (by simp)) ?_
                 intro v4 w4 ha
                 have HB4 : Hid (Below wL.heap.size wL w4) := Lib.hid (ha.below (HO3.out.below (balloc w3 _)) (bstep HB3.out (balloc w3 _)) (Nat.le_refl _) (Nat.le_trans HB3.out.size (by simp)))
                 have HO4 := Lib.hid ha.own
                 obtain ⟨c0, c1', c2, c3⟩ : EnLies w4 b (o + k * 4) ⟨zn, zr, za, zc⟩ := by
                   have := (HA1.out.below HB4.out) k (by rw [← HN1.out]; exact hlt)
                   obtain ⟨b', o', e', h'⟩ := this
                   injection e' with e'; injection e' with e1 e2; subst e1; subst e2
                   rw [← HYY.out] at h'; exact h'
                 simp only at c0 c1' c2 c3
                 clear ha d0 d1 d2 d3)
              | (refine wpList_append_E rfl _ _ rfl wL.heap.size _ (outTo l1 ⟨yn, yr, ya, yc⟩ p k ++ [⟨yn, yr, ya, yc⟩]) rfl (HO4.out.below (balloc w4 _)) (some ⟨w4.heap.size, 0, none⟩) 1 1 [⟨zn, zr, za, zc⟩] rfl rfl (EntsAt.lit w4 ⟨zn, zr, za, zc⟩ _) (by have := HLEN2.out; rw [List.length_append]; simp; omega) (Nat.le_trans HB4.out.size (by simp)) ?_
                 intro v5 w5 ha
                 have HB5 : Hid (Below wL.heap.size wL w5) := Lib.hid (ha.below (HO4.out.below (balloc w4 _)) (bstep HB4.out (balloc w4 _)) (Nat.le_refl _) (Nat.le_trans HB4.out.size (by simp)))
                 have ho := ha.own
                 rw [← HST.out] at ho
                 have HO5 := Lib.hid ho
                 clear ha ho))
            go_roundw
            case rel => exact ⟨k + 1, by go_num, by omega, by rw [HPK1.out], HB5, HO5⟩
            case measure => simp [intOf] <;> omega
        · have hst : outTo l1 ⟨yn, yr, ya, yc⟩ p (k + 1) = outTo l1 ⟨yn, yr, ya, yc⟩ p k ++ [⟨zn, zr, za, zc⟩] := by rw [outTo_ahead hL hpk, ← hy]
          have hpk1 : ¬ p < k + 1 := by omega
          have HST := Lib.hid hst
          have HPK1 := Lib.hid (decide_eq_false hpk1)
          rw [decide_eq_false (show ¬ p < k by omega)]
          have hov2 := hov (by omega)
          rw [decide_eq_false (show ¬ k = p by omega)] at hov2
          have hless := fun V => less_any yn zn yr ya yc zr za zc V hy' hsz
          rw [show kless (yn, yr) (zn, zr) = false from hov2] at hless
          have HLESS := Lib.hid hless
          clear hst hy hov hov2 hsz he hpk hpk1 hless
          go_wp2_with fail
          refine Drawn.wp_region_flowL 10 [Drawn.SP.is (.bool false), Drawn.SP.is (.bool true), Drawn.SP.is (.bool true), Drawn.SP.is (.agg #[.string yn, .int .i64 yr, .int .i64 ya, .int .i64 yc]), Drawn.SP.is (.slice (some ⟨b, o, none⟩) n1 c1), Drawn.SP.is (.int .i64 (k : Nat)), Drawn.SP.is (.pointer (some ⟨b, o + k * 4, none⟩)), Drawn.SP.is (.agg #[.string zn, .int .i64 zr, .int .i64 za, .int .i64 zc]), Drawn.SP.is (.bool false), Drawn.SP.is (.bool false)] (by kernel_rfl) (by kernel_rfl) ?_ ?_
          · intro i hi a w3 hb hev hdep
            rcases (show i = 0 ∨ i = 1 ∨ i = 2 ∨ i = 3 ∨ i = 4 ∨ i = 5 ∨ i = 6 ∨ i = 7 ∨ i = 8 ∨ i = 9 by omega) with rfl | rfl | rfl | rfl | rfl | rfl | rfl | rfl | rfl | rfl
            · have e7 : a.tmps[7]?.getD undef = .bool false := hev 7 rfl
              refine Drawn.wpOp_flow 26 rfl rfl rfl ?_
              clear hev hdep hb
              go_simp
              exact ⟨_, rfl, rfl, Below.refl _ _⟩
            · have d0 : a.tmps[26]?.getD undef = .bool false := hdep 0 rfl
              refine Drawn.wpOp_flow 27 rfl rfl rfl ?_
              clear hev hdep hb
              go_simp
              exact ⟨_, rfl, rfl, Below.refl _ _⟩
            · have d1 : a.tmps[27]?.getD undef = .bool true := hdep 1 rfl
              refine Drawn.wpOp_flow 28 rfl rfl rfl ?_
              clear hev hdep hb
              go_simp
              exact ⟨_, rfl, rfl, Below.refl _ _⟩
            · have e3 : a.tmps[3]?.getD undef = .pointer (some ⟨w.heap.size, 0, none⟩) := hev 3 rfl
              have dg : a.tmps[28]?.getD undef = .bool true := hdep 2 rfl
              refine Drawn.wpOp_flow 29 rfl (Drawn.wanted_of rfl rfl rfl dg) rfl ?_
              obtain ⟨d0, d1, d2, d3⟩ := HLW.out.below hb
              simp only [Nat.zero_add] at d0 d1 d2 d3
              obtain ⟨c0, c1', c2, c3⟩ := HE.out.below hb
              simp only at c0 c1' c2 c3
              clear dg
              clear hev hdep hb
              go_simp
              exact ⟨_, rfl, rfl, Below.refl _ _⟩
            · have e0 : a.tmps[0]?.getD undef = .slice (some ⟨b, o, none⟩) n1 c1 := hev 0 rfl
              have dg : a.tmps[28]?.getD undef = .bool true := hdep 2 rfl
              refine Drawn.wpOp_flow 30 rfl (Drawn.wanted_of rfl rfl rfl dg) rfl ?_
              clear dg
              clear hev hdep hb
              go_simp
              exact ⟨_, rfl, rfl, Below.refl _ _⟩
            · have e8 : a.tmps[8]?.getD undef = .int .i64 (k : Nat) := hev 8 rfl
              have dg : a.tmps[28]?.getD undef = .bool true := hdep 2 rfl
              refine Drawn.wpOp_flow 31 rfl (Drawn.wanted_of rfl rfl rfl dg) rfl ?_
              clear dg
              clear hev hdep hb
              go_simp
              exact ⟨_, rfl, rfl, Below.refl _ _⟩
            · have d4 : a.tmps[30]?.getD undef = .slice (some ⟨b, o, none⟩) n1 c1 := hdep 4 rfl
              have d5 : a.tmps[31]?.getD undef = .int .i64 (k : Nat) := hdep 5 rfl
              have dg : a.tmps[28]?.getD undef = .bool true := hdep 2 rfl
              refine Drawn.wpOp_flow 32 rfl (Drawn.wanted_of rfl rfl rfl dg) rfl ?_
              clear dg
              clear hev hdep hb
              go_simp
              exact ⟨_, rfl, rfl, Below.refl _ _⟩
            · have d6 : a.tmps[32]?.getD undef = .pointer (some ⟨b, o + k * 4, none⟩) := hdep 6 rfl
              have dg : a.tmps[28]?.getD undef = .bool true := hdep 2 rfl
              refine Drawn.wpOp_flow 33 rfl (Drawn.wanted_of rfl rfl rfl dg) rfl ?_
              obtain ⟨d0, d1, d2, d3⟩ := HLW.out.below hb
              simp only [Nat.zero_add] at d0 d1 d2 d3
              obtain ⟨c0, c1', c2, c3⟩ := HE.out.below hb
              simp only at c0 c1' c2 c3
              clear dg
              clear hev hdep hb
              go_simp
              exact ⟨_, rfl, rfl, Below.refl _ _⟩
            · have d3 : a.tmps[29]?.getD undef = .agg #[.string yn, .int .i64 yr, .int .i64 ya, .int .i64 yc] := hdep 3 rfl
              have d7 : a.tmps[33]?.getD undef = .agg #[.string zn, .int .i64 zr, .int .i64 za, .int .i64 zc] := hdep 7 rfl
              have dg : a.tmps[28]?.getD undef = .bool true := hdep 2 rfl
              refine Drawn.wpOp_flow 34 rfl (Drawn.wanted_of rfl rfl rfl dg) rfl ?_
              clear hev hdep
              go_simp
              refine (HLESS.out w3).mono ?_
              rintro e w4 ⟨rfl, hb4⟩
              exact ⟨_, rfl, rfl, hb4⟩
            · have d2 : a.tmps[28]?.getD undef = .bool true := hdep 2 rfl
              have d8 : a.tmps[34]?.getD undef = .bool false := hdep 8 rfl
              refine Drawn.wpOp_flow 35 rfl rfl rfl ?_
              clear hev hdep hb
              go_simp
              exact ⟨_, rfl, rfl, Below.refl _ _⟩
          · intro xq w3 hb hxq
            have vq0 : xq 0 = .bool false := hxq 0 (by omega)
            have vq1 : xq 1 = .bool true := hxq 1 (by omega)
            have vq2 : xq 2 = .bool true := hxq 2 (by omega)
            have vq3 : xq 3 = .agg #[.string yn, .int .i64 yr, .int .i64 ya, .int .i64 yc] := hxq 3 (by omega)
            have vq4 : xq 4 = .slice (some ⟨b, o, none⟩) n1 c1 := hxq 4 (by omega)
            have vq5 : xq 5 = .int .i64 (k : Nat) := hxq 5 (by omega)
            have vq6 : xq 6 = .pointer (some ⟨b, o + k * 4, none⟩) := hxq 6 (by omega)
            have vq7 : xq 7 = .agg #[.string zn, .int .i64 zr, .int .i64 za, .int .i64 zc] := hxq 7 (by omega)
            have vq8 : xq 8 = .bool false := hxq 8 (by omega)
            have vq9 : xq 9 = .bool false := hxq 9 (by omega)
            show Exit.then _ _ Exit.normal (Drawn.acts _ [(35, some (xq 9)), (34, some (xq 8)), (33, some (xq 7)), (32, some (xq 6)), (31, some (xq 5)), (30, some (xq 4)), (29, some (xq 3)), (28, some (xq 2)), (27, some (xq 1)), (26, some (xq 0))]) _
            rw [vq0, vq1, vq2, vq3, vq4, vq5, vq6, vq7, vq8, vq9]
            clear hxq vq0 vq1 vq2 vq3 vq4 vq5 vq6 vq7 vq8 vq9
            clear xq
            simp only [Drawn.acts]
            go_simp
            have HB3 := Lib.hid (bstep HBL.out hb)
            have HO3 := Lib.hid (HO.out.below hb)
            obtain ⟨c0, c1', c2, c3⟩ := HE.out.below hb
            simp only at c0 c1' c2 c3
            clear hb
            go_at_K
            go_wp2_with (first
              | (refine wpList_append_E rfl _ _ rfl wL.heap.size _ (outTo l1 ⟨yn, yr, ya, yc⟩ p k) rfl (HO3.out.below (balloc w3 _)) (some ⟨w3.heap.size, 0, none⟩) 1 1 [⟨zn, zr, za, zc⟩] rfl rfl (EntsAt.lit w3 ⟨zn, zr, za, zc⟩ _) (by have := HLEN2.out; omega) (Nat.le_trans HB3.out.size (by simp)) ?_
                 intro v5 w5 ha
                 have HB5 : Hid (Below wL.heap.size wL w5) := Lib.hid (ha.below (HO3.out.below (balloc w3 _)) (bstep HB3.out (balloc w3 _)) (Nat.le_refl _) (Nat.le_trans HB3.out.size (by simp)))
                 have ho := ha.own
                 rw [← HST.out] at ho
                 have HO5 := Lib.hid ho
                 clear ha ho))
            go_roundw
            case rel => exact ⟨k + 1, by go_num, by omega, by rw [HPK1.out], HB5, HO5⟩
            case measure => simp [intOf] <;> omega
      · obtain rfl : k = n1 := by omega
        have hN := HN1.out
        have hp := HPL.out
        have HF := HFIN.out
        rw [← hN] at HF hp
        have HLW := Lib.hid (HLIES.out.below HBL.out)
        have HLEN2 : Hid ((outTo l1 ⟨yn, yr, ya, yc⟩ p k).length ≤ 1048577) := Lib.hid (Nat.le_trans (outTo_len (by rw [hN]; exact Nat.le_refl _)) (by omega))
        by_cases hpk : p < k
        · rw [if_pos hpk, List.append_nil] at HF
          rw [decide_eq_true hpk]
          have HFF := Lib.hid HF
          clear HF hN hp hpk
          go_wp2
          go_ret
          exact ⟨_, rfl, by rw [← HFF.out]; exact own_less HO.out hwL, bstep HBW.out HBL.out⟩
        · rw [if_neg hpk] at HF
          rw [decide_eq_false hpk]
          have HFF := Lib.hid HF
          obtain ⟨d0, d1, d2, d3⟩ := HLW.out
          simp only [Nat.zero_add] at d0 d1 d2 d3
          clear HF hN hp hpk
          go_wp2_with (first
            | (refine wpList_append_E rfl _ _ rfl wL.heap.size _ (outTo l1 ⟨yn, yr, ya, yc⟩ p k) rfl (HO.out.below (balloc wr _)) (some ⟨wr.heap.size, 0, none⟩) 1 1 [⟨yn, yr, ya, yc⟩] rfl rfl (EntsAt.lit wr ⟨yn, yr, ya, yc⟩ _) (by have := HLEN2.out; omega) (Nat.le_trans HBL.out.size (by simp)) ?_
               intro v5 w5 ha
               have HB5 : Hid (Below wL.heap.size wL w5) := Lib.hid (ha.below (HO.out.below (balloc wr _)) (bstep HBL.out (balloc wr _)) (Nat.le_refl _) (Nat.le_trans HBL.out.size (by simp)))
               have ho := ha.own
               rw [HFF.out] at ho
               have HO5 := Lib.hid ho
               clear ha ho))
          go_ret
          exact ⟨_, rfl, own_less HO5.out hwL, bstep HBW.out HB5.out⟩
end Go.Proofs.Ytnjdioghjjaegaa.R22

/- the document's own answers of layer 22: Names -/
set_option maxRecDepth 100000
namespace Go.Proofs.Ytnjdioghjjaegaa.R22
open Go.RowKit IdxM Ents Index

theorem names_len (l : List ByteArray) (k : Nat) : (LabM.addAll [] (l.take k)).length ≤ k := by
  have h1 := LabM.addAll_len [] (l.take k)
  have h2 : (l.take k).length ≤ k := by rw [List.length_take]; omega
  simp at h1; omega
theorem names_sane {l : List En} (hs : SaneE l) (k : Nat) : R07.Sane (LabM.addAll [] ((l.map En.name).take k)) := fun x hx => by
  rcases (LabM.mem_addAll _ _ _).1 hx with q | q
  · cases q
  · obtain ⟨e, he, rfl⟩ := List.mem_map.1 (List.mem_of_mem_take q)
    exact hs e he
theorem names_any (A : Option Addr) (l : List En) (n c : Nat) (w : World) (h : EntsAt w A l) (hn : n = l.length) (hl : n ≤ 1048576) (hs : SaneE l) :
    Calls Try.prog 18 #[.slice A n c] w (R07.RetStrs w (LabM.addAll [] (l.map En.name))) := by
  have H := Lib.hid h; have HN := Lib.hid hn; have HS := Lib.hid hs
  clear h hn hs
  go_enter Try.func18, Try.ntmps18
  go_wp2
  go_loopw [3, 4] (fun s3 s4 wr => ∃ k A1 n1 c1, s4 = .int .i64 (k : Nat) ∧ k ≤ n ∧ s3 = .slice A1 n1 c1 ∧ Hid (n1 = (LabM.addAll [] ((l.map En.name).take k)).length) ∧ Hid (n1 ≤ c1) ∧ Hid (c1 ≤ maxLen) ∧ Hid (R07.StrsAt wr A1 (LabM.addAll [] ((l.map En.name).take k))) ∧ Hid (Below w.heap.size w wr)) (fun _ s4 _ => n - (intOf s4).toNat)
  case atStart => exact ⟨0, none, 0, 0, rfl, Nat.zero_le _, rfl, Lib.hid rfl, Lib.hid (Nat.le_refl _), Lib.hid (Nat.zero_le _), Lib.hid (fun i hi => absurd hi (by simp [LabM.strV, LabM.addAll])), Lib.hid (Below.refl _ _)⟩
  case round =>
    obtain ⟨k, A1, n1, c1, rfl, hk, rfl, HL, HC1, HC2, HA, HB⟩ := hrel
    rename World => wr
    by_cases hlt : k < n
    · have hL : k < l.length := by rw [← HN.out]; exact hlt
      obtain ⟨b, o, hab, he⟩ := (H.out.below HB.out) k hL
      subst hab
      obtain ⟨y, hy⟩ : ∃ y, y = l[k] := ⟨_, rfl⟩
      have hsz := HS.out _ (List.getElem_mem hL)
      rw [← hy] at he hsz
      have hst : LabM.addAll [] ((l.map En.name).take (k + 1)) = LabM.add (LabM.addAll [] ((l.map En.name).take k)) y.name := by
        rw [LabM.addAll_take _ _ _ (by simpa using hL)]; simp [hy]
      obtain ⟨yn, yr, ya, yc⟩ := y
      obtain ⟨c0, c1', c2, c3⟩ := he
      simp only at c0 hst hsz
      have hlk := names_len (l.map En.name) k
      have hC := R07.add_any A1 _ c1 yn wr HA.out (by rw [← HL.out]; exact HC1.out) HC2.out (by omega) hsz (names_sane HS.out k)
      rw [← hst, ← HL.out] at hC
      have HC := Lib.hid hC
      clear hy hst hsz hlk hC c1' c2 c3 hL
      go_wp2_with fail
      refine HC.out.mono ?_
      rintro e w1 ⟨A2, c2, rfl, h1, h2, h3, h4⟩
      have K1 := Lib.hid h1; have K2 := Lib.hid h2; have K3 := Lib.hid h3; have K4 := Lib.hid (bstep HB.out h4)
      clear h1 h2 h3 h4 HC
      obtain ⟨n2, hn2⟩ : ∃ n2, n2 = (LabM.addAll [] ((l.map En.name).take (k + 1))).length := ⟨_, rfl⟩
      have HN2 := Lib.hid hn2
      rw [← hn2] at K1 ⊢
      clear hn2
      go_wp2
      go_roundw
      case rel => exact ⟨k + 1, A2, n2, c2, by go_num, by omega, rfl, HN2, K1, K2, K3, K4⟩
      case measure => simp [intOf] <;> omega
    · obtain rfl : k = n := by omega
      have hfull : (l.map En.name).take k = l.map En.name := List.take_of_length_le (by simp; rw [HN.out]; exact Nat.le_refl _)
      rw [hfull] at HL HA
      go_wp2
      go_ret
      exact ⟨A1, c1, by rw [← HL.out]; rfl, by rw [← HL.out]; exact HC1.out, HC2.out, HA.out, HB.out⟩
end Go.Proofs.Ytnjdioghjjaegaa.R22
