/- the document's own answers of layer 7: names -/
import Derived.Test.YtnjdioghjjaegaaCells
import Derived.Test.YtnjdioghjjaegaaLabelMath
import Derived.Deep.QuietTactic
import Derived.BigQuiet
import Derived.IntWalk
import Derived.Lib.SliceRun
set_option maxRecDepth 100000
namespace Go.Proofs.Ytnjdioghjjaegaa.R07
open Go.RowKit

theorem size_len (s : ByteArray) : s.size = s.data.toList.length := rfl
theorem get_at (s : ByteArray) (i : Nat) (h : i < s.size) : s[i] = s.data.toList[i]'(by rw [← size_len]; exact h) := by
  show s.data[i] = _
  exact (Array.getElem_toList _).symm

theorem less_any (a b : ByteArray) (w : World) (ha : a.size ≤ 9223372036854775807) (_hb : b.size ≤ 9223372036854775807) :
    Calls Try.prog 32 #[.string a, .string b] w fun e w' => e = .returned (.bool (LabM.less a.data.toList b.data.toList)) ∧ ∃ n, w' = w.drewN n := by
  go_enter Try.func32, Try.ntmps32
  go_wp2
  go_loopw [5] (fun i wr => ∃ k n : Nat, k ≤ a.size ∧ k ≤ b.size ∧ i = .int .i64 k ∧ a.data.toList.take k = b.data.toList.take k ∧ wr = w.drewN n)
    (fun i _ => a.size - (intOf i).toNat)
  case atStart => exact ⟨0, 0, Nat.zero_le _, Nat.zero_le _, rfl, rfl, rfl⟩
  case round =>
    obtain ⟨k, n, hk1, hk2, rfl, ht, hwr⟩ := hrel
    have HW := Lib.hid hwr; have HT := Lib.hid ht
    clear hwr ht
    by_cases hlt : k < a.size ∧ k < b.size
    · obtain ⟨a1, a2⟩ := hlt
      have l1 : k < a.data.toList.length := by rw [← size_len]; exact a1
      have l2 : k < b.data.toList.length := by rw [← size_len]; exact a2
      have g1 := get_at a k a1
      have g2 := get_at b k a2
      by_cases hab : a[k] = b[k]
      · have q : ((a[k].toNat : Int) != (b[k].toNat : Int)) = false := by rw [toNat_bne]; simp [hab]
        have hf : a.data.toList.take (k + 1) = b.data.toList.take (k + 1) := by
          rw [List.take_succ_eq_append_getElem l1, List.take_succ_eq_append_getElem l2, HT.out, ← g1, ← g2, hab]
        have HF := Lib.hid hf
        clear hf hab g1 g2
        go_wp2
        go_quiet (fail)
        go_wp2
        go_roundw
        case rel => exact ⟨k + 1, n + nq, by omega, by omega, by go_num, HF.out, by rw [HW.out, World.drewN_drewN]⟩
        case measure => simp [intOf] <;> omega
      · have q : ((a[k].toNat : Int) != (b[k].toNat : Int)) = true := by rw [toNat_bne]; simpa using hab
        have hf : LabM.less a.data.toList b.data.toList = decide ((a[k].toNat : Int) < (b[k].toNat : Int)) := by
          rw [LabM.less_at l1 l2 HT.out (by rw [← g1, ← g2]; exact hab), ← g1, ← g2]
          exact decide_eq_decide.2 (by omega)
        have HF := Lib.hid hf
        clear hf hab g1 g2
        go_wp2
        go_quiet (fail)
        go_wp2
        go_quiet (fail)
        go_wp2
        go_ret
        exact ⟨ret_bool (HF.out.trans (decide_eq_decide.2 (by omega))).symm, _, by rw [HW.out, World.drewN_drewN, World.drewN_drewN]⟩
    · have hf : LabM.less a.data.toList b.data.toList = decide ((a.size : Int) < (b.size : Int)) := by
        rw [LabM.less_end (k := k) (by rw [← size_len]; exact hk1) (by rw [← size_len]; exact hk2) HT.out (by rw [← size_len, ← size_len]; omega), ← size_len, ← size_len]
        exact decide_eq_decide.2 (by omega)
      have HF := Lib.hid hf
      clear hf
      by_cases h1 : k < a.size
      · have h2 : ¬ k < b.size := fun h => hlt ⟨h1, h⟩
        clear hlt
        go_wp2
        go_ret
        exact ⟨ret_bool (HF.out.trans (decide_eq_decide.2 (by omega))).symm, n, HW.out⟩
      · clear hlt
        go_wp2
        go_ret
        exact ⟨ret_bool (HF.out.trans (decide_eq_decide.2 (by omega))).symm, n, HW.out⟩

theorem str_ne {a b : ByteArray} (h : a ≠ b) : (a.toList == b.toList) = false := by
  rw [beq_eq_false_iff_ne]
  intro e
  rw [ByteArray.toList_eq, ByteArray.toList_eq] at e
  exact h (by cases a; cases b; simp at e; rw [e])
/-! lists of texts -/
def StrsAt (w : World) (A : Option Addr) (l : List ByteArray) : Prop := CellsAt w A (LabM.strV l)
theorem StrsAt.at {w : World} {A : Option Addr} {l : List ByteArray} (h : StrsAt w A l) {i : Nat} (hi : i < l.length) : ∃ b o, A = some ⟨b, o, none⟩ ∧ w.cell? ⟨b, o + i, none⟩ = some (.string l[i]) := by
  obtain ⟨b, o, hA, hc⟩ := h i (by rw [LabM.strV_len]; exact hi)
  exact ⟨b, o, hA, by rw [hc, LabM.strV_get]⟩
theorem StrsAt.below {w w' : World} {A : Option Addr} {l : List ByteArray} (h : StrsAt w A l) (hb : Below w.heap.size w w') : StrsAt w' A l := CellsAt.below h hb
theorem StrsAt.drewN {w : World} {A : Option Addr} {l : List ByteArray} (h : StrsAt w A l) (n : Nat) : StrsAt (w.drewN n) A l := h
theorem str_info : (Try.prog.info? 9).map (fun i => (i.zero, i.size, i.bytes)) = some (some (.string ByteArray.empty), 1, 16) := by kernel_rfl
theorem str_info' : ∃ i, Try.prog.info? 9 = some i ∧ i.zero = some (.string ByteArray.empty) ∧ i.size = 1 ∧ i.bytes = 16 := by
  obtain ⟨i0, h, a, b, c⟩ := info_parts str_info
  exact ⟨i0, h, a, b, c⟩
/-- the lengths of texts are numbers -/
def Sane (l : List ByteArray) : Prop := ∀ x ∈ l, x.size ≤ 9223372036854775807
theorem Sane.at {l : List ByteArray} (h : Sane l) (i : Nat) (hi : i < l.length) : l[i].size ≤ 9223372036854775807 := h _ (List.getElem_mem hi)
def RetStrs (w : World) (l : List ByteArray) (e : Ending) (w' : World) : Prop :=
  ∃ A c, e = .returned (.slice A l.length c) ∧ l.length ≤ c ∧ c ≤ maxLen ∧ StrsAt w' A l ∧ Below w.heap.size w w'

/-- a list of texts that the call has gathered -/
def OwnS (w : World) (base : Nat) (v : Value) (l : List ByteArray) : Prop := w.ownsRow base 9 1 v l.length (LabM.strV l)
structure AppdS (w : World) (base : Nat) (v : Value) (l : List ByteArray) (v' : Value) (w' : World) : Prop where
  own : OwnS w' base v' l
  grow : w.grownBy w' v.ownBlock
  place : v'.ownBlock = v.ownBlock ∨ v'.ownBlock = some w.heap.size
theorem OwnS.below {w w' : World} {base : Nat} {v : Value} {l : List ByteArray} (h : OwnS w base v l) (hb : Below w.heap.size w w') : OwnS w' base v l := ownV_below h hb
theorem OwnS.strs {w : World} {base : Nat} {v : Value} {l : List ByteArray} (h : OwnS w base v l) : ∃ A c, v = .slice A l.length c ∧ l.length ≤ c ∧ c ≤ maxLen ∧ StrsAt w A l ∧ ∀ a, A = some a → base ≤ a.block := by
  obtain ⟨A, c, h1, h2, h3, _, h5, h6⟩ := ownV_cells h
  exact ⟨A, c, h1, h2, h3, h5, h6⟩
theorem OwnS.nil (w : World) (base : Nat) : OwnS w base (.slice none 0 0) [] := ownV_nil _ _ _
theorem OwnS.empty (w : World) (base : Nat) (h : base ≤ w.heap.size) : OwnS (w.alloc (.cells #[] 9)) base (.slice (some ⟨w.heap.size, 0, none⟩) 0 0) [] := ownV_empty _ _ _ h
theorem AppdS.below {w w' w0 : World} {base B : Nat} {v v' : Value} {l xs : List ByteArray} (a : AppdS w base v l v' w') (hown : OwnS w base v xs) (hb : Below B w0 w) (hB : B ≤ base) (hs : B ≤ w.heap.size) : Below B w0 w' :=
  hb.grown a.grow hs fun k hk => Nat.le_trans hB (World.ownsRow.lt hown k hk).1
/-- what lies ahead of the call's own blocks stays -/
theorem AppdS.strs {w w' : World} {base : Nat} {v v' : Value} {l xs ys : List ByteArray} {A : Option Addr} (a : AppdS w base v l v' w') (hown : OwnS w base v xs) (h : StrsAt w A ys) (hA : 0 < ys.length → ∀ x, A = some x → x.block < base) : StrsAt w' A ys :=
  CellsAt.keep (F := fun k => v.ownBlock = some k) h ⟨a.grow.os, a.grow.tape, a.grow.output, a.grow.size, fun k hk hn => a.grow.block k hk (fun e => hn e.symm)⟩ fun h0 x hx e => by
    have := (World.ownsRow.lt hown _ e).1
    have := hA (by rw [LabM.strV_len] at h0; exact h0) x hx
    omega
theorem wpList_append_strs {ops : Array Oper} {rest : List Oper} {o : Oper} {a : Act} {w : World} {Q : Exit → Act → World → Prop} (hgd : o.guard = none) (s x : Operand)
    (ho : o.op = .call { callee := .builtin .append, args := #[s, x], argTypes := #[46, 46] })
    (base : Nat) (v : Value) (xs : List ByteArray) (hs : a.eval s = v) (hown : OwnS w base v xs) (A : Option Addr) (m c : Nat) (ys : List ByteArray) (hx : a.eval x = .slice A m c) (hy : ys.length = m) (hA : StrsAt w A ys)
    (hl : xs.length + m < 1099511627776) (hbase : base ≤ w.heap.size)
    (h : ∀ v' w', AppdS w base v (xs ++ ys) v' w' → wpList Try.prog ops Q rest (a.put o.dst v') w') : wpList Try.prog ops Q (o :: rest) a w := by
  obtain ⟨i0, hi, hz, hs1, hb1⟩ := str_info'
  refine wpList_append_cells Try.underlying46 hi hz hs1 hb1 rfl hgd s x ho base v xs.length (LabM.strV xs) hs hown A m c (LabM.strV ys) hx (by rw [LabM.strV_len]; exact hy) hA (LabM.strV_one ys) hl (by omega) hbase ?_
  intro v' w' ha
  refine h v' w' ⟨?_, ha.grow, ha.place⟩
  have := ha.own
  unfold OwnS
  rw [List.length_append, hy, show LabM.strV (xs ++ ys) = LabM.strV xs ++ LabM.strV ys from by simp [LabM.strV]]
  exact this

set_option maxHeartbeats 1000000 in
theorem add_any (A : Option Addr) (l : List ByteArray) (c : Nat) (s : ByteArray) (w : World) (h : StrsAt w A l) (hc : l.length ≤ c) (hc2 : c ≤ maxLen) (hl : l.length ≤ 1048576) (hs : s.size ≤ 9223372036854775807) (hsa : Sane l) :
    Calls Try.prog 26 #[.slice A l.length c, .string s] w (RetStrs w (LabM.add l s)) := by
  have HSA := Lib.hid hsa; have HC2 := Lib.hid hc2
  unfold maxLen at hc2
  clear hsa
  go_enter Try.func26, Try.ntmps26
  go_wp2
  go_loopw [5] (fun i wr => ∃ k n : Nat, k ≤ l.length ∧ i = .int .i64 k ∧ (∀ j, (h : j < l.length) → j < k → LabM.lessS l[j] s = true) ∧ wr = w.drewN n)
    (fun i _ => l.length - (intOf i).toNat)
  case atStart => exact ⟨0, 0, Nat.zero_le _, rfl, fun j _ h => by omega, rfl⟩
  case round =>
    obtain ⟨k, n, hk, rfl, hw, hwr⟩ := hrel
    rename World => w0
    have HW := Lib.hid hw; have HWR := Lib.hid hwr
    have h0 : StrsAt w0 A l := by rw [hwr]; exact h
    clear hw hwr
    by_cases hlt : k < l.length
    · obtain ⟨b, o, hA, e1⟩ := h0.at hlt
      subst hA
      have hsz := HSA.out.at k hlt
      have H0 := Lib.hid h0
      by_cases hle : LabM.lessS l[k] s = true
      · have hf : ∀ j, (h : j < l.length) → j < k + 1 → LabM.lessS l[j] s = true := fun j hj hjk => by
          by_cases e : j = k
          · subst e; exact hle
          · exact HW.out j hj (by omega)
        have C := less_any l[k] s w0 hsz hs
        rw [show LabM.less l[k].data.toList s.data.toList = true from hle] at C
        have HF := Lib.hid hf
        clear hf hle h0
        go_wp2_with fail
        refine C.mono ?_
        clear C
        rintro e w1 ⟨rfl, m, rfl⟩
        go_wp2
        go_roundw
        case rel => exact ⟨k + 1, n + m, by omega, by go_num, HF.out, by rw [HWR.out, World.drewN_drewN]⟩
        case measure => simp [intOf] <;> omega
      · have hle : LabM.lessS l[k] s = false := by simpa using hle
        have hah := LabM.ahead_eq hk HW.out (fun _ => hle)
        have C := less_any l[k] s w0 hsz hs
        rw [show LabM.less l[k].data.toList s.data.toList = false from hle] at C
        have HAH := Lib.hid hah
        clear hle h0 hah
        go_wp2_with fail
        refine C.mono ?_
        clear C
        rintro e w1 ⟨rfl, m, rfl⟩
        have h0m : StrsAt (w0.drewN m) (some ⟨b, o, none⟩) l := H0.out
        have hbV : Below w.heap.size w (w0.drewN m) := by rw [HWR.out]; exact below_drewN (bdraw _ _) _
        have e2 : (w0.drewN m).cell? ⟨b, o + k, none⟩ = some (.string l[k]) := e1
        generalize w0.drewN m = V at h0m hbV e2 ⊢
        have H0 := Lib.hid h0m; have HBV := Lib.hid hbV
        clear h0m hbV e1
        by_cases hes : l[k] = s
        · have q : (l[k].toList == s.toList) = true := by rw [hes]; exact beq_self_eq_true _
          have hr : LabM.add l s = l := by unfold LabM.add; rw [HAH.out, List.getElem?_eq_getElem hlt, if_pos (by rw [hes])]
          have HR := Lib.hid hr
          clear hes hr
          go_wp2
          go_ret
          rw [HR.out]
          exact ⟨_, c, rfl, hc, HC2.out, H0.out, HBV.out⟩
        · have q : (l[k].toList == s.toList) = false := str_ne hes
          have hr : LabM.add l s = [] ++ l.take k ++ [s] ++ l.drop k := by unfold LabM.add; rw [HAH.out, List.getElem?_eq_getElem hlt, if_neg (by simpa using hes)]; simp
          have HR := Lib.hid hr
          clear hes hr
          have htl : (l.take k).length = k := by rw [List.length_take]; omega
          have HTL := Lib.hid htl
          clear htl
          have hT1 : StrsAt (V.alloc (.cells #[] 9)) (some ⟨b, o, none⟩) (l.take k) := by
            have := (H0.out.below (balloc V (.cells #[] 9))).take k
            unfold StrsAt LabM.strV; rw [List.map_take]; exact this
          have HT1 := Lib.hid hT1
          have hold : 0 < l.length → ∀ x, (some ⟨b, o, none⟩ : Option Addr) = some x → x.block < V.heap.size := fun h0 x hx => CellsAt.lt H0.out (by rw [LabM.strV_len]; exact h0) x hx
          have hD : ∀ w2, Below V.heap.size V w2 → StrsAt w2 (some ⟨b, o + k, none⟩) (l.drop k) := fun w2 hb2 => by
            have := (H0.out.below hb2).drop k
            unfold StrsAt LabM.strV; rw [List.map_drop]; exact this
          have HD := Lib.hid hD; have HOLD := Lib.hid hold
          have hkc : ¬ c = k := by omega
          clear hT1 hD hold
          go_wp2_with (first
            | (at_builtin; refine wpList_append_strs rfl (.tmp 34) (.tmp 37) rfl V.heap.size (.slice (some ⟨V.heap.size, 0, none⟩) 0 0) [] rfl (OwnS.empty V _ (Nat.le_refl _)) (some ⟨b, o, none⟩) k c (l.take k) rfl HTL.out HT1.out (by simp; omega) (by simp) ?_; intro v1 w1 ha1; have hb1 : Below V.heap.size V w1 := ha1.below (OwnS.empty V _ (Nat.le_refl _)) (balloc _ _) (Nat.le_refl _) (by simp); have HA1 := Lib.hid ha1; have hz1 := hb1.size; have HB1 := Lib.hid hb1; clear ha1 hb1)
            | (at_builtin; refine wpList_append_strs rfl (.tmp 39) (.tmp 41) rfl V.heap.size v1 ([] ++ l.take k) rfl (HA1.out.own.below (balloc _ _)) (some ⟨w1.heap.size, 0, none⟩) 1 1 [s] rfl rfl (CellsAt.lit _ _ _) (by simp; omega) (by simp; omega) ?_; intro v2 w2 ha2; have hb2 : Below V.heap.size V w2 := ha2.below (HA1.out.own.below (balloc _ _)) (HB1.out.alloc hz1 _) (Nat.le_refl _) (by simp; omega); have HA2 := Lib.hid ha2; have hz2 := hb2.size; have HB2 := Lib.hid hb2; clear ha2 hb2)
            | (at_builtin; refine wpList_append_strs rfl (.tmp 43) (.tmp 46) rfl V.heap.size v2 ([] ++ l.take k ++ [s]) rfl HA2.out.own (some ⟨b, o + k, none⟩) (l.length - k) (c - k) (l.drop k) rfl (by rw [List.length_drop]) (HD.out w2 HB2.out) (by simp; omega) hz2 ?_; intro v3 w3 ha3; have hb3 : Below V.heap.size V w3 := ha3.below HA2.out.own HB2.out (Nat.le_refl _) hz2; have HA3 := Lib.hid ha3; have HB3 := Lib.hid hb3; clear ha3 hb3))
          obtain ⟨X, d, hv3, hd1, hd2, hX, _⟩ := HA3.out.own.strs
          subst hv3
          have HX := Lib.hid hX
          clear hX
          go_wp2
          go_ret
          rw [HR.out]
          exact ⟨X, d, rfl, hd1, hd2, HX.out, bstep HBV.out HB3.out⟩
    · obtain rfl : k = l.length := by omega
      have hah := LabM.ahead_eq hk HW.out (fun h => absurd h (by omega))
      have hr : LabM.add l s = [] ++ l ++ [s] ++ [] := by unfold LabM.add; rw [hah, List.getElem?_eq_none (Nat.le_refl _), if_neg (by simp)]; simp
      have hbV : Below w.heap.size w w0 := by rw [HWR.out]; exact bdraw _ _
      have HR := Lib.hid hr; have H0 := Lib.hid h0; have HBV := Lib.hid hbV
      have H1 := Lib.hid (h0.below (balloc w0 (.cells #[] 9)))
      clear hah hr h0 hbV HW HWR h
      have hcc : c = l.length ∨ ¬ c = l.length := Classical.em _
      rcases A with _ | a <;> rcases hcc with hcc | hcc
      all_goals
        try obtain rfl := hcc
        go_wp2_with (first
          | (at_builtin; refine wpList_append_strs rfl (.tmp 34) (.tmp 37) rfl w0.heap.size (.slice (some ⟨w0.heap.size, 0, none⟩) 0 0) [] rfl (OwnS.empty w0 _ (Nat.le_refl _)) _ _ _ l rfl rfl H1.out (by simp; omega) (by simp) ?_; intro v1 w1 ha1; have hb1 : Below w0.heap.size w0 w1 := ha1.below (OwnS.empty w0 _ (Nat.le_refl _)) (balloc _ _) (Nat.le_refl _) (by simp); have HA1 := Lib.hid ha1; have hz1 := hb1.size; have HB1 := Lib.hid hb1; clear ha1 hb1)
          | (at_builtin; refine wpList_append_strs rfl (.tmp 39) (.tmp 41) rfl w0.heap.size v1 ([] ++ l) rfl (HA1.out.own.below (balloc _ _)) (some ⟨w1.heap.size, 0, none⟩) 1 1 [s] rfl rfl (CellsAt.lit _ _ _) (by simp; omega) (by simp; omega) ?_; intro v2 w2 ha2; have hb2 : Below w0.heap.size w0 w2 := ha2.below (HA1.out.own.below (balloc _ _)) (HB1.out.alloc hz1 _) (Nat.le_refl _) (by simp; omega); have HA2 := Lib.hid ha2; have hz2 := hb2.size; have HB2 := Lib.hid hb2; clear ha2 hb2)
          | (at_builtin; refine wpList_append_strs rfl (.tmp 43) (.tmp 46) rfl w0.heap.size v2 ([] ++ l ++ [s]) rfl HA2.out.own _ _ _ [] rfl (by simp) (CellsAt.nil _ _) (by simp; omega) hz2 ?_; intro v3 w3 ha3; have hb3 : Below w0.heap.size w0 w3 := ha3.below HA2.out.own HB2.out (Nat.le_refl _) hz2; have HA3 := Lib.hid ha3; have HB3 := Lib.hid hb3; clear ha3 hb3))
        obtain ⟨X, d, hv3, hd1, hd2, hX, _⟩ := HA3.out.own.strs
        subst hv3
        have HX := Lib.hid hX
        clear hX
        go_wp2
        go_ret
        rw [HR.out]
        exact ⟨X, d, rfl, hd1, hd2, HX.out, bstep HBV.out HB3.out⟩

/-- lists of lists of texts -/
def ListsAt (w : World) (A : Option Addr) (ls : List (List ByteArray)) : Prop :=
  ∀ i, (h : i < ls.length) → ∃ b o B c, A = some ⟨b, o, none⟩ ∧ w.cell? ⟨b, o + i, none⟩ = some (.slice B ls[i].length c) ∧ ls[i].length ≤ c ∧ c ≤ maxLen ∧ StrsAt w B ls[i]
theorem ListsAt.below {w w' : World} {A : Option Addr} {ls : List (List ByteArray)} (h : ListsAt w A ls) (hb : Below w.heap.size w w') : ListsAt w' A ls := fun i hi => by
  obtain ⟨b, o, B, c, h1, h2, h3, h4, h5⟩ := h i hi
  exact ⟨b, o, B, c, h1, (hb.cell (p := ⟨b, o + i, none⟩) (cell_lt h2)).trans h2, h3, h4, h5.below hb⟩
theorem ListsAt.lit2 {w : World} {A B : Option Addr} {l m : List ByteArray} {c d : Nat} (h : StrsAt w A l) (h1 : l.length ≤ c) (h2 : c ≤ maxLen) (k : StrsAt w B m) (k1 : m.length ≤ d) (k2 : d ≤ maxLen) :
    ListsAt (w.alloc (.cells #[.slice A l.length c, .slice B m.length d] 46)) (some ⟨w.heap.size, 0, none⟩) [l, m] := by
  intro i hi
  match i, hi with
  | 0, _ => exact ⟨w.heap.size, 0, A, c, rfl, by rw [World.cell?_alloc_at _ _ _ _ rfl]; rfl, h1, h2, h.below (balloc _ _)⟩
  | 1, _ => exact ⟨w.heap.size, 0, B, d, rfl, by rw [World.cell?_alloc_at _ _ _ _ rfl]; rfl, k1, k2, k.below (balloc _ _)⟩

theorem same_any (A1 A2 : Option Addr) (a b : List ByteArray) (c1 c2 : Nat) (w : World) (h1 : StrsAt w A1 a) (h2 : StrsAt w A2 b) (_hl1 : a.length ≤ 9223372036854775807) (hl2 : b.length ≤ 9223372036854775807) :
    Calls Try.prog 16 #[.slice A1 a.length c1, .slice A2 b.length c2] w fun e w' => e = .returned (.bool (LabM.sameT a b)) ∧ ∃ n, w' = w.drewN n := by
  by_cases hne : a.length = b.length
  · have q : ((a.length : Int) != (b.length : Int)) = false := by simp [hne]
    have hle : a.length ≤ b.length := by omega
    have HNE := Lib.hid hne
    clear hne
    go_enter Try.func16, Try.ntmps16
    go_wp2
    clear q
    go_loopw [5] (fun i wr => ∃ k n : Nat, k ≤ a.length ∧ i = .int .i64 k ∧ a.take k = b.take k ∧ wr = w.drewN n)
      (fun i _ => a.length - (intOf i).toNat)
    case atStart => exact ⟨0, 0, Nat.zero_le _, rfl, by rw [List.take_zero, List.take_zero], rfl⟩
    case round =>
      obtain ⟨k, n, hk, rfl, hs, hwr⟩ := hrel
      have HW := Lib.hid hwr; have HS := Lib.hid hs
      have h1 : StrsAt wr A1 a := by rw [hwr]; exact h1
      have h2 : StrsAt wr A2 b := by rw [hwr]; exact h2
      clear hwr hs
      by_cases hlt : k < a.length
      · have hlt2 : k < b.length := by omega
        obtain ⟨b1, o1, hA1, e1⟩ := h1.at hlt
        obtain ⟨b2, o2, hA2, e2⟩ := h2.at hlt2
        subst hA1
        subst hA2
        by_cases hab : a[k] = b[k]
        · have q : (a[k].toList == b[k].toList) = true := by rw [hab]; exact beq_self_eq_true _
          have hf : a.take (k + 1) = b.take (k + 1) := by rw [List.take_succ_eq_append_getElem hlt, List.take_succ_eq_append_getElem hlt2, HS.out, hab]
          have HF := Lib.hid hf
          clear hf hab h1 h2
          go_wp2
          go_quiet (fail)
          go_wp2
          go_roundw
          case rel => exact ⟨k + 1, n + nq, by omega, by go_num, HF.out, by rw [HW.out, World.drewN_drewN]⟩
          case measure => simp [intOf] <;> omega
        · have q : (a[k].toList == b[k].toList) = false := str_ne hab
          have hf := LabM.sameT_at hlt hlt2 hab
          have HF := Lib.hid hf
          clear hf hab h1 h2
          go_wp2
          go_quiet (fail)
          go_wp2
          go_ret
          exact ⟨ret_bool HF.out.symm, n + nq, by rw [HW.out, World.drewN_drewN]⟩
      · obtain rfl : k = a.length := by omega
        have hf : LabM.sameT a b = true := by
          have e := HS.out
          rw [List.take_length, List.take_of_length_le (by rw [HNE.out]; exact Nat.le_refl _)] at e
          rw [e]; exact LabM.sameT_self b
        have HF := Lib.hid hf
        clear hf h1 h2
        go_wp2
        go_ret
        exact ⟨ret_bool HF.out.symm, n, HW.out⟩
  · have q : ((a.length : Int) != (b.length : Int)) = true := by rw [bne_iff_ne]; omega
    have hf := LabM.sameT_len hne
    have HF := Lib.hid hf
    clear hne hf
    go_enter Try.func16, Try.ntmps16
    go_wp2
    go_ret
    exact ⟨ret_bool HF.out.symm, 0, rfl⟩

/-- a list, and whether it is all -/
def PartPost (w : World) (r : List ByteArray) (all : Bool) (e : Ending) (w' : World) : Prop :=
  ∃ X d, e = .returned (.tuple #[.slice X r.length d, .bool all]) ∧ r.length ≤ d ∧ d ≤ maxLen ∧ StrsAt w' X r ∧ Below w.heap.size w w'
/-- what After tells -/
def AfterPost (w : World) (l : List ByteArray) (s : ByteArray) (most : Int) (e : Ending) (w' : World) : Prop :=
  ∃ X d, e = .returned (.tuple #[.slice X ((LabM.after l s).take most.toNat).length d, .bool (decide (¬ most.toNat < (LabM.after l s).length))]) ∧ ((LabM.after l s).take most.toNat).length ≤ d ∧ d ≤ maxLen ∧ StrsAt w' X ((LabM.after l s).take most.toNat) ∧ Below w.heap.size w w'
/-! a name as bytes -/
end Go.Proofs.Ytnjdioghjjaegaa.R07
