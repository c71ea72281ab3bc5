/- the document's own answers of layer 7: names -/
import Derived.Test.YtjfjflkflnebgaaCells
import Derived.Test.YtjfjflkflnebgaaLabelMath
import Derived.Deep.QuietTactic
import Derived.BigQuiet
import Derived.IntWalk
import Derived.Lib.SliceRun
set_option maxRecDepth 100000
namespace Go.Proofs.Ytjfjflkflnebgaa.R07
open Go.RowKit

theorem size_len (s : ByteArray) : s.size = s.data.toList.length := rfl
theorem get_at (s : ByteArray) (i : Nat) (h : i < s.size) : s[i] = s.data.toList[i]'(by rw [← size_len]; exact h) := by
  show s.data[i] = _
  exact (Array.getElem_toList _).symm

theorem right_any (s : ByteArray) (w : World) (hs : s.size ≤ 9223372036854775807) :
    Calls Try.prog 8 #[.string s] w fun e w' => e = .returned (.bool (LabM.right s.data.toList)) ∧ w = w' := by
  by_cases h1 : s.size < 1
  · have hf := LabM.right_short (s := s.data.toList) (.inl (by rw [← size_len]; exact h1))
    have HF := Lib.hid hf
    clear hf
    go_enter Try.func8, Try.ntmps8
    go_wp2
    go_ret
    exact ⟨ret_bool HF.out.symm, rfl⟩
  by_cases h2 : 16 < s.size
  · have hf := LabM.right_short (s := s.data.toList) (.inr (by rw [← size_len]; exact h2))
    have HF := Lib.hid hf
    clear hf
    go_enter Try.func8, Try.ntmps8
    go_wp2
    go_ret
    exact ⟨ret_bool HF.out.symm, rfl⟩
  go_enter Try.func8, Try.ntmps8
  go_wp2
  go_loop [3] (fun i => ∃ k : Nat, k ≤ s.size ∧ i = .int .i64 k ∧ ∀ j, (h : j < s.size) → j < k → LabM.okc j s[j] = true)
    (fun i => s.size - (intOf i).toNat)
  case atStart => exact ⟨0, Nat.zero_le _, rfl, fun j _ h => by omega⟩
  case round =>
    obtain ⟨k, hk, rfl, hw⟩ := hrel
    by_cases hlt : k < s.size
    · have hok : LabM.okc k s[k] = true → ∀ j, (h : j < s.size) → j < k + 1 → LabM.okc j s[j] = true := fun hx j hj hjk => by
        by_cases e : j = k
        · subst e; exact hx
        · exact hw j hj (by omega)
      have hno : LabM.okc k s[k] = false → LabM.right s.data.toList = false := fun hx => LabM.right_at (i := k) (by rw [← size_len]; exact hlt) (by rw [← get_at s k hlt]; exact hx)
      unfold LabM.okc at hok hno
      have HOK := Lib.hid hok; have HNO := Lib.hid hno
      have hc := s[k].toNat_lt
      clear hok hno hw
      obtain ⟨c, hce⟩ : ∃ c, c = s[k].toNat := ⟨_, rfl⟩
      rw [← hce] at HOK HNO hc
      have hwr : wrap64 (s[k].toNat : Int) = (c : Int) := by rw [← hce]; exact IntWalk.wrap64_in _ (by omega)
      clear hce
      by_cases a1 : 97 ≤ c
      · by_cases a2 : c ≤ 122
        · have b1 : (97 : Int) ≤ (c : Int) := by omega
          have b2 : (c : Int) ≤ 122 := by omega
          go_wp2
          go_round
          case rel => exact ⟨k + 1, by omega, by go_num, HOK.out (by simp [a1, a2])⟩
          case measure => simp [intOf] <;> omega
        · have b1 : (97 : Int) ≤ (c : Int) := by omega
          have b2 : decide ((c : Int) ≤ 122) = false := decide_eq_false (by omega)
          have b3 : (48 : Int) ≤ (c : Int) := by omega
          have b4 : decide ((c : Int) ≤ 57) = false := decide_eq_false (by omega)
          have b5 : ((c : Int) != 45) = true := by rw [bne_iff_ne]; omega
          have d1 : ¬ c ≤ 57 := by omega
          have d2 : ¬ c = 45 := by omega
          have hf := HNO.out (by simp [a2, d1, d2])
          have HF := Lib.hid hf
          clear hf
          go_wp2
          go_ret
          exact ⟨ret_bool HF.out.symm, rfl⟩
      · have b1 : (c : Int) < 97 := by omega
        by_cases a3 : 48 ≤ c
        · have b3 : (48 : Int) ≤ (c : Int) := by omega
          by_cases a4 : c ≤ 57
          · have b4 : (c : Int) ≤ 57 := by omega
            go_wp2
            go_round
            case rel => exact ⟨k + 1, by omega, by go_num, HOK.out (by simp [a3, a4])⟩
            case measure => simp [intOf] <;> omega
          · have b4 : decide ((c : Int) ≤ 57) = false := decide_eq_false (by omega)
            have b5 : ((c : Int) != 45) = true := by rw [bne_iff_ne]; omega
            have d2 : ¬ c = 45 := by omega
            have hf := HNO.out (by simp [a1, a4, d2])
            have HF := Lib.hid hf
            clear hf
            go_wp2
            go_ret
            exact ⟨ret_bool HF.out.symm, rfl⟩
        · have b3 : (c : Int) < 48 := by omega
          by_cases a5 : c = 45
          · have b5 : ((c : Int) != 45) = false := by simp [a5]
            by_cases a6 : k = 0
            · have b6 : ((k : Int) == 0) = true := by simp [a6]
              have hf := HNO.out (by simp [a1, a3, a6])
              have HF := Lib.hid hf
              clear hf a5 a6
              go_wp2
              go_ret
              exact ⟨ret_bool HF.out.symm, rfl⟩
            · have b6 : ((k : Int) == 0) = false := by simpa using a6
              have hf := HOK.out (by simp [a5, a6])
              have HF := Lib.hid hf
              clear hf a5
              go_wp2
              go_round
              case rel => exact ⟨k + 1, by omega, by go_num, HF.out⟩
              case measure => simp [intOf] <;> omega
          · have b5 : ((c : Int) != 45) = true := by rw [bne_iff_ne]; omega
            have hf := HNO.out (by simp [a1, a3, a5])
            have HF := Lib.hid hf
            clear hf
            go_wp2
            go_ret
            exact ⟨ret_bool HF.out.symm, rfl⟩
    · obtain rfl : k = s.size := by omega
      have hf : LabM.right s.data.toList = true := (LabM.right_iff _).2 ⟨by rw [← size_len]; omega, by rw [← size_len]; omega, fun i hi => by
        rw [← get_at s i (by rw [size_len]; exact hi)]; exact hw i _ (by rw [size_len]; exact hi)⟩
      have HF := Lib.hid hf
      clear hf hw
      go_wp2
      go_ret
      exact ⟨ret_bool HF.out.symm, rfl⟩

theorem less_any (a b : ByteArray) (w : World) (ha : a.size ≤ 9223372036854775807) (hb : b.size ≤ 9223372036854775807) :
    Calls Try.prog 10 #[.string a, .string b] w fun e w' => e = .returned (.bool (LabM.less a.data.toList b.data.toList)) ∧ ∃ n, w' = w.drewN n := by
  go_enter Try.func10, Try.ntmps10
  go_wp2
  go_loopw [5] (fun i wr => ∃ k n : Nat, k ≤ a.size ∧ k ≤ b.size ∧ i = .int .i64 k ∧ a.data.toList.take k = b.data.toList.take k ∧ wr = w.drewN n)
    (fun i _ => a.size - (intOf i).toNat)
  case atStart => exact ⟨0, 0, Nat.zero_le _, Nat.zero_le _, rfl, rfl, rfl⟩
  case round =>
    obtain ⟨k, n, hk1, hk2, rfl, ht, hwr⟩ := hrel
    have HW := Lib.hid hwr; have HT := Lib.hid ht
    clear hwr ht
    by_cases hlt : k < a.size ∧ k < b.size
    · obtain ⟨a1, a2⟩ := hlt
      have l1 : k < a.data.toList.length := by rw [← size_len]; exact a1
      have l2 : k < b.data.toList.length := by rw [← size_len]; exact a2
      have g1 := get_at a k a1
      have g2 := get_at b k a2
      by_cases hab : a[k] = b[k]
      · have q : ((a[k].toNat : Int) != (b[k].toNat : Int)) = false := by rw [toNat_bne]; simp [hab]
        have hf : a.data.toList.take (k + 1) = b.data.toList.take (k + 1) := by
          rw [List.take_succ_eq_append_getElem l1, List.take_succ_eq_append_getElem l2, HT.out, ← g1, ← g2, hab]
        have HF := Lib.hid hf
        clear hf hab g1 g2
        go_wp2
        go_quiet (fail)
        go_wp2
        go_roundw
        case rel => exact ⟨k + 1, n + nq, by omega, by omega, by go_num, HF.out, by rw [HW.out, World.drewN_drewN]⟩
        case measure => simp [intOf] <;> omega
      · have q : ((a[k].toNat : Int) != (b[k].toNat : Int)) = true := by rw [toNat_bne]; simpa using hab
        have hf : LabM.less a.data.toList b.data.toList = decide ((a[k].toNat : Int) < (b[k].toNat : Int)) := by
          rw [LabM.less_at l1 l2 HT.out (by rw [← g1, ← g2]; exact hab), ← g1, ← g2]
          exact decide_eq_decide.2 (by omega)
        have HF := Lib.hid hf
        clear hf hab g1 g2
        go_wp2
        go_quiet (fail)
        go_wp2
        go_quiet (fail)
        go_wp2
        go_ret
        exact ⟨ret_bool (HF.out.trans (decide_eq_decide.2 (by omega))).symm, _, by rw [HW.out, World.drewN_drewN, World.drewN_drewN]⟩
    · have hf : LabM.less a.data.toList b.data.toList = decide ((a.size : Int) < (b.size : Int)) := by
        rw [LabM.less_end (k := k) (by rw [← size_len]; exact hk1) (by rw [← size_len]; exact hk2) HT.out (by rw [← size_len, ← size_len]; omega), ← size_len, ← size_len]
        exact decide_eq_decide.2 (by omega)
      have HF := Lib.hid hf
      clear hf
      by_cases h1 : k < a.size
      · have h2 : ¬ k < b.size := fun h => hlt ⟨h1, h⟩
        clear hlt
        go_wp2
        go_ret
        exact ⟨ret_bool (HF.out.trans (decide_eq_decide.2 (by omega))).symm, n, HW.out⟩
      · clear hlt
        go_wp2
        go_ret
        exact ⟨ret_bool (HF.out.trans (decide_eq_decide.2 (by omega))).symm, n, HW.out⟩

theorem str_ne {a b : ByteArray} (h : a ≠ b) : (a.toList == b.toList) = false := by
  rw [beq_eq_false_iff_ne]
  intro e
  rw [ByteArray.toList_eq, ByteArray.toList_eq] at e
  exact h (by cases a; cases b; simp at e; rw [e])
/-! lists of texts -/
def StrsAt (w : World) (A : Option Addr) (l : List ByteArray) : Prop := CellsAt w A (LabM.strV l)
theorem StrsAt.at {w : World} {A : Option Addr} {l : List ByteArray} (h : StrsAt w A l) {i : Nat} (hi : i < l.length) : ∃ b o, A = some ⟨b, o, none⟩ ∧ w.cell? ⟨b, o + i, none⟩ = some (.string l[i]) := by
  obtain ⟨b, o, hA, hc⟩ := h i (by rw [LabM.strV_len]; exact hi)
  exact ⟨b, o, hA, by rw [hc, LabM.strV_get]⟩
theorem StrsAt.below {w w' : World} {A : Option Addr} {l : List ByteArray} (h : StrsAt w A l) (hb : Below w.heap.size w w') : StrsAt w' A l := CellsAt.below h hb
theorem StrsAt.drewN {w : World} {A : Option Addr} {l : List ByteArray} (h : StrsAt w A l) (n : Nat) : StrsAt (w.drewN n) A l := h
theorem str_info : (Try.prog.info? 9).map (fun i => (i.zero, i.size, i.bytes)) = some (some (.string ByteArray.empty), 1, 16) := by kernel_rfl
theorem str_info' : ∃ i, Try.prog.info? 9 = some i ∧ i.zero = some (.string ByteArray.empty) ∧ i.size = 1 ∧ i.bytes = 16 := by
  obtain ⟨i0, h, a, b, c⟩ := info_parts str_info
  exact ⟨i0, h, a, b, c⟩
/-- the lengths of texts are numbers -/
def Sane (l : List ByteArray) : Prop := ∀ x ∈ l, x.size ≤ 9223372036854775807
theorem Sane.at {l : List ByteArray} (h : Sane l) (i : Nat) (hi : i < l.length) : l[i].size ≤ 9223372036854775807 := h _ (List.getElem_mem hi)
def RetStrs (w : World) (l : List ByteArray) (e : Ending) (w' : World) : Prop :=
  ∃ A c, e = .returned (.slice A l.length c) ∧ l.length ≤ c ∧ c ≤ maxLen ∧ StrsAt w' A l ∧ Below w.heap.size w w'

/-- a list of texts that the call has gathered -/
def OwnS (w : World) (base : Nat) (v : Value) (l : List ByteArray) : Prop := w.ownsRow base 9 1 v l.length (LabM.strV l)
structure AppdS (w : World) (base : Nat) (v : Value) (l : List ByteArray) (v' : Value) (w' : World) : Prop where
  own : OwnS w' base v' l
  grow : w.grownBy w' v.ownBlock
  place : v'.ownBlock = v.ownBlock ∨ v'.ownBlock = some w.heap.size
theorem OwnS.below {w w' : World} {base : Nat} {v : Value} {l : List ByteArray} (h : OwnS w base v l) (hb : Below w.heap.size w w') : OwnS w' base v l := ownV_below h hb
theorem OwnS.strs {w : World} {base : Nat} {v : Value} {l : List ByteArray} (h : OwnS w base v l) : ∃ A c, v = .slice A l.length c ∧ l.length ≤ c ∧ c ≤ maxLen ∧ StrsAt w A l ∧ ∀ a, A = some a → base ≤ a.block := by
  obtain ⟨A, c, h1, h2, h3, _, h5, h6⟩ := ownV_cells h
  exact ⟨A, c, h1, h2, h3, h5, h6⟩
theorem OwnS.nil (w : World) (base : Nat) : OwnS w base (.slice none 0 0) [] := ownV_nil _ _ _
theorem OwnS.empty (w : World) (base : Nat) (h : base ≤ w.heap.size) : OwnS (w.alloc (.cells #[] 9)) base (.slice (some ⟨w.heap.size, 0, none⟩) 0 0) [] := ownV_empty _ _ _ h
theorem AppdS.below {w w' w0 : World} {base B : Nat} {v v' : Value} {l xs : List ByteArray} (a : AppdS w base v l v' w') (hown : OwnS w base v xs) (hb : Below B w0 w) (hB : B ≤ base) (hs : B ≤ w.heap.size) : Below B w0 w' :=
  hb.grown a.grow hs fun k hk => Nat.le_trans hB (World.ownsRow.lt hown k hk).1
/-- what lies ahead of the call's own blocks stays -/
theorem AppdS.strs {w w' : World} {base : Nat} {v v' : Value} {l xs ys : List ByteArray} {A : Option Addr} (a : AppdS w base v l v' w') (hown : OwnS w base v xs) (h : StrsAt w A ys) (hA : 0 < ys.length → ∀ x, A = some x → x.block < base) : StrsAt w' A ys :=
  CellsAt.keep (F := fun k => v.ownBlock = some k) h ⟨a.grow.os, a.grow.tape, a.grow.output, a.grow.size, fun k hk hn => a.grow.block k hk (fun e => hn e.symm)⟩ fun h0 x hx e => by
    have := (World.ownsRow.lt hown _ e).1
    have := hA (by rw [LabM.strV_len] at h0; exact h0) x hx
    omega
theorem wpList_append_strs {ops : Array Oper} {rest : List Oper} {o : Oper} {a : Act} {w : World} {Q : Exit → Act → World → Prop} (hgd : o.guard = none) (s x : Operand)
    (ho : o.op = .call { callee := .builtin .append, args := #[s, x], argTypes := #[25, 25] })
    (base : Nat) (v : Value) (xs : List ByteArray) (hs : a.eval s = v) (hown : OwnS w base v xs) (A : Option Addr) (m c : Nat) (ys : List ByteArray) (hx : a.eval x = .slice A m c) (hy : ys.length = m) (hA : StrsAt w A ys)
    (hl : xs.length + m < 1099511627776) (hbase : base ≤ w.heap.size)
    (h : ∀ v' w', AppdS w base v (xs ++ ys) v' w' → wpList Try.prog ops Q rest (a.put o.dst v') w') : wpList Try.prog ops Q (o :: rest) a w := by
  obtain ⟨i0, hi, hz, hs1, hb1⟩ := str_info'
  refine wpList_append_cells Try.underlying25 hi hz hs1 hb1 rfl hgd s x ho base v xs.length (LabM.strV xs) hs hown A m c (LabM.strV ys) hx (by rw [LabM.strV_len]; exact hy) hA (LabM.strV_one ys) hl (by omega) hbase ?_
  intro v' w' ha
  refine h v' w' ⟨?_, ha.grow, ha.place⟩
  have := ha.own
  unfold OwnS
  rw [List.length_append, hy, show LabM.strV (xs ++ ys) = LabM.strV xs ++ LabM.strV ys from by simp [LabM.strV]]
  exact this

set_option maxHeartbeats 1000000 in
theorem add_any (A : Option Addr) (l : List ByteArray) (c : Nat) (s : ByteArray) (w : World) (h : StrsAt w A l) (hc : l.length ≤ c) (hc2 : c ≤ maxLen) (hl : l.length ≤ 1048576) (hs : s.size ≤ 9223372036854775807) (hsa : Sane l) :
    Calls Try.prog 29 #[.slice A l.length c, .string s] w (RetStrs w (LabM.add l s)) := by
  have HSA := Lib.hid hsa; have HC2 := Lib.hid hc2
  unfold maxLen at hc2
  clear hsa
  go_enter Try.func29, Try.ntmps29
  go_wp2
  go_loopw [5] (fun i wr => ∃ k n : Nat, k ≤ l.length ∧ i = .int .i64 k ∧ (∀ j, (h : j < l.length) → j < k → LabM.lessS l[j] s = true) ∧ wr = w.drewN n)
    (fun i _ => l.length - (intOf i).toNat)
  case atStart => exact ⟨0, 0, Nat.zero_le _, rfl, fun j _ h => by omega, rfl⟩
  case round =>
    obtain ⟨k, n, hk, rfl, hw, hwr⟩ := hrel
    rename World => w0
    have HW := Lib.hid hw; have HWR := Lib.hid hwr
    have h0 : StrsAt w0 A l := by rw [hwr]; exact h
    clear hw hwr
    by_cases hlt : k < l.length
    · obtain ⟨b, o, hA, e1⟩ := h0.at hlt
      subst hA
      have hsz := HSA.out.at k hlt
      have H0 := Lib.hid h0
      by_cases hle : LabM.lessS l[k] s = true
      · have hf : ∀ j, (h : j < l.length) → j < k + 1 → LabM.lessS l[j] s = true := fun j hj hjk => by
          by_cases e : j = k
          · subst e; exact hle
          · exact HW.out j hj (by omega)
        have C := less_any l[k] s w0 hsz hs
        rw [show LabM.less l[k].data.toList s.data.toList = true from hle] at C
        have HF := Lib.hid hf
        clear hf hle h0
        go_wp2_with fail
        refine C.mono ?_
        clear C
        rintro e w1 ⟨rfl, m, rfl⟩
        go_wp2
        go_roundw
        case rel => exact ⟨k + 1, n + m, by omega, by go_num, HF.out, by rw [HWR.out, World.drewN_drewN]⟩
        case measure => simp [intOf] <;> omega
      · have hle : LabM.lessS l[k] s = false := by simpa using hle
        have hah := LabM.ahead_eq hk HW.out (fun _ => hle)
        have C := less_any l[k] s w0 hsz hs
        rw [show LabM.less l[k].data.toList s.data.toList = false from hle] at C
        have HAH := Lib.hid hah
        clear hle h0 hah
        go_wp2_with fail
        refine C.mono ?_
        clear C
        rintro e w1 ⟨rfl, m, rfl⟩
        have h0m : StrsAt (w0.drewN m) (some ⟨b, o, none⟩) l := H0.out
        have hbV : Below w.heap.size w (w0.drewN m) := by rw [HWR.out]; exact below_drewN (bdraw _ _) _
        have e2 : (w0.drewN m).cell? ⟨b, o + k, none⟩ = some (.string l[k]) := e1
        generalize w0.drewN m = V at h0m hbV e2 ⊢
        have H0 := Lib.hid h0m; have HBV := Lib.hid hbV
        clear h0m hbV e1
        by_cases hes : l[k] = s
        · have q : (l[k].toList == s.toList) = true := by rw [hes]; exact beq_self_eq_true _
          have hr : LabM.add l s = l := by unfold LabM.add; rw [HAH.out, List.getElem?_eq_getElem hlt, if_pos (by rw [hes])]
          have HR := Lib.hid hr
          clear hes hr
          go_wp2
          go_ret
          rw [HR.out]
          exact ⟨_, c, rfl, hc, HC2.out, H0.out, HBV.out⟩
        · have q : (l[k].toList == s.toList) = false := str_ne hes
          have hr : LabM.add l s = [] ++ l.take k ++ [s] ++ l.drop k := by unfold LabM.add; rw [HAH.out, List.getElem?_eq_getElem hlt, if_neg (by simpa using hes)]; simp
          have HR := Lib.hid hr
          clear hes hr
          have htl : (l.take k).length = k := by rw [List.length_take]; omega
          have HTL := Lib.hid htl
          clear htl
          have hT1 : StrsAt (V.alloc (.cells #[] 9)) (some ⟨b, o, none⟩) (l.take k) := by
            have := (H0.out.below (balloc V (.cells #[] 9))).take k
            unfold StrsAt LabM.strV; rw [List.map_take]; exact this
          have HT1 := Lib.hid hT1
          have hold : 0 < l.length → ∀ x, (some ⟨b, o, none⟩ : Option Addr) = some x → x.block < V.heap.size := fun h0 x hx => CellsAt.lt H0.out (by rw [LabM.strV_len]; exact h0) x hx
          have hD : ∀ w2, Below V.heap.size V w2 → StrsAt w2 (some ⟨b, o + k, none⟩) (l.drop k) := fun w2 hb2 => by
            have := (H0.out.below hb2).drop k
            unfold StrsAt LabM.strV; rw [List.map_drop]; exact this
          have HD := Lib.hid hD; have HOLD := Lib.hid hold
          have hkc : ¬ c = k := by omega
          clear hT1 hD hold
          go_wp2_with (first
            | (at_builtin; refine wpList_append_strs rfl (.tmp 34) (.tmp 37) rfl V.heap.size (.slice (some ⟨V.heap.size, 0, none⟩) 0 0) [] rfl (OwnS.empty V _ (Nat.le_refl _)) (some ⟨b, o, none⟩) k c (l.take k) rfl HTL.out HT1.out (by simp; omega) (by simp) ?_; intro v1 w1 ha1; have hb1 : Below V.heap.size V w1 := ha1.below (OwnS.empty V _ (Nat.le_refl _)) (balloc _ _) (Nat.le_refl _) (by simp); have HA1 := Lib.hid ha1; have hz1 := hb1.size; have HB1 := Lib.hid hb1; clear ha1 hb1)
            | (at_builtin; refine wpList_append_strs rfl (.tmp 39) (.tmp 41) rfl V.heap.size v1 ([] ++ l.take k) rfl (HA1.out.own.below (balloc _ _)) (some ⟨w1.heap.size, 0, none⟩) 1 1 [s] rfl rfl (CellsAt.lit _ _ _) (by simp; omega) (by simp; omega) ?_; intro v2 w2 ha2; have hb2 : Below V.heap.size V w2 := ha2.below (HA1.out.own.below (balloc _ _)) (HB1.out.alloc hz1 _) (Nat.le_refl _) (by simp; omega); have HA2 := Lib.hid ha2; have hz2 := hb2.size; have HB2 := Lib.hid hb2; clear ha2 hb2)
            | (at_builtin; refine wpList_append_strs rfl (.tmp 43) (.tmp 46) rfl V.heap.size v2 ([] ++ l.take k ++ [s]) rfl HA2.out.own (some ⟨b, o + k, none⟩) (l.length - k) (c - k) (l.drop k) rfl (by rw [List.length_drop]) (HD.out w2 HB2.out) (by simp; omega) hz2 ?_; intro v3 w3 ha3; have hb3 : Below V.heap.size V w3 := ha3.below HA2.out.own HB2.out (Nat.le_refl _) hz2; have HA3 := Lib.hid ha3; have HB3 := Lib.hid hb3; clear ha3 hb3))
          obtain ⟨X, d, hv3, hd1, hd2, hX, _⟩ := HA3.out.own.strs
          subst hv3
          have HX := Lib.hid hX
          clear hX
          go_wp2
          go_ret
          rw [HR.out]
          exact ⟨X, d, rfl, hd1, hd2, HX.out, bstep HBV.out HB3.out⟩
    · obtain rfl : k = l.length := by omega
      have hah := LabM.ahead_eq hk HW.out (fun h => absurd h (by omega))
      have hr : LabM.add l s = [] ++ l ++ [s] ++ [] := by unfold LabM.add; rw [hah, List.getElem?_eq_none (Nat.le_refl _), if_neg (by simp)]; simp
      have hbV : Below w.heap.size w w0 := by rw [HWR.out]; exact bdraw _ _
      have HR := Lib.hid hr; have H0 := Lib.hid h0; have HBV := Lib.hid hbV
      have H1 := Lib.hid (h0.below (balloc w0 (.cells #[] 9)))
      clear hah hr h0 hbV HW HWR h
      have hcc : c = l.length ∨ ¬ c = l.length := Classical.em _
      rcases A with _ | a <;> rcases hcc with hcc | hcc
      all_goals
        try obtain rfl := hcc
        go_wp2_with (first
          | (at_builtin; refine wpList_append_strs rfl (.tmp 34) (.tmp 37) rfl w0.heap.size (.slice (some ⟨w0.heap.size, 0, none⟩) 0 0) [] rfl (OwnS.empty w0 _ (Nat.le_refl _)) _ _ _ l rfl rfl H1.out (by simp; omega) (by simp) ?_; intro v1 w1 ha1; have hb1 : Below w0.heap.size w0 w1 := ha1.below (OwnS.empty w0 _ (Nat.le_refl _)) (balloc _ _) (Nat.le_refl _) (by simp); have HA1 := Lib.hid ha1; have hz1 := hb1.size; have HB1 := Lib.hid hb1; clear ha1 hb1)
          | (at_builtin; refine wpList_append_strs rfl (.tmp 39) (.tmp 41) rfl w0.heap.size v1 ([] ++ l) rfl (HA1.out.own.below (balloc _ _)) (some ⟨w1.heap.size, 0, none⟩) 1 1 [s] rfl rfl (CellsAt.lit _ _ _) (by simp; omega) (by simp; omega) ?_; intro v2 w2 ha2; have hb2 : Below w0.heap.size w0 w2 := ha2.below (HA1.out.own.below (balloc _ _)) (HB1.out.alloc hz1 _) (Nat.le_refl _) (by simp; omega); have HA2 := Lib.hid ha2; have hz2 := hb2.size; have HB2 := Lib.hid hb2; clear ha2 hb2)
          | (at_builtin; refine wpList_append_strs rfl (.tmp 43) (.tmp 46) rfl w0.heap.size v2 ([] ++ l ++ [s]) rfl HA2.out.own _ _ _ [] rfl (by simp) (CellsAt.nil _ _) (by simp; omega) hz2 ?_; intro v3 w3 ha3; have hb3 : Below w0.heap.size w0 w3 := ha3.below HA2.out.own HB2.out (Nat.le_refl _) hz2; have HA3 := Lib.hid ha3; have HB3 := Lib.hid hb3; clear ha3 hb3))
        obtain ⟨X, d, hv3, hd1, hd2, hX, _⟩ := HA3.out.own.strs
        subst hv3
        have HX := Lib.hid hX
        clear hX
        go_wp2
        go_ret
        rw [HR.out]
        exact ⟨X, d, rfl, hd1, hd2, HX.out, bstep HBV.out HB3.out⟩

/-- lists of lists of texts -/
def ListsAt (w : World) (A : Option Addr) (ls : List (List ByteArray)) : Prop :=
  ∀ i, (h : i < ls.length) → ∃ b o B c, A = some ⟨b, o, none⟩ ∧ w.cell? ⟨b, o + i, none⟩ = some (.slice B ls[i].length c) ∧ ls[i].length ≤ c ∧ c ≤ maxLen ∧ StrsAt w B ls[i]
theorem ListsAt.below {w w' : World} {A : Option Addr} {ls : List (List ByteArray)} (h : ListsAt w A ls) (hb : Below w.heap.size w w') : ListsAt w' A ls := fun i hi => by
  obtain ⟨b, o, B, c, h1, h2, h3, h4, h5⟩ := h i hi
  exact ⟨b, o, B, c, h1, (hb.cell (p := ⟨b, o + i, none⟩) (cell_lt h2)).trans h2, h3, h4, h5.below hb⟩
theorem ListsAt.lit2 {w : World} {A B : Option Addr} {l m : List ByteArray} {c d : Nat} (h : StrsAt w A l) (h1 : l.length ≤ c) (h2 : c ≤ maxLen) (k : StrsAt w B m) (k1 : m.length ≤ d) (k2 : d ≤ maxLen) :
    ListsAt (w.alloc (.cells #[.slice A l.length c, .slice B m.length d] 25)) (some ⟨w.heap.size, 0, none⟩) [l, m] := by
  intro i hi
  match i, hi with
  | 0, _ => exact ⟨w.heap.size, 0, A, c, rfl, by rw [World.cell?_alloc_at _ _ _ _ rfl]; rfl, h1, h2, h.below (balloc _ _)⟩
  | 1, _ => exact ⟨w.heap.size, 0, B, d, rfl, by rw [World.cell?_alloc_at _ _ _ _ rfl]; rfl, k1, k2, k.below (balloc _ _)⟩

set_option maxHeartbeats 1000000 in
theorem merge_any (A : Option Addr) (ls : List (List ByteArray)) (c : Nat) (w : World) (h : ListsAt w A ls) (hl : ls.length ≤ 1000) (hls : ∀ i, (hi : i < ls.length) → ls[i].length ≤ 1000) (hsa : ∀ i, (hi : i < ls.length) → Sane ls[i]) :
    Calls Try.prog 14 #[.slice A ls.length c] w (RetStrs w (LabM.merge ls)) := by
  have HLS := Lib.hid hls; have HSA := Lib.hid hsa
  clear hls hsa
  go_enter Try.func14, Try.ntmps14
  go_wp2
  go_loopw [3, 4] (fun v i wr => ∃ (k : Nat) (X : Option Addr) (d : Nat), k ≤ ls.length ∧ i = .int .i64 k ∧ v = .slice X (LabM.mergeTo ls k).length d ∧ (LabM.mergeTo ls k).length ≤ d ∧ d ≤ maxLen ∧ StrsAt wr X (LabM.mergeTo ls k) ∧ Below w.heap.size w wr)
    (fun _ i _ => ls.length - (intOf i).toNat)
  case atStart => exact ⟨0, none, 0, Nat.zero_le _, rfl, rfl, Nat.le_refl _, Nat.zero_le _, CellsAt.nil _ _, Below.refl _ _⟩
  case round =>
    obtain ⟨k, X, d, hk, rfl, rfl, hd1, hd2, hX, hb⟩ := hrel
    rename World => w0
    have HX := Lib.hid hX; have HD1 := Lib.hid hd1
    clear hX hd1
    by_cases hlt : k < ls.length
    · have hml := LabM.mergeTo_len ls HLS.out k hk
      have hle := HLS.out k hlt
      have hsk := HSA.out k hlt
      have hsm : Sane (LabM.mergeTo ls k) := fun x hx => by
        obtain ⟨i, hi, hx⟩ := LabM.mergeTo_mem hk hx
        exact HSA.out i hi x hx
      have hsu := LabM.mergeTo_succ ls k hlt
      have HML := Lib.hid hml; have HSK := Lib.hid hsk; have HSM := Lib.hid hsm; have HSU := Lib.hid hsu
      obtain ⟨b, o, B, cb, hA, e1, hc1, hc2, p1⟩ := (h.below hb) k hlt
      subst hA
      have P1 := Lib.hid p1; have HE1 := Lib.hid e1
      clear hml hsk hsm hsu p1 e1
      generalize ls[k] = m at *
      generalize LabM.mergeTo ls k = cur at *
      go_wp2
      go_loopw [3, 5] (fun v i wr => ∃ (t : Nat) (X : Option Addr) (d : Nat), t ≤ m.length ∧ i = .int .i64 t ∧ v = .slice X (LabM.addAll cur (m.take t)).length d ∧ (LabM.addAll cur (m.take t)).length ≤ d ∧ d ≤ maxLen ∧ StrsAt wr X (LabM.addAll cur (m.take t)) ∧ Below w0.heap.size w0 wr)
        (fun _ i _ => m.length - (intOf i).toNat)
      case atStart => exact ⟨0, X, d, Nat.zero_le _, rfl, rfl, HD1.out, hd2, HX.out, Below.refl _ _⟩
      case round =>
        obtain ⟨t, Y, f, htm, rfl, rfl, hf1, hf2, hY, hbt⟩ := hrel
        rename World => w4
        have HY := Lib.hid hY; have HF1 := Lib.hid hf1
        have e1 := (hbt.cell (p := ⟨b, o + k, none⟩) (cell_lt HE1.out)).trans HE1.out
        clear hY hf1
        by_cases hlt2 : t < m.length
        · obtain ⟨b2, o2, hB, e2⟩ := (P1.out.below hbt).at hlt2
          subst hB
          have hsu := LabM.addAll_take cur m t hlt2
          have hal := LabM.addAll_len cur (m.take t)
          have hal2 : (LabM.addAll cur (m.take t)).length ≤ 1048576 := by have := HML.out; simp only [List.length_take] at hal; omega
          have hs1 : m[t].size ≤ 9223372036854775807 := HSK.out.at t hlt2
          have hsn : Sane (LabM.addAll cur (m.take t)) := fun x hx => by
            rcases LabM.addAll_mem hx with hx | hx
            · exact HSM.out x hx
            · exact HSK.out x (List.mem_of_mem_take hx)
          have HSU2 := Lib.hid hsu; have HSN := Lib.hid hsn
          clear hsu hal hsn
          generalize LabM.addAll cur (m.take t) = cc at *
          go_wp2_with fail
          refine (add_any Y cc f m[t] w4 HY.out HF1.out hf2 hal2 hs1 HSN.out).mono ?_
          rintro e w5 ⟨Z, f2, rfl, hz1, hz2, hZ, hb5⟩
          have HZ := Lib.hid hZ; have HZ1 := Lib.hid hz1
          clear hZ hz1
          go_wp2
          go_roundw
          case rel => exact ⟨t + 1, Z, f2, by omega, by go_num, by rw [HSU2.out], by rw [HSU2.out]; exact HZ1.out, hz2, by rw [HSU2.out]; exact HZ.out, bstep hbt hb5⟩
          case measure => simp [intOf] <;> omega
        · obtain rfl : t = m.length := by omega
          have hY := HY.out
          have hf1 := HF1.out
          rw [List.take_length] at hY hf1 ⊢
          rw [← HSU.out] at hY hf1 ⊢
          have HY := Lib.hid hY; have HF1 := Lib.hid hf1
          clear hY hf1
          go_wp2
          go_roundw
          case rel => exact ⟨k + 1, Y, f, by omega, by go_num, rfl, HF1.out, hf2, HY.out, bstep hb hbt⟩
          case measure => simp [intOf] <;> omega
    · obtain rfl : k = ls.length := by omega
      have hX := HX.out
      have hd1 := HD1.out
      rw [LabM.mergeTo_done] at hX hd1 ⊢
      have HX := Lib.hid hX; have HD1 := Lib.hid hd1
      clear hX hd1
      go_wp2
      go_ret
      exact ⟨X, d, rfl, HD1.out, hd2, HX.out, hb⟩

theorem far_any (A : Option Addr) (l : List ByteArray) (c : Nat) (w : World) (h : StrsAt w A l) (hl : l.length ≤ 9223372036854775807) (hsa : Sane l) :
    Calls Try.prog 11 #[.slice A l.length c] w fun e w' => e = .returned (.bool (LabM.farB l)) ∧ w = w' := by
  have HSA := Lib.hid hsa
  clear hsa
  go_enter Try.func11, Try.ntmps11
  go_wp2
  go_loop [3] (fun i => ∃ k : Nat, k ≤ l.length ∧ k ≤ 100 ∧ i = .int .i64 k ∧ ∀ j, (h : j < l.length) → j < k → l[j].size ≤ 40)
    (fun i => l.length - (intOf i).toNat)
  case atStart => exact ⟨0, Nat.zero_le _, by omega, rfl, fun j _ h => by omega⟩
  case round =>
    obtain ⟨k, hk, hk2, rfl, hw⟩ := hrel
    have HW := Lib.hid hw
    clear hw
    by_cases h1 : k < l.length
    · by_cases h2 : k < 100
      · obtain ⟨b, o, hA, e1⟩ := h.at h1
        subst hA
        have hsz := HSA.out.at k h1
        have hno : 40 < l[k].size → LabM.farB l = true := fun hx => LabM.farB_at h1 hx
        have hok : ¬ 40 < l[k].size → ∀ j, (h : j < l.length) → j < k + 1 → l[j].size ≤ 40 := fun hx j hj hjk => by
          by_cases e : j = k
          · subst e; omega
          · exact HW.out j hj (by omega)
        have HNO := Lib.hid hno; have HOK := Lib.hid hok
        clear hno hok
        by_cases hx : 40 < l[k].size
        · have HF := Lib.hid (HNO.out hx)
          go_wp2
          go_ret
          exact ⟨ret_bool HF.out.symm, rfl⟩
        · have HF := Lib.hid (HOK.out hx)
          go_wp2
          go_round
          case rel => exact ⟨k + 1, by omega, by omega, by go_num, HF.out⟩
          case measure => simp [intOf] <;> omega
      · have hf : LabM.farB l = decide ((60 : Int) < (l.length : Int)) := by
          rw [LabM.farB_end fun i hi hi2 => HW.out i hi (by omega)]; exact decide_eq_decide.2 (by omega)
        have HF := Lib.hid hf
        clear hf
        go_wp2
        go_ret
        exact ⟨ret_bool (HF.out.trans (decide_eq_decide.2 (by omega))).symm, rfl⟩
    · have hf : LabM.farB l = decide ((60 : Int) < (l.length : Int)) := by
        rw [LabM.farB_end fun i hi hi2 => HW.out i hi (by omega)]; exact decide_eq_decide.2 (by omega)
      have HF := Lib.hid hf
      clear hf
      go_wp2
      go_ret
      exact ⟨ret_bool (HF.out.trans (decide_eq_decide.2 (by omega))).symm, rfl⟩

theorem same_any (A1 A2 : Option Addr) (a b : List ByteArray) (c1 c2 : Nat) (w : World) (h1 : StrsAt w A1 a) (h2 : StrsAt w A2 b) (hl1 : a.length ≤ 9223372036854775807) (hl2 : b.length ≤ 9223372036854775807) :
    Calls Try.prog 13 #[.slice A1 a.length c1, .slice A2 b.length c2] w fun e w' => e = .returned (.bool (LabM.sameT a b)) ∧ ∃ n, w' = w.drewN n := by
  by_cases hne : a.length = b.length
  · have q : ((a.length : Int) != (b.length : Int)) = false := by simp [hne]
    have hle : a.length ≤ b.length := by omega
    have HNE := Lib.hid hne
    clear hne
    go_enter Try.func13, Try.ntmps13
    go_wp2
    clear q
    go_loopw [5] (fun i wr => ∃ k n : Nat, k ≤ a.length ∧ i = .int .i64 k ∧ a.take k = b.take k ∧ wr = w.drewN n)
      (fun i _ => a.length - (intOf i).toNat)
    case atStart => exact ⟨0, 0, Nat.zero_le _, rfl, by rw [List.take_zero, List.take_zero], rfl⟩
    case round =>
      obtain ⟨k, n, hk, rfl, hs, hwr⟩ := hrel
      have HW := Lib.hid hwr; have HS := Lib.hid hs
      have h1 : StrsAt wr A1 a := by rw [hwr]; exact h1
      have h2 : StrsAt wr A2 b := by rw [hwr]; exact h2
      clear hwr hs
      by_cases hlt : k < a.length
      · have hlt2 : k < b.length := by omega
        obtain ⟨b1, o1, hA1, e1⟩ := h1.at hlt
        obtain ⟨b2, o2, hA2, e2⟩ := h2.at hlt2
        subst hA1
        subst hA2
        by_cases hab : a[k] = b[k]
        · have q : (a[k].toList == b[k].toList) = true := by rw [hab]; exact beq_self_eq_true _
          have hf : a.take (k + 1) = b.take (k + 1) := by rw [List.take_succ_eq_append_getElem hlt, List.take_succ_eq_append_getElem hlt2, HS.out, hab]
          have HF := Lib.hid hf
          clear hf hab h1 h2
          go_wp2
          go_quiet (fail)
          go_wp2
          go_roundw
          case rel => exact ⟨k + 1, n + nq, by omega, by go_num, HF.out, by rw [HW.out, World.drewN_drewN]⟩
          case measure => simp [intOf] <;> omega
        · have q : (a[k].toList == b[k].toList) = false := str_ne hab
          have hf := LabM.sameT_at hlt hlt2 hab
          have HF := Lib.hid hf
          clear hf hab h1 h2
          go_wp2
          go_quiet (fail)
          go_wp2
          go_ret
          exact ⟨ret_bool HF.out.symm, n + nq, by rw [HW.out, World.drewN_drewN]⟩
      · obtain rfl : k = a.length := by omega
        have hf : LabM.sameT a b = true := by
          have e := HS.out
          rw [List.take_length, List.take_of_length_le (by rw [HNE.out]; exact Nat.le_refl _)] at e
          rw [e]; exact LabM.sameT_self b
        have HF := Lib.hid hf
        clear hf h1 h2
        go_wp2
        go_ret
        exact ⟨ret_bool HF.out.symm, n, HW.out⟩
  · have q : ((a.length : Int) != (b.length : Int)) = true := by rw [bne_iff_ne]; omega
    have hf := LabM.sameT_len hne
    have HF := Lib.hid hf
    clear hne hf
    go_enter Try.func13, Try.ntmps13
    go_wp2
    go_ret
    exact ⟨ret_bool HF.out.symm, 0, rfl⟩

/-- a list, and whether it is all -/
def PartPost (w : World) (r : List ByteArray) (all : Bool) (e : Ending) (w' : World) : Prop :=
  ∃ X d, e = .returned (.tuple #[.slice X r.length d, .bool all]) ∧ r.length ≤ d ∧ d ≤ maxLen ∧ StrsAt w' X r ∧ Below w.heap.size w w'
/-- what After tells -/
def AfterPost (w : World) (l : List ByteArray) (s : ByteArray) (most : Int) (e : Ending) (w' : World) : Prop :=
  ∃ X d, e = .returned (.tuple #[.slice X ((LabM.after l s).take most.toNat).length d, .bool (decide (¬ most.toNat < (LabM.after l s).length))]) ∧ ((LabM.after l s).take most.toNat).length ≤ d ∧ d ≤ maxLen ∧ StrsAt w' X ((LabM.after l s).take most.toNat) ∧ Below w.heap.size w w'
set_option maxHeartbeats 1000000 in
theorem after_any (A : Option Addr) (l : List ByteArray) (c : Nat) (s : ByteArray) (most : Int) (w : World) (h : StrsAt w A l) (hl : l.length ≤ 1048576) (hs : s.size ≤ 9223372036854775807) (hsa : Sane l) (hm : -9223372036854775808 ≤ most ∧ most ≤ 9223372036854775807) :
    Calls Try.prog 16 #[.slice A l.length c, .string s, .int .i64 most] w (AfterPost w l s most) := by
  have HSA := Lib.hid hsa
  clear hsa
  go_enter Try.func16, Try.ntmps16
  go_wp2
  go_loopw [8, 9] (fun v i wr => ∃ k : Nat, k ≤ l.length ∧ i = .int .i64 k ∧ OwnS wr w.heap.size v (LabM.after (l.take k) s) ∧ Below w.heap.size w wr)
    (fun _ i _ => l.length - (intOf i).toNat)
  case atStart => exact ⟨0, Nat.zero_le _, rfl, OwnS.nil _ _, Below.refl _ _⟩
  case round =>
    obtain ⟨k, hk, rfl, hown, hb⟩ := hrel
    rename World => w0
    have hz := hb.size
    have HO := Lib.hid hown
    clear hown
    by_cases hlt : k < l.length
    · obtain ⟨b, o, hA, e1⟩ := (h.below hb).at hlt
      subst hA
      have hsz := HSA.out.at k hlt
      have hsu := LabM.after_take l s k hlt
      have hal : (LabM.after (l.take k) s).length ≤ 1048576 := by have := LabM.after_len (l.take k) s; simp at this; omega
      have C := less_any s l[k] w0 hs hsz
      by_cases hle : LabM.lessS s l[k] = true
      · rw [show LabM.less s.data.toList l[k].data.toList = true from hle] at C
        rw [if_pos hle] at hsu
        have HSU := Lib.hid hsu
        clear hsu hle
        go_wp2_with fail
        refine C.mono ?_
        clear C
        rintro e w1 ⟨rfl, n, rfl⟩
        have e2 : (w0.drewN n).cell? ⟨b, o + k, none⟩ = some (.string l[k]) := e1
        have ho2 : OwnS (w0.drewN n) w.heap.size _ (LabM.after (l.take k) s) := HO.out
        have hb2 : Below w.heap.size w (w0.drewN n) := below_drewN hb n
        generalize w0.drewN n = V at e2 ho2 hb2 ⊢
        have HO2 := Lib.hid ho2
        have hzV := hb2.size
        clear ho2
        go_wp2_with (at_builtin; refine wpList_append_strs rfl (.tmp 22) (.tmp 27) rfl w.heap.size _ (LabM.after (l.take k) s) rfl (HO2.out.below (balloc _ _)) (some ⟨V.heap.size, 0, none⟩) 1 1 [l[k]] rfl rfl (CellsAt.lit _ _ _) (by omega) (by simp; omega) ?_; intro v7 w7 ha7)
        have hb7 : Below w.heap.size w w7 := ha7.below (HO2.out.below (balloc _ _)) (hb2.alloc hzV _) (Nat.le_refl _) (by simp; omega)
        have HA7 := Lib.hid ha7
        clear ha7
        go_roundw
        case rel => exact ⟨k + 1, by omega, by go_num, by rw [HSU.out]; exact HA7.out.own, hb7⟩
        case measure => simp [intOf] <;> omega
      · have hle' : LabM.lessS s l[k] = false := by simpa using hle
        rw [show LabM.less s.data.toList l[k].data.toList = false from hle'] at C
        rw [if_neg hle, List.append_nil] at hsu
        have HSU := Lib.hid hsu
        clear hsu hle hle'
        go_wp2_with fail
        refine C.mono ?_
        clear C
        rintro e w1 ⟨rfl, n, rfl⟩
        go_wp2
        go_roundw
        case rel => exact ⟨k + 1, by omega, by go_num, by rw [HSU.out]; exact HO.out, below_drewN hb n⟩
        case measure => simp [intOf] <;> omega
    · obtain rfl : k = l.length := by omega
      have ho := HO.out
      rw [List.take_length] at ho
      obtain ⟨X, d, hv, hd1, hd2, hX, _⟩ := ho.strs
      subst hv
      have HX := Lib.hid hX; have HD1 := Lib.hid hd1
      have hal : (LabM.after l s).length ≤ 1048576 := by have := LabM.after_len l s; omega
      clear hX hd1 ho HO
      by_cases hm0 : most < 0
      · have e0 : most.toNat = 0 := by omega
        by_cases hlen : 0 < (LabM.after l s).length
        · have hd3 : (LabM.after l s).length ≤ d := HD1.out
          have r1 : (LabM.after l s).take most.toNat = [] := by rw [e0, List.take_zero]
          have r2 : decide (¬ most.toNat < (LabM.after l s).length) = false := decide_eq_false (by omega)
          have R1 := Lib.hid r1; have R2 := Lib.hid r2
          clear r1 r2 e0
          go_wp2
          go_ret2
          exact ⟨X, d, by rw [R1.out, R2.out]; rfl, by rw [R1.out]; exact Nat.zero_le _, hd2, by rw [R1.out]; exact CellsAt.nil _ _, hb⟩
        · have r0 : LabM.after l s = [] := List.eq_nil_of_length_eq_zero (by omega)
          have r1 : (LabM.after l s).take most.toNat = LabM.after l s := by rw [r0]; simp
          have r2 : decide (¬ most.toNat < (LabM.after l s).length) = true := decide_eq_true (by omega)
          have R1 := Lib.hid r1; have R2 := Lib.hid r2
          clear r1 r2 e0 r0
          go_wp2
          go_ret2
          exact ⟨X, d, by rw [R1.out, R2.out]; rfl, by rw [R1.out]; exact HD1.out, hd2, by rw [R1.out]; exact HX.out, hb⟩
      · obtain ⟨m, rfl⟩ : ∃ m : Nat, most = m := ⟨most.toNat, by omega⟩
        by_cases hlen : m < (LabM.after l s).length
        · have hd3 : (LabM.after l s).length ≤ d := HD1.out
          have hmd : (m : Int) ≤ (d : Int) := by omega
          have r1 : ((LabM.after l s).take m).length = m := by rw [List.length_take]; omega
          have r2 : decide (¬ m < (LabM.after l s).length) = false := decide_eq_false (by omega)
          have R1 := Lib.hid r1; have R2 := Lib.hid r2
          have hX2 : StrsAt w0 X ((LabM.after l s).take m) := by have := HX.out.take m; unfold StrsAt LabM.strV; rw [List.map_take]; exact this
          have HX2 := Lib.hid hX2
          clear r1 r2 hX2
          go_wp2
          go_ret2
          exact ⟨X, d, by rw [Int.toNat_natCast, R1.out, R2.out]; rfl, by rw [Int.toNat_natCast, R1.out]; omega, hd2, HX2.out, hb⟩
        · have r1 : (LabM.after l s).take m = LabM.after l s := List.take_of_length_le (by omega)
          have r2 : decide (¬ m < (LabM.after l s).length) = true := decide_eq_true hlen
          have R1 := Lib.hid r1; have R2 := Lib.hid r2
          clear r1 r2
          go_wp2
          go_ret2
          exact ⟨X, d, by rw [Int.toNat_natCast, R1.out, R2.out]; rfl, by rw [Int.toNat_natCast, R1.out]; exact HD1.out, hd2, by rw [Int.toNat_natCast, R1.out]; exact HX.out, hb⟩

/-! a name as bytes -/
theorem put_any (s : ByteArray) (w : World) (hs : s.size ≤ 9223372036854775807) :
    Calls Try.prog 20 #[.string s] w (RetNew w (LabM.putB s.data.toList)) := by
  have hmk := fun W => make_u8 17 (by omega) W
  have e17 : ((17 : Nat) : Int) = 17 := rfl
  rw [e17] at hmk
  clear e17
  rcases hr : LabM.right s.data.toList with _ | _
  · have hp : LabM.putB s.data.toList = List.replicate 17 0 := by unfold LabM.putB; rw [if_neg (by rw [hr]; simp)]
    rw [hp]
    have HR := Lib.hid hr
    clear hp hr
    go_enter Try.func20, Try.ntmps20
    go_wp2_with fail
    have C := right_any s (w.alloc (.cells (cells (List.replicate 17 0)) 5)) hs
    rw [HR.out] at C
    refine C.mono ?_
    clear C
    rintro e w1 ⟨rfl, rfl⟩
    go_wp2
    go_ret
    exact RetNew.of_row (Row.new w (List.replicate 17 0)) (balloc _ _) (by unfold maxLen; simp) (Nat.le_refl _)
  · obtain ⟨h1, h2⟩ := LabM.right_len hr
    rw [← size_len] at h1 h2
    have hdone := LabM.putTo_done _ hr
    rw [← size_len] at hdone
    have HR := Lib.hid hr; have HD := Lib.hid hdone
    clear hr hdone
    obtain ⟨Z, hZ⟩ : ∃ Z : List UInt8, Z = List.replicate 17 0 := ⟨_, rfl⟩
    rw [← hZ] at hmk
    have c0 : (cells Z)[0]? = some (.int .u8 0) := by
      rw [hZ]; unfold cells; rw [List.getElem?_toArray, vals_get _ 0 (by simp)]; rfl
    have i1 : IntKind.u8.wrap (s.size : Int) = (s.size : Int) := by rw [IntKind.wrap_u8]; omega
    have hst : (cells Z).setIfInBounds 0 (.int .u8 (s.size : Int)) = cells (LabM.putTo s.data.toList 0) := by
      have e1 : ((UInt8.ofNat s.size).toNat : Int) = (s.size : Int) := by rw [UInt8.toNat_ofNat_of_lt' (by simp only [UInt8.size]; omega)]
      rw [← e1, hZ]
      have e2 : (List.replicate 17 (0 : UInt8)).set 0 (UInt8.ofNat s.size) = LabM.putTo s.data.toList 0 := by unfold LabM.putTo; rw [← size_len]; rfl
      rw [← e2]
      unfold cells vals; rw [List.map_set, List.setIfInBounds_toArray]
    have HZ := Lib.hid hZ; have HST := Lib.hid hst
    clear hZ hst
    go_enter Try.func20, Try.ntmps20
    go_wp2_with fail
    have C := right_any s (w.alloc (.cells (cells Z) 5)) hs
    rw [HR.out] at C
    refine C.mono ?_
    clear C
    rintro e w1 ⟨rfl, rfl⟩
    go_wp2
    clear hmk i1 c0
    rw [HST.out]
    have hrow : Row (w.alloc (.cells (cells (LabM.putTo s.data.toList 0)) 5)) w.heap.size (LabM.putTo s.data.toList 0) := Row.new _ _
    have hbw := balloc w (.cells (cells (LabM.putTo s.data.toList 0)) 5)
    generalize w.alloc (.cells (cells (LabM.putTo s.data.toList 0)) 5) = w2 at hrow hbw ⊢
    have HROW := Lib.hid hrow
    clear hrow
    go_loopw [4] (fun i wr => ∃ k : Nat, k ≤ s.size ∧ i = .int .i64 k ∧ Row wr w.heap.size (LabM.putTo s.data.toList k) ∧ Below w.heap.size w wr)
      (fun i _ => s.size - (intOf i).toNat)
    case atStart => exact ⟨0, Nat.zero_le _, rfl, HROW.out, hbw⟩
    case round =>
      obtain ⟨k, hk, rfl, hr, hb⟩ := hrel
      clear HROW
      by_cases hlt : k < s.size
      · have l1 : k < s.data.toList.length := by rw [← size_len]; exact hlt
        have g1 := get_at s k hlt
        have hpl := LabM.putTo_len s.data.toList k (by omega) (by rw [← size_len]; exact h2)
        have hcl := hr.cell (1 + k) (by omega)
        have hf := hr.frozen (1 + k)
        have hz := hr.lt
        have hs2 := hr.set (1 + k) s[k]
        rw [g1, LabM.putTo_step s.data.toList k l1 (by rw [← size_len]; exact h2), ← g1] at hs2
        have HS := Lib.hid hs2
        have j1 : (0 : Int) ≤ 1 + (k : Int) := by omega
        have j2 : 1 + (k : Int) < 17 := by omega
        have j3 : (1 + (k : Int)).toNat = 1 + k := by omega
        have j4 : IntKind.i64.wrap (1 + (k : Int)) = 1 + (k : Int) := IntWalk.i64_in _ (by omega)
        generalize (LabM.putTo s.data.toList k)[1 + k] = old at hcl
        clear hs2 hpl hr g1
        go_wp2
        go_roundw
        case rel => exact ⟨k + 1, by omega, by go_num, HS.out, hb.setCell (Nat.le_refl _) _⟩
        case measure => simp [intOf] <;> omega
      · obtain rfl : k = s.size := by omega
        have hfin := HD.out
        rw [hfin] at hr
        have hl17 := LabM.putB_len s.data.toList
        have hret := RetNew.of_row hr hb (by rw [hl17]; unfold maxLen; omega) (Nat.le_refl _)
        rw [hl17] at hret
        have HRET := Lib.hid hret
        clear hr hfin hret hl17
        go_wp2
        go_ret
        exact HRET.out

theorem get_any (x o : Nat) (b : List UInt8) (c : Nat) (w : World) (h : BytesAt w (some ⟨x, o, none⟩) b) (h17 : b.length = 17) (hc : 17 ≤ c) (hc2 : c ≤ maxLen) :
    Calls Try.prog 23 #[.slice (some ⟨x, o, none⟩) 17 c] w fun e w' => e = .returned (.tuple #[.string (LabM.getS b), .bool (LabM.getOk b)]) ∧ w = w' := by
  unfold maxLen at hc2
  have hb0 : 0 < b.length := by omega
  have ecell : ∀ i, (hi : i < b.length) → w.cell? ⟨x, o + i, none⟩ = some (.int .u8 (b[i].toNat : Nat)) := fun i hi => by
    obtain ⟨x2, o2, hA, hc⟩ := h i hi
    injection hA with hA; injection hA with h1 h2; subst h1; subst h2
    exact hc
  have e0 := ecell 0 hb0
  rw [Nat.add_zero] at e0
  have hg0 : b.getD 0 0 = b[0] := by simp [List.getD, hb0]
  obtain ⟨N, hN⟩ : ∃ N, N = b[0].toNat := ⟨_, rfl⟩
  have hNlt : N < 256 := by rw [hN]; exact b[0].toNat_lt
  rw [← hN] at e0
  have hgN : (b.getD 0 0).toNat = N := by rw [hg0, hN]
  have HGN := Lib.hid hgN; have HE := Lib.hid ecell; have H17 := Lib.hid h17; have HH := Lib.hid h
  clear hg0 hN hgN ecell h17 h hb0
  have no : ¬ ((b.getD 0 0).toNat ≤ 16 ∧ LabM.right (LabM.nameAt b) = true ∧ ∀ i, (h : i < b.length) → 1 + (b.getD 0 0).toNat ≤ i → b[i] = 0) → LabM.getS b = ⟨#[]⟩ ∧ LabM.getOk b = false := fun hn => by
    have := LabM.getOk_not hn
    exact ⟨by unfold LabM.getS; rw [if_neg (by rw [this]; simp)], this⟩
  have NO := Lib.hid no
  clear no
  by_cases h16 : N ≤ 16
  · have hnl : (LabM.nameAt b).length = N := by unfold LabM.nameAt; rw [List.length_take, List.length_drop, H17.out, HGN.out]; omega
    obtain ⟨S, hS⟩ : ∃ S : ByteArray, S = ⟨(LabM.nameAt b).toArray⟩ := ⟨_, rfl⟩
    have hSl : S.data.toList = LabM.nameAt b := by rw [hS]
    have hSz : S.size = N := by rw [size_len, hSl, hnl]
    have hconv : (convert 34 9 (.slice (some ⟨x, o + 1, none⟩) N (c - 1))).run Try.prog w = .ok (.string S) w := by
      have hr := run_convert_bytes_back (P := Try.prog) w 34 9 5 ⟨x, o + 1, none⟩ (c - 1) (LabM.nameAt b) Try.underlying34 Try.underlying5 Try.underlying9 (fun j hj => by
        have hb1 := (HH.out.drop 1).take (b.getD 0 0).toNat
        obtain ⟨x3, o3, e3, k3⟩ := hb1 j hj
        injection e3 with hA; injection hA with h1 h2; subst h1; subst h2
        have hadd : (⟨x, o + 1, none⟩ : Addr).add j = ⟨x, o + 1 + j, none⟩ := by unfold Addr.add; split <;> simp_all
        rw [hadd]; exact k3)
      rw [hnl] at hr
      rw [hr, hS]
    have C := right_any S w (by rw [hSz]; omega)
    have j1 : (0 : Int) ≤ 1 + (N : Int) := by omega
    have j2 : 1 + (N : Int) ≤ (c : Int) := by omega
    have j3 : (1 + (N : Int)).toNat = 1 + N := by omega
    have j5 : (1 : Int) ≤ 1 + (N : Int) := by omega
    have j6 : 1 + N - 1 = N := by omega
    have hc1 : ¬ c = 1 := by omega
    have hw16 : (N : Int) ≤ 16 := by omega
    rw [hSl] at C
    have HS := Lib.hid hS
    clear hnl hS hSl hSz
    rcases hr : LabM.right (LabM.nameAt b) with _ | _
    · rw [hr] at C
      obtain ⟨n1, n2⟩ := NO.out (fun h' => by rw [hr] at h'; exact absurd h'.2.1 (by simp))
      rw [n1, n2]
      clear hr n1 n2
      go_enter Try.func23, Try.ntmps23
      go_wp2_with fail
      refine C.mono ?_
      clear C
      rintro e w1 ⟨rfl, rfl⟩
      go_wp2
      go_ret2
      exact ⟨rfl, rfl⟩
    · rw [hr] at C
      have HR := Lib.hid hr
      clear hr
      go_enter Try.func23, Try.ntmps23
      go_wp2_with fail
      refine C.mono ?_
      clear C
      rintro e w1 ⟨rfl, rfl⟩
      go_wp2
      go_loop [5] (fun i => ∃ k : Nat, 1 + N ≤ k ∧ k ≤ 17 ∧ i = .int .i64 k ∧ ∀ i, (h : i < b.length) → 1 + N ≤ i → i < k → b[i] = 0)
        (fun i => 17 - (intOf i).toNat)
      case atStart => exact ⟨1 + N, Nat.le_refl _, by omega, by go_num, fun i _ h1 h2 => by omega⟩
      case round =>
        obtain ⟨k, hk1, hk2, rfl, hw⟩ := hrel
        have HW := Lib.hid hw
        clear hw
        by_cases hlt : k < 17
        · have hkb : k < b.length := by rw [H17.out]; exact hlt
          have ek := HE.out k hkb
          by_cases hz : b[k] = 0
          · have q : ((b[k].toNat : Int) != 0) = false := by rw [hz]; rfl
            have hf : ∀ i, (h : i < b.length) → 1 + N ≤ i → i < k + 1 → b[i] = 0 := fun i hi h1 h2 => by
              by_cases e : i = k
              · subst e; exact hz
              · exact HW.out i hi h1 (by omega)
            have HF := Lib.hid hf
            clear hf hz hconv
            go_wp2
            go_round
            case rel => exact ⟨k + 1, by omega, by omega, by go_num, HF.out⟩
            case measure => simp [intOf] <;> omega
          · have q : ((b[k].toNat : Int) != 0) = true := by
              have := toNat_bne b[k] 0
              rw [show (((0 : UInt8).toNat : Nat) : Int) = 0 from rfl] at this
              rw [this]; simpa using hz
            obtain ⟨n1, n2⟩ := NO.out (fun h' => hz (h'.2.2 k hkb (by rw [HGN.out]; exact hk1)))
            have N1 := Lib.hid n1; have N2 := Lib.hid n2
            clear hz n1 n2 hconv
            go_wp2
            go_ret2
            exact ⟨by rw [N1.out, N2.out]; rfl, rfl⟩
        · obtain rfl : k = 17 := by omega
          have hok : LabM.getOk b = true := (LabM.getOk_iff b).2 ⟨by rw [HGN.out]; exact h16, HR.out, fun i hi h1 => HW.out i hi (by rw [HGN.out] at h1; exact h1) (by rw [H17.out] at hi; exact hi)⟩
          have hgs : LabM.getS b = S := by unfold LabM.getS; rw [if_pos hok, HS.out]
          have HOK := Lib.hid hok; have HGS := Lib.hid hgs
          clear hok hgs
          go_wp2
          go_ret2
          exact ⟨by rw [HOK.out, HGS.out]; rfl, rfl⟩
  · have hw16 : (16 : Int) < (N : Int) := by omega
    obtain ⟨n1, n2⟩ := NO.out (fun h' => h16 (by rw [← HGN.out]; exact h'.1))
    rw [n1, n2]
    clear n1 n2 h16
    go_enter Try.func23, Try.ntmps23
    go_wp2
    go_ret2
    exact ⟨rfl, rfl⟩
end Go.Proofs.Ytjfjflkflnebgaa.R07
