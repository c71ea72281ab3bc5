/- the document's own answers of layer 7: names -/
import Derived.Test.YtjoocjkakgjgmaaCells
import Derived.Test.YtjoocjkakgjgmaaLabelMath
import Derived.Deep.QuietTactic
import Derived.BigQuiet
import Derived.IntWalk
import Derived.Lib.SliceRun
set_option maxRecDepth 100000
namespace Go.Proofs.Ytjoocjkakgjgmaa.R07
open Go.RowKit

theorem size_len (s : ByteArray) : s.size = s.data.toList.length := rfl
theorem get_at (s : ByteArray) (i : Nat) (h : i < s.size) : s[i] = s.data.toList[i]'(by rw [← size_len]; exact h) := by
  show s.data[i] = _
  exact (Array.getElem_toList _).symm

theorem right_any (s : ByteArray) (w : World) (hs : s.size ≤ 9223372036854775807) :
    Calls Try.prog 26 #[.string s] w fun e w' => e = .returned (.bool (LabM.right s.data.toList)) ∧ w = w' := by
  by_cases h1 : s.size < 1
  · have hf := LabM.right_short (s := s.data.toList) (.inl (by rw [← size_len]; exact h1))
    have HF := Lib.hid hf
    clear hf
    go_enter Try.func26, Try.ntmps26
    go_wp2
    go_ret
    exact ⟨ret_bool HF.out.symm, rfl⟩
  by_cases h2 : 16 < s.size
  · have hf := LabM.right_short (s := s.data.toList) (.inr (by rw [← size_len]; exact h2))
    have HF := Lib.hid hf
    clear hf
    go_enter Try.func26, Try.ntmps26
    go_wp2
    go_ret
    exact ⟨ret_bool HF.out.symm, rfl⟩
  go_enter Try.func26, Try.ntmps26
  go_wp2
  go_loop [3] (fun i => ∃ k : Nat, k ≤ s.size ∧ i = .int .i64 k ∧ ∀ j, (h : j < s.size) → j < k → LabM.okc j s[j] = true)
    (fun i => s.size - (intOf i).toNat)
  case atStart => exact ⟨0, Nat.zero_le _, rfl, fun j _ h => by omega⟩
  case round =>
    obtain ⟨k, hk, rfl, hw⟩ := hrel
    by_cases hlt : k < s.size
    · have hok : LabM.okc k s[k] = true → ∀ j, (h : j < s.size) → j < k + 1 → LabM.okc j s[j] = true := fun hx j hj hjk => by
        by_cases e : j = k
        · subst e; exact hx
        · exact hw j hj (by omega)
      have hno : LabM.okc k s[k] = false → LabM.right s.data.toList = false := fun hx => LabM.right_at (i := k) (by rw [← size_len]; exact hlt) (by rw [← get_at s k hlt]; exact hx)
      unfold LabM.okc at hok hno
      have HOK := Lib.hid hok; have HNO := Lib.hid hno
      have hc := s[k].toNat_lt
      clear hok hno hw
      obtain ⟨c, hce⟩ : ∃ c, c = s[k].toNat := ⟨_, rfl⟩
      rw [← hce] at HOK HNO hc
      have hwr : wrap64 (s[k].toNat : Int) = (c : Int) := by rw [← hce]; exact IntWalk.wrap64_in _ (by omega)
      clear hce
      by_cases a1 : 97 ≤ c
      · by_cases a2 : c ≤ 122
        · have b1 : (97 : Int) ≤ (c : Int) := by omega
          have b2 : (c : Int) ≤ 122 := by omega
          go_wp2
          go_round
          case rel => exact ⟨k + 1, by omega, by go_num, HOK.out (by simp [a1, a2])⟩
          case measure => simp [intOf] <;> omega
        · have b1 : (97 : Int) ≤ (c : Int) := by omega
          have b2 : decide ((c : Int) ≤ 122) = false := decide_eq_false (by omega)
          have b3 : (48 : Int) ≤ (c : Int) := by omega
          have b4 : decide ((c : Int) ≤ 57) = false := decide_eq_false (by omega)
          have b5 : ((c : Int) != 45) = true := by rw [bne_iff_ne]; omega
          have d1 : ¬ c ≤ 57 := by omega
          have d2 : ¬ c = 45 := by omega
          have hf := HNO.out (by simp [a2, d1, d2])
          have HF := Lib.hid hf
          clear hf
          go_wp2
          go_ret
          exact ⟨ret_bool HF.out.symm, rfl⟩
      · have b1 : (c : Int) < 97 := by omega
        by_cases a3 : 48 ≤ c
        · have b3 : (48 : Int) ≤ (c : Int) := by omega
          by_cases a4 : c ≤ 57
          · have b4 : (c : Int) ≤ 57 := by omega
            go_wp2
            go_round
            case rel => exact ⟨k + 1, by omega, by go_num, HOK.out (by simp [a3, a4])⟩
            case measure => simp [intOf] <;> omega
          · have b4 : decide ((c : Int) ≤ 57) = false := decide_eq_false (by omega)
            have b5 : ((c : Int) != 45) = true := by rw [bne_iff_ne]; omega
            have d2 : ¬ c = 45 := by omega
            have hf := HNO.out (by simp [a1, a4, d2])
            have HF := Lib.hid hf
            clear hf
            go_wp2
            go_ret
            exact ⟨ret_bool HF.out.symm, rfl⟩
        · have b3 : (c : Int) < 48 := by omega
          by_cases a5 : c = 45
          · have b5 : ((c : Int) != 45) = false := by simp [a5]
            by_cases a6 : k = 0
            · have b6 : ((k : Int) == 0) = true := by simp [a6]
              have hf := HNO.out (by simp [a1, a3, a6])
              have HF := Lib.hid hf
              clear hf a5 a6
              go_wp2
              go_ret
              exact ⟨ret_bool HF.out.symm, rfl⟩
            · have b6 : ((k : Int) == 0) = false := by simpa using a6
              have hf := HOK.out (by simp [a5, a6])
              have HF := Lib.hid hf
              clear hf a5
              go_wp2
              go_round
              case rel => exact ⟨k + 1, by omega, by go_num, HF.out⟩
              case measure => simp [intOf] <;> omega
          · have b5 : ((c : Int) != 45) = true := by rw [bne_iff_ne]; omega
            have hf := HNO.out (by simp [a1, a3, a5])
            have HF := Lib.hid hf
            clear hf
            go_wp2
            go_ret
            exact ⟨ret_bool HF.out.symm, rfl⟩
    · obtain rfl : k = s.size := by omega
      have hf : LabM.right s.data.toList = true := (LabM.right_iff _).2 ⟨by rw [← size_len]; omega, by rw [← size_len]; omega, fun i hi => by
        rw [← get_at s i (by rw [size_len]; exact hi)]; exact hw i _ (by rw [size_len]; exact hi)⟩
      have HF := Lib.hid hf
      clear hf hw
      go_wp2
      go_ret
      exact ⟨ret_bool HF.out.symm, rfl⟩

theorem str_ne {a b : ByteArray} (h : a ≠ b) : (a.toList == b.toList) = false := by
  rw [beq_eq_false_iff_ne]
  intro e
  rw [ByteArray.toList_eq, ByteArray.toList_eq] at e
  exact h (by cases a; cases b; simp at e; rw [e])
/-! lists of texts -/
def StrsAt (w : World) (A : Option Addr) (l : List ByteArray) : Prop := CellsAt w A (LabM.strV l)
theorem StrsAt.at {w : World} {A : Option Addr} {l : List ByteArray} (h : StrsAt w A l) {i : Nat} (hi : i < l.length) : ∃ b o, A = some ⟨b, o, none⟩ ∧ w.cell? ⟨b, o + i, none⟩ = some (.string l[i]) := by
  obtain ⟨b, o, hA, hc⟩ := h i (by rw [LabM.strV_len]; exact hi)
  exact ⟨b, o, hA, by rw [hc, LabM.strV_get]⟩
theorem StrsAt.below {w w' : World} {A : Option Addr} {l : List ByteArray} (h : StrsAt w A l) (hb : Below w.heap.size w w') : StrsAt w' A l := CellsAt.below h hb
theorem StrsAt.drewN {w : World} {A : Option Addr} {l : List ByteArray} (h : StrsAt w A l) (n : Nat) : StrsAt (w.drewN n) A l := h
theorem str_info : (Try.prog.info? 9).map (fun i => (i.zero, i.size, i.bytes)) = some (some (.string ByteArray.empty), 1, 16) := by kernel_rfl
theorem str_info' : ∃ i, Try.prog.info? 9 = some i ∧ i.zero = some (.string ByteArray.empty) ∧ i.size = 1 ∧ i.bytes = 16 := by
  obtain ⟨i0, h, a, b, c⟩ := info_parts str_info
  exact ⟨i0, h, a, b, c⟩
/-- the lengths of texts are numbers -/
def Sane (l : List ByteArray) : Prop := ∀ x ∈ l, x.size ≤ 9223372036854775807
theorem Sane.at {l : List ByteArray} (h : Sane l) (i : Nat) (hi : i < l.length) : l[i].size ≤ 9223372036854775807 := h _ (List.getElem_mem hi)
def RetStrs (w : World) (l : List ByteArray) (e : Ending) (w' : World) : Prop :=
  ∃ A c, e = .returned (.slice A l.length c) ∧ l.length ≤ c ∧ c ≤ maxLen ∧ StrsAt w' A l ∧ Below w.heap.size w w'

/-- a list of texts that the call has gathered -/
def OwnS (w : World) (base : Nat) (v : Value) (l : List ByteArray) : Prop := w.ownsRow base 9 1 v l.length (LabM.strV l)
structure AppdS (w : World) (base : Nat) (v : Value) (l : List ByteArray) (v' : Value) (w' : World) : Prop where
  own : OwnS w' base v' l
  grow : w.grownBy w' v.ownBlock
  place : v'.ownBlock = v.ownBlock ∨ v'.ownBlock = some w.heap.size
theorem OwnS.below {w w' : World} {base : Nat} {v : Value} {l : List ByteArray} (h : OwnS w base v l) (hb : Below w.heap.size w w') : OwnS w' base v l := ownV_below h hb
theorem OwnS.strs {w : World} {base : Nat} {v : Value} {l : List ByteArray} (h : OwnS w base v l) : ∃ A c, v = .slice A l.length c ∧ l.length ≤ c ∧ c ≤ maxLen ∧ StrsAt w A l ∧ ∀ a, A = some a → base ≤ a.block := by
  obtain ⟨A, c, h1, h2, h3, _, h5, h6⟩ := ownV_cells h
  exact ⟨A, c, h1, h2, h3, h5, h6⟩
theorem OwnS.nil (w : World) (base : Nat) : OwnS w base (.slice none 0 0) [] := ownV_nil _ _ _
theorem OwnS.empty (w : World) (base : Nat) (h : base ≤ w.heap.size) : OwnS (w.alloc (.cells #[] 9)) base (.slice (some ⟨w.heap.size, 0, none⟩) 0 0) [] := ownV_empty _ _ _ h
theorem AppdS.below {w w' w0 : World} {base B : Nat} {v v' : Value} {l xs : List ByteArray} (a : AppdS w base v l v' w') (hown : OwnS w base v xs) (hb : Below B w0 w) (hB : B ≤ base) (hs : B ≤ w.heap.size) : Below B w0 w' :=
  hb.grown a.grow hs fun k hk => Nat.le_trans hB (World.ownsRow.lt hown k hk).1
/-- what lies ahead of the call's own blocks stays -/
theorem AppdS.strs {w w' : World} {base : Nat} {v v' : Value} {l xs ys : List ByteArray} {A : Option Addr} (a : AppdS w base v l v' w') (hown : OwnS w base v xs) (h : StrsAt w A ys) (hA : 0 < ys.length → ∀ x, A = some x → x.block < base) : StrsAt w' A ys :=
  CellsAt.keep (F := fun k => v.ownBlock = some k) h ⟨a.grow.os, a.grow.tape, a.grow.output, a.grow.size, fun k hk hn => a.grow.block k hk (fun e => hn e.symm)⟩ fun h0 x hx e => by
    have := (World.ownsRow.lt hown _ e).1
    have := hA (by rw [LabM.strV_len] at h0; exact h0) x hx
    omega
theorem wpList_append_strs {ops : Array Oper} {rest : List Oper} {o : Oper} {a : Act} {w : World} {Q : Exit → Act → World → Prop} (hgd : o.guard = none) (s x : Operand)
    (ho : o.op = .call { callee := .builtin .append, args := #[s, x], argTypes := #[23, 23] })
    (base : Nat) (v : Value) (xs : List ByteArray) (hs : a.eval s = v) (hown : OwnS w base v xs) (A : Option Addr) (m c : Nat) (ys : List ByteArray) (hx : a.eval x = .slice A m c) (hy : ys.length = m) (hA : StrsAt w A ys)
    (hl : xs.length + m < 1099511627776) (hbase : base ≤ w.heap.size)
    (h : ∀ v' w', AppdS w base v (xs ++ ys) v' w' → wpList Try.prog ops Q rest (a.put o.dst v') w') : wpList Try.prog ops Q (o :: rest) a w := by
  obtain ⟨i0, hi, hz, hs1, hb1⟩ := str_info'
  refine wpList_append_cells Try.underlying23 hi hz hs1 hb1 rfl hgd s x ho base v xs.length (LabM.strV xs) hs hown A m c (LabM.strV ys) hx (by rw [LabM.strV_len]; exact hy) hA (LabM.strV_one ys) hl (by omega) hbase ?_
  intro v' w' ha
  refine h v' w' ⟨?_, ha.grow, ha.place⟩
  have := ha.own
  unfold OwnS
  rw [List.length_append, hy, show LabM.strV (xs ++ ys) = LabM.strV xs ++ LabM.strV ys from by simp [LabM.strV]]
  exact this

/-- lists of lists of texts -/
def ListsAt (w : World) (A : Option Addr) (ls : List (List ByteArray)) : Prop :=
  ∀ i, (h : i < ls.length) → ∃ b o B c, A = some ⟨b, o, none⟩ ∧ w.cell? ⟨b, o + i, none⟩ = some (.slice B ls[i].length c) ∧ ls[i].length ≤ c ∧ c ≤ maxLen ∧ StrsAt w B ls[i]
theorem ListsAt.below {w w' : World} {A : Option Addr} {ls : List (List ByteArray)} (h : ListsAt w A ls) (hb : Below w.heap.size w w') : ListsAt w' A ls := fun i hi => by
  obtain ⟨b, o, B, c, h1, h2, h3, h4, h5⟩ := h i hi
  exact ⟨b, o, B, c, h1, (hb.cell (p := ⟨b, o + i, none⟩) (cell_lt h2)).trans h2, h3, h4, h5.below hb⟩
theorem ListsAt.lit2 {w : World} {A B : Option Addr} {l m : List ByteArray} {c d : Nat} (h : StrsAt w A l) (h1 : l.length ≤ c) (h2 : c ≤ maxLen) (k : StrsAt w B m) (k1 : m.length ≤ d) (k2 : d ≤ maxLen) :
    ListsAt (w.alloc (.cells #[.slice A l.length c, .slice B m.length d] 23)) (some ⟨w.heap.size, 0, none⟩) [l, m] := by
  intro i hi
  match i, hi with
  | 0, _ => exact ⟨w.heap.size, 0, A, c, rfl, by rw [World.cell?_alloc_at _ _ _ _ rfl]; rfl, h1, h2, h.below (balloc _ _)⟩
  | 1, _ => exact ⟨w.heap.size, 0, B, d, rfl, by rw [World.cell?_alloc_at _ _ _ _ rfl]; rfl, k1, k2, k.below (balloc _ _)⟩

theorem far_any (A : Option Addr) (l : List ByteArray) (c : Nat) (w : World) (h : StrsAt w A l) (hl : l.length ≤ 9223372036854775807) (hsa : Sane l) :
    Calls Try.prog 22 #[.slice A l.length c] w fun e w' => e = .returned (.bool (LabM.farB l)) ∧ w = w' := by
  have HSA := Lib.hid hsa
  clear hsa
  go_enter Try.func22, Try.ntmps22
  go_wp2
  go_loop [3] (fun i => ∃ k : Nat, k ≤ l.length ∧ k ≤ 100 ∧ i = .int .i64 k ∧ ∀ j, (h : j < l.length) → j < k → l[j].size ≤ 40)
    (fun i => l.length - (intOf i).toNat)
  case atStart => exact ⟨0, Nat.zero_le _, by omega, rfl, fun j _ h => by omega⟩
  case round =>
    obtain ⟨k, hk, hk2, rfl, hw⟩ := hrel
    have HW := Lib.hid hw
    clear hw
    by_cases h1 : k < l.length
    · by_cases h2 : k < 100
      · obtain ⟨b, o, hA, e1⟩ := h.at h1
        subst hA
        have hsz := HSA.out.at k h1
        have hno : 40 < l[k].size → LabM.farB l = true := fun hx => LabM.farB_at h1 hx
        have hok : ¬ 40 < l[k].size → ∀ j, (h : j < l.length) → j < k + 1 → l[j].size ≤ 40 := fun hx j hj hjk => by
          by_cases e : j = k
          · subst e; omega
          · exact HW.out j hj (by omega)
        have HNO := Lib.hid hno; have HOK := Lib.hid hok
        clear hno hok
        by_cases hx : 40 < l[k].size
        · have HF := Lib.hid (HNO.out hx)
          go_wp2
          go_ret
          exact ⟨ret_bool HF.out.symm, rfl⟩
        · have HF := Lib.hid (HOK.out hx)
          go_wp2
          go_round
          case rel => exact ⟨k + 1, by omega, by omega, by go_num, HF.out⟩
          case measure => simp [intOf] <;> omega
      · have hf : LabM.farB l = decide ((60 : Int) < (l.length : Int)) := by
          rw [LabM.farB_end fun i hi hi2 => HW.out i hi (by omega)]; exact decide_eq_decide.2 (by omega)
        have HF := Lib.hid hf
        clear hf
        go_wp2
        go_ret
        exact ⟨ret_bool (HF.out.trans (decide_eq_decide.2 (by omega))).symm, rfl⟩
    · have hf : LabM.farB l = decide ((60 : Int) < (l.length : Int)) := by
        rw [LabM.farB_end fun i hi hi2 => HW.out i hi (by omega)]; exact decide_eq_decide.2 (by omega)
      have HF := Lib.hid hf
      clear hf
      go_wp2
      go_ret
      exact ⟨ret_bool (HF.out.trans (decide_eq_decide.2 (by omega))).symm, rfl⟩

theorem same_any (A1 A2 : Option Addr) (a b : List ByteArray) (c1 c2 : Nat) (w : World) (h1 : StrsAt w A1 a) (h2 : StrsAt w A2 b) (_hl1 : a.length ≤ 9223372036854775807) (hl2 : b.length ≤ 9223372036854775807) :
    Calls Try.prog 36 #[.slice A1 a.length c1, .slice A2 b.length c2] w fun e w' => e = .returned (.bool (LabM.sameT a b)) ∧ ∃ n, w' = w.drewN n := by
  by_cases hne : a.length = b.length
  · have q : ((a.length : Int) != (b.length : Int)) = false := by simp [hne]
    have hle : a.length ≤ b.length := by omega
    have HNE := Lib.hid hne
    clear hne
    go_enter Try.func36, Try.ntmps36
    go_wp2
    clear q
    go_loopw [5] (fun i wr => ∃ k n : Nat, k ≤ a.length ∧ i = .int .i64 k ∧ a.take k = b.take k ∧ wr = w.drewN n)
      (fun i _ => a.length - (intOf i).toNat)
    case atStart => exact ⟨0, 0, Nat.zero_le _, rfl, by rw [List.take_zero, List.take_zero], rfl⟩
    case round =>
      obtain ⟨k, n, hk, rfl, hs, hwr⟩ := hrel
      have HW := Lib.hid hwr; have HS := Lib.hid hs
      have h1 : StrsAt wr A1 a := by rw [hwr]; exact h1
      have h2 : StrsAt wr A2 b := by rw [hwr]; exact h2
      clear hwr hs
      by_cases hlt : k < a.length
      · have hlt2 : k < b.length := by omega
        obtain ⟨b1, o1, hA1, e1⟩ := h1.at hlt
        obtain ⟨b2, o2, hA2, e2⟩ := h2.at hlt2
        subst hA1
        subst hA2
        by_cases hab : a[k] = b[k]
        · have q : (a[k].toList == b[k].toList) = true := by rw [hab]; exact beq_self_eq_true _
          have hf : a.take (k + 1) = b.take (k + 1) := by rw [List.take_succ_eq_append_getElem hlt, List.take_succ_eq_append_getElem hlt2, HS.out, hab]
          have HF := Lib.hid hf
          clear hf hab h1 h2
          go_wp2
          go_quiet (fail)
          go_wp2
          go_roundw
          case rel => exact ⟨k + 1, n + nq, by omega, by go_num, HF.out, by rw [HW.out, World.drewN_drewN]⟩
          case measure => simp [intOf] <;> omega
        · have q : (a[k].toList == b[k].toList) = false := str_ne hab
          have hf := LabM.sameT_at hlt hlt2 hab
          have HF := Lib.hid hf
          clear hf hab h1 h2
          go_wp2
          go_quiet (fail)
          go_wp2
          go_ret
          exact ⟨ret_bool HF.out.symm, n + nq, by rw [HW.out, World.drewN_drewN]⟩
      · obtain rfl : k = a.length := by omega
        have hf : LabM.sameT a b = true := by
          have e := HS.out
          rw [List.take_length, List.take_of_length_le (by rw [HNE.out]; exact Nat.le_refl _)] at e
          rw [e]; exact LabM.sameT_self b
        have HF := Lib.hid hf
        clear hf h1 h2
        go_wp2
        go_ret
        exact ⟨ret_bool HF.out.symm, n, HW.out⟩
  · have q : ((a.length : Int) != (b.length : Int)) = true := by rw [bne_iff_ne]; omega
    have hf := LabM.sameT_len hne
    have HF := Lib.hid hf
    clear hne hf
    go_enter Try.func36, Try.ntmps36
    go_wp2
    go_ret
    exact ⟨ret_bool HF.out.symm, 0, rfl⟩

/-- a list, and whether it is all -/
def PartPost (w : World) (r : List ByteArray) (all : Bool) (e : Ending) (w' : World) : Prop :=
  ∃ X d, e = .returned (.tuple #[.slice X r.length d, .bool all]) ∧ r.length ≤ d ∧ d ≤ maxLen ∧ StrsAt w' X r ∧ Below w.heap.size w w'
/-- what After tells -/
def AfterPost (w : World) (l : List ByteArray) (s : ByteArray) (most : Int) (e : Ending) (w' : World) : Prop :=
  ∃ X d, e = .returned (.tuple #[.slice X ((LabM.after l s).take most.toNat).length d, .bool (decide (¬ most.toNat < (LabM.after l s).length))]) ∧ ((LabM.after l s).take most.toNat).length ≤ d ∧ d ≤ maxLen ∧ StrsAt w' X ((LabM.after l s).take most.toNat) ∧ Below w.heap.size w w'
/-! a name as bytes -/
end Go.Proofs.Ytjoocjkakgjgmaa.R07
