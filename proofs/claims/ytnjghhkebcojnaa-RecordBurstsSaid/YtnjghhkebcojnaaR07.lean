/- the document's own answers of layer 7: names -/
import Derived.Test.YtnjghhkebcojnaaCells
import Derived.Test.YtnjghhkebcojnaaLabelMath
import Derived.Deep.QuietTactic
import Derived.BigQuiet
import Derived.IntWalk
import Derived.Lib.SliceRun
set_option maxRecDepth 100000
namespace Go.Proofs.Ytnjghhkebcojnaa.R07
open Go.RowKit

theorem size_len (s : ByteArray) : s.size = s.data.toList.length := rfl
theorem get_at (s : ByteArray) (i : Nat) (h : i < s.size) : s[i] = s.data.toList[i]'(by rw [← size_len]; exact h) := by
  show s.data[i] = _
  exact (Array.getElem_toList _).symm

theorem right_any (s : ByteArray) (w : World) (hs : s.size ≤ 9223372036854775807) :
    Calls Try.prog 31 #[.string s] w fun e w' => e = .returned (.bool (LabM.right s.data.toList)) ∧ w = w' := by
  by_cases h1 : s.size < 1
  · have hf := LabM.right_short (s := s.data.toList) (.inl (by rw [← size_len]; exact h1))
    have HF := Lib.hid hf
    clear hf
    go_enter Try.func31, Try.ntmps31
    go_wp2
    go_ret
    exact ⟨ret_bool HF.out.symm, rfl⟩
  by_cases h2 : 16 < s.size
  · have hf := LabM.right_short (s := s.data.toList) (.inr (by rw [← size_len]; exact h2))
    have HF := Lib.hid hf
    clear hf
    go_enter Try.func31, Try.ntmps31
    go_wp2
    go_ret
    exact ⟨ret_bool HF.out.symm, rfl⟩
  go_enter Try.func31, Try.ntmps31
  go_wp2
  go_loop [3] (fun i => ∃ k : Nat, k ≤ s.size ∧ i = .int .i64 k ∧ ∀ j, (h : j < s.size) → j < k → LabM.okc j s[j] = true)
    (fun i => s.size - (intOf i).toNat)
  case atStart => exact ⟨0, Nat.zero_le _, rfl, fun j _ h => by omega⟩
  case round =>
    obtain ⟨k, hk, rfl, hw⟩ := hrel
    by_cases hlt : k < s.size
    · have hok : LabM.okc k s[k] = true → ∀ j, (h : j < s.size) → j < k + 1 → LabM.okc j s[j] = true := fun hx j hj hjk => by
        by_cases e : j = k
        · subst e; exact hx
        · exact hw j hj (by omega)
      have hno : LabM.okc k s[k] = false → LabM.right s.data.toList = false := fun hx => LabM.right_at (i := k) (by rw [← size_len]; exact hlt) (by rw [← get_at s k hlt]; exact hx)
      unfold LabM.okc at hok hno
      have HOK := Lib.hid hok; have HNO := Lib.hid hno
      have hc := s[k].toNat_lt
      clear hok hno hw
      obtain ⟨c, hce⟩ : ∃ c, c = s[k].toNat := ⟨_, rfl⟩
      rw [← hce] at HOK HNO hc
      have hwr : wrap64 (s[k].toNat : Int) = (c : Int) := by rw [← hce]; exact IntWalk.wrap64_in _ (by omega)
      clear hce
      by_cases a1 : 97 ≤ c
      · by_cases a2 : c ≤ 122
        · have b1 : (97 : Int) ≤ (c : Int) := by omega
          have b2 : (c : Int) ≤ 122 := by omega
          go_wp2
          go_round
          case rel => exact ⟨k + 1, by omega, by go_num, HOK.out (by simp [a1, a2])⟩
          case measure => simp [intOf] <;> omega
        · have b1 : (97 : Int) ≤ (c : Int) := by omega
          have b2 : decide ((c : Int) ≤ 122) = false := decide_eq_false (by omega)
          have b3 : (48 : Int) ≤ (c : Int) := by omega
          have b4 : decide ((c : Int) ≤ 57) = false := decide_eq_false (by omega)
          have b5 : ((c : Int) != 45) = true := by rw [bne_iff_ne]; omega
          have d1 : ¬ c ≤ 57 := by omega
          have d2 : ¬ c = 45 := by omega
          have hf := HNO.out (by simp [a2, d1, d2])
          have HF := Lib.hid hf
          clear hf
          go_wp2
          go_ret
          exact ⟨ret_bool HF.out.symm, rfl⟩
      · have b1 : (c : Int) < 97 := by omega
        by_cases a3 : 48 ≤ c
        · have b3 : (48 : Int) ≤ (c : Int) := by omega
          by_cases a4 : c ≤ 57
          · have b4 : (c : Int) ≤ 57 := by omega
            go_wp2
            go_round
            case rel => exact ⟨k + 1, by omega, by go_num, HOK.out (by simp [a3, a4])⟩
            case measure => simp [intOf] <;> omega
          · have b4 : decide ((c : Int) ≤ 57) = false := decide_eq_false (by omega)
            have b5 : ((c : Int) != 45) = true := by rw [bne_iff_ne]; omega
            have d2 : ¬ c = 45 := by omega
            have hf := HNO.out (by simp [a1, a4, d2])
            have HF := Lib.hid hf
            clear hf
            go_wp2
            go_ret
            exact ⟨ret_bool HF.out.symm, rfl⟩
        · have b3 : (c : Int) < 48 := by omega
          by_cases a5 : c = 45
          · have b5 : ((c : Int) != 45) = false := by simp [a5]
            by_cases a6 : k = 0
            · have b6 : ((k : Int) == 0) = true := by simp [a6]
              have hf := HNO.out (by simp [a1, a3, a6])
              have HF := Lib.hid hf
              clear hf a5 a6
              go_wp2
              go_ret
              exact ⟨ret_bool HF.out.symm, rfl⟩
            · have b6 : ((k : Int) == 0) = false := by simpa using a6
              have hf := HOK.out (by simp [a5, a6])
              have HF := Lib.hid hf
              clear hf a5
              go_wp2
              go_round
              case rel => exact ⟨k + 1, by omega, by go_num, HF.out⟩
              case measure => simp [intOf] <;> omega
          · have b5 : ((c : Int) != 45) = true := by rw [bne_iff_ne]; omega
            have hf := HNO.out (by simp [a1, a3, a5])
            have HF := Lib.hid hf
            clear hf
            go_wp2
            go_ret
            exact ⟨ret_bool HF.out.symm, rfl⟩
    · obtain rfl : k = s.size := by omega
      have hf : LabM.right s.data.toList = true := (LabM.right_iff _).2 ⟨by rw [← size_len]; omega, by rw [← size_len]; omega, fun i hi => by
        rw [← get_at s i (by rw [size_len]; exact hi)]; exact hw i _ (by rw [size_len]; exact hi)⟩
      have HF := Lib.hid hf
      clear hf hw
      go_wp2
      go_ret
      exact ⟨ret_bool HF.out.symm, rfl⟩

theorem str_ne {a b : ByteArray} (h : a ≠ b) : (a.toList == b.toList) = false := by
  rw [beq_eq_false_iff_ne]
  intro e
  rw [ByteArray.toList_eq, ByteArray.toList_eq] at e
  exact h (by cases a; cases b; simp at e; rw [e])
/-! lists of texts -/
def StrsAt (w : World) (A : Option Addr) (l : List ByteArray) : Prop := CellsAt w A (LabM.strV l)
theorem StrsAt.at {w : World} {A : Option Addr} {l : List ByteArray} (h : StrsAt w A l) {i : Nat} (hi : i < l.length) : ∃ b o, A = some ⟨b, o, none⟩ ∧ w.cell? ⟨b, o + i, none⟩ = some (.string l[i]) := by
  obtain ⟨b, o, hA, hc⟩ := h i (by rw [LabM.strV_len]; exact hi)
  exact ⟨b, o, hA, by rw [hc, LabM.strV_get]⟩
theorem StrsAt.below {w w' : World} {A : Option Addr} {l : List ByteArray} (h : StrsAt w A l) (hb : Below w.heap.size w w') : StrsAt w' A l := CellsAt.below h hb
theorem StrsAt.drewN {w : World} {A : Option Addr} {l : List ByteArray} (h : StrsAt w A l) (n : Nat) : StrsAt (w.drewN n) A l := h
theorem str_info : (Try.prog.info? 9).map (fun i => (i.zero, i.size, i.bytes)) = some (some (.string ByteArray.empty), 1, 16) := by kernel_rfl
theorem str_info' : ∃ i, Try.prog.info? 9 = some i ∧ i.zero = some (.string ByteArray.empty) ∧ i.size = 1 ∧ i.bytes = 16 := by
  obtain ⟨i0, h, a, b, c⟩ := info_parts str_info
  exact ⟨i0, h, a, b, c⟩
/-- the lengths of texts are numbers -/
def Sane (l : List ByteArray) : Prop := ∀ x ∈ l, x.size ≤ 9223372036854775807
theorem Sane.at {l : List ByteArray} (h : Sane l) (i : Nat) (hi : i < l.length) : l[i].size ≤ 9223372036854775807 := h _ (List.getElem_mem hi)
def RetStrs (w : World) (l : List ByteArray) (e : Ending) (w' : World) : Prop :=
  ∃ A c, e = .returned (.slice A l.length c) ∧ l.length ≤ c ∧ c ≤ maxLen ∧ StrsAt w' A l ∧ Below w.heap.size w w'

/-- a list of texts that the call has gathered -/
def OwnS (w : World) (base : Nat) (v : Value) (l : List ByteArray) : Prop := w.ownsRow base 9 1 v l.length (LabM.strV l)
structure AppdS (w : World) (base : Nat) (v : Value) (l : List ByteArray) (v' : Value) (w' : World) : Prop where
  own : OwnS w' base v' l
  grow : w.grownBy w' v.ownBlock
  place : v'.ownBlock = v.ownBlock ∨ v'.ownBlock = some w.heap.size
theorem OwnS.below {w w' : World} {base : Nat} {v : Value} {l : List ByteArray} (h : OwnS w base v l) (hb : Below w.heap.size w w') : OwnS w' base v l := ownV_below h hb
theorem OwnS.strs {w : World} {base : Nat} {v : Value} {l : List ByteArray} (h : OwnS w base v l) : ∃ A c, v = .slice A l.length c ∧ l.length ≤ c ∧ c ≤ maxLen ∧ StrsAt w A l ∧ ∀ a, A = some a → base ≤ a.block := by
  obtain ⟨A, c, h1, h2, h3, _, h5, h6⟩ := ownV_cells h
  exact ⟨A, c, h1, h2, h3, h5, h6⟩
theorem OwnS.nil (w : World) (base : Nat) : OwnS w base (.slice none 0 0) [] := ownV_nil _ _ _
theorem OwnS.empty (w : World) (base : Nat) (h : base ≤ w.heap.size) : OwnS (w.alloc (.cells #[] 9)) base (.slice (some ⟨w.heap.size, 0, none⟩) 0 0) [] := ownV_empty _ _ _ h
theorem AppdS.below {w w' w0 : World} {base B : Nat} {v v' : Value} {l xs : List ByteArray} (a : AppdS w base v l v' w') (hown : OwnS w base v xs) (hb : Below B w0 w) (hB : B ≤ base) (hs : B ≤ w.heap.size) : Below B w0 w' :=
  hb.grown a.grow hs fun k hk => Nat.le_trans hB (World.ownsRow.lt hown k hk).1
/-- what lies ahead of the call's own blocks stays -/
theorem AppdS.strs {w w' : World} {base : Nat} {v v' : Value} {l xs ys : List ByteArray} {A : Option Addr} (a : AppdS w base v l v' w') (hown : OwnS w base v xs) (h : StrsAt w A ys) (hA : 0 < ys.length → ∀ x, A = some x → x.block < base) : StrsAt w' A ys :=
  CellsAt.keep (F := fun k => v.ownBlock = some k) h ⟨a.grow.os, a.grow.tape, a.grow.output, a.grow.size, fun k hk hn => a.grow.block k hk (fun e => hn e.symm)⟩ fun h0 x hx e => by
    have := (World.ownsRow.lt hown _ e).1
    have := hA (by rw [LabM.strV_len] at h0; exact h0) x hx
    omega
/-- lists of lists of texts -/
def ListsAt (w : World) (A : Option Addr) (ls : List (List ByteArray)) : Prop :=
  ∀ i, (h : i < ls.length) → ∃ b o B c, A = some ⟨b, o, none⟩ ∧ w.cell? ⟨b, o + i, none⟩ = some (.slice B ls[i].length c) ∧ ls[i].length ≤ c ∧ c ≤ maxLen ∧ StrsAt w B ls[i]
theorem ListsAt.below {w w' : World} {A : Option Addr} {ls : List (List ByteArray)} (h : ListsAt w A ls) (hb : Below w.heap.size w w') : ListsAt w' A ls := fun i hi => by
  obtain ⟨b, o, B, c, h1, h2, h3, h4, h5⟩ := h i hi
  exact ⟨b, o, B, c, h1, (hb.cell (p := ⟨b, o + i, none⟩) (cell_lt h2)).trans h2, h3, h4, h5.below hb⟩
/-- a list, and whether it is all -/
def PartPost (w : World) (r : List ByteArray) (all : Bool) (e : Ending) (w' : World) : Prop :=
  ∃ X d, e = .returned (.tuple #[.slice X r.length d, .bool all]) ∧ r.length ≤ d ∧ d ≤ maxLen ∧ StrsAt w' X r ∧ Below w.heap.size w w'
/-- what After tells -/
def AfterPost (w : World) (l : List ByteArray) (s : ByteArray) (most : Int) (e : Ending) (w' : World) : Prop :=
  ∃ X d, e = .returned (.tuple #[.slice X ((LabM.after l s).take most.toNat).length d, .bool (decide (¬ most.toNat < (LabM.after l s).length))]) ∧ ((LabM.after l s).take most.toNat).length ≤ d ∧ d ≤ maxLen ∧ StrsAt w' X ((LabM.after l s).take most.toNat) ∧ Below w.heap.size w w'
/-! a name as bytes -/
theorem put_any (s : ByteArray) (w : World) (hs : s.size ≤ 9223372036854775807) :
    Calls Try.prog 41 #[.string s] w (RetNew w (LabM.putB s.data.toList)) := by
  have hmk := fun W => make_u8 17 (by omega) W
  have e17 : ((17 : Nat) : Int) = 17 := rfl
  rw [e17] at hmk
  clear e17
  rcases hr : LabM.right s.data.toList with _ | _
  · have hp : LabM.putB s.data.toList = List.replicate 17 0 := by unfold LabM.putB; rw [if_neg (by rw [hr]; simp)]
    rw [hp]
    have HR := Lib.hid hr
    clear hp hr
    go_enter Try.func41, Try.ntmps41
    go_wp2_with fail
    have C := right_any s (w.alloc (.cells (cells (List.replicate 17 0)) 5)) hs
    rw [HR.out] at C
    refine C.mono ?_
    clear C
    rintro e w1 ⟨rfl, rfl⟩
    go_wp2
    go_ret
    exact RetNew.of_row (Row.new w (List.replicate 17 0)) (balloc _ _) (by unfold maxLen; simp) (Nat.le_refl _)
  · obtain ⟨h1, h2⟩ := LabM.right_len hr
    rw [← size_len] at h1 h2
    have hdone := LabM.putTo_done _ hr
    rw [← size_len] at hdone
    have HR := Lib.hid hr; have HD := Lib.hid hdone
    clear hr hdone
    obtain ⟨Z, hZ⟩ : ∃ Z : List UInt8, Z = List.replicate 17 0 := ⟨_, rfl⟩
    rw [← hZ] at hmk
    have c0 : (cells Z)[0]? = some (.int .u8 0) := by
      rw [hZ]; unfold cells; rw [List.getElem?_toArray, vals_get _ 0 (by simp)]; rfl
    have i1 : IntKind.u8.wrap (s.size : Int) = (s.size : Int) := by rw [IntKind.wrap_u8]; omega
    have hst : (cells Z).setIfInBounds 0 (.int .u8 (s.size : Int)) = cells (LabM.putTo s.data.toList 0) := by
      have e1 : ((UInt8.ofNat s.size).toNat : Int) = (s.size : Int) := by rw [UInt8.toNat_ofNat_of_lt' (by simp only [UInt8.size]; omega)]
      rw [← e1, hZ]
      have e2 : (List.replicate 17 (0 : UInt8)).set 0 (UInt8.ofNat s.size) = LabM.putTo s.data.toList 0 := by unfold LabM.putTo; rw [← size_len]; rfl
      rw [← e2]
      unfold cells vals; rw [List.map_set, List.setIfInBounds_toArray]
    have HZ := Lib.hid hZ; have HST := Lib.hid hst
    clear hZ hst
    go_enter Try.func41, Try.ntmps41
    go_wp2_with fail
    have C := right_any s (w.alloc (.cells (cells Z) 5)) hs
    rw [HR.out] at C
    refine C.mono ?_
    clear C
    rintro e w1 ⟨rfl, rfl⟩
    go_wp2
    clear hmk i1 c0
    rw [HST.out]
    have hrow : Row (w.alloc (.cells (cells (LabM.putTo s.data.toList 0)) 5)) w.heap.size (LabM.putTo s.data.toList 0) := Row.new _ _
    have hbw := balloc w (.cells (cells (LabM.putTo s.data.toList 0)) 5)
    generalize w.alloc (.cells (cells (LabM.putTo s.data.toList 0)) 5) = w2 at hrow hbw ⊢
    have HROW := Lib.hid hrow
    clear hrow
    go_loopw [4] (fun i wr => ∃ k : Nat, k ≤ s.size ∧ i = .int .i64 k ∧ Row wr w.heap.size (LabM.putTo s.data.toList k) ∧ Below w.heap.size w wr)
      (fun i _ => s.size - (intOf i).toNat)
    case atStart => exact ⟨0, Nat.zero_le _, rfl, HROW.out, hbw⟩
    case round =>
      obtain ⟨k, hk, rfl, hr, hb⟩ := hrel
      clear HROW
      by_cases hlt : k < s.size
      · have l1 : k < s.data.toList.length := by rw [← size_len]; exact hlt
        have g1 := get_at s k hlt
        have hpl := LabM.putTo_len s.data.toList k (by omega) (by rw [← size_len]; exact h2)
        have hcl := hr.cell (1 + k) (by omega)
        have hf := hr.frozen (1 + k)
        have hz := hr.lt
        have hs2 := hr.set (1 + k) s[k]
        rw [g1, LabM.putTo_step s.data.toList k l1 (by rw [← size_len]; exact h2), ← g1] at hs2
        have HS := Lib.hid hs2
        have j1 : (0 : Int) ≤ 1 + (k : Int) := by omega
        have j2 : 1 + (k : Int) < 17 := by omega
        have j3 : (1 + (k : Int)).toNat = 1 + k := by omega
        have j4 : IntKind.i64.wrap (1 + (k : Int)) = 1 + (k : Int) := IntWalk.i64_in _ (by omega)
        generalize (LabM.putTo s.data.toList k)[1 + k] = old at hcl
        clear hs2 hpl hr g1
        go_wp2
        go_roundw
        case rel => exact ⟨k + 1, by omega, by go_num, HS.out, hb.setCell (Nat.le_refl _) _⟩
        case measure => simp [intOf] <;> omega
      · obtain rfl : k = s.size := by omega
        have hfin := HD.out
        rw [hfin] at hr
        have hl17 := LabM.putB_len s.data.toList
        have hret := RetNew.of_row hr hb (by rw [hl17]; unfold maxLen; omega) (Nat.le_refl _)
        rw [hl17] at hret
        have HRET := Lib.hid hret
        clear hr hfin hret hl17
        go_wp2
        go_ret
        exact HRET.out

theorem get_any (x o : Nat) (b : List UInt8) (c : Nat) (w : World) (h : BytesAt w (some ⟨x, o, none⟩) b) (h17 : b.length = 17) (hc : 17 ≤ c) (hc2 : c ≤ maxLen) :
    Calls Try.prog 45 #[.slice (some ⟨x, o, none⟩) 17 c] w fun e w' => e = .returned (.tuple #[.string (LabM.getS b), .bool (LabM.getOk b)]) ∧ w = w' := by
  unfold maxLen at hc2
  have hb0 : 0 < b.length := by omega
  have ecell : ∀ i, (hi : i < b.length) → w.cell? ⟨x, o + i, none⟩ = some (.int .u8 (b[i].toNat : Nat)) := fun i hi => by
    obtain ⟨x2, o2, hA, hc⟩ := h i hi
    injection hA with hA; injection hA with h1 h2; subst h1; subst h2
    exact hc
  have e0 := ecell 0 hb0
  rw [Nat.add_zero] at e0
  have hg0 : b.getD 0 0 = b[0] := by simp [List.getD, hb0]
  obtain ⟨N, hN⟩ : ∃ N, N = b[0].toNat := ⟨_, rfl⟩
  have hNlt : N < 256 := by rw [hN]; exact b[0].toNat_lt
  rw [← hN] at e0
  have hgN : (b.getD 0 0).toNat = N := by rw [hg0, hN]
  have HGN := Lib.hid hgN; have HE := Lib.hid ecell; have H17 := Lib.hid h17; have HH := Lib.hid h
  clear hg0 hN hgN ecell h17 h hb0
  have no : ¬ ((b.getD 0 0).toNat ≤ 16 ∧ LabM.right (LabM.nameAt b) = true ∧ ∀ i, (h : i < b.length) → 1 + (b.getD 0 0).toNat ≤ i → b[i] = 0) → LabM.getS b = ⟨#[]⟩ ∧ LabM.getOk b = false := fun hn => by
    have := LabM.getOk_not hn
    exact ⟨by unfold LabM.getS; rw [if_neg (by rw [this]; simp)], this⟩
  have NO := Lib.hid no
  clear no
  by_cases h16 : N ≤ 16
  · have hnl : (LabM.nameAt b).length = N := by unfold LabM.nameAt; rw [List.length_take, List.length_drop, H17.out, HGN.out]; omega
    obtain ⟨S, hS⟩ : ∃ S : ByteArray, S = ⟨(LabM.nameAt b).toArray⟩ := ⟨_, rfl⟩
    have hSl : S.data.toList = LabM.nameAt b := by rw [hS]
    have hSz : S.size = N := by rw [size_len, hSl, hnl]
    have hconv : (convert 22 9 (.slice (some ⟨x, o + 1, none⟩) N (c - 1))).run Try.prog w = .ok (.string S) w := by
      have hr := run_convert_bytes_back (P := Try.prog) w 22 9 5 ⟨x, o + 1, none⟩ (c - 1) (LabM.nameAt b) Try.underlying22 Try.underlying5 Try.underlying9 (fun j hj => by
        have hb1 := (HH.out.drop 1).take (b.getD 0 0).toNat
        obtain ⟨x3, o3, e3, k3⟩ := hb1 j hj
        injection e3 with hA; injection hA with h1 h2; subst h1; subst h2
        have hadd : (⟨x, o + 1, none⟩ : Addr).add j = ⟨x, o + 1 + j, none⟩ := by unfold Addr.add; split <;> simp_all
        rw [hadd]; exact k3)
      rw [hnl] at hr
      rw [hr, hS]
    have C := right_any S w (by rw [hSz]; omega)
    have j1 : (0 : Int) ≤ 1 + (N : Int) := by omega
    have j2 : 1 + (N : Int) ≤ (c : Int) := by omega
    have j3 : (1 + (N : Int)).toNat = 1 + N := by omega
    have j5 : (1 : Int) ≤ 1 + (N : Int) := by omega
    have j6 : 1 + N - 1 = N := by omega
    have hc1 : ¬ c = 1 := by omega
    have hw16 : (N : Int) ≤ 16 := by omega
    rw [hSl] at C
    have HS := Lib.hid hS
    clear hnl hS hSl hSz
    rcases hr : LabM.right (LabM.nameAt b) with _ | _
    · rw [hr] at C
      obtain ⟨n1, n2⟩ := NO.out (fun h' => by rw [hr] at h'; exact absurd h'.2.1 (by simp))
      rw [n1, n2]
      clear hr n1 n2
      go_enter Try.func45, Try.ntmps45
      go_wp2_with fail
      refine C.mono ?_
      clear C
      rintro e w1 ⟨rfl, rfl⟩
      go_wp2
      go_ret2
      exact ⟨rfl, rfl⟩
    · rw [hr] at C
      have HR := Lib.hid hr
      clear hr
      go_enter Try.func45, Try.ntmps45
      go_wp2_with fail
      refine C.mono ?_
      clear C
      rintro e w1 ⟨rfl, rfl⟩
      go_wp2
      go_loop [5] (fun i => ∃ k : Nat, 1 + N ≤ k ∧ k ≤ 17 ∧ i = .int .i64 k ∧ ∀ i, (h : i < b.length) → 1 + N ≤ i → i < k → b[i] = 0)
        (fun i => 17 - (intOf i).toNat)
      case atStart => exact ⟨1 + N, Nat.le_refl _, by omega, by go_num, fun i _ h1 h2 => by omega⟩
      case round =>
        obtain ⟨k, hk1, hk2, rfl, hw⟩ := hrel
        have HW := Lib.hid hw
        clear hw
        by_cases hlt : k < 17
        · have hkb : k < b.length := by rw [H17.out]; exact hlt
          have ek := HE.out k hkb
          by_cases hz : b[k] = 0
          · have q : ((b[k].toNat : Int) != 0) = false := by rw [hz]; rfl
            have hf : ∀ i, (h : i < b.length) → 1 + N ≤ i → i < k + 1 → b[i] = 0 := fun i hi h1 h2 => by
              by_cases e : i = k
              · subst e; exact hz
              · exact HW.out i hi h1 (by omega)
            have HF := Lib.hid hf
            clear hf hz hconv
            go_wp2
            go_round
            case rel => exact ⟨k + 1, by omega, by omega, by go_num, HF.out⟩
            case measure => simp [intOf] <;> omega
          · have q : ((b[k].toNat : Int) != 0) = true := by
              have := toNat_bne b[k] 0
              rw [show (((0 : UInt8).toNat : Nat) : Int) = 0 from rfl] at this
              rw [this]; simpa using hz
            obtain ⟨n1, n2⟩ := NO.out (fun h' => hz (h'.2.2 k hkb (by rw [HGN.out]; exact hk1)))
            have N1 := Lib.hid n1; have N2 := Lib.hid n2
            clear hz n1 n2 hconv
            go_wp2
            go_ret2
            exact ⟨by rw [N1.out, N2.out]; rfl, rfl⟩
        · obtain rfl : k = 17 := by omega
          have hok : LabM.getOk b = true := (LabM.getOk_iff b).2 ⟨by rw [HGN.out]; exact h16, HR.out, fun i hi h1 => HW.out i hi (by rw [HGN.out] at h1; exact h1) (by rw [H17.out] at hi; exact hi)⟩
          have hgs : LabM.getS b = S := by unfold LabM.getS; rw [if_pos hok, HS.out]
          have HOK := Lib.hid hok; have HGS := Lib.hid hgs
          clear hok hgs
          go_wp2
          go_ret2
          exact ⟨by rw [HOK.out, HGS.out]; rfl, rfl⟩
  · have hw16 : (16 : Int) < (N : Int) := by omega
    obtain ⟨n1, n2⟩ := NO.out (fun h' => h16 (by rw [← HGN.out]; exact h'.1))
    rw [n1, n2]
    clear n1 n2 h16
    go_enter Try.func45, Try.ntmps45
    go_wp2
    go_ret2
    exact ⟨rfl, rfl⟩
end Go.Proofs.Ytnjghhkebcojnaa.R07
