/- merged: SpcA, SpcB -/
import Derived.Test.YtpljdjkmemojmaaMMP
import Derived.Test.YtpljdjkmemojmaaPairs
import Derived.Test.YtpljdjkmemojmaaFoot
import Derived.Lib.MinMax
import Derived.Lib.SliceRun
import Derived.IntWalk
import Derived.Deep.QuietTactic
import Derived.BigQuiet
import Derived.Test.YtpljdjkmemojmaaArr

/- package space: slots in memory; own, slices.Index, slices.Contains, length -/
set_option maxRecDepth 100000
namespace Go.Proofs.Ytpljdjkmemojmaa.Space
open Go.RowKit SpaceM

def pad (f : List Bool) : List Bool := f ++ List.replicate (256 - f.length) false
def arr (f : List Bool) : Array Value := ((pad f).map Value.bool ++ [Value.int .i64 (f.length : Nat)]).toArray
/-- slots in block s, which are free -/
structure SpAt (w : World) (s : Nat) (f : List Bool) : Prop where
  row : w.heap[s]? = some (.cells (arr f) 47 (0, 0))
  len : f.length ≤ 256
theorem pad_len {f : List Bool} (h : f.length ≤ 256) : (pad f).length = 256 := by unfold pad; simp; omega
theorem pad_at {f : List Bool} (i : Nat) : (pad f).getD i false = fr f i := by
  unfold pad fr
  by_cases h : i < f.length
  · simp [List.getD, List.getElem?_append_left h]
  · simp only [List.getD, List.getElem?_append_right (Nat.le_of_not_lt h), List.getElem?_replicate]
    rw [List.getElem?_eq_none (Nat.le_of_not_lt h)]
    split <;> rfl
theorem arr_at {f : List Bool} (h : f.length ≤ 256) (i : Nat) (hi : i < 256) : (arr f)[i]? = some (.bool (fr f i)) := by
  have hp := pad_len h
  unfold arr
  rw [List.getElem?_toArray, List.getElem?_append_left (by simpa [hp] using hi), List.getElem?_map]
  have := pad_at (f := f) i
  rw [List.getD_eq_getElem?_getD, List.getElem?_eq_getElem (by omega)] at this
  rw [List.getElem?_eq_getElem (by omega)]
  simp at this
  simp [this]
theorem arr_size {f : List Bool} (h : f.length ≤ 256) : (arr f)[256]? = some (.int .i64 (f.length : Nat)) := by
  have hp := pad_len h
  unfold arr
  rw [List.getElem?_toArray, List.getElem?_append_right (by simp [hp])]
  simp [hp]
theorem arr_set {f : List Bool} (h : f.length ≤ 256) (i : Nat) (hi : i < f.length) (v : Bool) : (arr f).setIfInBounds i (.bool v) = arr (f.set i v) := by
  have hp := pad_len h
  have e : pad (f.set i v) = (pad f).set i v := by
    unfold pad
    rw [List.length_set, List.set_append_left _ _ hi]
  unfold arr
  rw [e, List.length_set, List.map_set]
  apply Array.toList_inj.1
  rw [Array.toList_setIfInBounds]
  simp only []
  rw [List.set_append_left _ _ (by simp [hp]; omega)]
section
variable {w w' : World} {s : Nat} {f : List Bool}
theorem SpAt.lt (h : SpAt w s f) : s < w.heap.size := (Array.getElem?_eq_some_iff.1 h.row).1
theorem SpAt.cell (h : SpAt w s f) {i : Nat} (hi : i < 256) : w.cell? ⟨s, i, none⟩ = some (.bool (fr f i)) := by rw [cell_of_row w s i _ _ (0, 0) h.row]; exact arr_at h.len i hi
theorem SpAt.size (h : SpAt w s f) : w.cell? ⟨s, 256, none⟩ = some (.int .i64 (f.length : Nat)) := by rw [cell_of_row w s 256 _ _ (0, 0) h.row]; exact arr_size h.len
theorem SpAt.fr_ (h : SpAt w s f) (i : Nat) : w.frozen? ⟨s, i, none⟩ = false := by simp [World.frozen?, h.row]
theorem SpAt.keep {F : Nat → Prop} (h : SpAt w s f) (q : Keeps F w w') (hn : ¬ F s) : SpAt w' s f := ⟨(q.block s h.lt hn).trans h.row, h.len⟩
theorem SpAt.below (h : SpAt w s f) (hb : Below w.heap.size w w') : SpAt w' s f := ⟨(hb.block s h.lt).trans h.row, h.len⟩
theorem SpAt.belowK {D : Nat} (h : SpAt w s f) (hb : Below D w w') (hs : s < D) : SpAt w' s f := ⟨(hb.block s hs).trans h.row, h.len⟩
theorem SpAt.set (h : SpAt w s f) {i : Nat} (hi : i < f.length) (v : Bool) : SpAt (w.setCell ⟨s, i, none⟩ (.bool v)) s (f.set i v) :=
  ⟨by rw [← arr_set h.len i hi v]; exact heap_setCell_same w s i _ _ _ h.row, by rw [List.length_set]; exact h.len⟩
/-- bools in a row -/
def boolV (l : List Bool) : List Value := l.map Value.bool
def BoolsAt (w : World) (A : Option Addr) (l : List Bool) : Prop := CellsAt w A (boolV l)
theorem BoolsAt.at {w : World} {A : Option Addr} {l : List Bool} (h : BoolsAt w A l) {i : Nat} (hi : i < l.length) : ∃ b o, A = some ⟨b, o, none⟩ ∧ w.cell? ⟨b, o + i, none⟩ = some (.bool l[i]) := by
  obtain ⟨b, o, e, hc⟩ := h i (by simpa [boolV] using hi)
  exact ⟨b, o, e, by rw [hc]; simp [boolV]⟩
/-- some of the slots -/
def sub (f : List Bool) (a n : Nat) : List Bool := (f.drop a).take n
theorem sub_len {a n : Nat} (h : a + n ≤ f.length) : (sub f a n).length = n := by unfold sub; simp; omega
theorem sub_at {a n i : Nat} (h : a + n ≤ f.length) (hi : i < n) : (sub f a n)[i]'(by rw [sub_len h]; exact hi) = fr f (a + i) := by
  unfold sub fr
  simp [List.getD, show a + i < f.length by omega]
theorem SpAt.bools (h : SpAt w s f) {a n : Nat} (hl : a + n ≤ f.length) : BoolsAt w (some ⟨s, a, none⟩) (sub f a n) := fun i hi => by
  have hi' : i < n := by simpa [boolV, sub_len hl] using hi
  refine ⟨s, a, rfl, ?_⟩
  rw [h.cell (by have := h.len; omega), ← sub_at hl hi']
  simp [boolV]
end

/-! slices.Index, slices.Contains -/
/-- how many there are ahead of the first that is v -/
def till (l : List Bool) (v : Bool) : Nat := (l.takeWhile (· != v)).length
def idx (l : List Bool) (v : Bool) : Int := if till l v < l.length then (till l v : Nat) else -1
theorem till_spec (l : List Bool) (v : Bool) (k : Nat) (hk : k ≤ l.length) : k ≤ till l v ↔ ∀ j, (h : j < l.length) → j < k → l[j] ≠ v := by
  unfold till
  induction l generalizing k with
  | nil =>
    constructor
    · intro _ j h; simp at h
    · intro _; simp at hk; omega
  | cons b l ih =>
    rcases k with _ | k
    · exact ⟨fun _ j _ h => by omega, fun _ => Nat.zero_le _⟩
    · have := ih k (by simpa using hk)
      by_cases e : b = v
      · subst e
        rw [List.takeWhile_cons_of_neg (by simp)]
        constructor
        · intro h; simp at h
        · intro h; exact absurd rfl (h 0 (by simp) (by omega))
      · rw [List.takeWhile_cons_of_pos (by simpa using e), List.length_cons]
        constructor
        · intro h j hj hjk
          rcases j with _ | j
          · exact e
          · exact this.1 (by omega) j (by simpa using hj) (by omega)
        · intro h
          have := this.2 fun j hj hjk => by have := h (j + 1) (by simpa using hj) (by omega); simpa using this
          omega
theorem till_le (l : List Bool) (v : Bool) : till l v ≤ l.length := by unfold till; exact (List.takeWhile_sublist _).length_le
theorem till_hit {l : List Bool} {v : Bool} {k : Nat} (hk : k < l.length) (h : ∀ j, (hj : j < l.length) → j < k → l[j] ≠ v) (e : l[k] = v) : idx l v = (k : Nat) := by
  have h1 := (till_spec l v k (by omega)).2 h
  have h2 : ¬ k + 1 ≤ till l v := fun h3 => (till_spec l v (k + 1) (by omega)).1 h3 k hk (by omega) e
  have : till l v = k := by omega
  unfold idx
  rw [this, if_pos hk]
theorem till_miss {l : List Bool} {v : Bool} (h : ∀ j, (hj : j < l.length) → j < l.length → l[j] ≠ v) : idx l v = -1 := by
  have := (till_spec l v l.length (Nat.le_refl _)).2 h
  unfold idx
  rw [if_neg (by omega)]
theorem index_any (A : Option Addr) (l : List Bool) (v : Bool) (c : Nat) (w : World) (h : BoolsAt w A l) (hl : l.length ≤ 1048576) :
    Calls Try.prog 30 #[.slice A l.length c, .bool v] w fun e w' => e = .returned (.int .i64 (idx l v)) ∧ w' = w := by
  have H := Lib.hid h
  clear h
  go_enter Try.func30, Try.ntmps30
  go_wp2
  go_loopw [8] (fun i wr => ∃ k : Nat, i = .int .i64 k ∧ k ≤ l.length ∧ wr = w ∧ Hid (∀ j, (hj : j < l.length) → j < k → l[j] ≠ v)) (fun i _ => l.length - (intOf i).toNat)
  case atStart => exact ⟨0, rfl, Nat.zero_le _, rfl, Lib.hid fun j _ h => by omega⟩
  case round =>
    obtain ⟨k, rfl, hk, rfl, HA⟩ := hrel
    by_cases hlt : k < l.length
    · obtain ⟨b, o, rfl, e0⟩ := H.out.at hlt
      by_cases he : l[k] = v
      · have hi := till_hit hlt HA.out he
        rw [he] at e0
        have HI := Lib.hid hi
        clear hi he
        go_wp2
        go_ret
        exact ⟨by rw [HI.out]; rfl, rfl⟩
      · have hvk : (v == l[k]) = false := by rw [beq_eq_false_iff_ne]; exact fun e => he e.symm
        have HE := Lib.hid he
        generalize hx : l[k] = x at *
        have HX := Lib.hid hx
        clear hx he
        go_wp2
        go_roundw
        case rel =>
          refine ⟨k + 1, by go_num, by omega, (by first | rfl | trivial), Lib.hid fun j hj hjk => ?_⟩
          by_cases e : j = k
          · subst e; rw [HX.out]; exact HE.out
          · exact HA.out j hj (by omega)
        case measure => simp [intOf] <;> omega
    · obtain rfl : k = l.length := by omega
      have hi := till_miss HA.out
      have HI := Lib.hid hi
      clear hi
      go_wp2
      go_ret
      exact ⟨by rw [HI.out]; rfl, rfl⟩
theorem contains_any (A : Option Addr) (l : List Bool) (v : Bool) (c : Nat) (w : World) (h : BoolsAt w A l) (hl : l.length ≤ 1048576) :
    Calls Try.prog 26 #[.slice A l.length c, .bool v] w fun e w' => e = .returned (.bool (decide (till l v < l.length))) ∧ w' = w := by
  have HI := Lib.hid (index_any A l v c w h hl)
  have hq : decide (0 ≤ idx l v) = decide (till l v < l.length) := by
    unfold idx
    rw [decide_eq_decide]
    split <;> omega
  generalize decide (till l v < l.length) = q at *
  generalize idx l v = i at *
  clear h
  go_enter Try.func26, Try.ntmps26
  go_wp2_with fail
  refine HI.out.mono ?_
  rintro e w1 ⟨rfl, rfl⟩
  go_wp2
  go_ret
  exact ⟨rfl, rfl⟩
theorem length_any (A : Option Addr) (l : List Bool) (c : Nat) (w : World) (h : BoolsAt w A l) (hl : l.length ≤ 1048576) :
    Calls Try.prog 28 #[.slice A l.length c] w fun e w' => e = .returned (.int .i64 (till l false : Nat)) ∧ w' = w := by
  have HI := Lib.hid (index_any A l false c w h hl)
  have ht := till_le l false
  by_cases hq : till l false < l.length
  · have hi : idx l false = (till l false : Nat) := by unfold idx; rw [if_pos hq]
    rw [hi] at HI
    generalize till l false = t at *
    clear h hi hq
    go_enter Try.func28, Try.ntmps28
    go_wp2_with fail
    refine HI.out.mono ?_
    rintro e w1 ⟨rfl, rfl⟩
    go_wp2
    go_ret
    exact ⟨rfl, rfl⟩
  · have hi : idx l false = -1 := by unfold idx; rw [if_neg hq]
    have ht2 : till l false = l.length := by omega
    rw [hi] at HI
    rw [ht2]
    clear h hi hq ht ht2
    go_enter Try.func28, Try.ntmps28
    go_wp2_with fail
    refine HI.out.mono ?_
    rintro e w1 ⟨rfl, rfl⟩
    go_wp2
    go_ret
    exact ⟨rfl, rfl⟩
end Go.Proofs.Ytpljdjkmemojmaa.Space

/- package space: own, turn, Use, Give, Is, New, Copy -/
set_option maxRecDepth 100000
namespace Go.Proofs.Ytpljdjkmemojmaa.Space
open Go.RowKit SpaceM

def In64 (z : Int) : Prop := -9223372036854775808 ≤ z ∧ z ≤ 9223372036854775807
/-- these slots are there, and are some -/
def Fits (f : List Bool) (a n : Int) : Prop := 1 ≤ n ∧ 0 ≤ a ∧ a < f.length ∧ n ≤ f.length - a
theorem own_some (s a n : Nat) (f : List Bool) (w : World) (h : SpAt w s f) (hn : 1 ≤ n) (hl : a + n ≤ f.length) :
    Calls Try.prog 25 #[.pointer (some ⟨s, 0, none⟩), .int .i64 (a : Nat), .int .i64 (n : Nat)] w fun e w' => e = .returned (.slice (some ⟨s, a, none⟩) n (256 - a)) ∧ w' = w := by
  have hf := h.len
  have c0 := h.size
  have e1 : IntKind.i64.wrap ((f.length : Int) - (n : Int)) = (f.length : Int) - (n : Int) := IntWalk.i64_in _ (by omega)
  have e2 : IntKind.i64.wrap ((a : Int) + (n : Int)) = (a : Int) + (n : Int) := IntWalk.i64_in _ (by omega)
  generalize f.length = l at *
  have h1 : ¬ ((a : Int) < 0) := by omega
  have h2 : ¬ ((n : Int) < 1) := by omega
  have h3 : ¬ ((l : Int) - (n : Int) < (a : Int)) := by omega
  have h4 : (a : Int) ≤ (a : Int) + (n : Int) := by omega
  have h5 : (a : Int) + (n : Int) ≤ 256 := by omega
  clear h
  go_enter Try.func25, Try.ntmps25
  go_wp2
  go_ret
  exact ⟨rfl, rfl⟩
theorem own_none (s : Nat) (a n : Int) (f : List Bool) (w : World) (h : SpAt w s f) (ha : In64 a) (hn : In64 n) (hno : ¬ Fits f a n) :
    Calls Try.prog 25 #[.pointer (some ⟨s, 0, none⟩), .int .i64 a, .int .i64 n] w fun e w' => e = .returned (.slice none 0 0) ∧ w' = w := by
  have hf := h.len
  have c0 := h.size
  unfold In64 at ha hn
  unfold Fits at hno
  generalize f.length = l at *
  clear h
  by_cases h1 : a < 0
  · go_enter Try.func25, Try.ntmps25
    go_wp2
    go_ret
    exact ⟨rfl, rfl⟩
  by_cases h2 : n < 1
  · go_enter Try.func25, Try.ntmps25
    go_wp2
    go_ret
    exact ⟨rfl, rfl⟩
  have e1 : IntKind.i64.wrap ((l : Int) - n) = (l : Int) - n := IntWalk.i64_in _ (by omega)
  have h3 : (l : Int) - n < a := by omega
  clear hno
  go_enter Try.func25, Try.ntmps25
  go_wp2
  go_ret
  exact ⟨rfl, rfl⟩
theorem own_nil (a n : Int) (w : World) : Calls Try.prog 25 #[.pointer none, .int .i64 a, .int .i64 n] w fun e w' => e = .returned (.slice none 0 0) ∧ w' = w := by
  go_enter Try.func25, Try.ntmps25
  go_wp2
  go_ret
  exact ⟨rfl, rfl⟩
theorem turn_no (b : Bool) (w : World) : Calls Try.prog 24 #[.slice none 0 0, .bool b] w fun e w' => e = .returned (.bool false) ∧ w' = w := by
  go_enter Try.func24, Try.ntmps24
  go_wp2
  go_ret
  exact ⟨rfl, rfl⟩
theorem till_all {f : List Bool} {a n : Nat} (hl : a + n ≤ f.length) (b : Bool) : ¬ till (sub f a n) (!b) < (sub f a n).length ↔ ∀ j, j < n → fr f (a + j) = b := by
  have h1 := till_spec (sub f a n) (!b) n (by rw [sub_len hl]; exact Nat.le_refl _)
  rw [sub_len hl]
  constructor
  · intro h j hj
    have := h1.1 (by omega) j (by rw [sub_len hl]; exact hj) hj
    rw [sub_at hl hj] at this
    cases hv : fr f (a + j) <;> cases b <;> simp_all
  · intro h
    have := h1.2 fun j hj hjn => by rw [sub_at hl hjn, h j hjn]; cases b <;> simp
    omega
theorem turn_not (s a n : Nat) (f : List Bool) (b : Bool) (w : World) (h : SpAt w s f) (hn : 1 ≤ n) (hl : a + n ≤ f.length) (hno : ¬ ∀ j, j < n → fr f (a + j) = b) :
    Calls Try.prog 24 #[.slice (some ⟨s, a, none⟩) n (256 - a), .bool b] w fun e w' => e = .returned (.bool false) ∧ w' = w := by
  have hC := contains_any (some ⟨s, a, none⟩) (sub f a n) (!b) (256 - a) w (h.bools hl) (by rw [sub_len hl]; have := h.len; omega)
  have hd : decide (till (sub f a n) (!b) < (sub f a n).length) = true := decide_eq_true (Decidable.of_not_not fun q => hno ((till_all hl b).1 q))
  rw [hd, sub_len hl] at hC
  have HC := Lib.hid hC
  have hn0 : ((n : Int) == 0) = false := by rw [beq_eq_false_iff_ne]; omega
  have hn1 : ¬ n = 0 := by omega
  clear h hC hd hno
  go_enter Try.func24, Try.ntmps24
  go_wp2_with fail
  refine HC.out.mono ?_
  rintro e w1 ⟨rfl, rfl⟩
  go_wp2
  go_ret
  exact ⟨rfl, rfl⟩
theorem turn_any (s a n : Nat) (f : List Bool) (b : Bool) (w : World) (h : SpAt w s f) (hn : 1 ≤ n) (hl : a + n ≤ f.length) (hall : ∀ j, j < n → fr f (a + j) = b) :
    Calls Try.prog 24 #[.slice (some ⟨s, a, none⟩) n (256 - a), .bool b] w fun e w' => e = .returned (.bool true) ∧ SpAt w' s (setAt f a n (!b)) ∧ Keeps (fun k => k = s) w w' := by
  have hC := contains_any (some ⟨s, a, none⟩) (sub f a n) (!b) (256 - a) w (h.bools hl) (by rw [sub_len hl]; have := h.len; omega)
  have hd : decide (till (sub f a n) (!b) < (sub f a n).length) = false := decide_eq_false ((till_all hl b).2 hall)
  rw [hd, sub_len hl] at hC
  have HC := Lib.hid hC
  have hn0 : ((n : Int) == 0) = false := by rw [beq_eq_false_iff_ne]; omega
  have hn1 : ¬ n = 0 := by omega
  have hf := h.len
  have HS := Lib.hid h
  clear h hC hd hall
  go_enter Try.func24, Try.ntmps24
  go_wp2_with fail
  refine HC.out.mono ?_
  rintro e w1 ⟨rfl, rfl⟩
  clear HC
  go_wp2
  go_loopw [17] (fun i wr => ∃ k : Nat, i = .int .i64 k ∧ k ≤ n ∧ Hid (SpAt wr s (setAt f a k (!b)) ∧ Keeps (fun k => k = s) w1 wr)) (fun i _ => n - (intOf i).toNat)
  case atStart => exact ⟨0, rfl, Nat.zero_le _, Lib.hid ⟨by rw [setAt_zero]; exact HS.out, .refl _ _⟩⟩
  case round =>
    obtain ⟨k, rfl, hk, HR⟩ := hrel
    rename World => wr
    by_cases hlt : k < n
    · have c0 := HR.out.1.cell (i := a + k) (by omega)
      have f0 := HR.out.1.fr_ (a + k)
      have hs := HR.out.1.set (i := a + k) (by rw [setAt_len]; omega) (!b)
      rw [← setAt_succ] at hs
      have HN := Lib.hid (And.intro hs (HR.out.2.trans (.set _ wr ⟨s, a + k, none⟩ (.bool !b) rfl)))
      clear hs HR
      go_wp2
      go_roundw
      case rel => exact ⟨k + 1, by go_num, by omega, HN⟩
      case measure => simp [intOf] <;> omega
    · obtain rfl : k = n := by omega
      go_wp2
      go_ret
      exact ⟨rfl, HR.out.1, HR.out.2⟩
/-- what Use, or Give, leaves -/
def act (f : List Bool) (a n : Int) (v : Bool) : List Bool := if may f a n v then setAt f a.toNat n.toNat v else f
theorem may_fits {f : List Bool} {a n : Int} {v : Bool} (h : may f a n v = true) : Fits f a n := ((may_spec f a n v).1 h).1
theorem use_any (s : Nat) (a n : Int) (f : List Bool) (w : World) (h : SpAt w s f) (ha : In64 a) (hn : In64 n) :
    Calls Try.prog 11 #[.pointer (some ⟨s, 0, none⟩), .int .i64 a, .int .i64 n] w fun e w' => e = .returned (.bool (may f a n false)) ∧ SpAt w' s (act f a n false) ∧ Keeps (fun k => k = s) w w' := by
  by_cases hf : Fits f a n
  · obtain ⟨a', rfl⟩ : ∃ k : Nat, a = (k : Nat) := ⟨a.toNat, by unfold Fits at hf; omega⟩
    obtain ⟨n', rfl⟩ : ∃ k : Nat, n = (k : Nat) := ⟨n.toNat, by unfold Fits at hf; omega⟩
    have h1 : 1 ≤ n' := by unfold Fits at hf; omega
    have hl : a' + n' ≤ f.length := by unfold Fits at hf; omega
    have HO := Lib.hid (own_some s a' n' f w h h1 hl)
    rcases Bool.eq_false_or_eq_true (may f (a' : Nat) (n' : Nat) false) with hm | hm
    · have hall := ((may_spec f _ _ _).1 hm).2
      rw [Int.toNat_natCast, Int.toNat_natCast] at hall
      have HT := Lib.hid (turn_any s a' n' f true w h h1 hl hall)
      unfold act
      rw [hm, if_pos rfl, Int.toNat_natCast, Int.toNat_natCast]
      clear h hf ha hn hm hall
      go_enter Try.func11, Try.ntmps11
      go_wp2_with fail
      refine HO.out.mono ?_
      rintro e w1 ⟨rfl, rfl⟩
      go_wp2_with fail
      refine HT.out.mono ?_
      rintro e w2 ⟨rfl, hs2, hk2⟩
      have HS2 := Lib.hid hs2; have HK2 := Lib.hid hk2
      clear hs2 hk2 HT HO
      go_wp2
      go_ret
      exact ⟨rfl, HS2.out, HK2.out⟩
    · have hno : ¬ ∀ j, j < n' → fr f (a' + j) = true := fun q => by
        have k := (may_spec f (a' : Nat) (n' : Nat) false).2 ⟨hf, fun j hj => q j (by simpa using hj)⟩
        rw [k] at hm; cases hm
      have HT := Lib.hid (turn_not s a' n' f true w h h1 hl hno)
      have HS := Lib.hid h
      unfold act
      rw [hm, if_neg (by decide)]
      clear h hf ha hn hm hno
      go_enter Try.func11, Try.ntmps11
      go_wp2_with fail
      refine HO.out.mono ?_
      rintro e w1 ⟨rfl, rfl⟩
      go_wp2_with fail
      refine HT.out.mono ?_
      rintro e w2 ⟨rfl, rfl⟩
      go_wp2
      go_ret
      exact ⟨rfl, HS.out, .refl _ _⟩
  · have HO := Lib.hid (own_none s a n f w h ha hn hf)
    have HT := Lib.hid (fun W => turn_no true W)
    have HS := Lib.hid h
    have hm : may f a n false = false := by
      rcases Bool.eq_false_or_eq_true (may f a n false) with hm | hm
      · exact absurd (may_fits hm) hf
      · exact hm
    unfold act
    rw [hm, if_neg (by decide)]
    clear h hf ha hn hm
    go_enter Try.func11, Try.ntmps11
    go_wp2_with fail
    refine HO.out.mono ?_
    rintro e w1 ⟨rfl, rfl⟩
    go_wp2_with fail
    refine (HT.out _).mono ?_
    rintro e w2 ⟨rfl, rfl⟩
    go_wp2
    go_ret
    exact ⟨rfl, HS.out, .refl _ _⟩
theorem use_nil (a n : Int) (w : World) : Calls Try.prog 11 #[.pointer none, .int .i64 a, .int .i64 n] w fun e w' => e = .returned (.bool false) ∧ w' = w := by
  have HO := Lib.hid (own_nil a n w)
  have HT := Lib.hid (fun W => turn_no true W)
  go_enter Try.func11, Try.ntmps11
  go_wp2_with fail
  refine HO.out.mono ?_
  rintro e w1 ⟨rfl, rfl⟩
  go_wp2_with fail
  refine (HT.out _).mono ?_
  rintro e w2 ⟨rfl, rfl⟩
  go_wp2
  go_ret
  exact ⟨rfl, rfl⟩
theorem give_any (s : Nat) (a n : Int) (f : List Bool) (w : World) (h : SpAt w s f) (ha : In64 a) (hn : In64 n) :
    Calls Try.prog 13 #[.pointer (some ⟨s, 0, none⟩), .int .i64 a, .int .i64 n] w fun e w' => e = .returned (.bool (may f a n true)) ∧ SpAt w' s (act f a n true) ∧ Keeps (fun k => k = s) w w' := by
  by_cases hf : Fits f a n
  · obtain ⟨a', rfl⟩ : ∃ k : Nat, a = (k : Nat) := ⟨a.toNat, by unfold Fits at hf; omega⟩
    obtain ⟨n', rfl⟩ : ∃ k : Nat, n = (k : Nat) := ⟨n.toNat, by unfold Fits at hf; omega⟩
    have h1 : 1 ≤ n' := by unfold Fits at hf; omega
    have hl : a' + n' ≤ f.length := by unfold Fits at hf; omega
    have HO := Lib.hid (own_some s a' n' f w h h1 hl)
    rcases Bool.eq_false_or_eq_true (may f (a' : Nat) (n' : Nat) true) with hm | hm
    · have hall := ((may_spec f _ _ _).1 hm).2
      rw [Int.toNat_natCast, Int.toNat_natCast] at hall
      have HT := Lib.hid (turn_any s a' n' f false w h h1 hl hall)
      unfold act
      rw [hm, if_pos rfl, Int.toNat_natCast, Int.toNat_natCast]
      clear h hf ha hn hm hall
      go_enter Try.func13, Try.ntmps13
      go_wp2_with fail
      refine HO.out.mono ?_
      rintro e w1 ⟨rfl, rfl⟩
      go_wp2_with fail
      refine HT.out.mono ?_
      rintro e w2 ⟨rfl, hs2, hk2⟩
      have HS2 := Lib.hid hs2; have HK2 := Lib.hid hk2
      clear hs2 hk2 HT HO
      go_wp2
      go_ret
      exact ⟨rfl, HS2.out, HK2.out⟩
    · have hno : ¬ ∀ j, j < n' → fr f (a' + j) = false := fun q => by
        have k := (may_spec f (a' : Nat) (n' : Nat) true).2 ⟨hf, fun j hj => q j (by simpa using hj)⟩
        rw [k] at hm; cases hm
      have HT := Lib.hid (turn_not s a' n' f false w h h1 hl hno)
      have HS := Lib.hid h
      unfold act
      rw [hm, if_neg (by decide)]
      clear h hf ha hn hm hno
      go_enter Try.func13, Try.ntmps13
      go_wp2_with fail
      refine HO.out.mono ?_
      rintro e w1 ⟨rfl, rfl⟩
      go_wp2_with fail
      refine HT.out.mono ?_
      rintro e w2 ⟨rfl, rfl⟩
      go_wp2
      go_ret
      exact ⟨rfl, HS.out, .refl _ _⟩
  · have HO := Lib.hid (own_none s a n f w h ha hn hf)
    have HT := Lib.hid (fun W => turn_no false W)
    have HS := Lib.hid h
    have hm : may f a n true = false := by
      rcases Bool.eq_false_or_eq_true (may f a n true) with hm | hm
      · exact absurd (may_fits hm) hf
      · exact hm
    unfold act
    rw [hm, if_neg (by decide)]
    clear h hf ha hn hm
    go_enter Try.func13, Try.ntmps13
    go_wp2_with fail
    refine HO.out.mono ?_
    rintro e w1 ⟨rfl, rfl⟩
    go_wp2_with fail
    refine (HT.out _).mono ?_
    rintro e w2 ⟨rfl, rfl⟩
    go_wp2
    go_ret
    exact ⟨rfl, HS.out, .refl _ _⟩
theorem give_nil (a n : Int) (w : World) : Calls Try.prog 13 #[.pointer none, .int .i64 a, .int .i64 n] w fun e w' => e = .returned (.bool false) ∧ w' = w := by
  have HO := Lib.hid (own_nil a n w)
  have HT := Lib.hid (fun W => turn_no false W)
  go_enter Try.func13, Try.ntmps13
  go_wp2_with fail
  refine HO.out.mono ?_
  rintro e w1 ⟨rfl, rfl⟩
  go_wp2_with fail
  refine (HT.out _).mono ?_
  rintro e w2 ⟨rfl, rfl⟩
  go_wp2
  go_ret
  exact ⟨rfl, rfl⟩
/-- is this slot free? -/
def isF (f : List Bool) (i : Int) : Bool := decide (0 ≤ i) && fr f i.toNat
theorem is_any (s : Nat) (i : Int) (f : List Bool) (w : World) (h : SpAt w s f) (hi : In64 i) :
    Calls Try.prog 18 #[.pointer (some ⟨s, 0, none⟩), .int .i64 i] w fun e w' => e = .returned (.bool (isF f i)) ∧ w' = w := by
  by_cases hf : Fits f i 1
  · obtain ⟨k, rfl⟩ : ∃ k : Nat, i = (k : Nat) := ⟨i.toNat, by unfold Fits at hf; omega⟩
    have hl : k + 1 ≤ f.length := by unfold Fits at hf; omega
    have HO := Lib.hid (own_some s k 1 f w h (Nat.le_refl _) hl)
    have hC := contains_any (some ⟨s, k, none⟩) (sub f k 1) true (256 - k) w (h.bools hl) (by rw [sub_len hl]; omega)
    have hq : decide (till (sub f k 1) true < (sub f k 1).length) = isF f (k : Nat) := by
      have := till_all (a := k) (n := 1) hl false
      unfold isF
      rw [decide_eq_true (by omega : (0 : Int) ≤ (k : Nat)), Bool.true_and, Int.toNat_natCast]
      rcases Bool.eq_false_or_eq_true (fr f k) with e | e
      · rw [e, decide_eq_true]
        refine Decidable.of_not_not fun q => ?_
        have := this.1 q 0 (by omega)
        rw [Nat.add_zero, e] at this; cases this
      · rw [e, decide_eq_false]
        refine this.2 fun j hj => ?_
        obtain rfl : j = 0 := by omega
        exact e
    rw [hq, sub_len hl] at hC
    have HC := Lib.hid hC
    generalize isF f (k : Nat) = q at *
    clear h hC hq hf
    go_enter Try.func18, Try.ntmps18
    go_wp2_with fail
    refine HO.out.mono ?_
    rintro e w1 ⟨rfl, rfl⟩
    go_wp2_with fail
    refine HC.out.mono ?_
    rintro e w1 ⟨rfl, rfl⟩
    go_wp2
    go_ret
    exact ⟨rfl, rfl⟩
  · have HO := Lib.hid (own_none s i 1 f w h hi ⟨by decide, by decide⟩ hf)
    have HC := Lib.hid (fun W => contains_any none [] true 0 W (CellsAt.nil _ _) (by simp))
    have hq : isF f i = false := by
      unfold isF
      by_cases h0 : 0 ≤ i
      · rw [fr_out (by unfold Fits at hf; omega)]; simp
      · simp [h0]
    rw [hq]
    clear h hq hf hi
    go_enter Try.func18, Try.ntmps18
    go_wp2_with fail
    refine HO.out.mono ?_
    rintro e w1 ⟨rfl, rfl⟩
    go_wp2_with fail
    refine (HC.out _).mono ?_
    rintro e w1 ⟨rfl, rfl⟩
    go_wp2
    go_ret
    exact ⟨rfl, rfl⟩
theorem is_nil (i : Int) (w : World) : Calls Try.prog 18 #[.pointer none, .int .i64 i] w fun e w' => e = .returned (.bool false) ∧ w' = w := by
  have HO := Lib.hid (own_nil i 1 w)
  have HC := Lib.hid (fun W => contains_any none [] true 0 W (CellsAt.nil _ _) (by simp))
  go_enter Try.func18, Try.ntmps18
  go_wp2_with fail
  refine HO.out.mono ?_
  rintro e w1 ⟨rfl, rfl⟩
  go_wp2_with fail
  refine (HC.out _).mono ?_
  rintro e w1 ⟨rfl, rfl⟩
  go_wp2
  go_ret
  exact ⟨rfl, rfl⟩
end Go.Proofs.Ytpljdjkmemojmaa.Space
