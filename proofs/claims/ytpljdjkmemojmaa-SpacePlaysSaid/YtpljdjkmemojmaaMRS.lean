/- merged: R21, R21B -/
import Derived.Test.YtpljdjkmemojmaaMSL
import Derived.Test.YtpljdjkmemojmaaStore

/- the document's own answers of layer 21 -/
set_option maxRecDepth 100000
namespace Go.Proofs.Ytpljdjkmemojmaa.R21
open Go.RowKit SpaceM Space

theorem bool_info : (Try.prog.info? 4).map (fun i => (i.zero, i.size, i.bytes)) = some (some (.bool false), 1, 1) := by kernel_rfl
theorem bool_info' : ∃ i, Try.prog.info? 4 = some i ∧ i.zero = some (.bool false) ∧ i.size = 1 ∧ i.bytes = 1 := by
  obtain ⟨i0, h, a, b, c⟩ := info_parts bool_info
  exact ⟨i0, h, a, b, c⟩
/-- bools that the call has gathered -/
def OwnB (w : World) (base : Nat) (v : Value) (f : List Bool) : Prop := w.ownsRow base 4 1 v f.length (boolV f)
/-- the document's slots: block q, whose bools lie in block g -/
structure MAt (w : World) (q g c : Nat) (f : List Bool) : Prop where
  c0 : w.cell? ⟨q, 0, none⟩ = some (.slice (some ⟨g, 0, none⟩) f.length c)
  f0 : w.frozen? ⟨q, 0, none⟩ = false
  row : OwnB w 0 (.slice (some ⟨g, 0, none⟩) f.length c) f
  ne : q ≠ g
  few : f.length ≤ 256
section
variable {w w' : World} {q g c : Nat} {f : List Bool}
theorem MAt.keep {F : Nat → Prop} (h : MAt w q g c f) (k : Keeps F w w') (hq : ¬ F q) (hg : ¬ F g) : MAt w' q g c f :=
  ⟨k.cell h.c0 hq, k.frozen h.c0 hq h.f0, ownV_keep h.row k (fun j e => by simp [Value.ownBlock] at e; subst e; exact hg), h.ne, h.few⟩
theorem MAt.below (h : MAt w q g c f) (hb : Below w.heap.size w w') : MAt w' q g c f := h.keep (F := fun _ => False) (.of_below _ hb) id id
theorem MAt.lt (h : MAt w q g c f) : q < w.heap.size ∧ g < w.heap.size := ⟨cell_lt h.c0, (World.ownsRow.lt h.row g rfl).2⟩
theorem MAt.block (h : MAt w q g c f) : ∃ cur : Array Value, w.heap[g]? = some (.cells cur 4 (0, 0)) ∧ f.length ≤ c ∧ c ≤ maxLen ∧ cur.size = c ∧ cur.toList.take f.length = boolV f := by
  rcases h.row.2 with ⟨e, _⟩ | ⟨g', cap, cur, e, _, h3, h4, h5, h6, h7⟩
  · cases e
  · injection e with e1 e2 e3
    injection e1 with e1; injection e1 with e1; subst e1; subst e3
    exact ⟨cur, h3, h4, h5, by omega, by rw [Nat.mul_one] at h7; exact h7⟩
theorem MAt.cell (h : MAt w q g c f) {i : Nat} (hi : i < f.length) : w.cell? ⟨g, i, none⟩ = some (.bool (fr f i)) := by
  obtain ⟨cur, h3, h4, h5, h6, h7⟩ := h.block
  have e : (boolV f)[i]? = cur.toList[i]? := by rw [← h7, List.getElem?_take, if_pos hi]
  rw [cell_of_row w g i cur _ (0, 0) h3]
  have e2 : (boolV f)[i]? = some (.bool (fr f i)) := by unfold boolV fr; simp [List.getD, hi]
  rw [e2] at e
  rw [e]; simp
theorem MAt.fr_ (h : MAt w q g c f) (i : Nat) : w.frozen? ⟨g, i, none⟩ = false := by
  obtain ⟨cur, h3, _⟩ := h.block
  simp [World.frozen?, h3]
theorem MAt.set (h : MAt w q g c f) (i : Nat) (v : Bool) : MAt (w.setCell ⟨g, i, none⟩ (.bool v)) q g c (f.set i v) := by
  obtain ⟨cur, h3, h4, h5, h6, h7⟩ := h.block
  have hk : Keeps (fun k => k = g) w (w.setCell ⟨g, i, none⟩ (.bool v)) := .set _ _ _ _ rfl
  have hl : (f.set i v).length = f.length := List.length_set
  refine ⟨by rw [hl]; exact hk.cell h.c0 h.ne, hk.frozen h.c0 h.ne h.f0, ⟨by simp [boolV], .inr ⟨g, c, cur.setIfInBounds i (.bool v), rfl, Nat.zero_le _, heap_setCell_same w g i cur _ _ h3, by rw [hl]; exact h4, h5, by simpa using h6, ?_⟩⟩, h.ne, by rw [hl]; exact h.few⟩
  rw [hl, Nat.mul_one, Array.toList_setIfInBounds, List.take_set, h7]
  unfold boolV
  rw [List.map_set]
end
theorem long_any (q g c a : Nat) (f : List Bool) (w : World) (h : MAt w q g c f) (ha : a ≤ 256) :
    Calls Try.prog 23 #[.pointer (some ⟨q, 0, none⟩), .int .i64 (a : Nat)] w fun e w' => e = .returned (.int .i64 (long f a : Nat)) ∧ w' = w := by
  have HM := Lib.hid h
  have c0 := h.c0
  have hf := h.few
  obtain ⟨l, hl⟩ : ∃ l, l = f.length := ⟨_, rfl⟩
  have HL := Lib.hid hl
  rw [← hl] at c0 hf
  clear h hl
  go_enter Try.func23, Try.ntmps23
  go_wp2
  go_loopw [5] (fun v wr => ∃ k : Nat, v = .int .i64 k ∧ k ≤ 256 ∧ wr = w ∧ Hid (k ≤ long f a)) (fun v _ => 257 - (intOf v).toNat)
  case atStart => exact ⟨0, rfl, Nat.zero_le _, rfl, Lib.hid (Nat.zero_le _)⟩
  case round =>
    obtain ⟨k, rfl, hk, rfl, HK⟩ := hrel
    have i1 : IntKind.i64.wrap ((a : Int) + (k : Int)) = ((a + k : Nat) : Int) := by rw [IntWalk.i64_in _ (by omega)]; omega
    obtain ⟨b, hb⟩ : ∃ b, b = a + k := ⟨_, rfl⟩
    rw [← hb] at i1
    have HB := Lib.hid hb
    clear hb
    by_cases hlt : b < l
    · have e0 := HM.out.cell (i := b) (by rw [← HL.out]; exact hlt)
      have hlt' : (b : Int) < (l : Int) := by omega
      rcases Bool.eq_false_or_eq_true (fr f b) with hv | hv
      · have hk1 : k + 1 ≤ long f a := (long_spec f a _).2 fun j hj => by
          rcases Nat.lt_or_ge j k with h1 | h1
          · exact (long_spec f a k).1 HK.out j h1
          · rw [show a + j = b by have := HB.out; omega]; exact hv
        have HK1 := Lib.hid hk1
        rw [hv] at e0
        have hb2 : k + 1 ≤ 256 := by
          have := long_le f a (by have := HB.out; have := HL.out; omega)
          have := HL.out; omega
        clear hk1 hv
        go_wp2
        go_roundw
        case rel => exact ⟨k + 1, by go_num, by omega, (by first | rfl | trivial), HK1⟩
        case measure => simp [intOf] <;> omega
      · have hk1 : long f a = k := by
          have h1 := HK.out
          have h2 : ¬ k + 1 ≤ long f a := fun h2 => by
            have := (long_spec f a (k + 1)).1 h2 k (by omega)
            rw [← HB.out, hv] at this; cases this
          omega
        have HK1 := Lib.hid hk1
        rw [hv] at e0
        clear hk1 hv
        go_wp2
        go_ret
        exact ⟨by rw [HK1.out]; rfl, rfl⟩
    · have hk1 : long f a = k := by
        have h1 := HK.out
        have h2 : ¬ k + 1 ≤ long f a := fun h2 => by
          have h3 := (long_spec f a (k + 1)).1 h2 k (by omega)
          have := fr_lt h3
          have := HB.out; have := HL.out; omega
        omega
      have HK1 := Lib.hid hk1
      clear hk1
      have hlt' : ¬ (b : Int) < (l : Int) := by omega
      go_wp2
      go_ret
      exact ⟨by rw [HK1.out]; rfl, rfl⟩
theorem set_any (q g c : Nat) (a n : Int) (v : Bool) (f : List Bool) (w : World) (h : MAt w q g c f) (ha : In64 a) (hn : In64 n) :
    Calls Try.prog 12 #[.pointer (some ⟨q, 0, none⟩), .int .i64 a, .int .i64 n, .bool v] w fun e w' => e = .returned (.bool (may f a n v)) ∧ MAt w' q g c (act f a n v) ∧ Keeps (fun k => k = g) w w' := by
  have HM := Lib.hid h
  have c0 := h.c0
  have hf := h.few
  obtain ⟨l, hl⟩ : ∃ l, l = f.length := ⟨_, rfl⟩
  have HL := Lib.hid hl
  rw [← hl] at c0 hf
  by_cases hfit : Fits f a n
  · obtain ⟨a', rfl⟩ : ∃ k : Nat, a = (k : Nat) := ⟨a.toNat, by unfold Fits at hfit; omega⟩
    obtain ⟨n', rfl⟩ : ∃ k : Nat, n = (k : Nat) := ⟨n.toNat, by unfold Fits at hfit; omega⟩
    have HF := Lib.hid hfit
    have h1 : 1 ≤ n' := by unfold Fits at hfit; omega
    have h2 : a' + n' ≤ l := by unfold Fits at hfit; omega
    have g1 : ¬ ((n' : Int) < 1) := by omega
    have g2 : ¬ ((a' : Int) < 0) := by omega
    have g3 : ¬ ((l : Int) ≤ (a' : Int)) := by omega
    have g4 : ¬ ((l : Int) - (a' : Int) < (n' : Int)) := by omega
    have i1 : IntKind.i64.wrap ((l : Int) - (a' : Int)) = (l : Int) - (a' : Int) := IntWalk.i64_in _ (by omega)
    have i2 : IntKind.i64.wrap ((a' : Int) + (n' : Int)) = ((a' + n' : Nat) : Int) := by rw [IntWalk.i64_in _ (by omega)]; omega
    obtain ⟨E, hE⟩ : ∃ E, E = a' + n' := ⟨_, rfl⟩
    rw [← hE] at i2 h2
    have HE := Lib.hid hE
    have hae : a' < E := by omega
    clear h hl hfit ha hn hE
    go_enter Try.func12, Try.ntmps12
    go_wp2
    clear g1 g2 g3 g4
    go_loopw [9] (fun x wr => ∃ b : Nat, x = .int .i64 b ∧ a' ≤ b ∧ b ≤ E ∧ wr = w ∧ Hid (∀ j, a' + j < b → fr f (a' + j) = !v)) (fun x _ => E - (intOf x).toNat)
    case atStart => exact ⟨a', rfl, Nat.le_refl _, by omega, rfl, Lib.hid fun j hj => by omega⟩
    case round =>
      obtain ⟨b, rfl, hb1, hb2, rfl, HA⟩ := hrel
      by_cases hlt : b < E
      · have e0 := HM.out.cell (i := b) (by rw [← HL.out]; omega)
        by_cases hv : fr f b = v
        · have hm : may f (a' : Nat) (n' : Nat) v = false := by
            rcases Bool.eq_false_or_eq_true (may f (a' : Nat) (n' : Nat) v) with hm | hm
            · exfalso
              have := ((may_spec f _ _ _).1 hm).2 (b - a') (by have := HE.out; simp; omega)
              rw [Int.toNat_natCast, show a' + (b - a') = b by omega, hv] at this
              revert this; cases v <;> decide
            · exact hm
          have HMF := Lib.hid hm
          rw [hv] at e0
          have hbl : b < l := by omega
          clear hm hv
          go_wp2
          go_ret
          refine ⟨by rw [HMF.out]; rfl, ?_, .refl _ _⟩
          unfold act
          rw [HMF.out, if_neg (by decide)]
          exact HM.out
        · have hv2 : fr f b = !v := by revert hv; cases fr f b <;> cases v <;> decide
          have HV := Lib.hid hv2
          rw [hv2] at e0
          have hq : ((!v) == v) = false := by cases v <;> rfl
          have hbl : b < l := by omega
          have i3 : IntKind.i64.wrap ((b : Int) + 1) = (b : Int) + 1 := IntWalk.i64_in _ (by omega)
          clear hv hv2
          generalize hnv : (!v) = nv at *
          have HNV := Lib.hid hnv
          clear hnv
          go_wp2
          go_roundw
          case rel =>
            refine ⟨b + 1, by go_num, by omega, by omega, (by first | rfl | trivial), Lib.hid fun j hj => ?_⟩
            by_cases e : a' + j = b
            · rw [e, HV.out]
            · exact HA.out j (by omega)
          case measure => simp [intOf] <;> omega
      · obtain rfl : b = E := by omega
        have hm : may f (a' : Nat) (n' : Nat) v = true := (may_spec f _ _ _).2 ⟨HF.out, fun j hj => HA.out j (by have := HE.out; simp at hj; simp; omega)⟩
        have HMT := Lib.hid hm
        clear hm HA
        go_wp2
        go_loopw [10] (fun x wv => ∃ k : Nat, x = .int .i64 ((a' + k : Nat) : Int) ∧ k ≤ n' ∧ Hid (MAt wv q g c (setAt f a' k v) ∧ Keeps (fun k => k = g) wr wv)) (fun x _ => b - (intOf x).toNat)
        case atStart => exact ⟨0, rfl, Nat.zero_le _, Lib.hid ⟨by rw [setAt_zero]; exact HM.out, .refl _ _⟩⟩
        case round =>
          obtain ⟨k, rfl, hk, HR⟩ := hrel
          rename World => wv
          obtain ⟨d, hd⟩ : ∃ d, d = a' + k := ⟨_, rfl⟩
          have HD := Lib.hid hd
          have hsl := setAt_len f a' k v
          have c1 := HR.out.1.c0
          rw [hsl, ← HL.out] at c1
          rw [← hd]
          by_cases hlt2 : k < n'
          · have hdl : d < l := by have := HE.out; omega
            have hdE : d < b := by have := HE.out; omega
            have e1 := HR.out.1.cell (i := d) (by rw [hsl, ← HL.out]; exact hdl)
            have f1 := HR.out.1.fr_ d
            have hs := HR.out.1.set d v
            rw [hd, ← setAt_succ, ← hd] at hs
            have HN := Lib.hid (And.intro hs (HR.out.2.trans (.set _ wv ⟨g, d, none⟩ (.bool v) rfl)))
            have i3 : IntKind.i64.wrap ((d : Int) + 1) = (d : Int) + 1 := IntWalk.i64_in _ (by omega)
            clear hs HR hd hsl
            go_wp2
            go_roundw
            case rel => exact ⟨k + 1, by rw [show a' + (k + 1) = d + 1 by have := HD.out; omega]; go_num, by omega, HN⟩
            case measure => simp [intOf] <;> omega
          · have hdE : d = b := by have := HE.out; omega
            have hk2 : k = n' := by omega
            clear hd hsl
            subst hdE
            have HR2 := Lib.hid HR.out
            go_wp2
            go_ret
            refine ⟨by rw [HMT.out]; rfl, ?_, HR2.out.2⟩
            unfold act
            rw [HMT.out, if_pos rfl, Int.toNat_natCast, Int.toNat_natCast, ← hk2]
            exact HR2.out.1
  · have hm : may f a n v = false := by
      rcases Bool.eq_false_or_eq_true (may f a n v) with hm | hm
      · exact absurd (may_fits hm) hfit
      · exact hm
    unfold act
    rw [hm, if_neg (by decide)]
    unfold Fits In64 at *
    rw [← hl] at hfit
    clear hm h hl
    by_cases h1 : n < 1
    · go_enter Try.func12, Try.ntmps12
      go_wp2
      go_ret
      exact ⟨rfl, HM.out, .refl _ _⟩
    by_cases h2 : a < 0
    · go_enter Try.func12, Try.ntmps12
      go_wp2
      go_ret
      exact ⟨rfl, HM.out, .refl _ _⟩
    by_cases h3 : (l : Int) ≤ a
    · clear hfit
      go_enter Try.func12, Try.ntmps12
      go_wp2
      go_ret
      exact ⟨rfl, HM.out, .refl _ _⟩
    have i1 : IntKind.i64.wrap ((l : Int) - a) = (l : Int) - a := IntWalk.i64_in _ (by omega)
    have h4 : (l : Int) - a < n := by omega
    clear hfit
    go_enter Try.func12, Try.ntmps12
    go_wp2
    go_ret
    exact ⟨rfl, HM.out, .refl _ _⟩
end Go.Proofs.Ytpljdjkmemojmaa.R21

/- the document's own answers of layer 21: New, Take, Count, Longest -/
set_option maxRecDepth 100000
namespace Go.Proofs.Ytpljdjkmemojmaa.R21
open Go.RowKit SpaceM Space

theorem count_any (q g c : Nat) (f : List Bool) (w : World) (h : MAt w q g c f) :
    Calls Try.prog 15 #[.pointer (some ⟨q, 0, none⟩)] w fun e w' => e = .returned (.int .i64 (count f : Nat)) ∧ w' = w := by
  have HM := Lib.hid h
  have c0 := h.c0
  have hf := h.few
  obtain ⟨l, hl⟩ : ∃ l, l = f.length := ⟨_, rfl⟩
  have HL := Lib.hid hl
  rw [← hl] at c0 hf
  clear h hl
  go_enter Try.func15, Try.ntmps15
  go_wp2
  go_loopw [3, 4] (fun x i wr => ∃ k y : Nat, i = .int .i64 k ∧ k ≤ l ∧ x = .int .i64 y ∧ y ≤ k ∧ wr = w ∧ Hid (y = count (f.take k))) (fun _ i _ => l - (intOf i).toNat)
  case atStart => exact ⟨0, 0, rfl, Nat.zero_le _, rfl, Nat.le_refl _, rfl, Lib.hid rfl⟩
  case round =>
    obtain ⟨k, y, rfl, hk, rfl, hy, rfl, HK⟩ := hrel
    by_cases hlt : k < l
    · have e0 := HM.out.cell (i := k) (by rw [← HL.out]; exact hlt)
      have hs := count_one f k
      rw [← HK.out] at hs
      have i1 : IntKind.i64.wrap ((y : Int) + 1) = (y : Int) + 1 := IntWalk.i64_in _ (by omega)
      rcases Bool.eq_false_or_eq_true (fr f k) with hv | hv
      · rw [hv] at e0 hs
        rw [if_pos rfl] at hs
        have HS := Lib.hid hs
        clear hs hv
        go_wp2
        go_roundw
        case rel => exact ⟨k + 1, y + 1, by go_num, by omega, by go_num, by omega, (by first | rfl | trivial), Lib.hid HS.out.symm⟩
        case measure => simp [intOf] <;> omega
      · rw [hv] at e0 hs
        rw [if_neg (by decide)] at hs
        have HS := Lib.hid hs
        clear hs hv
        go_wp2
        go_roundw
        case rel => exact ⟨k + 1, y, by go_num, by omega, by go_num, by omega, (by first | rfl | trivial), Lib.hid (by have := HS.out; omega)⟩
        case measure => simp [intOf] <;> omega
    · obtain rfl : k = l := by omega
      have hF : y = count f := by rw [HK.out, HL.out, List.take_length]
      have HF := Lib.hid hF
      clear hF
      go_wp2
      go_ret
      exact ⟨by rw [← HF.out]; rfl, rfl⟩
/-- the longest so far -/
def longTo (f : List Bool) (k : Nat) : Nat := (List.range k).foldl (fun n i => if n < long f i then long f i else n) 0
theorem longTo_succ (f : List Bool) (k : Nat) : longTo f (k + 1) = if longTo f k < long f k then long f k else longTo f k := by
  unfold longTo; rw [List.range_succ, List.foldl_append]; rfl
theorem longest_any (q g c : Nat) (f : List Bool) (w : World) (h : MAt w q g c f) :
    Calls Try.prog 17 #[.pointer (some ⟨q, 0, none⟩)] w fun e w' => e = .returned (.int .i64 (SpaceM.longest f : Nat)) ∧ w' = w := by
  have HM := Lib.hid h
  have c0 := h.c0
  have hf := h.few
  obtain ⟨l, hl⟩ : ∃ l, l = f.length := ⟨_, rfl⟩
  have HL := Lib.hid hl
  rw [← hl] at c0 hf
  clear h hl
  go_enter Try.func17, Try.ntmps17
  go_wp2
  go_loopw [3, 4] (fun x i wr => ∃ k y : Nat, i = .int .i64 k ∧ k ≤ l ∧ x = .int .i64 y ∧ wr = w ∧ Hid (y = longTo f k)) (fun _ i _ => l - (intOf i).toNat)
  case atStart => exact ⟨0, 0, rfl, Nat.zero_le _, rfl, rfl, Lib.hid rfl⟩
  case round =>
    obtain ⟨k, y, rfl, hk, rfl, rfl, HK⟩ := hrel
    by_cases hlt : k < l
    · have hs := longTo_succ f k
      rw [← HK.out] at hs
      have hC := long_any q g c k f wr HM.out (by omega)
      obtain ⟨z, hz⟩ : ∃ z, z = long f k := ⟨_, rfl⟩
      rw [← hz] at hs hC
      have HC := Lib.hid hC
      have i1 : IntKind.i64.wrap ((k : Int) + 1) = (k : Int) + 1 := IntWalk.i64_in _ (by omega)
      clear hC hz
      by_cases hv : y < z
      · rw [if_pos hv] at hs
        have HS := Lib.hid hs
        have hv' : (y : Int) < (z : Int) := by omega
        clear hs
        go_wp2_with fail
        refine HC.out.mono ?_
        rintro e w1 ⟨rfl, rfl⟩
        go_wp2_with fail
        refine HC.out.mono ?_
        rintro e w1 ⟨rfl, rfl⟩
        go_wp2
        go_roundw
        case rel => exact ⟨k + 1, z, by go_num, by omega, rfl, (by first | rfl | trivial), Lib.hid HS.out.symm⟩
        case measure => simp [intOf] <;> omega
      · rw [if_neg hv] at hs
        have HS := Lib.hid hs
        have hv' : ¬ (y : Int) < (z : Int) := by omega
        clear hs
        go_wp2_with fail
        refine HC.out.mono ?_
        rintro e w1 ⟨rfl, rfl⟩
        go_wp2
        go_roundw
        case rel => exact ⟨k + 1, y, by go_num, by omega, rfl, (by first | rfl | trivial), Lib.hid HS.out.symm⟩
        case measure => simp [intOf] <;> omega
    · obtain rfl : k = l := by omega
      have hF : y = SpaceM.longest f := by rw [HK.out, HL.out]; rfl
      have HF := Lib.hid hF
      clear hF
      go_wp2
      go_ret
      exact ⟨by rw [← HF.out]; rfl, rfl⟩
/-- what Take tells and leaves -/
def RetTakeM (w : World) (q g c : Nat) (f : List Bool) (n : Int) (e : Ending) (w' : World) : Prop :=
  e = .returned (.tuple #[.int .i64 (tookAt f n : Nat), .bool (find f n).isSome]) ∧ MAt w' q g c (taken f n) ∧ Keeps (fun k => k = g) w w'
theorem take_any (q g c : Nat) (n : Int) (f : List Bool) (w : World) (h : MAt w q g c f) (hn : In64 n) :
    Calls Try.prog 10 #[.pointer (some ⟨q, 0, none⟩), .int .i64 n] w (RetTakeM w q g c f n) := by
  have HM := Lib.hid h
  have c0 := h.c0
  have hf := h.few
  obtain ⟨l, hl⟩ : ∃ l, l = f.length := ⟨_, rfl⟩
  have HL := Lib.hid hl
  rw [← hl] at c0 hf
  have HIN := Lib.hid hn
  by_cases h1 : n < 1
  · have hfi : find f n = none := by unfold find; rw [if_pos h1]
    have HF : Hid (RetTakeM w q g c f n (.returned (.tuple #[.int .i64 0, .bool false])) w) := Lib.hid ⟨by unfold tookAt; rw [hfi]; rfl, by unfold taken; rw [hfi]; exact h, .refl _ _⟩
    have h1' : ¬ (0 : Int) < n := by omega
    clear h hl hfi hn
    go_enter Try.func10, Try.ntmps10
    go_wp2
    go_loopw [6] (fun v wr => v = .int .i64 0 ∧ wr = w) (fun _ _ => 1)
    case atStart => exact ⟨rfl, rfl⟩
    case round =>
      obtain ⟨rfl, rfl⟩ := hrel
      by_cases hl0 : 0 < l
      · have hl0' : (0 : Int) < (l : Int) := by omega
        go_wp2
        go_ret2
        exact HF.out
      · have hl0' : ¬ (0 : Int) < (l : Int) := by omega
        go_wp2
        go_ret2
        exact HF.out
  · have h1' : (0 : Int) < n := by omega
    clear h hl hn
    go_enter Try.func10, Try.ntmps10
    go_wp2
    go_loopw [6] (fun v wr => ∃ k : Nat, v = .int .i64 k ∧ k ≤ l ∧ wr = w ∧ Hid (∀ b, b < k → ¬ n ≤ (long f b : Nat))) (fun v _ => l - (intOf v).toNat)
    case atStart => exact ⟨0, rfl, Nat.zero_le _, rfl, Lib.hid fun b hb => by omega⟩
    case round =>
      obtain ⟨k, rfl, hk, rfl, HK⟩ := hrel
      by_cases hlt : k < l
      · have HC := Lib.hid (long_any q g c k f wr HM.out (by omega))
        by_cases hv : n ≤ (long f k : Nat)
        · have hfi : find f n = some k := by
            unfold find
            rw [if_neg (by omega), List.find?_range_eq_some]
            refine ⟨decide_eq_true hv, List.mem_range.2 (by rw [← HL.out]; exact hlt), fun b hb => ?_⟩
            rw [decide_eq_false (by have := HK.out b hb; omega)]; rfl
          have hm := find_may hfi
          have hS := set_any q g c (k : Nat) n false f wr HM.out ⟨by omega, by omega⟩ HIN.out
          rw [hm] at hS
          have hact : act f (k : Nat) n false = setAt f k n.toNat false := by unfold act; rw [hm, if_pos rfl, Int.toNat_natCast]
          rw [hact] at hS
          have HS := Lib.hid hS
          have HFI := Lib.hid hfi
          clear hfi hm hS hact
          generalize long f k = z at *
          go_wp2_with fail
          refine HC.out.mono ?_
          rintro e w1 ⟨rfl, rfl⟩
          clear HC
          go_wp2_with fail
          refine HS.out.mono ?_
          rintro e w2 ⟨rfl, hm2, hk2⟩
          have HF : Hid (RetTakeM w1 q g c f n (.returned (.tuple #[.int .i64 (k : Nat), .bool true])) w2) := Lib.hid ⟨by unfold tookAt; rw [HFI.out]; rfl, by unfold taken; rw [HFI.out]; exact hm2, hk2⟩
          clear hm2 hk2 HS
          go_wp2
          go_ret2
          exact HF.out
        · have HV := Lib.hid hv
          generalize hz : long f k = z at *
          have HZ := Lib.hid hz
          have i1 : IntKind.i64.wrap ((k : Int) + 1) = (k : Int) + 1 := IntWalk.i64_in _ (by omega)
          clear hz
          go_wp2_with fail
          refine HC.out.mono ?_
          rintro e w1 ⟨rfl, rfl⟩
          clear HC
          go_wp2
          go_roundw
          case rel =>
            refine ⟨k + 1, by go_num, by omega, (by first | rfl | trivial), Lib.hid fun b hb => ?_⟩
            by_cases e : b = k
            · rw [e, HZ.out]; have := HV.out; omega
            · have := HK.out b (by omega); omega
          case measure => simp [intOf] <;> omega
      · have hfi : find f n = none := by
          unfold find
          rw [if_neg (by omega), List.find?_eq_none]
          intro b hb
          have := HK.out b (by have := List.mem_range.1 hb; have := HL.out; omega)
          rw [decide_eq_false (by omega)]; decide
        have HF : Hid (RetTakeM wr q g c f n (.returned (.tuple #[.int .i64 0, .bool false])) wr) := Lib.hid ⟨by unfold tookAt; rw [hfi]; rfl, by unfold taken; rw [hfi]; exact HM.out, .refl _ _⟩
        have hlt' : ¬ (k : Int) < (l : Int) := by omega
        clear hfi HK
        go_wp2
        go_ret2
        exact HF.out
/-- the document's slots, made by the call -/
def RetM (w : World) (f : List Bool) (e : Ending) (w' : World) : Prop := ∃ q g c, e = .returned (.pointer (some ⟨q, 0, none⟩)) ∧ MAt w' q g c f ∧ w.heap.size ≤ q ∧ w.heap.size ≤ g ∧ Below w.heap.size w w'
/-- what New has gathered -/
structure Gath (w wr : World) (q : Nat) (v : Value) (k : Nat) : Prop where
  c0 : wr.cell? ⟨q, 0, none⟩ = some v
  f0 : wr.frozen? ⟨q, 0, none⟩ = false
  own : OwnB wr w.heap.size v (List.replicate k true)
  ne : v.ownBlock ≠ some q
  low : w.heap.size ≤ q
  below : Below w.heap.size w wr
theorem Gath.start (w : World) : Gath w (w.alloc (.cells #[.slice none 0 0] 38)) w.heap.size (.slice none 0 0) 0 :=
  ⟨by simp, by simp, ownV_nil _ _ _, by simp [Value.ownBlock], Nat.le_refl _, balloc _ _⟩
theorem Gath.more {w wr w1 : World} {q k c : Nat} {v : Value} {A : Option Addr} (h : Gath w wr q v k)
    (ha : AppdV (wr.alloc (.cells #[.bool true] 4)) w.heap.size 4 v (k + 1) (boolV (List.replicate k true) ++ [.bool true]) (.slice A (k + 1) c) w1) :
    w1.cell? ⟨q, 0, none⟩ = some v ∧ w1.frozen? ⟨q, 0, none⟩ = false ∧ Gath w (w1.setCell ⟨q, 0, none⟩ (.slice A (k + 1) c)) q (.slice A (k + 1) c) (k + 1) := by
  have hk1 : Keeps (fun k => v.ownBlock = some k) wr w1 := (Keeps.of_below _ (balloc wr _)).own ha.grow (fun k e => .inl e)
  have c1 := hk1.cell h.c0 h.ne
  have f1 := hk1.frozen h.c0 h.ne h.f0
  have hk2 : Keeps (fun k => k = q) w1 (w1.setCell ⟨q, 0, none⟩ (.slice A (k + 1) c)) := .set _ _ _ _ rfl
  have hq := cell_lt h.c0
  have hpl : (Value.slice A (k + 1) c).ownBlock ≠ some q := fun e => by
    rcases ha.place with p | p
    · exact h.ne (by rw [← p, e])
    · rw [e] at p; injection p with p
      rw [show (wr.alloc (.cells #[.bool true] 4)).heap.size = wr.heap.size + 1 by simp] at p
      have : q < wr.heap.size := hq
      omega
  have ho := ha.own
  have e1 : boolV (List.replicate k true) ++ [.bool true] = boolV (List.replicate (k + 1) true) := by unfold boolV; rw [List.replicate_succ', List.map_append]; rfl
  rw [e1] at ho
  refine ⟨c1, f1, by rw [cell_store c1]; rfl, by rw [World.frozen?_setCell]; exact f1, ?_, hpl, h.low, ?_⟩
  · unfold OwnB; rw [List.length_replicate]; exact ownV_keep ho hk2 fun j e hj => hpl (by rw [e, hj])
  · have h1 := below_keeps h.below hk1 (fun j hj => (World.ownsRow.lt h.own j hj).1) h.below.size
    exact below_keeps h1 hk2 (fun j hj => by rw [hj]; exact h.low) (Nat.le_trans h.below.size hk1.size)
theorem Gath.done {w wr : World} {q k : Nat} {v : Value} (h : Gath w wr q v k) (h1 : 1 ≤ k) (h2 : k ≤ 256) : RetM w (List.replicate k true) (.returned (.pointer (some ⟨q, 0, none⟩))) wr := by
  have hl : (List.replicate k true).length = k := List.length_replicate
  rcases h.own.2 with ⟨e, h0⟩ | ⟨g, cap, cur, rfl, hg, h3, h4, h5, h6, h7⟩
  · rw [hl] at h0; omega
  · refine ⟨q, g, cap, rfl, ⟨h.c0, h.f0, ⟨by simp [boolV], .inr ⟨g, cap, cur, rfl, Nat.zero_le _, h3, h4, h5, h6, h7⟩⟩, fun e => h.ne (by rw [e]; rfl), by rw [hl]; exact h2⟩, h.low, hg, h.below⟩
theorem zero_m (w : World) : (zeroValue 38).run Try.prog w = .ok (.agg #[.slice none 0 0]) w := by kernel_rfl
theorem new_any (n : Int) (w : World) (hn : In64 n) :
    Calls Try.prog 8 #[.int .i64 n] w (RetM w (SpaceM.new n)) := by
  have HG := Lib.hid (Gath.start w)
  obtain ⟨i0, hi, hz, hs1, hb1⟩ := bool_info'
  have HI := Lib.hid (And.intro hi (And.intro hz (And.intro hs1 hb1)))
  have hone : ∀ u ∈ [Value.bool true], u.oneCell' = true := by intro u hu; simp at hu; subst hu; rfl
  clear hi hz hs1 hb1
  unfold In64 at hn
  by_cases h1 : n < 1
  · have hnew : SpaceM.new n = List.replicate 1 true := by unfold SpaceM.new; rw [if_pos h1]; rfl
    rw [hnew]
    clear hnew
    have hzz : 1 ≤ 1 ∧ 1 ≤ 256 := by omega
    go_enter Try.func8, Try.ntmps8
    go_wp2
    generalize w.alloc (.cells #[.slice none 0 0] 38) = W0 at *
    obtain ⟨q, hq⟩ : ∃ q, q = w.heap.size := ⟨_, rfl⟩
    rw [← hq] at HG ⊢
    have HQ := Lib.hid hq
    clear hq
    go_loopw [4] (fun i wr => ∃ k : Nat, i = .int .i64 k ∧ k ≤ 1 ∧ ∃ v, Hid (Gath w wr q v k)) (fun i _ => 1 - (intOf i).toNat)
    case atStart => exact ⟨0, rfl, Nat.zero_le _, _, HG⟩
    case round =>
      obtain ⟨k, rfl, hk, v, HR⟩ := hrel
      rename World => wr
      by_cases hlt : k < 1
      · have c0 := HR.out.c0
        have f0 := HR.out.f0
        have i1 : IntKind.i64.wrap ((k : Int) + 1) = (k : Int) + 1 := IntWalk.i64_in _ (by omega)
        have hlt' : (k : Int) < 1 := by omega
        have HOB := Lib.hid (ownV_below HR.out.own (balloc wr (.cells #[.bool true] 4)))
        have HL := Lib.hid (CellsAt.lit wr #[.bool true] 4)
        have hlr : (List.replicate k true).length = k := List.length_replicate
        rw [hlr] at HOB
        have hbz : w.heap.size ≤ wr.heap.size := HR.out.below.size
        have HBZ := Lib.hid hbz
        clear hlr hbz
        go_wp2_with (at_builtin; refine wpList_append_cells Try.underlying36 HI.out.1 HI.out.2.1 HI.out.2.2.1 HI.out.2.2.2 rfl rfl _ _ rfl w.heap.size v k (boolV (List.replicate k true)) rfl HOB.out (some ⟨wr.heap.size, 0, none⟩) 1 1 [.bool true] rfl rfl HL.out hone (by omega) (by omega) (by have := HBZ.out; simp; omega) ?_; intro v' w1 ha; obtain ⟨A, cc, hv', _, _, _, _, _⟩ := ownV_cells ha.own; subst hv'; obtain ⟨c1, f1, hN⟩ := HR.out.more ha; have HN := Lib.hid hN; clear ha hN)
        go_roundw
        case rel => exact ⟨k + 1, by go_num, by omega, _, HN⟩
        case measure => simp [intOf] <;> omega
      · obtain rfl : k = 1 := by omega
        have HF : Hid (RetM w (List.replicate 1 true) (.returned (.pointer (some ⟨q, 0, none⟩))) wr) := by
          have := HR.out.done hzz.1 hzz.2
          skip
          exact Lib.hid this
        clear HR
        go_wp2
        go_ret
        exact HF.out
  by_cases h2 : 256 < n
  · have hnew : SpaceM.new n = List.replicate 256 true := by unfold SpaceM.new; rw [if_neg h1, if_pos h2]; rfl
    rw [hnew]
    clear hnew
    generalize hrf : List.replicate 256 true = rf at *
    have HRF := Lib.hid hrf
    clear hrf
    have hzz : 1 ≤ 256 ∧ 256 ≤ 256 := by omega
    go_enter Try.func8, Try.ntmps8
    go_wp2
    generalize w.alloc (.cells #[.slice none 0 0] 38) = W0 at *
    obtain ⟨q, hq⟩ : ∃ q, q = w.heap.size := ⟨_, rfl⟩
    rw [← hq] at HG ⊢
    have HQ := Lib.hid hq
    clear hq
    go_loopw [4] (fun i wr => ∃ k : Nat, i = .int .i64 k ∧ k ≤ 256 ∧ ∃ v, Hid (Gath w wr q v k)) (fun i _ => 256 - (intOf i).toNat)
    case atStart => exact ⟨0, rfl, Nat.zero_le _, _, HG⟩
    case round =>
      obtain ⟨k, rfl, hk, v, HR⟩ := hrel
      rename World => wr
      by_cases hlt : k < 256
      · have c0 := HR.out.c0
        have f0 := HR.out.f0
        have i1 : IntKind.i64.wrap ((k : Int) + 1) = (k : Int) + 1 := IntWalk.i64_in _ (by omega)
        have hlt' : (k : Int) < 256 := by omega
        have HOB := Lib.hid (ownV_below HR.out.own (balloc wr (.cells #[.bool true] 4)))
        have HL := Lib.hid (CellsAt.lit wr #[.bool true] 4)
        have hlr : (List.replicate k true).length = k := List.length_replicate
        rw [hlr] at HOB
        have hbz : w.heap.size ≤ wr.heap.size := HR.out.below.size
        have HBZ := Lib.hid hbz
        clear hlr hbz
        go_wp2_with (at_builtin; refine wpList_append_cells Try.underlying36 HI.out.1 HI.out.2.1 HI.out.2.2.1 HI.out.2.2.2 rfl rfl _ _ rfl w.heap.size v k (boolV (List.replicate k true)) rfl HOB.out (some ⟨wr.heap.size, 0, none⟩) 1 1 [.bool true] rfl rfl HL.out hone (by omega) (by omega) (by have := HBZ.out; simp; omega) ?_; intro v' w1 ha; obtain ⟨A, cc, hv', _, _, _, _, _⟩ := ownV_cells ha.own; subst hv'; obtain ⟨c1, f1, hN⟩ := HR.out.more ha; have HN := Lib.hid hN; clear ha hN)
        go_roundw
        case rel => exact ⟨k + 1, by go_num, by omega, _, HN⟩
        case measure => simp [intOf] <;> omega
      · obtain rfl : k = 256 := by omega
        have HF : Hid (RetM w rf (.returned (.pointer (some ⟨q, 0, none⟩))) wr) := by
          have := HR.out.done hzz.1 hzz.2
          rw [HRF.out] at this
          exact Lib.hid this
        clear HR
        go_wp2
        go_ret
        exact HF.out
  · obtain ⟨z, rfl⟩ : ∃ z : Nat, n = (z : Nat) := ⟨n.toNat, by omega⟩
    have hnew : SpaceM.new (z : Nat) = List.replicate z true := by unfold SpaceM.new; rw [if_neg h1, if_neg h2]; rfl
    rw [hnew]
    clear hnew
    have hzz : 1 ≤ z ∧ z ≤ 256 := by omega
    go_enter Try.func8, Try.ntmps8
    go_wp2
    generalize w.alloc (.cells #[.slice none 0 0] 38) = W0 at *
    obtain ⟨q, hq⟩ : ∃ q, q = w.heap.size := ⟨_, rfl⟩
    rw [← hq] at HG ⊢
    have HQ := Lib.hid hq
    clear hq
    go_loopw [4] (fun i wr => ∃ k : Nat, i = .int .i64 k ∧ k ≤ z ∧ ∃ v, Hid (Gath w wr q v k)) (fun i _ => z - (intOf i).toNat)
    case atStart => exact ⟨0, rfl, Nat.zero_le _, _, HG⟩
    case round =>
      obtain ⟨k, rfl, hk, v, HR⟩ := hrel
      rename World => wr
      by_cases hlt : k < z
      · have c0 := HR.out.c0
        have f0 := HR.out.f0
        have i1 : IntKind.i64.wrap ((k : Int) + 1) = (k : Int) + 1 := IntWalk.i64_in _ (by omega)
        have hlt' : (k : Int) < (z : Int) := by omega
        have HOB := Lib.hid (ownV_below HR.out.own (balloc wr (.cells #[.bool true] 4)))
        have HL := Lib.hid (CellsAt.lit wr #[.bool true] 4)
        have hlr : (List.replicate k true).length = k := List.length_replicate
        rw [hlr] at HOB
        have hbz : w.heap.size ≤ wr.heap.size := HR.out.below.size
        have HBZ := Lib.hid hbz
        clear hlr hbz
        go_wp2_with (at_builtin; refine wpList_append_cells Try.underlying36 HI.out.1 HI.out.2.1 HI.out.2.2.1 HI.out.2.2.2 rfl rfl _ _ rfl w.heap.size v k (boolV (List.replicate k true)) rfl HOB.out (some ⟨wr.heap.size, 0, none⟩) 1 1 [.bool true] rfl rfl HL.out hone (by omega) (by omega) (by have := HBZ.out; simp; omega) ?_; intro v' w1 ha; obtain ⟨A, cc, hv', _, _, _, _, _⟩ := ownV_cells ha.own; subst hv'; obtain ⟨c1, f1, hN⟩ := HR.out.more ha; have HN := Lib.hid hN; clear ha hN)
        go_roundw
        case rel => exact ⟨k + 1, by go_num, by omega, _, HN⟩
        case measure => simp [intOf] <;> omega
      · obtain rfl : z = k := by omega
        have HF : Hid (RetM w (List.replicate z true) (.returned (.pointer (some ⟨q, 0, none⟩))) wr) := by
          have := HR.out.done hzz.1 hzz.2
          skip
          exact Lib.hid this
        clear HR
        go_wp2
        go_ret
        exact HF.out
end Go.Proofs.Ytpljdjkmemojmaa.R21
