/- the contracts of package matrix -/
import Derived.Test.YtmkadcnommoihaaMatE
namespace Go.Proofs.Ytmkadcnommoihaa.Matrix
open Go.RowKit

theorem within_any (n : Nat) (w : World) (hn : n ≤ 256) : Calls Try.prog 32 #[.int .i64 (n : Nat)] w fun e w' => e = .returned (.int .i64 (n : Nat)) ∧ w = w' := by
  have h1 : max (n : Int) 0 = (n : Int) := by omega
  have h2 : min (n : Int) 256 = (n : Int) := by omega
  go_enter Try.func32, Try.ntmps32
  go_wp2
  all_goals
    go_ret
    exact ⟨by first | rfl | (congr 2; omega) | omega, rfl⟩

theorem unit_any (n : Nat) (w : World) (hn : n ≤ 256) : Calls Try.prog 15 #[.int .i64 (n : Nat)] w (RetRows w (MatM.unitL n)) := by
  go_enter Try.func15, Try.ntmps15
  go_wp2_with fail
  refine (within_any n w hn).mono ?_
  rintro e w1 ⟨rfl, rfl⟩
  go_wp2_with fail
  refine (unit_mtx n w (by omega)).mono ?_
  rintro e w1 ⟨g, gs, cs, rfl, hm, hb⟩
  have hg := hm.footg.1
  have hr := hm.rows
  rw [MatM.matL_unit] at hr
  have HR := Lib.hid hr
  clear hr hm
  go_wp2
  go_ret
  exact ⟨some ⟨g, 0, none⟩, n, by rw [MatM.unitL_len]; rfl, by rw [MatM.unitL_len]; exact Nat.le_refl _, by unfold maxLen; omega, HR.out, hb, New.at w hg⟩

theorem inverse_any (b0 : Nat) (A : Option Addr) (a : List (List UInt8)) (c : Nat) (w : World) (ht : Gf.Tab w b0) (h : RowsAt w A a) (hl : a.length ≤ 256) :
    Calls Try.prog 17 #[.pointer (some ⟨b0, 0, none⟩), .slice A a.length c] w (InvPost w a) := by
  rcases hw : MatM.allW a a.length with _ | _
  · exact inverse_wide b0 A a c w h (by omega) hw
  · exact inverse_square b0 A a c w ht h hl hw

/-- k rows of a list of lists that the call fills -/
def Filled (w : World) (g n k : Nat) (f : Nat → List UInt8) : Prop :=
  Slots w g n ∧ ∀ i, i < k → ∃ A c, w.cell? ⟨g, i, none⟩ = some (.slice A (f i).length c) ∧ (f i).length ≤ c ∧ c ≤ maxLen ∧ BytesAt w A (f i) ∧ ∀ a, A = some a → a.block ≠ g
theorem Filled.below {w w' : World} {g n k : Nat} {f : Nat → List UInt8} (h : Filled w g n k f) (hb : Below w.heap.size w w') : Filled w' g n k f :=
  ⟨h.1.below hb, fun i hi => by
    obtain ⟨A, c, h1, h2, h3, h4, h5⟩ := h.2 i hi
    exact ⟨A, c, (hb.cell (p := ⟨g, i, none⟩) (cell_lt h1)).trans h1, h2, h3, h4.below hb, h5⟩⟩
theorem Filled.step {w : World} {g n k : Nat} {f : Nat → List UInt8} (h : Filled w g n k f) (hk : k < n) {A : Option Addr} {c : Nat} (h1 : (f k).length ≤ c) (h2 : c ≤ maxLen) (h3 : BytesAt w A (f k)) (h4 : ∀ a, A = some a → a.block ≠ g) :
    Filled (w.setCell ⟨g, k, none⟩ (.slice A (f k).length c)) g n (k + 1) f := by
  refine ⟨h.1.set _ _, fun i hi => ?_⟩
  by_cases e : i = k
  · subst e
    obtain ⟨⟨v, c1⟩, _⟩ := h.1 i hk
    exact ⟨A, c, World.cell?_setCell_same _ _ _ c1, h1, h2, h3.far _ _ h4, h4⟩
  · obtain ⟨B, d, k1, k2, k3, k4, k5⟩ := h.2 i (by omega)
    exact ⟨B, d, by rw [World.cell?_setCell_other _ _ _ _ (by intro e'; injection e' with _ e' _; omega)]; exact k1, k2, k3, k4.far _ _ k5, k5⟩
theorem Filled.rows {w : World} {g n : Nat} {f : Nat → List UInt8} (h : Filled w g n n f) : RowsAt w (some ⟨g, 0, none⟩) ((List.range n).map f) := fun i hi => by
  have hi' : i < n := by simpa using hi
  obtain ⟨A, c, h1, h2, h3, h4, _⟩ := h.2 i hi'
  exact ⟨g, 0, _, rfl, by rw [Nat.zero_add]; exact h1, A, c, by simp, by simpa using h2, h3, by simpa using h4⟩
theorem Filled.add {w w' : World} {g n k b c : Nat} {f : Nat → List UInt8} (h : Filled w g n k f) (hk : k < n) (hb : Below (w.setCell ⟨g, k, none⟩ (.slice (some ⟨b, 0, none⟩) (f k).length c)).heap.size (w.setCell ⟨g, k, none⟩ (.slice (some ⟨b, 0, none⟩) (f k).length c)) w')
    (h1 : (f k).length ≤ c) (h2 : c ≤ maxLen) (h3 : BytesAt w' (some ⟨b, 0, none⟩) (f k)) (h4 : b ≠ g) : Filled w' g n (k + 1) f := by
  refine ⟨(h.1.set _ _).below hb, fun i hi => ?_⟩
  by_cases e : i = k
  · subst e
    obtain ⟨⟨v, c1⟩, _⟩ := h.1 i hk
    have c2 := World.cell?_setCell_same w ⟨g, i, none⟩ (.slice (some ⟨b, 0, none⟩) (f i).length c) c1
    exact ⟨_, c, (hb.cell (p := ⟨g, i, none⟩) (cell_lt c2)).trans c2, h1, h2, h3, fun a e => by injection e with e; subst e; exact h4⟩
  · obtain ⟨B, d, k1, k2, k3, k4, k5⟩ := h.2 i (by omega)
    have k1' : (w.setCell ⟨g, k, none⟩ (.slice (some ⟨b, 0, none⟩) (f k).length c)).cell? ⟨g, i, none⟩ = some (.slice B (f i).length d) := by
      rw [World.cell?_setCell_other _ _ _ _ (by intro e'; injection e' with _ e' _; omega)]; exact k1
    exact ⟨B, d, (hb.cell (p := ⟨g, i, none⟩) (cell_lt k1')).trans k1', k2, k3, (k4.far _ _ k5).below hb, k5⟩
theorem Filled.start (w : World) (n : Nat) (f : Nat → List UInt8) : Filled (w.alloc (.cells (nils n) 23)) w.heap.size n 0 f := ⟨Slots.new _ _, fun i h => by omega⟩

/-! a product with a row -/
theorem apply_no (b0 : Nat) (A1 A2 : Option Addr) (a : List (List UInt8)) (v : List UInt8) (c1 c2 : Nat) (w : World) (h1 : RowsAt w A1 a) (hl1 : a.length ≤ 1048576) (hl2 : v.length ≤ 1048576) (hw : MatM.allW a v.length = false) :
    Calls Try.prog 11 #[.pointer (some ⟨b0, 0, none⟩), .slice A1 a.length c1, .slice A2 v.length c2] w fun e w' => e = .returned (.tuple #[.slice none 0 0, .bool false]) ∧ w = w' := by
  have C := fits_any A1 a c1 v.length w h1 (by omega) (by omega)
  rw [hw] at C
  clear hw
  go_enter Try.func11, Try.ntmps11
  go_wp2_with fail
  refine C.mono ?_
  clear C
  rintro e w1 ⟨rfl, rfl⟩
  go_wp2
  go_ret2
  exact ⟨rfl, rfl⟩
theorem apply_yes (b0 : Nat) (A1 A2 : Option Addr) (a : List (List UInt8)) (v : List UInt8) (c1 c2 : Nat) (w : World) (ht : Gf.Tab w b0) (h1 : RowsAt w A1 a) (h2 : BytesAt w A2 v) (hl1 : a.length ≤ 1048576) (hl2 : v.length ≤ 1048576) (hw : MatM.allW a v.length = true) :
    Calls Try.prog 11 #[.pointer (some ⟨b0, 0, none⟩), .slice A1 a.length c1, .slice A2 v.length c2] w fun e w' => ∃ g, w.heap.size ≤ g ∧ e = .returned (.tuple #[.slice (some ⟨g, 0, none⟩) a.length a.length, .bool true]) ∧ Row w' g (a.map fun r => GfM.dot r v) ∧ Below w.heap.size w w' := by
  have C := fits_any A1 a c1 v.length w h1 (by omega) (by omega)
  have HW := Lib.hid hw
  rw [hw] at C
  clear hw
  have hmk := fun W => make_u8 a.length (by omega) W
  go_enter Try.func11, Try.ntmps11
  go_wp2_with fail
  refine C.mono ?_
  clear C
  rintro e w1 ⟨rfl, rfl⟩
  go_wp2
  clear hmk
  go_loopw [21] (fun i wr => ∃ k : Nat, k ≤ a.length ∧ i = .int .i64 k ∧ Row wr w.heap.size (PolyM.tab a.length (fun j => if j < k then GfM.dot (MatM.rowAt a j) v else 0)) ∧ Below w.heap.size w wr)
    (fun i _ => a.length - (intOf i).toNat)
  case atStart => exact ⟨0, Nat.zero_le _, rfl, by rw [show (PolyM.tab a.length fun j => if j < 0 then GfM.dot (MatM.rowAt a j) v else 0) = PolyM.tab a.length (fun _ => 0) from PolyM.tab_congr fun i _ => by simp, PolyM.tab_rep]; exact Row.new _ _, balloc _ _⟩
  case round =>
    obtain ⟨k, hk, rfl, hr, hb⟩ := hrel
    by_cases hlt : k < a.length
    · obtain ⟨b, o, B, cb, hA, e1, hc1, hc2, p1⟩ := (h1.below hb).row hlt
      subst hA
      have hv : MatM.rowAt a k = a[k] := MatM.rowAt_get _ _ hlt
      have hrl : a[k].length = v.length := (MatM.allW_iff _ _).1 HW.out k hlt
      have hlen : k < (PolyM.tab a.length (fun j => if j < k then GfM.dot (MatM.rowAt a j) v else 0)).length := by rw [PolyM.tab_len]; exact hlt
      have hcl := hr.cell k hlen
      have hf := hr.frozen k
      have hz := hr.lt
      have hs : ∀ m, Row ((wr.drewN m).setCell ⟨w.heap.size, k, none⟩ (.int .u8 ((GfM.dot a[k] v).toNat : Nat))) w.heap.size (PolyM.tab a.length (fun j => if j < k + 1 then GfM.dot (MatM.rowAt a j) v else 0)) := fun m => by
        have hs := (hr.drewN m).set k (GfM.dot a[k] v)
        rw [PolyM.tab_set _ _ _ _ hlt, show (fun i => if i = k then GfM.dot a[k] v else if i < k then GfM.dot (MatM.rowAt a i) v else 0) = (fun j => if j < k + 1 then GfM.dot (MatM.rowAt a j) v else 0) from funext fun i => by
          by_cases e : i = k
          · subst e; rw [if_pos rfl, if_pos (by omega), hv]
          · rw [if_neg e]
            by_cases e2 : i < k
            · rw [if_pos e2, if_pos (by omega)]
            · rw [if_neg e2, if_neg (by omega)]] at hs
        exact hs
      rw [PolyM.tab_get] at hcl
      have ht' : Gf.Tab wr b0 := ht.below hb
      have h2' : BytesAt wr A2 v := h2.below hb
      have HS := Lib.hid hs; have HT := Lib.hid ht'; have H2 := Lib.hid h2'; have P1 := Lib.hid p1
      have hm1 : a[k].length ≤ maxLen := by rw [hrl]; unfold maxLen; omega
      have hm2 : v.length ≤ maxLen := by unfold maxLen; omega
      clear hs hlen hv hr ht' h2' p1 hrl
      generalize a[k] = l at *
      go_wp2_with (go_at_call 30; refine (Gf.dot_any b0 B A2 l v cb c2 _ HT.out P1.out H2.out hm1 hm2).mono ?_; rintro e w' ⟨rfl, m, rfl⟩)
      go_roundw
      case rel => exact ⟨k + 1, by omega, by go_num, HS.out m, (below_drewN hb m).setCell (Nat.le_refl _) _⟩
      case measure => simp [intOf] <;> omega
    · obtain rfl : k = a.length := by omega
      rw [show (PolyM.tab a.length fun j => if j < a.length then GfM.dot (MatM.rowAt a j) v else 0) = a.map (fun r => GfM.dot r v) from by
        refine List.ext_getElem (by rw [PolyM.tab_len, List.length_map]) fun i hi1 hi2 => ?_
        have hi : i < a.length := by rw [PolyM.tab_len] at hi1; exact hi1
        rw [PolyM.tab_get, if_pos hi, List.getElem_map, MatM.rowAt_get _ _ hi]] at hr
      have HR := Lib.hid hr
      clear hr
      go_wp2
      go_ret2
      exact ⟨w.heap.size, Nat.le_refl _, rfl, HR.out, hb⟩
theorem apply_any (b0 : Nat) (A1 A2 : Option Addr) (a : List (List UInt8)) (v : List UInt8) (c1 c2 : Nat) (w : World) (ht : Gf.Tab w b0) (h1 : RowsAt w A1 a) (h2 : BytesAt w A2 v) (hl1 : a.length ≤ 256) (hl2 : v.length ≤ 256) :
    Calls Try.prog 11 #[.pointer (some ⟨b0, 0, none⟩), .slice A1 a.length c1, .slice A2 v.length c2] w (ApplyPost w a v) := by
  rcases hw : MatM.allW a v.length with _ | _
  · refine (apply_no b0 A1 A2 a v c1 c2 w h1 (by omega) (by omega) hw).mono ?_
    rintro e w' ⟨rfl, rfl⟩
    have e : MatM.applyV a v = [] := by unfold MatM.applyV; rw [if_neg (by rw [hw]; simp)]
    exact ⟨none, 0, by rw [e, hw]; rfl, by rw [e]; exact BytesAt.nil _ _, Below.refl _ _⟩
  · refine (apply_yes b0 A1 A2 a v c1 c2 w ht h1 h2 (by omega) (by omega) hw).mono ?_
    rintro e w' ⟨g, _, rfl, hr, hb⟩
    have e : MatM.applyV a v = a.map fun r => GfM.dot r v := by unfold MatM.applyV; rw [if_pos hw]
    exact ⟨some ⟨g, 0, none⟩, a.length, by rw [e, hw, List.length_map], by rw [e]; exact hr.bytes, hb⟩

/-! the columns as rows -/
theorem turned_any (A : Option Addr) (b : List (List UInt8)) (c : Nat) (w : World) (h : RowsAt w A b) (hl : b.length ≤ 1048576) (hw : MatM.wd b ≤ 1048576) (hall : MatM.allW b (MatM.wd b) = true) :
    Calls Try.prog 28 #[.slice A b.length c] w fun e w' => ∃ g, w.heap.size ≤ g ∧ e = .returned (.slice (some ⟨g, 0, none⟩) (MatM.wd b) (MatM.wd b)) ∧ RowsAt w' (some ⟨g, 0, none⟩) ((List.range (MatM.wd b)).map (MatM.colL b)) ∧ Below w.heap.size w w' := by
  have hmk := fun W => make_rows (MatM.wd b) hw W
  have HALL := Lib.hid hall
  clear hall
  go_enter Try.func28, Try.ntmps28
  go_wp2_with fail
  refine (width_any A b c w h).mono ?_
  rintro e w1 ⟨rfl, rfl⟩
  go_wp2
  clear hmk
  go_loopw [10] (fun i wr => ∃ k : Nat, k ≤ MatM.wd b ∧ i = .int .i64 k ∧ Filled wr w.heap.size (MatM.wd b) k (MatM.colL b) ∧ Below w.heap.size w wr)
    (fun i _ => MatM.wd b - (intOf i).toNat)
  case atStart => exact ⟨0, Nat.zero_le _, rfl, Filled.start _ _ _, balloc _ _⟩
  case round =>
    obtain ⟨k, hk, rfl, hf, hb⟩ := hrel
    by_cases hlt : k < MatM.wd b
    · obtain ⟨⟨v, c1⟩, f1⟩ := hf.1 k hlt
      have hgl := cell_lt c1
      simp only at hgl
      have HF := Lib.hid hf
      clear hf
      go_wp2_with fail
      refine (column_any A b c k wr (h.below hb) hl (fun i hi => by rw [(MatM.allW_iff _ _).1 HALL.out i hi]; exact hlt)).mono ?_
      rintro e w2 ⟨g, hg1, hg2, rfl, hr, hb2⟩
      have k1 := (hb2.cell (p := ⟨w.heap.size, k, none⟩) hgl).trans c1
      have k2 := (hb2.frozen (p := ⟨w.heap.size, k, none⟩) hgl).trans f1
      have hcl := MatM.colL_len b k
      have hf2 := (HF.out.below hb2).step hlt (A := some ⟨g, 0, none⟩) (c := b.length) (by rw [hcl]; exact Nat.le_refl _) (by unfold maxLen; omega) hr.bytes (fun a e => by injection e with e; subst e; show g ≠ w.heap.size; omega)
      rw [hcl] at hf2
      have HF2 := Lib.hid hf2
      clear hr hf2 hcl
      go_wp2
      go_roundw
      case rel => exact ⟨k + 1, by omega, by go_num, HF2.out, (hb.trans (hb2.mono hb.size)).setCell (Nat.le_refl _) _⟩
      case measure => simp [intOf] <;> omega
    · obtain rfl : k = MatM.wd b := by omega
      have HF := Lib.hid hf
      clear hf
      go_wp2
      go_ret
      exact ⟨w.heap.size, Nat.le_refl _, rfl, HF.out.rows, hb⟩

/-! products -/
theorem mul_no (b0 : Nat) (A1 A2 : Option Addr) (a b : List (List UInt8)) (c1 c2 : Nat) (w : World) (h1 : RowsAt w A1 a) (h2 : RowsAt w A2 b) (hl1 : a.length ≤ 1048576) (hl2 : b.length ≤ 1048576) (hl3 : MatM.wd b ≤ 1048576) (hno : MatM.mulOk a b = false) :
    Calls Try.prog 9 #[.pointer (some ⟨b0, 0, none⟩), .slice A1 a.length c1, .slice A2 b.length c2] w fun e w' => e = .returned (.tuple #[.slice none 0 0, .bool false]) ∧ w = w' := by
  rcases hb : MatM.allW b (MatM.wd b) with _ | _
  · have C := fits_any A2 b c2 (MatM.wd b) w h2 (by omega) (by omega)
    rw [hb] at C
    clear hno hb
    go_enter Try.func9, Try.ntmps9
    go_wp2_with fail
    refine (width_any A2 b c2 w h2).mono ?_
    rintro e w1 ⟨rfl, rfl⟩
    go_wp2_with fail
    refine C.mono ?_
    clear C
    rintro e w1 ⟨rfl, rfl⟩
    go_wp2
    go_ret2
    exact ⟨rfl, rfl⟩
  · have ha : MatM.allW a b.length = false := by
      unfold MatM.mulOk at hno; rw [hb, Bool.true_and] at hno; exact hno
    have C := fits_any A2 b c2 (MatM.wd b) w h2 (by omega) (by omega)
    have C2 := fits_any A1 a c1 b.length w h1 (by omega) (by omega)
    rw [hb] at C
    rw [ha] at C2
    clear hno hb ha
    go_enter Try.func9, Try.ntmps9
    go_wp2_with fail
    refine (width_any A2 b c2 w h2).mono ?_
    rintro e w1 ⟨rfl, rfl⟩
    go_wp2_with fail
    refine C.mono ?_
    clear C
    rintro e w1 ⟨rfl, rfl⟩
    go_wp2_with fail
    refine C2.mono ?_
    clear C2
    rintro e w1 ⟨rfl, rfl⟩
    go_wp2
    go_ret2
    exact ⟨rfl, rfl⟩

theorem mul_yes (b0 : Nat) (A1 A2 : Option Addr) (a b : List (List UInt8)) (c1 c2 : Nat) (w : World) (ht : Gf.Tab w b0) (h1 : RowsAt w A1 a) (h2 : RowsAt w A2 b) (hl1 : a.length ≤ 1048576) (hl2 : b.length ≤ 1048576) (hl3 : MatM.wd b ≤ 1048576) (hok : MatM.mulOk a b = true) :
    Calls Try.prog 9 #[.pointer (some ⟨b0, 0, none⟩), .slice A1 a.length c1, .slice A2 b.length c2] w fun e w' => ∃ g, w.heap.size ≤ g ∧ e = .returned (.tuple #[.slice (some ⟨g, 0, none⟩) a.length a.length, .bool true]) ∧ RowsAt w' (some ⟨g, 0, none⟩) (MatM.mulL a b) ∧ Below w.heap.size w w' := by
  unfold MatM.mulOk at hok
  rw [Bool.and_eq_true] at hok
  obtain ⟨hb, ha⟩ := hok
  have C := fits_any A2 b c2 (MatM.wd b) w h2 (by omega) (by omega)
  have C2 := fits_any A1 a c1 b.length w h1 (by omega) (by omega)
  have HA := Lib.hid ha; have HB := Lib.hid hb
  rw [hb] at C
  rw [ha] at C2
  clear hb ha
  have hmk := fun W => make_rows a.length hl1 W
  go_enter Try.func9, Try.ntmps9
  go_wp2_with fail
  refine (width_any A2 b c2 w h2).mono ?_
  rintro e w1 ⟨rfl, rfl⟩
  go_wp2_with fail
  refine C.mono ?_
  clear C
  rintro e w1 ⟨rfl, rfl⟩
  go_wp2_with fail
  refine C2.mono ?_
  clear C2
  rintro e w1 ⟨rfl, rfl⟩
  go_wp2_with fail
  refine (turned_any A2 b c2 w h2 hl2 hl3 HB.out).mono ?_
  rintro e w1 ⟨gc, hgc, rfl, hcols, hb1⟩
  have hlc : ((List.range (MatM.wd b)).map (MatM.colL b)).length = MatM.wd b := by simp
  have HC := Lib.hid hcols; have HLC := Lib.hid hlc
  have hz1 := hb1.size
  clear hcols hlc
  go_wp2
  clear hmk
  go_loopw [31] (fun i wr => ∃ k : Nat, k ≤ a.length ∧ i = .int .i64 k ∧ Filled wr w1.heap.size a.length k (fun i => MatM.mulRow b (MatM.rowAt a i)) ∧ Below w1.heap.size w1 wr)
    (fun i _ => a.length - (intOf i).toNat)
  case atStart => exact ⟨0, Nat.zero_le _, rfl, Filled.start _ _ _, balloc _ _⟩
  case round =>
    obtain ⟨k, hk, rfl, hf, hbr⟩ := hrel
    have hbw : Below w.heap.size w wr := hb1.trans (hbr.mono hz1)
    by_cases hlt : k < a.length
    · obtain ⟨b3, o, B, cb, hA, e1, hc1, hc2, p1⟩ := (h1.below hbw).row hlt
      subst hA
      obtain ⟨⟨v, k1⟩, f1⟩ := hf.1 k hlt
      have hgl := cell_lt k1
      simp only at hgl
      have hrl : a[k].length = b.length := (MatM.allW_iff _ _).1 HA.out k hlt
      have hfit : MatM.allW ((List.range (MatM.wd b)).map (MatM.colL b)) a[k].length = true := (MatM.allW_iff _ _).2 fun i hi => by rw [List.getElem_map, MatM.colL_len, hrl]
      have hres : ((List.range (MatM.wd b)).map (MatM.colL b)).map (fun q => GfM.dot q a[k]) = MatM.mulRow b (MatM.rowAt a k) := by
        rw [MatM.rowAt_get _ _ hlt]; exact MatM.mulRow_cols _ _ hrl
      have C3 := fun W => apply_yes b0 (some ⟨gc, 0, none⟩) B ((List.range (MatM.wd b)).map (MatM.colL b)) a[k] (MatM.wd b) cb W
      rw [HLC.out, hres] at C3
      have HF := Lib.hid hf; have P1 := Lib.hid p1; have HFIT := Lib.hid hfit; have HC3 := Lib.hid C3
      have hle : a[k].length ≤ 1048576 := by omega
      have hcr : RowsAt wr (some ⟨gc, 0, none⟩) ((List.range (MatM.wd b)).map (MatM.colL b)) := HC.out.below hbr
      have HCR := Lib.hid hcr; have HT := Lib.hid (ht.below hbw)
      clear hf p1 hfit hres C3 hrl hcr
      generalize a[k] = l at *
      go_wp2_with fail
      refine (HC3.out wr HT.out HCR.out P1.out hl3 hle HFIT.out).mono ?_
      rintro e w3 ⟨g, hg1, rfl, hr, hb3⟩
      have q1 := (hb3.cell (p := ⟨w1.heap.size, k, none⟩) hgl).trans k1
      have q2 := (hb3.frozen (p := ⟨w1.heap.size, k, none⟩) hgl).trans f1
      have hml : (MatM.mulRow b (MatM.rowAt a k)).length = MatM.wd b := MatM.mulRow_len _ _
      have hf2 := (HF.out.below hb3).step hlt (A := some ⟨g, 0, none⟩) (c := MatM.wd b) (by rw [hml]; exact Nat.le_refl _) (by unfold maxLen; omega) hr.bytes (fun a e => by injection e with e; subst e; show g ≠ w1.heap.size; omega)
      rw [hml] at hf2
      have HF2 := Lib.hid hf2
      clear hr hf2 hml
      go_wp2
      go_roundw
      case rel => exact ⟨k + 1, by omega, by go_num, HF2.out, (hbr.trans (hb3.mono hbr.size)).setCell (Nat.le_refl _) _⟩
      case measure => simp [intOf] <;> omega
    · obtain rfl : k = a.length := by omega
      have hrows := hf.rows
      rw [show (List.range a.length).map (fun i => MatM.mulRow b (MatM.rowAt a i)) = MatM.mulL a b from List.ext_getElem (by simp [MatM.mulL]) fun i hi1 hi2 => by
        have hi : i < a.length := by simpa using hi1
        simp only [MatM.mulL, List.getElem_map, List.getElem_range]; rw [MatM.rowAt_get _ _ hi]] at hrows
      have HR := Lib.hid hrows
      clear hf hrows
      go_wp2
      go_ret2
      exact ⟨w1.heap.size, hz1, rfl, HR.out, hbw⟩

theorem mul_any (b0 : Nat) (A1 A2 : Option Addr) (a b : List (List UInt8)) (c1 c2 : Nat) (w : World) (ht : Gf.Tab w b0) (h1 : RowsAt w A1 a) (h2 : RowsAt w A2 b) (hl1 : a.length ≤ 256) (hl2 : b.length ≤ 256) (hl3 : MatM.wd b ≤ 256) :
    Calls Try.prog 9 #[.pointer (some ⟨b0, 0, none⟩), .slice A1 a.length c1, .slice A2 b.length c2] w (MulPost w a b) := by
  rcases hok : MatM.mulOk a b with _ | _
  · refine (mul_no b0 A1 A2 a b c1 c2 w h1 h2 (by omega) (by omega) (by omega) hok).mono ?_
    rintro e w' ⟨rfl, rfl⟩
    have e : MatM.mulV a b = [] := by unfold MatM.mulV; rw [if_neg (by rw [hok]; simp)]
    exact ⟨none, 0, by rw [e, hok]; rfl, by rw [e]; exact RowsAt.nil _ _, Below.refl _ _⟩
  · refine (mul_yes b0 A1 A2 a b c1 c2 w ht h1 h2 (by omega) (by omega) (by omega) hok).mono ?_
    rintro e w' ⟨g, _, rfl, hr, hb⟩
    have e : MatM.mulV a b = MatM.mulL a b := by unfold MatM.mulV; rw [if_pos hok]
    exact ⟨some ⟨g, 0, none⟩, a.length, by rw [e, hok, MatM.mulL_len], by rw [e]; exact hr, hb⟩

/-! powers -/
theorem powers_any (b0 : Nat) (A : Option Addr) (xs : List UInt8) (c n : Nat) (w : World) (ht : Gf.Tab w b0) (h : BytesAt w A xs) (hl : xs.length ≤ 256) (hn : n ≤ 256) :
    Calls Try.prog 19 #[.pointer (some ⟨b0, 0, none⟩), .slice A xs.length c, .int .i64 (n : Nat)] w (RetRows w (MatM.powL xs n)) := by
  have hmk := fun W => make_rows xs.length (by omega) W
  have hmk2 := fun W => make_u8 n (by omega) W
  go_enter Try.func19, Try.ntmps19
  go_wp2
  clear hmk
  go_loopw [16] (fun i wr => ∃ k : Nat, k ≤ xs.length ∧ i = .int .i64 k ∧ Filled wr w.heap.size xs.length k (fun i => PolyM.tab n (GfM.npow (PolyM.co xs i))) ∧ Below w.heap.size w wr)
    (fun i _ => xs.length - (intOf i).toNat)
  case atStart => exact ⟨0, Nat.zero_le _, rfl, Filled.start _ _ _, balloc _ _⟩
  case round =>
    obtain ⟨k, hk, rfl, hf, hb⟩ := hrel
    rename World => w0
    by_cases hlt : k < xs.length
    · obtain ⟨b, o, hA, e1⟩ := (h.below hb) k hlt
      subst hA
      obtain ⟨⟨v, k1⟩, f1⟩ := hf.1 k hlt
      have hgl := cell_lt k1
      simp only at hgl
      have hne : w.heap.size ≠ w0.heap.size := by omega
      have hx := PolyM.co_get xs k hlt
      have HX := Lib.hid hx
      have HF := Lib.hid hf
      clear hx hf
      generalize xs[k] = x at *
      go_wp2_with fail
      refine (within_any n w0 hn).mono ?_
      rintro e w9 ⟨rfl, rfl⟩
      have hV : (w0.setCell ⟨w.heap.size, k, none⟩ (.slice (some ⟨w0.heap.size, 0, none⟩) n n)).heap.size = w0.heap.size := by simp [World.setCell]
      have q1 : (w0.setCell ⟨w.heap.size, k, none⟩ (.slice (some ⟨w0.heap.size, 0, none⟩) n n)).cell? ⟨w.heap.size, k, none⟩ = some (.slice (some ⟨w0.heap.size, 0, none⟩) n n) := World.cell?_setCell_same _ _ _ k1
      have q2 : Row ((w0.setCell ⟨w.heap.size, k, none⟩ (.slice (some ⟨w0.heap.size, 0, none⟩) n n)).alloc (.cells (cells (List.replicate n 0)) 5)) w0.heap.size (List.replicate n 0) := by
        have := Row.new (w0.setCell ⟨w.heap.size, k, none⟩ (.slice (some ⟨w0.heap.size, 0, none⟩) n n)) (List.replicate n 0)
        rw [hV] at this; exact this
      have htw : Gf.Tab w0 b0 := ht.below hb
      have ht0 : Gf.Tab (w0.setCell ⟨w.heap.size, k, none⟩ (.slice (some ⟨w0.heap.size, 0, none⟩) n n)) b0 := (Keeps.set (fun i => i = w.heap.size) w0 ⟨w.heap.size, k, none⟩ _ rfl).tab htw (by have := ht.lt; omega)
      have hbV : Below w.heap.size w (w0.setCell ⟨w.heap.size, k, none⟩ (.slice (some ⟨w0.heap.size, 0, none⟩) n n)) := hb.setCell (Nat.le_refl _) _
      have hadd : ∀ w', Below (w0.setCell ⟨w.heap.size, k, none⟩ (.slice (some ⟨w0.heap.size, 0, none⟩) n n)).heap.size (w0.setCell ⟨w.heap.size, k, none⟩ (.slice (some ⟨w0.heap.size, 0, none⟩) n n)) w' → BytesAt w' (some ⟨w0.heap.size, 0, none⟩) (PolyM.tab n (GfM.npow x)) →
          Filled w' w.heap.size xs.length (k + 1) (fun i => PolyM.tab n (GfM.npow (PolyM.co xs i))) := fun w' hb' h3 => by
        have hl' : (PolyM.tab n (GfM.npow (PolyM.co xs k))).length = n := PolyM.tab_len _ _
        exact HF.out.add hlt (b := w0.heap.size) (c := n) (by show Below (w0.setCell _ (.slice _ (PolyM.tab n (GfM.npow (PolyM.co xs k))).length _)).heap.size (w0.setCell _ (.slice _ (PolyM.tab n (GfM.npow (PolyM.co xs k))).length _)) w'; rw [hl']; exact hb') (by show (PolyM.tab n (GfM.npow (PolyM.co xs k))).length ≤ n; rw [hl']; exact Nat.le_refl _) (by unfold maxLen; omega) (by show BytesAt w' _ (PolyM.tab n (GfM.npow (PolyM.co xs k))); rw [HX.out]; exact h3) (Ne.symm hne)
      have HV := Lib.hid hV; have Q2 := Lib.hid q2; have HT0 := Lib.hid ht0; have HBV := Lib.hid hbV; have HADD := Lib.hid hadd
      clear hV q2 ht0 hbV htw hadd
      go_wp2
      generalize w0.setCell ⟨w.heap.size, k, none⟩ (.slice (some ⟨w0.heap.size, 0, none⟩) n n) = V at q1 Q2 HT0 HV HBV HADD ⊢
      go_loopw [32] (fun j wr => ∃ t : Nat, t ≤ n ∧ j = .int .i64 t ∧ Row wr w0.heap.size (PolyM.tab n (fun i => if i < t then GfM.npow x i else 0)) ∧ Below V.heap.size V wr)
        (fun j _ => n - (intOf j).toNat)
      case atStart => exact ⟨0, Nat.zero_le _, rfl, by rw [show (PolyM.tab n fun i => if i < 0 then GfM.npow x i else 0) = PolyM.tab n (fun _ => 0) from PolyM.tab_congr fun i _ => by simp, PolyM.tab_rep]; exact Q2.out, balloc _ _⟩
      case round =>
        obtain ⟨t, htn, rfl, hr, hbv⟩ := hrel
        have q3 := (hbv.cell (p := ⟨w.heap.size, k, none⟩) (cell_lt q1)).trans q1
        by_cases hlt2 : t < n
        · have hlen : t < (PolyM.tab n (fun i => if i < t then GfM.npow x i else 0)).length := by rw [PolyM.tab_len]; exact hlt2
          have hcl := hr.cell t hlen
          have hf := hr.frozen t
          have hz := hr.lt
          have hs : ∀ m, Row ((wr.drewN m).setCell ⟨w0.heap.size, t, none⟩ (.int .u8 ((GfM.powI x (t : Nat)).toNat : Nat))) w0.heap.size (PolyM.tab n (fun i => if i < t + 1 then GfM.npow x i else 0)) := fun m => by
            have hp : GfM.powI x (t : Int) = GfM.npow x t := by unfold GfM.powI; rw [if_pos (by omega), Int.toNat_natCast]
            have hs := (hr.drewN m).set t (GfM.npow x t)
            rw [PolyM.tab_set _ _ _ _ hlt2, show (fun i => if i = t then GfM.npow x t else if i < t then GfM.npow x i else 0) = (fun i => if i < t + 1 then GfM.npow x i else 0) from funext fun i => by
              by_cases e : i = t
              · subst e; rw [if_pos rfl, if_pos (by omega)]
              · rw [if_neg e]
                by_cases e2 : i < t
                · rw [if_pos e2, if_pos (by omega)]
                · rw [if_neg e2, if_neg (by omega)]] at hs
            rw [hp]; exact hs
          rw [PolyM.tab_get] at hcl
          have ht' : Gf.Tab wr b0 := HT0.out.below hbv
          have HS := Lib.hid hs; have HT := Lib.hid ht'
          have hV0 : V.heap.size ≤ w0.heap.size := by rw [HV.out]; exact Nat.le_refl _
          clear hs hlen hr ht'
          go_wp2
          go_region_law ((go_simp; go_at_call 42; refine (Gf.pow_any b0 x (t : Int) _ (HT.out.drewN _) (by omega)).mono ?_; rintro e w' ⟨rfl, m, rfl⟩))
          all_goals
            try go_wp2
            go_roundw
            case rel => exact ⟨t + 1, by omega, by go_num, HS.out _, (below_drewN hbv _).setCell hV0 _⟩
            case measure => simp [intOf] <;> omega
        · obtain rfl : t = n := by omega
          rw [show (PolyM.tab t fun i => if i < t then GfM.npow x i else 0) = PolyM.tab t (GfM.npow x) from PolyM.tab_congr fun i hi => by rw [if_pos hi]] at hr
          have hnew := HADD.out wr hbv hr.bytes
          have hbw : Below w.heap.size w wr := bstep HBV.out hbv
          have HN := Lib.hid hnew
          clear hnew hr
          go_wp2
          go_roundw
          case rel => exact ⟨k + 1, by omega, by go_num, HN.out, hbw⟩
          case measure => simp [intOf] <;> omega
    · obtain rfl : k = xs.length := by omega
      have hrows := hf.rows
      rw [show (List.range xs.length).map (fun i => PolyM.tab n (GfM.npow (PolyM.co xs i))) = MatM.powL xs n from List.ext_getElem (by simp [MatM.powL]) fun i hi1 hi2 => by
        have hi : i < xs.length := by simpa using hi1
        simp only [MatM.powL, List.getElem_map, List.getElem_range]; rw [PolyM.co_get _ _ hi]] at hrows
      have HR := Lib.hid hrows
      clear hf hrows
      go_wp2
      go_ret
      exact ⟨some ⟨w.heap.size, 0, none⟩, xs.length, by rw [MatM.powL_len]; rfl, by rw [MatM.powL_len]; exact Nat.le_refl _, by unfold maxLen; omega, HR.out, hb, New.at w (Nat.le_refl _)⟩
end Go.Proofs.Ytmkadcnommoihaa.Matrix
