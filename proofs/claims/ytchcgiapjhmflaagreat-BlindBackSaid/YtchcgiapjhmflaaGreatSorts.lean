/- numbers sorted, and which are twice: slices.Values, slices.Collect, slices.Sorted, slices.Compact -/
import Derived.Test.YtchcgiapjhmflaaGreatInts
import Derived.Test.YtchcgiapjhmflaaGreatShelfI
import Derived.RangeFuncNested
import Derived.RangeFuncBound
import Derived.RangeFuncCalls
import Derived.RangeFuncLeaves
import Derived.Shelf.Abstract
import Derived.Shelf.RegionOpen
import Derived.OwnWalkIn
import Derived.TacticsInMore
import Derived.LoopNIn
import Derived.LoopIn
import Derived.Maps.AppendAt
import Derived.RangeFuncBox
import Derived.Sort.OwnSorted
import Derived.Lib.SlKeysI
set_option maxRecDepth 100000
namespace Go.Proofs.YtchcgiapjhmflaaGreat.SortM
/-- a list in order -/
def sorted (l : List Int) : List Int := l.mergeSort fun x y => decide (x ≤ y)
theorem sorted_perm (l : List Int) : (sorted l).Perm l := List.mergeSort_perm _ _
theorem sorted_len (l : List Int) : (sorted l).length = l.length := (sorted_perm l).length_eq
theorem sorted_up (l : List Int) : (sorted l).Pairwise fun x y => x ≤ y := by
  have h := List.pairwise_mergeSort (le := fun x y : Int => decide (x ≤ y)) (by intro a b c; simpa using fun h1 h2 => Int.le_trans h1 h2) (by intro a b; simpa using Int.le_total a b) l
  exact h.imp fun h => of_decide_eq_true h
theorem compact_len (zs : List Int) : (Lib.compact zs).length ≤ zs.length := by
  unfold Lib.compact Lib.compactUpTo
  rw [List.length_map]
  exact Nat.le_trans (List.length_filter_le _ _) (by simp)
theorem compact_full {zs : List Int} (hp : zs.Pairwise fun x y => x ≤ y) : (Lib.compact zs).length = zs.length ↔ zs.Nodup := by
  constructor
  · intro h
    unfold Lib.compact Lib.compactUpTo at h
    rw [List.length_map, show zs.length = (List.range zs.length).length from by simp, List.length_range] at h
    have h2 : ((List.range zs.length).filter (Lib.keeps zs.toArray)).length = (List.range zs.length).length := by rw [List.length_range]; exact h
    rw [List.length_filter_eq_length_iff] at h2
    have hs : ∀ i, (hi : i + 1 < zs.length) → zs[i] < zs[i + 1] := fun i hi => by
      have h3 := h2 (i + 1) (List.mem_range.2 hi)
      unfold Lib.keeps at h3
      have h4 := of_decide_eq_true h3
      rcases h4 with h4 | h4
      · omega
      · rw [Nat.add_sub_cancel, getElem!_pos zs.toArray (i + 1) (by simpa using hi), getElem!_pos zs.toArray i (by simp; omega)] at h4
        simp only [List.getElem_toArray] at h4
        have := List.pairwise_iff_getElem.1 hp i (i + 1) (by omega) hi (by omega)
        omega
    have hlt : ∀ k i, (hk : i + k + 1 < zs.length) → zs[i] < zs[i + k + 1] := fun k => by
      induction k with
      | zero => exact fun i hi => hs i hi
      | succ k ih => intro i hi; have h1 := ih i (by omega); have h2 := hs (i + k + 1) (by omega); exact Int.lt_trans h1 h2
    refine List.pairwise_iff_getElem.2 fun i j hi hj hij => ?_
    have h5 := hlt (j - i - 1) i (by omega)
    have e : i + (j - i - 1) + 1 = j := by omega
    simp only [e] at h5
    omega
  · intro h
    rw [Lib.compact_all]
    intro j hj
    unfold Lib.keeps
    refine decide_eq_true ?_
    by_cases h0 : j = 0
    · exact .inl h0
    · refine .inr ?_
      rw [getElem!_pos zs.toArray j (by simpa using hj), getElem!_pos zs.toArray (j - 1) (by simp; omega)]
      simp only [List.getElem_toArray]
      exact fun e => List.pairwise_iff_getElem.1 h (j - 1) j (by omega) hj (by omega) e.symm
/-- are two of them the same? -/
def twice (l : List Int) : Bool := !(decide l.Nodup)
theorem twice_by (l : List Int) : decide ((Lib.compact (sorted l)).length < l.length) = twice l := by
  have h1 := compact_full (sorted_up l)
  rw [sorted_len, (sorted_perm l).nodup_iff] at h1
  have h2 := compact_len (sorted l)
  rw [sorted_len] at h2
  unfold twice
  by_cases h : l.Nodup
  · rw [decide_eq_true h, decide_eq_false (by have := h1.2 h; omega)]; rfl
  · rw [decide_eq_false h, decide_eq_true (by rcases Nat.lt_or_ge (Lib.compact (sorted l)).length l.length with h3 | h3; exact h3; exact absurd (h1.1 (by omega)) h)]; rfl
end Go.Proofs.YtchcgiapjhmflaaGreat.SortM
namespace Go.Proofs.YtchcgiapjhmflaaGreat.Sorts
open Go.RowKit Go.Shelf Go.Maps SortM
attribute [local go_sem] Oper.semAt_some

theorem row_lt {W : World} {base : Nat} {e : TypeId} {v : Value} {n : Nat} {xs : List Value} (h : W.ownsRow base e 1 v n xs) {B : Nat} (hB : B < base) : some B ≠ v.ownBlock := fun e1 => by
  have := (World.ownsRow.lt h B e1.symm).1
  omega
theorem row_weak {W : World} {base base' : Nat} {e : TypeId} {v : Value} {n : Nat} {xs : List Value} (h : W.ownsRow base e 1 v n xs) (hb : base' ≤ base) : W.ownsRow base' e 1 v n xs := by
  refine ⟨h.1, ?_⟩
  rcases h.2 with h2 | ⟨g, cap, cur, h1, h2, h3⟩
  · exact .inl h2
  · exact .inr ⟨g, cap, cur, h1, by omega, h3⟩

set_option maxHeartbeats 1000000 in
theorem values1_in (F : Fence) (n : Nat) (hf : F.fn 82) (hro : F.round = none) (hn : 1 ≤ n) (l Bn : Nat) (w0 : World) (A : Option Addr) (xs : List Int) (c : Nat) (hA : IntsAt w0 A xs) (hlen : xs.length ≤ 1048576)
    (J Jx : List Int → World → Prop)
    (hY : ∀ pre x W, J pre W → pre.length < xs.length → YieldAt F (n - 1) Tryz.prog l #[.int .i64 x] W fun e W' =>
      (e = .returned (.bool true) ∧ J (pre ++ [x]) W' ∧ Below w0.heap.size W W') ∨ (e = .returned (.bool false) ∧ Jx (pre ++ [x]) W'))
    (W : World) (hBn : W.cell? ⟨Bn, 0, none⟩ = some (.slice A xs.length c)) (hW : Below w0.heap.size w0 W) (h0 : J [] W) :
    CallsIn F n Tryz.prog 82 #[.func (.yield l) #[] #[], .pointer (some ⟨Bn, 0, none⟩)] W fun e W' => (∃ v, e = .returned v) ∧
      ((∃ ys, ys = xs ∧ J ys W') ∨ (∃ pre, pre <+: xs ∧ Jx pre W')) := by
  have HY := Lib.hid hY; have HA := Lib.hid hA
  clear hY hA
  refine callsIn_of_wp Tryz.func82 rfl hf ?_ hro
  simp only [Tryz.ntmps82, List.size_toArray, List.length_cons, List.length_nil, Nat.reduceAdd, Nat.reduceSub, Array.replicate_succ, Array.replicate_zero, List.push_toArray, List.append_toArray, List.nil_append, List.cons_append]
  gi_wp2
  gi_loopw [7] (fun i wr => ∃ k : Nat, k ≤ xs.length ∧ i = .int .i64 k ∧ J (xs.take k) wr ∧ Below w0.heap.size w0 wr)
    (fun i _ => xs.length - (intOf i).toNat)
  case atStart => exact ⟨0, Nat.zero_le _, rfl, by rw [List.take_zero]; exact h0, hW⟩
  case round =>
    obtain ⟨k, hk, rfl, hJ, hb⟩ := hrel
    rename World => w1
    have HJ := Lib.hid hJ
    clear hJ
    by_cases hlt : k < xs.length
    · obtain ⟨b, o, hAe, e1⟩ := (HA.out.below hb).at hlt
      subst hAe
      have hps : xs.take (k + 1) = xs.take k ++ [xs[k]] := by rw [List.take_succ_eq_append_getElem hlt]
      obtain ⟨fn, tmps, assign, body, hy, hR⟩ := HY.out _ xs[k] w1 HJ.out (by rw [List.length_take]; omega)
      rw [← hps] at hR
      generalize hxv : xs[k] = x at *
      clear hps
      gi_wp2
      refine hR.mono ?_
      rintro e w3 (⟨rfl, hJ3, hk3⟩ | ⟨rfl, hJx3⟩)
      · have HJ3 := Lib.hid hJ3
        clear hJ3 hR hy
        gi_wp2
        go_roundw
        case rel => exact ⟨k + 1, by omega, by go_num, HJ3.out, hb.trans hk3⟩
        case measure => simp [intOf] <;> omega
      · have HJ3 := Lib.hid hJx3
        clear hJx3 hR hy
        gi_wp2
        refine bodyPost_ret (results_none rfl _ _ _) rfl ?_
        exact ⟨⟨_, rfl⟩, .inr ⟨_, List.take_prefix _ _, HJ3.out⟩⟩
    · obtain rfl : k = xs.length := by omega
      have hJ := HJ.out
      rw [List.take_length] at hJ
      have HJ3 := Lib.hid hJ
      clear hJ
      gi_wp2
      go_end0
      exact ⟨⟨_, rfl⟩, .inl ⟨xs, rfl, HJ3.out⟩⟩
theorem values_in (F : Fence) (n : Nat) (hf : F.fn 76) (hro : F.round = none) (A : Option Addr) (m c : Nat) (w : World) :
    CallsIn F n Tryz.prog 76 #[.slice A m c] w fun e w' => e = .returned (.func (.func 82) #[] #[.pointer (some ⟨w.heap.size, 0, none⟩)]) ∧ w' = w.alloc (.cells #[.slice A m c] 26) := by
  refine callsIn_of_wp Tryz.func76 rfl hf ?_ hro
  simp only [Tryz.ntmps76, List.size_toArray, List.length_cons, List.length_nil, Nat.reduceAdd, Nat.reduceSub, Array.replicate_succ, Array.replicate_zero, List.push_toArray, List.append_toArray, List.nil_append, List.cons_append]
  gi_wp2
  go_ret
  exact ⟨rfl, rfl⟩
theorem values_stops (F : Fence) (n : Nat) (hf : F.fn 82) (hro : F.round = none) (hn : 1 ≤ n) (Bn : Nat) (w0 : World) (A : Option Addr) (xs : List Int) (c : Nat) (hA : IntsAt w0 A xs) (hlen : xs.length ≤ 1048576)
    (w : World) (hBn : w.cell? ⟨Bn, 0, none⟩ = some (.slice A xs.length c)) (hw : Below w0.heap.size w0 w) :
    SeqStopsK F n Tryz.prog 82 #[.pointer (some ⟨Bn, 0, none⟩)] (fun x : Int => #[Value.int .i64 x]) (Below w0.heap.size) (fun ys => ys = xs) (fun pre => pre <+: xs) xs.length w := fun l J Jx W hW _ _ hY h0 =>
  values1_in F n hf hro hn l Bn w0 A xs c hA hlen J Jx hY W ((hW.cell (p := ⟨Bn, 0, none⟩) (cell_lt hBn)).trans hBn) (hw.trans (hW.mono hw.size)) h0

set_option maxHeartbeats 4000000 in
theorem append_any (Bn : Nat) (A : Option Addr) (xs : List Int) (c : Nat) (w : World) (hBn : w.cell? ⟨Bn, 0, none⟩ = some (.slice A xs.length c)) (h : IntsAt w A xs) (hl : xs.length ≤ 1048576) :
    Calls Tryz.prog 84 #[.slice none 0 0, .func (.func 82) #[] #[.pointer (some ⟨Bn, 0, none⟩)]] w fun e w' => ∃ v, e = .returned v ∧ OwnI w' w.heap.size v xs ∧ Below w.heap.size w w' := by
  have H := Lib.hid h; have HBN := Lib.hid hBn
  clear h hBn
  refine (callsIn_wide (n := 12)).1 ?_
  refine callsIn_of_wp_marks Tryz.func84 rfl trivial ?_ rfl
  simp only [Tryz.ntmps84, List.size_toArray, List.length_cons, List.length_nil, Nat.reduceAdd, Nat.reduceSub, Array.replicate_succ, Array.replicate_zero, List.push_toArray, List.append_toArray, List.nil_append, List.cons_append]
  gi_wp2_with fail
  have q0 := Boxed.new w 26 (.slice none 0 0)
  have hB0 := balloc w (.cells #[.slice none 0 0] 26)
  have hz0 : (w.alloc (.cells #[.slice none 0 0] 26)).heap.size = w.heap.size + 1 := by simp
  obtain ⟨W0, hW0⟩ : ∃ W0, w.alloc (.cells #[.slice none 0 0] 26) = W0 := ⟨_, rfl⟩
  rw [hW0] at q0 hB0 hz0 ⊢
  clear hW0
  have hBn0 : W0.cell? ⟨Bn, 0, none⟩ = some (.slice A xs.length c) := (hB0.cell (p := ⟨Bn, 0, none⟩) (cell_lt HBN.out)).trans HBN.out
  obtain ⟨i0, hi, hz, hs1, hb1⟩ := int_info'
  refine wpIn_rangeFunc_ownG rfl (by omega) (gf := 82) (lb := #[.pointer (some ⟨Bn, 0, none⟩)]) rfl trivial (enters_of Tryz.func82 (by kernel_rfl) rfl)
    (values_stops Fence.wide 11 trivial rfl (by omega) Bn w A xs c H.out hl W0 hBn0 hB0) belowK_t (belowK_b (by omega)) (Below.refl _ _) (fun _ => rfl)
    (fun pre W => (∃ v, Boxed W w.heap.size 26 v ∧ W.ownsRow (w.heap.size + 1) 3 1 v pre.length (intV pre) ∧ True) ∧ Below w.heap.size w W)
    (fun _ _ _ => False)
    (OwnFrom.and (Own.from (holdsRow_own _ _ _ _ 1 (fun pre : List Int => pre.length) (fun pre => intV pre) (fun _ _ => True)) _) (ownFrom_below (Nat.le_refl _) (by omega)))
    (fun _ _ _ _ _ hs _ _ => hs)
    ⟨⟨_, q0, World.ownsRow_nil _ _ _ _, trivial⟩, hB0⟩
    (fun x => { tmps := #[.slice none 0 0, .func (.func 82) #[] #[.pointer (some ⟨Bn, 0, none⟩)], .pointer (some ⟨w.heap.size, 0, none⟩), undef, .slice none 0 0, .int .i64 x, .func (.func 82) #[] #[.pointer (some ⟨Bn, 0, none⟩)], .int .i64 x, undef, undef, undef, undef, undef], defers := [] }) ?assign ?body ?done ?stop
  case assign =>
    intro l x W K hK
    gi_wp2
    exact hK
  case body =>
    rintro lp pre x W ⟨⟨v, r4, hrow, _⟩, hB⟩ hlt
    have c4 := r4.cell
    have hzW := r4.lt
    obtain ⟨X, d, hv, hd1, hd2, _, _, _⟩ := ownV_cells hrow
    subst hv
    gi_wp2_with (gi_at_builtin; refine wpListIn_append_own _ rfl _ _ 26 rfl (w.heap.size + 1) 3 i0 (.int .i64 0) 1 8 Tryz.underlying26 hi hz hs1 hb1 rfl (by decide) _ _ _ rfl (hrow.alloc _) ⟨W.heap.size, 0, none⟩ 1 1 [.int .i64 x] rfl rfl (cell_one_new _ _ _) (by simp [Value.oneCell']) (by unfold maxLen; omega) (by omega) (by simp; omega) ?_; intro v' w1 hown' hgrow _; obtain ⟨g', cap', rfl⟩ := ownsRow_succ hown'; obtain ⟨hv1, hv2, hr2, hk2, hb2⟩ := r4.appended (by decide) (row_weak hrow (base' := w.heap.size) (by omega)) hB.size (by omega) (row_weak hown' (by omega)) hgrow; have hc1 := hv1.cell; have hf1 := hv1.frozen)
    refine ⟨hk2.from _, hb2.mono ?_, ⟨⟨_, hv2, ?_, trivial⟩, hB.trans hb2⟩⟩
    · exact Nat.le_refl _
    · have := hown'.kept (grownBy_setCell' w1 w.heap.size (.slice (some ⟨g', 0, none⟩) (pre.length + 1) cap')) (.inr (row_lt hown' (by omega)).symm)
      rw [List.length_append, show intV (pre ++ [x]) = intV pre ++ [.int .i64 x] from by simp [intV]]
      exact this
  case done =>
    rintro D ys W hD rfl ⟨⟨v, r4, hrow, _⟩, hB⟩ hK
    have c4 := r4.cell
    have krow := ownsRow_putObj hrow (.deferred none) hK rfl
    have kB := hB.trans (belowK_b (w := w) (Nat.le_refl _) _ D _ (.deferred none) (by omega) hK rfl rfl)
    have KR := Lib.hid krow; have KB := Lib.hid kB
    clear krow kB hrow
    gi_wp2
    refine ⟨by simp, .inl ⟨_, _, rfl, run_takeDeferred hK, ?_⟩⟩
    exact ⟨_, results_tmp rfl _ _ _, v, rfl, row_weak KR.out (by omega), KB.out⟩
  case stop =>
    rintro D c pre W _ _ h _
    exact h.elim
theorem collect_any (Bn : Nat) (A : Option Addr) (xs : List Int) (c : Nat) (w : World) (hBn : w.cell? ⟨Bn, 0, none⟩ = some (.slice A xs.length c)) (h : IntsAt w A xs) (hl : xs.length ≤ 1048576) :
    Calls Tryz.prog 80 #[.func (.func 82) #[] #[.pointer (some ⟨Bn, 0, none⟩)]] w fun e w' => ∃ v, e = .returned v ∧ OwnI w' w.heap.size v xs ∧ Below w.heap.size w w' := by
  have C := append_any Bn A xs c w hBn h hl
  have HC := Lib.hid C
  clear C hBn h
  go_enter Tryz.func80, Tryz.ntmps80
  go_wp2_with fail
  refine HC.out.mono ?_
  rintro e w' ⟨v, rfl, h1, h2⟩
  go_wp2
  go_ret
  exact ⟨v, rfl, h1, h2⟩
/-- a row of numbers, sorted in place -/
theorem sorted_any (Bn : Nat) (A : Option Addr) (xs : List Int) (c : Nat) (w : World) (hBn : w.cell? ⟨Bn, 0, none⟩ = some (.slice A xs.length c)) (h : IntsAt w A xs) (hl : xs.length ≤ 1048576) :
    Calls Tryz.prog 75 #[.func (.func 82) #[] #[.pointer (some ⟨Bn, 0, none⟩)]] w fun e w' => ∃ v, e = .returned v ∧ OwnI w' w.heap.size v (sorted xs) ∧ Below w.heap.size w w' := by
  have C := collect_any Bn A xs c w hBn h hl
  have HC := Lib.hid C
  clear C hBn h
  go_enter Tryz.func75, Tryz.ntmps75
  go_wp2_with fail
  refine HC.out.mono ?_
  rintro e w1 ⟨v, rfl, h1, h2⟩
  rcases h1.2 with ⟨rfl, hz⟩ | ⟨gb, cap, cur, rfl, hbase, hgb, r1, r2, r3, r4⟩
  · have hss : xs = [] := List.eq_nil_of_length_eq_zero hz
    subst hss
    have C2 := AnyM.slices_Sort_int_none layISort none 0 w1
    go_wp2_with fail
    refine C2.mono ?_
    rintro e w' ⟨rfl, rfl⟩
    go_wp2
    go_ret
    refine ⟨_, rfl, ?_, h2⟩
    rw [show sorted [] = [] from List.mergeSort_nil]; exact h1
  · have hH : Go.Sort.Holds (Value.int .i64) w1 gb 0 xs.toArray := holds_of_block_i hgb (by rw [Nat.mul_one] at r4; exact r4)
    have hgl : gb < w1.heap.size := (Array.getElem?_eq_some_iff.1 hgb).1
    have C2 := AnyM.slices_Sort_int layISort gb 0 cap xs w1 hH hgl (by omega)
    have HC2 := Lib.hid C2
    clear C2
    go_wp2_with fail
    refine HC2.out.mono ?_
    rintro e w' ⟨rfl, k, os, rfl⟩
    go_wp2
    go_ret
    refine ⟨_, rfl, ?_, h2.grown (grownBy_sorted_i _) h2.size (fun j hj => by cases hj; exact hbase)⟩
    unfold OwnI
    rw [sorted_len]
    exact ownsRow_sorted_i (sorted_len xs) hbase hgb r1 r2 r3
end Go.Proofs.YtchcgiapjhmflaaGreat.Sorts
