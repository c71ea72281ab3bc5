/- the contracts of package label: Less, After -/
import Derived.Test.YtjfjflkflnebgaaTexts
import Derived.Test.YtjfjflkflnebgaaMergeMath
import Derived.Maps.AppendAt
import Derived.RangeFuncBox
set_option maxRecDepth 100000
namespace Go.Proofs.Ytjfjflkflnebgaa.Label
open Go.RowKit Go.Shelf R07

theorem bytesLess_less (x y : List UInt8) : Op.bytesLess x y = LabM.less x y := by
  induction x generalizing y with
  | nil => rcases y with _ | ⟨b, y⟩ <;> rfl
  | cons a x ih =>
    rcases y with _ | ⟨b, y⟩
    · rfl
    · unfold Op.bytesLess LabM.less
      rw [ih]
      by_cases e : a = b
      · subst e
        rw [if_pos rfl]
        have : decide (a < a) = false := decide_eq_false (by rw [UInt8.lt_iff_toNat_lt]; omega)
        rw [this]; simp
      · rw [if_neg e]
        have : (a == b) = false := by simpa using e
        rw [this, Bool.false_and, Bool.or_false]
        exact decide_eq_decide.2 UInt8.lt_iff_toNat_lt
theorem less_same (a b : ByteArray) (w : World) : Calls Try.prog 9 #[.string a, .string b] w fun e w' => e = .returned (.bool (LabM.lessS a b)) ∧ w' = w := by
  go_enter Try.func9, Try.ntmps9
  go_wp2
  go_ret
  refine ⟨ret_bool ?_, rfl⟩
  rw [bytesLess_less, ByteArray.toList_eq, ByteArray.toList_eq]
  rfl
theorem less_any (a b : ByteArray) (w : World) (_ha : a.size ≤ 9223372036854775807) (_hb : b.size ≤ 9223372036854775807) :
    Calls Try.prog 9 #[.string a, .string b] w fun e w' => e = .returned (.bool (LabM.lessS a b)) ∧ ∃ n, w' = w.drewN n :=
  (less_same a b w).mono fun _ _ h => ⟨h.1, 0, h.2⟩

attribute [local go_sem] Oper.semAt_some
/-- those of some texts that one is less than -/
def aft (pre : List LabM.Txt) (s : ByteArray) : List ByteArray := LabM.after (pre.map Subtype.val) s
theorem aft_yes {pre : List LabM.Txt} {s : ByteArray} {x : LabM.Txt} (h : LabM.lessS s x.1 = true) : aft (pre ++ [x]) s = aft pre s ++ [x.1] := by
  unfold aft LabM.after; rw [List.map_append, List.filter_append]; simp [h]
theorem aft_no {pre : List LabM.Txt} {s : ByteArray} {x : LabM.Txt} (h : LabM.lessS s x.1 = false) : aft (pre ++ [x]) s = aft pre s := by
  unfold aft LabM.after; rw [List.map_append, List.filter_append]; simp [h]
theorem aft_prefix {pre xs : List LabM.Txt} (s : ByteArray) (h : pre <+: xs) : aft pre s <+: aft xs s := by
  obtain ⟨t, rfl⟩ := h
  unfold aft LabM.after
  rw [List.map_append, List.filter_append]
  exact List.prefix_append _ _

theorem row_lt {W : World} {base : Nat} {e : TypeId} {v : Value} {n : Nat} {xs : List Value} (h : W.ownsRow base e 1 v n xs) {B : Nat} (hB : B < base) : some B ≠ v.ownBlock := fun e1 => by
  have := (World.ownsRow.lt h B e1.symm).1
  omega
theorem row_weak {W : World} {base base' : Nat} {e : TypeId} {v : Value} {n : Nat} {xs : List Value} (h : W.ownsRow base e 1 v n xs) (hb : base' ≤ base) : W.ownsRow base' e 1 v n xs := by
  refine ⟨h.1, ?_⟩
  rcases h.2 with h2 | ⟨g, cap, cur, h1, h2, h3⟩
  · exact .inl h2
  · exact .inr ⟨g, cap, cur, h1, by omega, h3⟩

set_option maxHeartbeats 4000000 in
theorem after_any (A : Option Addr) (l : List ByteArray) (c : Nat) (s : ByteArray) (most : Int) (w : World) (h : StrsAt w A l) (hc : l.length ≤ c) (hc2 : c ≤ maxLen) (hl : l.length ≤ 1048576) (hs : s.size ≤ 9223372036854775807) (hsa : Sane l) (hm : -9223372036854775808 ≤ most ∧ most ≤ 9223372036854775807) :
    Calls Try.prog 15 #[.slice A l.length c, .string s, .int .i64 most] w (AfterPost w l s most) := by
  obtain ⟨xs, hxs⟩ := LabM.txts l hsa
  have hxl : xs.length ≤ 1048576 := by
    have h2 : xs.length = l.length := by rw [← hxs, List.length_map]
    omega
  have hflat : xs.map Subtype.val = [l].flatten := by rw [hxs]; simp
  have H := Lib.hid h; have HX := Lib.hid hxs; have HF := Lib.hid hflat
  clear h hsa hxs hflat
  refine (callsIn_wide (n := 12)).1 ?_
  refine callsIn_of_wp_marks Try.func15 rfl trivial ?_ rfl
  simp only [Try.ntmps15, List.size_toArray, List.length_cons, List.length_nil, Nat.reduceAdd, Nat.reduceSub, Array.replicate_succ, Array.replicate_zero, List.push_toArray, List.append_toArray, List.nil_append, List.cons_append]
  gi_wp2_with fail
  refine ⟨trivial, ?_⟩
  refine (texts_in Fence.wide _ trivial rfl _ _ _ _).mono ?_
  rintro e w' ⟨rfl, rfl⟩
  gi_wp2_with fail
  obtain ⟨b0, hb0⟩ : ∃ b, b = w.heap.size := ⟨_, rfl⟩
  have q0 := (((((Boxed.new w 9 (.string s)).alloc (.cells #[.int .i64 most] 3)).alloc (.cells #[.slice none 0 0] 25)).alloc (.cells #[.bool false] 4)).alloc (.cells #[.slice none 0 0] 25)).alloc (.cells #[.slice A l.length c] 25)
  have q1 := ((((Boxed.new (w.alloc (.cells #[.string s] 9)) 3 (.int .i64 most)).alloc (.cells #[.slice none 0 0] 25)).alloc (.cells #[.bool false] 4)).alloc (.cells #[.slice none 0 0] 25)).alloc (.cells #[.slice A l.length c] 25)
  have q2 := (((Boxed.new ((w.alloc (.cells #[.string s] 9)).alloc (.cells #[.int .i64 most] 3)) 25 (.slice none 0 0)).alloc (.cells #[.bool false] 4)).alloc (.cells #[.slice none 0 0] 25)).alloc (.cells #[.slice A l.length c] 25)
  have q3 := ((Boxed.new (((w.alloc (.cells #[.string s] 9)).alloc (.cells #[.int .i64 most] 3)).alloc (.cells #[.slice none 0 0] 25)) 4 (.bool false)).alloc (.cells #[.slice none 0 0] 25)).alloc (.cells #[.slice A l.length c] 25)
  have q4 := (Boxed.new ((((w.alloc (.cells #[.string s] 9)).alloc (.cells #[.int .i64 most] 3)).alloc (.cells #[.slice none 0 0] 25)).alloc (.cells #[.bool false] 4)) 25 (.slice none 0 0)).alloc (.cells #[.slice A l.length c] 25)
  have q5 := Boxed.new (((((w.alloc (.cells #[.string s] 9)).alloc (.cells #[.int .i64 most] 3)).alloc (.cells #[.slice none 0 0] 25)).alloc (.cells #[.bool false] 4)).alloc (.cells #[.slice none 0 0] 25)) 25 (.slice A l.length c)
  have hB5 : Below w.heap.size w ((((((w.alloc (.cells #[.string s] 9)).alloc (.cells #[.int .i64 most] 3)).alloc (.cells #[.slice none 0 0] 25)).alloc (.cells #[.bool false] 4)).alloc (.cells #[.slice none 0 0] 25)).alloc (.cells #[.slice A l.length c] 25)) :=
    (((((balloc w _).alloc (by simp) _).alloc (by simp; omega) _).alloc (by simp; omega) _).alloc (by simp; omega) _).alloc (by simp; omega) _
  have hz5 : ((((((w.alloc (.cells #[.string s] 9)).alloc (.cells #[.int .i64 most] 3)).alloc (.cells #[.slice none 0 0] 25)).alloc (.cells #[.bool false] 4)).alloc (.cells #[.slice none 0 0] 25)).alloc (.cells #[.slice A l.length c] 25)).heap.size = w.heap.size + 6 := by simp
  simp only [World.size_alloc] at q1 q2 q3 q4 q5
  obtain ⟨W5, hW5⟩ : ∃ W5, (((((w.alloc (.cells #[.string s] 9)).alloc (.cells #[.int .i64 most] 3)).alloc (.cells #[.slice none 0 0] 25)).alloc (.cells #[.bool false] 4)).alloc (.cells #[.slice none 0 0] 25)).alloc (.cells #[.slice A l.length c] 25) = W5 := ⟨_, rfl⟩
  rw [hW5] at q0 q1 q2 q3 q4 q5 hB5 hz5 ⊢
  clear hW5
  have q6 := Boxed.new W5 30 (.slice (some ⟨w.heap.size + 1 + 1 + 1 + 1 + 1, 0, none⟩) 1 1)
  have p0 := q0.alloc (.cells #[.slice (some ⟨w.heap.size + 1 + 1 + 1 + 1 + 1, 0, none⟩) 1 1] 30)
  have p1 := q1.alloc (.cells #[.slice (some ⟨w.heap.size + 1 + 1 + 1 + 1 + 1, 0, none⟩) 1 1] 30)
  have p2 := q2.alloc (.cells #[.slice (some ⟨w.heap.size + 1 + 1 + 1 + 1 + 1, 0, none⟩) 1 1] 30)
  have p3 := q3.alloc (.cells #[.slice (some ⟨w.heap.size + 1 + 1 + 1 + 1 + 1, 0, none⟩) 1 1] 30)
  have p4 := q4.alloc (.cells #[.slice (some ⟨w.heap.size + 1 + 1 + 1 + 1 + 1, 0, none⟩) 1 1] 30)
  have hB6 := hB5.alloc hB5.size (.cells #[.slice (some ⟨w.heap.size + 1 + 1 + 1 + 1 + 1, 0, none⟩) 1 1] 30)
  have hk6 : KeepB (w.heap.size + 6) (fun k => k = w.heap.size + 2 ∨ k = w.heap.size + 3 ∨ k = w.heap.size + 4) W5 (W5.alloc (.cells #[.slice (some ⟨w.heap.size + 1 + 1 + 1 + 1 + 1, 0, none⟩) 1 1] 30)) := by
    rw [← hz5]; exact KeepB.of_below (balloc W5 _)
  have hz6 : (W5.alloc (.cells #[.slice (some ⟨w.heap.size + 1 + 1 + 1 + 1 + 1, 0, none⟩) 1 1] 30)).heap.size = w.heap.size + 7 := by simp [hz5]
  have hO : ListsOut W5 (w.heap.size + 6) (fun k => k = w.heap.size + 2 ∨ k = w.heap.size + 3 ∨ k = w.heap.size + 4) (some ⟨w.heap.size + 1 + 1 + 1 + 1 + 1, 0, none⟩) [l] := fun i hi => by
    obtain rfl : i = 0 := by simpa using hi
    refine ⟨_, 0, A, c, rfl, q5.cell, by show l.length ≤ maxLen; omega, H.out.below hB5, by omega, by omega, fun h0 a e => ?_⟩
    have := CellsAt.lt H.out (by rw [LabM.strV_len]; exact h0) a e
    exact ⟨by omega, by omega⟩
  obtain ⟨W0, hW0⟩ : ∃ W0, W5.alloc (.cells #[.slice (some ⟨w.heap.size + 1 + 1 + 1 + 1 + 1, 0, none⟩) 1 1] 30) = W0 := ⟨_, rfl⟩
  rw [hW0] at q6 p0 p1 p2 p3 p4 hB6 hk6 hz6 ⊢
  rw [hz5] at q6
  clear hW0 q0 q1 q2 q3 q4 q5 hB5 hb0 b0
  obtain ⟨i0, hi, hz0, hz1, hz2⟩ := str_info'
  refine wpIn_rangeFunc_ownG rfl (by omega) (gf := 37) (lb := #[.pointer (some ⟨w.heap.size + 1 + 1 + 1 + 1 + 1 + 1, 0, none⟩)]) rfl trivial (enters_of Try.func37 (by kernel_rfl) rfl)
    (texts_stopsB Fence.wide 11 trivial rfl (by omega) (w.heap.size + 1 + 1 + 1 + 1 + 1 + 1) W5 (w.heap.size + 6) _ _ [l] 1 hO (by simp) xs HF.out W0 q6.cell hk6 (by omega)) (fun h k => KeepB.trans h k) (fun W l o o' h1 h2 h3 h4 => KeepB.put _ _ (by omega) W l o o' h1 h2 h3 h4) (Below.refl _ _) (fun _ => rfl)
    (fun pre W => ((((((Boxed W w.heap.size 9 (.string s) ∧ Boxed W (w.heap.size + 1) 3 (.int .i64 most)) ∧ Boxed W (w.heap.size + 1 + 1) 25 (.slice none 0 0)) ∧ Boxed W (w.heap.size + 1 + 1 + 1) 4 (.bool false)) ∧ Boxed W (w.heap.size + 6) 30 (.slice (some ⟨w.heap.size + 1 + 1 + 1 + 1 + 1, 0, none⟩) 1 1)) ∧
      (∃ v, Boxed W (w.heap.size + 1 + 1 + 1 + 1) 25 v ∧ W.ownsRow (w.heap.size + 7) 9 1 v (aft pre s).length (LabM.strV (aft pre s)) ∧ (aft pre s).length ≤ most.toNat)) ∧ Below w.heap.size w W))
    (fun c pre W => (((c = .ret ∧ most.toNat < (aft pre s).length) ∧ (∃ v, Boxed W (w.heap.size + 1 + 1) 25 v ∧ W.ownsRow (w.heap.size + 7) 9 1 v ((aft pre s).take most.toNat).length (LabM.strV ((aft pre s).take most.toNat)) ∧ True)) ∧ Boxed W (w.heap.size + 1 + 1 + 1) 4 (.bool false)) ∧ Below w.heap.size w W)
    (OwnFrom.and (OwnFrom.and (OwnFrom.and (OwnFrom.and (OwnFrom.and (OwnFrom.and (Own.from (boxed_own _ _ _) _) (Own.from (boxed_own _ _ _) _)) (Own.from (boxed_own _ _ _) _)) (Own.from (boxed_own _ _ _) _)) (Own.from (boxed_own _ _ _) _)) (Own.from (holdsRow_own _ _ _ _ 1 (fun pre => (aft pre s).length) (fun pre => LabM.strV (aft pre s)) (fun pre _ => (aft pre s).length ≤ most.toNat)) _)) (ownFrom_below (Nat.le_refl _) (by omega)))
    (fun c => OwnFrom.and (OwnFrom.and (OwnFrom.and (ownFrom_pure _ _) (Own.from (holdsRow_own _ _ _ _ 1 (fun pre => ((aft pre s).take most.toNat).length) (fun pre => LabM.strV ((aft pre s).take most.toNat)) (fun _ _ => True)) _)) (Own.from (boxed_own _ _ _) _)) (ownFrom_below (Nat.le_refl _) (by omega)))
    ⟨⟨⟨⟨⟨⟨p0, p1⟩, p2⟩, p3⟩, q6⟩, _, p4, World.ownsRow_nil _ _ _ _, by simp [aft, LabM.after]⟩, hB6⟩
    (fun x => { tmps := #[.slice A l.length c, .string s, .int .i64 most, undef, .pointer (some ⟨w.heap.size, 0, none⟩), .pointer (some ⟨w.heap.size + 1, 0, none⟩), .pointer (some ⟨w.heap.size + 1 + 1, 0, none⟩), .pointer (some ⟨w.heap.size + 1 + 1 + 1, 0, none⟩), .pointer (some ⟨w.heap.size + 1 + 1 + 1 + 1, 0, none⟩), .string x.1, .slice A l.length c, .slice (some ⟨w.heap.size + 1 + 1 + 1 + 1 + 1, 0, none⟩) 1 1, .func (.func 37) #[] #[.pointer (some ⟨w.heap.size + 1 + 1 + 1 + 1 + 1 + 1, 0, none⟩)], .string x.1, undef, undef, undef, undef, undef, undef, undef, undef, undef, undef, undef, undef, undef, undef], defers := [] }) ?assign ?body ?done ?stop
  case assign =>
    intro l x W K hK
    gi_wp2
    exact hK
  case body =>
    rintro lp pre x W ⟨⟨⟨⟨⟨⟨r0, r1⟩, r2⟩, r3⟩, r6⟩, v, r4, hrow, hle⟩, hB⟩ hlt
    have c0 := r0.cell
    have c1 := r1.cell
    have c4 := r4.cell
    have hzW := r6.lt
    gi_wp2_with fail
    refine ⟨trivial, ?_⟩
    refine (CallsIn.inRound lp (callsIn_wide.2 (less_same s x.1 W))).mono ?_
    rintro e w' ⟨rfl, hw'⟩
    subst hw'
    rename World => W
    rcases hx : LabM.lessS s x.1 with _ | _
    · have e1 := aft_no (pre := pre) (x := x) hx
      gi_wp2
      exact ⟨KeepsFrom.refl _ _, KeepB.refl _ _ _, by dsimp only; rw [e1]; exact ⟨⟨⟨⟨⟨⟨r0, r1⟩, r2⟩, r3⟩, r6⟩, _, r4, hrow, hle⟩, hB⟩⟩
    · have e1 := aft_yes (pre := pre) (x := x) hx
      obtain ⟨X, d, hv, hd1, hd2, _, _, _⟩ := ownV_cells hrow
      subst hv
      have hpl : (aft pre s).length ≤ 1048576 := by
        have h1 : (aft pre s).length ≤ (pre.map Subtype.val).length := List.length_filter_le _ _
        rw [List.length_map] at h1
        omega
      by_cases hge : most ≤ ((aft pre s).length : Int)
      · have hlen : (aft pre s).length = most.toNat := by omega
        have e2 : (aft (pre ++ [x]) s).take most.toNat = aft pre s := by rw [e1, ← hlen, List.take_left]
        have c2 := r2.cell
        have c3 := r3.cell
        have f2 := r2.frozen
        have f3 := r3.frozen
        have s2 := (r2.set (.slice X (aft pre s).length d)).other (B' := w.heap.size + 1 + 1 + 1) (by omega) (.bool false)
        have s3 := (r3.other (B' := w.heap.size + 1 + 1) (by omega) (.slice X (aft pre s).length d)).set (.bool false)
        have srow := (hrow.kept (grownBy_setCell' W (w.heap.size + 1 + 1) (.slice X (aft pre s).length d)) (.inr (row_lt hrow (by omega)).symm)).kept (grownBy_setCell' _ (w.heap.size + 1 + 1 + 1) (.bool false)) (.inr (row_lt hrow (by omega)).symm)
        have sB := (hB.setCell (p := ⟨w.heap.size + 1 + 1, 0, none⟩) (by simp; omega) (.slice X (aft pre s).length d)).setCell (p := ⟨w.heap.size + 1 + 1 + 1, 0, none⟩) (by simp; omega) (.bool false)
        have S2 := Lib.hid s2; have S3 := Lib.hid s3; have SR := Lib.hid srow; have SB := Lib.hid sB; have E1 := Lib.hid e1; have E2 := Lib.hid e2; have HL := Lib.hid hlen
        clear s2 s3 srow sB e1 e2 hlen
        gi_wp2
        refine ⟨((KeepsOthers.setCell _ _ _).trans (KeepsOthers.setCell _ _ _)).from _, ?_⟩
        dsimp only
        rw [E2.out]
        exact ⟨⟨⟨⟨rfl, by rw [E1.out, List.length_append, ← HL.out]; simp⟩, _, S2.out, SR.out, trivial⟩, S3.out⟩, SB.out⟩
      · have hge2 : (aft pre s).length < most.toNat := by omega
        have E1 := Lib.hid e1
        clear e1
        gi_wp2_with (gi_at_builtin; refine wpListIn_append_own _ rfl _ _ 25 rfl (w.heap.size + 7) 9 i0 (.string ByteArray.empty) 1 16 Try.underlying25 hi hz0 hz1 hz2 rfl (by decide) _ _ _ rfl (hrow.alloc _) ⟨W.heap.size, 0, none⟩ 1 1 [.string x.1] rfl rfl (cell_one_new _ _ _) (by simp [Value.oneCell']) (by unfold maxLen; omega) (by omega) (by simp; omega) ?_; intro v' w1 hown' hgrow _; obtain ⟨g', cap', rfl⟩ := ownsRow_succ hown'; obtain ⟨hv1, hv2, hr2, hk2, hb2⟩ := r4.appended (by decide) (row_weak hrow (base' := w.heap.size) (by omega)) hB.size (by omega) (row_weak hown' (by omega)) hgrow; have hc1 := hv1.cell; have hf1 := hv1.frozen)
        have hKB : ∀ k, k < w.heap.size + 7 → k ≠ w.heap.size + 1 + 1 + 1 + 1 → (w1.setCell ⟨w.heap.size + 1 + 1 + 1 + 1, 0, none⟩ (.slice (some ⟨g', 0, none⟩) ((aft pre s).length + 1) cap')).heap[k]? = W.heap[k]? := fun k hk hne =>
          (Below.heap_setCell _ _ _ k (by simpa using hne)).trans ((hgrow.block k (by simp; omega) (row_lt hrow (by omega))).trans (Below.heap_alloc W _ k (by omega)))
        refine ⟨hk2.from _, fun k hk hG => hKB k (by omega) (by omega), ?_⟩
        dsimp only
        rw [E1.out]
        refine ⟨⟨⟨⟨⟨⟨(hKB _ (by omega) (by omega)).trans r0, (hKB _ (by omega) (by omega)).trans r1⟩, (hKB _ (by omega) (by omega)).trans r2⟩, (hKB _ (by omega) (by omega)).trans r3⟩, (hKB _ (by omega) (by omega)).trans r6⟩, _, hv2, ?_, by simp; omega⟩, hB.trans hb2⟩
        have := hown'.kept (grownBy_setCell' w1 (w.heap.size + 1 + 1 + 1 + 1) (.slice (some ⟨g', 0, none⟩) ((aft pre s).length + 1) cap')) (.inr (row_lt hown' (by omega)).symm)
        rw [List.length_append, show LabM.strV (aft pre s ++ [x.1]) = LabM.strV (aft pre s) ++ [.string x.1] from by simp [LabM.strV]]
        exact this
  case done =>
    rintro D ys W hD rfl ⟨⟨⟨⟨⟨⟨r0, r1⟩, r2⟩, r3⟩, r6⟩, v, r4, hrow, hle⟩, hB⟩ hK
    have hzW := r6.lt
    have c4 := r4.cell
    obtain ⟨X, d, hv, hd1, hd2, _, _, _⟩ := ownV_cells hrow
    subst hv
    have c2 := r2.cell
    have c3 := r3.cell
    have f2 := r2.frozen
    have f3 := r3.frozen
    have s2 := (r2.set (.slice X (aft ys s).length d)).other (B' := w.heap.size + 1 + 1 + 1) (by omega) (.bool true)
    have s3 := (r3.other (B' := w.heap.size + 1 + 1) (by omega) (.slice X (aft ys s).length d)).set (.bool true)
    have srow := (hrow.kept (grownBy_setCell' W (w.heap.size + 1 + 1) (.slice X (aft ys s).length d)) (.inr (row_lt hrow (by omega)).symm)).kept (grownBy_setCell' _ (w.heap.size + 1 + 1 + 1) (.bool true)) (.inr (row_lt hrow (by omega)).symm)
    have sB := (hB.setCell (p := ⟨w.heap.size + 1 + 1, 0, none⟩) (by simp; omega) (.slice X (aft ys s).length d)).setCell (p := ⟨w.heap.size + 1 + 1 + 1, 0, none⟩) (by simp; omega) (.bool true)
    have hK' := ((KeepsOthers.setCell W ⟨w.heap.size + 1 + 1, 0, none⟩ (.slice X (aft ys s).length d)).trans (KeepsOthers.setCell _ ⟨w.heap.size + 1 + 1 + 1, 0, none⟩ (.bool true))).same D _ hK rfl
    have k2 := cell_kept s2.cell (grownBy_putObj' _ D (.deferred none)) (fun r e => by cases e; exact ⟨_, hK', rfl⟩)
    have k3 := cell_kept s3.cell (grownBy_putObj' _ D (.deferred none)) (fun r e => by cases e; exact ⟨_, hK', rfl⟩)
    have krow := ownsRow_putObj srow (.deferred none) hK' rfl
    have kB := sB.trans (belowK_b (w := w) (Nat.le_refl _) _ D _ (.deferred none) (by omega) hK' rfl rfl)
    have ha : aft ys s = LabM.after l s := by unfold aft; rw [HX.out]
    have t1 : (LabM.after l s).take most.toNat = aft ys s := by rw [← ha]; exact List.take_of_length_le hle
    have t2 : decide (¬ most.toNat < (LabM.after l s).length) = true := by rw [← ha]; exact decide_eq_true (by omega)
    obtain ⟨Y, d', hv', e1, e2, hY, _⟩ := OwnS.strs (base := w.heap.size + 7) krow
    injection hv' with hv1 _ hv3
    subst hv1
    subst hv3
    have T1 := Lib.hid t1; have T2 := Lib.hid t2
    clear ha t1 t2 e1 e2 hle
    gi_wp2
    refine ⟨by simp, .inl ⟨_, _, rfl, run_takeDeferred hK', ?_⟩⟩
    refine ⟨.tuple #[.slice X (aft ys s).length d, .bool true], ?_, X, d, by rw [T1.out, T2.out], by rw [T1.out]; exact hd1, hd2, by rw [T1.out]; exact hY, kB⟩
    simp [results, Try.f15, go_sem, k2, k3]
  case stop =>
    rintro D c pre W hD hpre ⟨⟨⟨⟨rfl, hlt⟩, v, r2, hrow, _⟩, r3⟩, hB⟩ hK
    obtain ⟨X, d, hv, hd1, hd2, _, _, _⟩ := ownV_cells hrow
    subst hv
    have k2 := cell_kept r2.cell (grownBy_putObj' _ D (.deferred none)) (fun r e => by cases e; exact ⟨_, hK, rfl⟩)
    have k3 := cell_kept r3.cell (grownBy_putObj' _ D (.deferred none)) (fun r e => by cases e; exact ⟨_, hK, rfl⟩)
    have krow := ownsRow_putObj hrow (.deferred none) hK rfl
    have kB := hB.trans (belowK_b (w := w) (Nat.le_refl _) _ D _ (.deferred none) (by omega) hK rfl rfl)
    have ha : aft xs s = LabM.after l s := by unfold aft; rw [HX.out]
    obtain ⟨rest, hr⟩ := aft_prefix s hpre
    have t1 : (LabM.after l s).take most.toNat = (aft pre s).take most.toNat := by rw [← ha, ← hr, List.take_append_of_le_length (by omega)]
    have t2 : decide (¬ most.toNat < (LabM.after l s).length) = false := by rw [← ha, ← hr, List.length_append]; exact decide_eq_false (by omega)
    obtain ⟨Y, d', hv', e1, e2, hY, _⟩ := OwnS.strs (base := w.heap.size + 7) krow
    injection hv' with hv1 _ hv3
    subst hv1
    subst hv3
    have T1 := Lib.hid t1; have T2 := Lib.hid t2
    clear ha t1 t2 e1 e2 hr
    gi_wp2
    refine ⟨by simp, .inl ⟨_, _, rfl, run_takeDeferred hK, ?_⟩⟩
    refine ⟨.tuple #[.slice X ((aft pre s).take most.toNat).length d, .bool false], ?_, X, d, by rw [T1.out, T2.out], by rw [T1.out]; exact hd1, hd2, by rw [T1.out]; exact hY, kB⟩
    simp [results, Try.f15, go_sem, k2, k3]
end Go.Proofs.Ytjfjflkflnebgaa.Label
