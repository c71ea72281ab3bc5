/- the walks of layer 7's laws -/
import Derived.Test.YtjfjflkflnebgaaLabel
import Derived.Test.YtjfjflkflnebgaaOpenT
import Derived.Test.YtjfjflkflnebgaaR01
import Derived.Test.YtjfjflkflnebgaaLaw06B
set_option maxRecDepth 100000
namespace Go.Proofs.Ytjfjflkflnebgaa.Law07
open Go.RowKit R07

theorem alive_any (w : World) : Calls Try.prog 6 #[] w fun e w' => e = .returned (.bool true) ∧ Below w.heap.size w w' := by
  have n1 : LabM.lessS ⟨#[97]⟩ ⟨#[97, 45]⟩ = true := by decide +kernel
  have n2 : LabM.right (⟨#[45, 97]⟩ : ByteArray).data.toList = false := by decide +kernel
  have n3 : LabM.right (⟨#[97, 45, 49]⟩ : ByteArray).data.toList = true := by decide +kernel
  have n4 : LabM.merge [[⟨#[98]⟩], [⟨#[97]⟩, ⟨#[98]⟩]] = [⟨#[97]⟩, ⟨#[98]⟩] := by decide +kernel
  have C1 := fun W => Label.less_any ⟨#[97]⟩ ⟨#[97, 45]⟩ W (by decide) (by decide)
  have C2 := fun W => Label.right_any ⟨#[45, 97]⟩ W (by decide)
  have C3 := fun W => Label.right_any ⟨#[97, 45, 49]⟩ W (by decide)
  rw [n1] at C1
  rw [n2] at C2
  rw [n3] at C3
  have HC1 := Lib.hid C1; have HC2 := Lib.hid C2; have HC3 := Lib.hid C3; have N4 := Lib.hid n4
  clear n1 n2 n3 n4 C1 C2 C3
  go_enter Try.func6, Try.ntmps6
  go_wp2_with fail
  refine (HC1.out _).mono ?_
  rintro e w1 ⟨rfl, hq⟩
  have hb1 := bquiet hq
  clear hq
  go_wp2_with fail
  refine (HC2.out _).mono ?_
  rintro e w2 ⟨rfl, hq⟩
  have hb2 := bquiet hq
  clear hq
  go_wp2_with fail
  refine (HC3.out _).mono ?_
  rintro e w3 ⟨rfl, hq⟩
  have hb3 := bquiet hq
  clear hq
  have s1 : StrsAt ((w3.alloc (.cells #[.string ⟨#[98]⟩] 9)).alloc (.cells #[.string ⟨#[97]⟩, .string ⟨#[98]⟩] 9)) (some ⟨w3.heap.size, 0, none⟩) [⟨#[98]⟩] := StrsAt.below (CellsAt.lit w3 #[.string ⟨#[98]⟩] _) (balloc _ _)
  have s2 : StrsAt ((w3.alloc (.cells #[.string ⟨#[98]⟩] 9)).alloc (.cells #[.string ⟨#[97]⟩, .string ⟨#[98]⟩] 9)) (some ⟨w3.heap.size + 1, 0, none⟩) [⟨#[97]⟩, ⟨#[98]⟩] := by
    have := CellsAt.lit (w3.alloc (.cells #[.string ⟨#[98]⟩] 9)) #[.string ⟨#[97]⟩, .string ⟨#[98]⟩] 9
    rw [show (w3.alloc (.cells #[.string ⟨#[98]⟩] 9)).heap.size = w3.heap.size + 1 from by simp] at this
    exact this
  have s3 := ListsAt.lit2 (c := 1) (d := 2) s1 (by decide) (by unfold maxLen; omega) s2 (by decide) (by unfold maxLen; omega)
  rw [show ((w3.alloc (.cells #[.string ⟨#[98]⟩] 9)).alloc (.cells #[.string ⟨#[97]⟩, .string ⟨#[98]⟩] 9)).heap.size = w3.heap.size + 1 + 1 from by simp] at s3
  have S3 := Lib.hid s3
  clear s1 s2 s3
  go_wp2_with fail
  have C := Label.merge_any (some ⟨w3.heap.size + 1 + 1, 0, none⟩) [[⟨#[98]⟩], [⟨#[97]⟩, ⟨#[98]⟩]] 2 _ S3.out (by decide) (fun i hi => by
    match i, hi with
    | 0, _ => show 1 ≤ 1000; omega
    | 1, _ => show 2 ≤ 1000; omega) (fun i hi x hx => by
    match i, hi with
    | 0, _ => simp only [List.getElem_cons_zero, List.mem_singleton] at hx; subst hx; decide
    | 1, _ =>
      simp only [List.getElem_cons_succ, List.getElem_cons_zero, List.mem_cons, List.not_mem_nil, or_false] at hx
      rcases hx with rfl | rfl <;> decide)
  rw [N4.out] at C
  refine C.mono ?_
  clear C S3
  rintro e w4 ⟨X, d, rfl, _, _, hX, hb4⟩
  have hb4 : Below w3.heap.size w3 w4 := bstep (balloc _ _) (bstep (balloc _ _) (bstep (balloc _ _) hb4))
  have HX := Lib.hid hX
  clear hX
  go_wp2_with fail
  have C := R07.same_any X (some ⟨w4.heap.size, 0, none⟩) [⟨#[97]⟩, ⟨#[98]⟩] [⟨#[97]⟩, ⟨#[98]⟩] d 2 (w4.alloc (.cells #[.string ⟨#[97]⟩, .string ⟨#[98]⟩] 9)) (HX.out.below (balloc _ _)) (CellsAt.lit w4 #[.string ⟨#[97]⟩, .string ⟨#[98]⟩] _) (by decide) (by decide)
  rw [LabM.sameT_self] at C
  refine C.mono ?_
  clear C
  rintro e w5 ⟨rfl, hq⟩
  have hb5 : Below w4.heap.size w4 w5 := bstep (balloc _ _) (bquiet hq)
  clear hq
  go_wp2
  go_ret
  exact ⟨rfl, bstep hb1 (bstep hb2 (bstep hb3 (bstep hb4 hb5)))⟩

theorem names_any (a b : ByteArray) (w : World) (ha : a.size ≤ 9223372036854775807) (hb : b.size ≤ 9223372036854775807) :
    Calls Try.prog 3 #[.string a, .string b] w fun e w' => e = .returned (.bool true) ∧ Below w.heap.size w w' := by
  by_cases h1 : 60 < a.size
  · go_enter Try.func3, Try.ntmps3
    go_wp2_with fail
    refine (alive_any _).mono ?_
    rintro e w2 ⟨rfl, hb2⟩
    go_wp2
    go_ret
    exact ⟨rfl, hb2⟩
  by_cases h2 : 60 < b.size
  · go_enter Try.func3, Try.ntmps3
    go_wp2_with fail
    refine (alive_any _).mono ?_
    rintro e w2 ⟨rfl, hb2⟩
    go_wp2
    go_ret
    exact ⟨rfl, hb2⟩
  have C1 := fun W => Label.right_any a W ha
  have C2 := fun W => R07.right_any a W ha
  have C3 := fun W => Label.less_any a b W ha hb
  have C4 := fun W => R07.less_any a b W ha hb
  have C5 := fun W => Label.less_any b a W hb ha
  have has : LabM.lessS a b = true → LabM.lessS b a = false := fun h => LabM.less_asymm h
  rw [show LabM.less a.data.toList b.data.toList = LabM.lessS a b from rfl] at C4
  generalize LabM.right a.data.toList = r at *
  generalize LabM.lessS a b = x at *
  generalize LabM.lessS b a = y at *
  have HC1 := Lib.hid C1; have HC2 := Lib.hid C2; have HC3 := Lib.hid C3; have HC4 := Lib.hid C4; have HC5 := Lib.hid C5
  clear C1 C2 C3 C4 C5
  rcases x with _ | _
  · clear has
    go_enter Try.func3, Try.ntmps3
    go_wp2_with fail
    refine (HC1.out _).mono ?_
    rintro e w1 ⟨rfl, hq⟩
    have hb1 := bquiet hq
    clear hq
    go_wp2_with fail
    refine (HC2.out _).mono ?_
    rintro e w9 ⟨rfl, rfl⟩
    go_wp2_with fail
    refine (HC3.out _).mono ?_
    rintro e w2 ⟨rfl, hq⟩
    have hb2 := bquiet hq
    clear hq
    go_wp2_with fail
    refine (HC4.out _).mono ?_
    rintro e w3 ⟨rfl, hq⟩
    have hb3 := bquiet hq
    clear hq
    go_wp2_with fail
    refine (HC3.out _).mono ?_
    rintro e w4 ⟨rfl, hq⟩
    have hb4 := bquiet hq
    clear hq
    go_wp2_with fail
    refine (alive_any _).mono ?_
    rintro e w6 ⟨rfl, hb6⟩
    go_wp2
    go_ret
    exact ⟨rfl, bstep hb1 (bstep hb2 (bstep hb3 (bstep hb4 hb6)))⟩
  · obtain rfl : y = false := has rfl
    clear has
    go_enter Try.func3, Try.ntmps3
    go_wp2_with fail
    refine (HC1.out _).mono ?_
    rintro e w1 ⟨rfl, hq⟩
    have hb1 := bquiet hq
    clear hq
    go_wp2_with fail
    refine (HC2.out _).mono ?_
    rintro e w9 ⟨rfl, rfl⟩
    go_wp2_with fail
    refine (HC3.out _).mono ?_
    rintro e w2 ⟨rfl, hq⟩
    have hb2 := bquiet hq
    clear hq
    go_wp2_with fail
    refine (HC4.out _).mono ?_
    rintro e w3 ⟨rfl, hq⟩
    have hb3 := bquiet hq
    clear hq
    go_wp2_with fail
    refine (HC3.out _).mono ?_
    rintro e w4 ⟨rfl, hq⟩
    have hb4 := bquiet hq
    clear hq
    go_wp2_with fail
    refine (HC5.out _).mono ?_
    rintro e w5 ⟨rfl, hq⟩
    have hb5 := bquiet hq
    clear hq
    go_wp2_with fail
    refine (alive_any _).mono ?_
    rintro e w6 ⟨rfl, hb6⟩
    go_wp2
    go_ret
    exact ⟨rfl, bstep hb1 (bstep hb2 (bstep hb3 (bstep hb4 (bstep hb5 hb6))))⟩

set_option maxHeartbeats 1000000 in
theorem merges_any (A1 : Option Addr) (a : List ByteArray) (c1 : Nat) (A2 : Option Addr) (b : List ByteArray) (c2 : Nat) (most : Int) (w : World) (h1 : StrsAt w A1 a) (k1 : a.length ≤ c1) (m1 : c1 ≤ maxLen) (s1 : Sane a) (h2 : StrsAt w A2 b) (k2 : b.length ≤ c2) (m2 : c2 ≤ maxLen) (s2 : Sane b)
    (hm : -9223372036854775808 ≤ most ∧ most ≤ 9223372036854775807) :
    Calls Try.prog 4 #[.slice A1 a.length c1, .slice A2 b.length c2, .int .i64 most] w fun e w' => e = .returned (.bool true) ∧ Below w.heap.size w w' := by
  have n1 : a.length ≤ 9223372036854775807 := by unfold maxLen at m1; omega
  have n2 : b.length ≤ 9223372036854775807 := by unfold maxLen at m2; omega
  have C1 := R07.far_any A1 a c1 w h1 n1 s1
  have C2 := R07.far_any A2 b c2 w h2 n2 s2
  rcases hf1 : LabM.farB a with _ | _
  · rw [hf1] at C1
    rcases hf2 : LabM.farB b with _ | _
    · rw [hf2] at C2
      obtain ⟨la, _⟩ := LabM.farB_no hf1
      obtain ⟨lb, _⟩ := LabM.farB_no hf2
      obtain ⟨L, hL⟩ : ∃ L, L = LabM.merge [a, b] := ⟨_, rfl⟩
      have hLl : L.length ≤ 1048576 := by
        have h := LabM.mergeTo_len [a, b] (fun i hi => by
          match i, hi with
          | 0, _ => show a.length ≤ 1000; omega
          | 1, _ => show b.length ≤ 1000; omega) 2 (by simp)
        have e := LabM.mergeTo_done [a, b]
        rw [hL, ← e]
        exact Nat.le_trans h (by omega)
      have hLs : Sane L := fun x hx => by
        rw [hL, ← LabM.mergeTo_done] at hx
        obtain ⟨i, hi, hx⟩ := LabM.mergeTo_mem (Nat.le_refl _) hx
        match i, hi with
        | 0, _ => exact s1 x hx
        | 1, _ => exact s2 x hx
      have M1 := fun W c X (h : ListsAt W X [a, b]) => Label.merge_any X [a, b] c W h (by simp) (fun i hi => by
        match i, hi with
        | 0, _ => show a.length ≤ 1000; omega
        | 1, _ => show b.length ≤ 1000; omega) (fun i hi => by
        match i, hi with
        | 0, _ => exact s1
        | 1, _ => exact s2)
      have M2 := fun W c X (h : ListsAt W X [a, b]) => R07.merge_any X [a, b] c W h (by simp) (fun i hi => by
        match i, hi with
        | 0, _ => show a.length ≤ 1000; omega
        | 1, _ => show b.length ≤ 1000; omega) (fun i hi => by
        match i, hi with
        | 0, _ => exact s1
        | 1, _ => exact s2)
      rw [← hL] at M1 M2
      have HM1 := Lib.hid M1; have HM2 := Lib.hid M2; have HLs := Lib.hid hLs; have H1 := Lib.hid h1; have H2 := Lib.hid h2; have HMM1 := Lib.hid m1; have HMM2 := Lib.hid m2; have HS1 := Lib.hid s1
      have K1 := Lib.hid k1; have K2 := Lib.hid k2
      clear hf1 hf2 hL hLs M1 M2 h1 h2 m1 m2 s1 s2
      have tail : ∀ (from_ : ByteArray), from_.size ≤ 9223372036854775807 → ∃ (R : List ByteArray) (ok : Bool), R.length ≤ 9223372036854775807 ∧ ∀ (X : Option Addr) (d : Nat) (W : World), StrsAt W X L → L.length ≤ d → d ≤ maxLen →
          Calls Try.prog 15 #[.slice X L.length d, .string from_, .int .i64 most] W (PartPost W R ok) ∧ Calls Try.prog 16 #[.slice X L.length d, .string from_, .int .i64 most] W (PartPost W R ok) := fun f hf =>
        ⟨(LabM.after L f).take most.toNat, decide (¬ most.toNat < (LabM.after L f).length), by have := LabM.after_len L f; simp; omega, fun X d W hX hd hd2 =>
          ⟨Label.after_any X L d f most W hX hd hd2 hLl hf HLs.out hm, R07.after_any X L d f most W hX hLl hf HLs.out hm⟩⟩
      have HT := Lib.hid tail
      clear tail
      by_cases h0 : 0 < a.length
      · have hfs : (a[0]).size ≤ 9223372036854775807 := HS1.out.at 0 h0
        go_enter Try.func4, Try.ntmps4
        go_wp2_with fail
        refine C1.mono ?_
        rintro e w9 ⟨rfl, rfl⟩
        go_wp2_with fail
        refine C2.mono ?_
        rintro e w9 ⟨rfl, rfl⟩
        clear C1 C2
        go_wp2_with fail
        refine (HM1.out _ 2 (some ⟨w.heap.size, 0, none⟩) (ListsAt.lit2 H1.out K1.out HMM1.out H2.out K2.out HMM2.out)).mono ?_
        rintro e w2 ⟨X, d, rfl, hd1, hd2, hX, hb2'⟩
        have hb2 : Below w.heap.size w w2 := bstep (balloc _ _) hb2'
        clear hb2'
        have HX := Lib.hid hX; have HD := Lib.hid hd1
        clear hX hd1
        go_wp2_with fail
        refine (HM2.out _ 2 (some ⟨w2.heap.size, 0, none⟩) (ListsAt.lit2 (H1.out.below hb2) K1.out HMM1.out (H2.out.below hb2) K2.out HMM2.out)).mono ?_
        rintro e w3 ⟨Y, f, rfl, _, _, hY, hb3'⟩
        have hb3 : Below w2.heap.size w2 w3 := bstep (balloc _ _) hb3'
        clear hb3'
        have HX := Lib.hid (HX.out.below hb3); have HY := Lib.hid hY
        clear hY
        go_wp2_with fail
        have C := R07.same_any X Y L L d f w3 HX.out HY.out (by omega) (by omega)
        rw [LabM.sameT_self] at C
        refine C.mono ?_
        clear C
        rintro e w4 ⟨rfl, hq⟩
        have hb4 := bquiet hq
        clear hq
        have HX := Lib.hid (HX.out.below hb4)
        obtain ⟨bb, oo, hAe, ec⟩ := (H1.out.below (bstep hb2 (bstep hb3 hb4))).at h0
        subst hAe
        rw [Nat.add_zero] at ec
        obtain ⟨R, ok, hRl, hRT⟩ := HT.out _ hfs
        have HRT := Lib.hid hRT
        clear hRT
        generalize a[0] = fr at *
        go_wp2_with fail
        refine ((HRT.out X d w4 HX.out HD.out hd2).1).mono ?_
        rintro e w5 ⟨P, p, rfl, _, _, hP, hb5⟩
        have HX := Lib.hid (HX.out.below hb5); have HP := Lib.hid hP
        clear hP ec
        go_wp2_with fail
        refine ((HRT.out X d w5 HX.out HD.out hd2).2).mono ?_
        rintro e w6 ⟨Q, q, rfl, _, _, hQ, hb6⟩
        have HP := Lib.hid (HP.out.below hb6); have HQ := Lib.hid hQ
        clear hQ
        go_wp2_with fail
        have C := R07.same_any P Q R R p q w6 HP.out HQ.out hRl hRl
        rw [LabM.sameT_self] at C
        refine C.mono ?_
        clear C
        rintro e w7 ⟨rfl, hq⟩
        have hb7 := bquiet hq
        clear hq
        go_wp2_with fail
        refine (alive_any w7).mono ?_
        rintro e w8 ⟨rfl, hb8⟩
        go_wp2
        go_ret
        exact ⟨rfl, bstep hb2 (bstep hb3 (bstep hb4 (bstep hb5 (bstep hb6 (bstep hb7 hb8)))))⟩
      · have hz0 : ¬ (0 : Int) < (a.length : Int) := by omega
        go_enter Try.func4, Try.ntmps4
        go_wp2_with fail
        refine C1.mono ?_
        rintro e w9 ⟨rfl, rfl⟩
        go_wp2_with fail
        refine C2.mono ?_
        rintro e w9 ⟨rfl, rfl⟩
        clear C1 C2
        go_wp2_with fail
        refine (HM1.out _ 2 (some ⟨w.heap.size, 0, none⟩) (ListsAt.lit2 H1.out K1.out HMM1.out H2.out K2.out HMM2.out)).mono ?_
        rintro e w2 ⟨X, d, rfl, hd1, hd2, hX, hb2'⟩
        have hb2 : Below w.heap.size w w2 := bstep (balloc _ _) hb2'
        clear hb2'
        have HX := Lib.hid hX; have HD := Lib.hid hd1
        clear hX hd1
        go_wp2_with fail
        refine (HM2.out _ 2 (some ⟨w2.heap.size, 0, none⟩) (ListsAt.lit2 (H1.out.below hb2) K1.out HMM1.out (H2.out.below hb2) K2.out HMM2.out)).mono ?_
        rintro e w3 ⟨Y, f, rfl, _, _, hY, hb3'⟩
        have hb3 : Below w2.heap.size w2 w3 := bstep (balloc _ _) hb3'
        clear hb3'
        have HX := Lib.hid (HX.out.below hb3); have HY := Lib.hid hY
        clear hY
        go_wp2_with fail
        have C := R07.same_any X Y L L d f w3 HX.out HY.out (by omega) (by omega)
        rw [LabM.sameT_self] at C
        refine C.mono ?_
        clear C
        rintro e w4 ⟨rfl, hq⟩
        have hb4 := bquiet hq
        clear hq
        have HX := Lib.hid (HX.out.below hb4)
        obtain ⟨R, ok, hRl, hRT⟩ := HT.out ⟨#[]⟩ (by decide)
        have HRT := Lib.hid hRT
        clear hRT
        go_wp2_with fail
        refine ((HRT.out X d w4 HX.out HD.out hd2).1).mono ?_
        rintro e w5 ⟨P, p, rfl, _, _, hP, hb5⟩
        have HX := Lib.hid (HX.out.below hb5); have HP := Lib.hid hP
        clear hP
        go_wp2_with fail
        refine ((HRT.out X d w5 HX.out HD.out hd2).2).mono ?_
        rintro e w6 ⟨Q, q, rfl, _, _, hQ, hb6⟩
        have HP := Lib.hid (HP.out.below hb6); have HQ := Lib.hid hQ
        clear hQ
        go_wp2_with fail
        have C := R07.same_any P Q R R p q w6 HP.out HQ.out hRl hRl
        rw [LabM.sameT_self] at C
        refine C.mono ?_
        clear C
        rintro e w7 ⟨rfl, hq⟩
        have hb7 := bquiet hq
        clear hq
        go_wp2_with fail
        refine (alive_any w7).mono ?_
        rintro e w8 ⟨rfl, hb8⟩
        go_wp2
        go_ret
        exact ⟨rfl, bstep hb2 (bstep hb3 (bstep hb4 (bstep hb5 (bstep hb6 (bstep hb7 hb8)))))⟩
    · rw [hf2] at C2
      clear hf1 hf2
      go_enter Try.func4, Try.ntmps4
      go_wp2_with fail
      refine C1.mono ?_
      rintro e w9 ⟨rfl, rfl⟩
      go_wp2_with fail
      refine C2.mono ?_
      rintro e w9 ⟨rfl, rfl⟩
      go_wp2_with fail
      refine (alive_any _).mono ?_
      rintro e w2 ⟨rfl, hb2⟩
      go_wp2
      go_ret
      exact ⟨rfl, hb2⟩
  · rw [hf1] at C1
    clear hf1 C2
    go_enter Try.func4, Try.ntmps4
    go_wp2_with fail
    refine C1.mono ?_
    rintro e w9 ⟨rfl, rfl⟩
    go_wp2_with fail
    refine (alive_any _).mono ?_
    rintro e w2 ⟨rfl, hb2⟩
    go_wp2
    go_ret
    exact ⟨rfl, hb2⟩

theorem raw_all (b : List UInt8) (h : b.length = 17) : PackM.rawL b ⟨0, false⟩ 17 = b ∧ PackM.rawS b ⟨0, false⟩ 17 = ⟨17, false⟩ := by
  have := Law06B.raw_at (b := b) (pre := []) (x := b) (rest := []) (by simp)
  rw [h] at this
  obtain ⟨u, v⟩ := this
  simp at u v
  exact ⟨u, by rw [v, h]⟩
theorem raw_some (b : List UInt8) (h : 17 ≤ b.length) : PackM.rawL b ⟨0, false⟩ 17 = b.take 17 ∧ PackM.rawS b ⟨0, false⟩ 17 = ⟨17, false⟩ := by
  have hl : (b.take 17).length = 17 := by rw [List.length_take]; omega
  have := Law06B.raw_at (b := b) (pre := []) (x := b.take 17) (rest := b.drop 17) (by simp)
  rw [hl] at this
  simpa [hl] using this
theorem raw_few (b : List UInt8) (h : b.length < 17) : PackM.rawL b ⟨0, false⟩ 17 = [] := by
  unfold PackM.rawL
  rw [if_pos (by simp; omega)]

set_option maxRecDepth 100000 in
set_option maxHeartbeats 2000000 in
theorem lback_any (s : ByteArray) (A : Option Addr) (b : List UInt8) (c : Nat) (w : World) (hs : s.size ≤ 9223372036854775807) (hb : BytesAt w A b) (k1 : b.length ≤ c) (m1 : c ≤ maxLen) :
    Calls Try.prog 5 #[.string s, .slice A b.length c] w fun e w' => e = .returned (.bool true) ∧ Below w.heap.size w w' := by
  have M1 := Lib.hid m1
  unfold maxLen at m1
  by_cases h1 : 60 < s.size
  · go_enter Try.func5, Try.ntmps5
    go_wp2_with fail
    refine (alive_any _).mono ?_
    rintro e w2 ⟨rfl, hb2⟩
    go_wp2
    go_ret
    exact ⟨rfl, hb2⟩
  by_cases h2 : 60 < b.length
  · go_enter Try.func5, Try.ntmps5
    go_wp2_with fail
    refine (alive_any _).mono ?_
    rintro e w2 ⟨rfl, hb2⟩
    go_wp2
    go_ret
    exact ⟨rfl, hb2⟩
  obtain ⟨P, hP⟩ : ∃ P, P = LabM.putB s.data.toList := ⟨_, rfl⟩
  have hPl : P.length = 17 := by rw [hP]; exact LabM.putB_len _
  have CP := fun W v l (h : Pack.WAt W w.heap.size w.heap.size v l) hl hbs => Label.put_any w.heap.size w.heap.size v l s W h hl hbs hs
  have CQ := fun W => R07.put_any s W hs
  rw [← hP] at CP CQ
  have CR := fun W => R07.right_any s W hs
  obtain ⟨r1, r2⟩ := raw_all P hPl
  have CG := fun g B W (h : Pack.RdAt W g B P ⟨0, false⟩) => Label.get_any g B P ⟨0, false⟩ W h (by omega)
  obtain ⟨T, is, hT, hGP⟩ : ∃ (T : ByteArray) (is : Bool), ((LabM.right s.data.toList = is) ∧ (is = true → T = s) ∧ (is = false → T = ⟨#[]⟩)) ∧ ∀ g B W, Pack.RdAt W g B P ⟨0, false⟩ →
      Calls Try.prog 21 #[.pointer (some ⟨g, 0, none⟩)] W fun e w' => e = .returned (.tuple #[.string T, .bool is]) ∧ Keeps (fun x => x = g) W w' := by
    refine ⟨LabM.getS P, LabM.getOk P, ⟨?_, fun h => ?_, fun h => ?_⟩, fun g B W h => (CG g B W h).mono ?_⟩
    · rcases hr : LabM.right s.data.toList with _ | _
      · rw [hP, LabM.get_none hr]
      · rw [hP, (LabM.get_put hr).1]
    · rcases hr : LabM.right s.data.toList with _ | _
      · rw [hP, LabM.get_none hr] at h; cases h
      · unfold LabM.getS; rw [if_pos h, hP, (LabM.get_put hr).2]
    · unfold LabM.getS; rw [if_neg (by rw [h]; simp)]
    · rintro e w' ⟨rfl, _, q⟩
      rw [r1, if_pos hPl, decide_eq_true hPl, Bool.true_and]
      exact ⟨rfl, q⟩
  obtain ⟨t1, t2, t3⟩ := hT
  rw [t1] at CR
  have HCP := Lib.hid CP; have HCQ := Lib.hid CQ; have HCR := Lib.hid CR; have HGP' := Lib.hid hGP; have HPL := Lib.hid hPl; have HB := Lib.hid hb; have K1 := Lib.hid k1
  clear CP CQ CR CG hGP hP hPl r1 r2 t1 hb k1
  go_enter Try.func5, Try.ntmps5
  go_wp2_with fail
  refine (HCP.out _ _ _ (Pack.WAt.start w 36) (by simp) (by simp)).mono ?_
  rintro e w1 ⟨rfl, v1, hw1, q1, _⟩
  have hb1 : Below w.heap.size w w1 := Pack.below_w (Pack.WAt.start w 36) (balloc _ _) q1 (Nat.le_refl _) (Nat.le_refl _) (by simp)
  rw [List.nil_append] at hw1
  have HW1 := Lib.hid hw1; have hz1 := hb1.size
  have HML := Lib.hid (show P.length ≤ maxLen by rw [HPL.out]; unfold maxLen; omega)
  have HP3 := Lib.hid (show P.length ≤ 1048576 by rw [HPL.out]; omega)
  clear hw1 q1
  go_wp2_with fail
  refine (Pack.wbytes_any _ _ _ _ _ HW1.out (by have := HP3.out; omega)).mono ?_
  rintro e w8 ⟨X, d, rfl, _, _, hX, hb8, _⟩
  have HX := Lib.hid hX; have HW8 := Lib.hid (HW1.out.below hb8)
  clear hX
  go_wp2_with fail
  refine (HCQ.out w8).mono ?_
  rintro e w2 ⟨Y, f, rfl, _, _, hY, hb2, _⟩
  have HY := Lib.hid hY; have HX2 := Lib.hid (HX.out.below hb2); have HW2 := Lib.hid (HW8.out.below hb2)
  clear hY
  go_wp2_with fail
  have C := R01.same_any X Y P P d f w2 HX2.out HY.out HML.out HML.out
  rw [same_self] at C
  refine C.mono ?_
  clear C
  rintro e w3 ⟨rfl, hq⟩
  have hb3 := bquiet hq
  have HW3 := Lib.hid (HW2.out.below hb3)
  clear hq
  go_wp2_with fail
  refine (Pack.wbytes_any _ _ _ _ _ HW3.out (by have := HP3.out; omega)).mono ?_
  rintro e w9 ⟨Z, dz, rfl, _, _, hZ, hb9, _⟩
  have HZ := Lib.hid hZ
  clear hZ
  go_wp2_with fail
  refine (Pack.read_any Z P dz w9 HZ.out HP3.out).mono ?_
  rintro e w4 ⟨g, A4, rfl, hr4, hb4, hg4, _⟩
  have HR4 := Lib.hid hr4
  clear hr4
  go_wp2_with fail
  refine (HGP'.out g A4 w4 HR4.out).mono ?_
  rintro e w5 ⟨rfl, q5⟩
  have hbb : Below w.heap.size w w4 := bstep hb1 (bstep hb8 (bstep hb2 (bstep hb3 (bstep hb9 hb4))))
  have hz3 : w.heap.size ≤ w9.heap.size := by have := hb8.size; have := hb2.size; have := hb3.size; have := hb9.size; omega
  have hb5 := below_keeps hbb q5 (fun k hk => by subst hk; omega) hbb.size
  have HB5 := Lib.hid hb5; have HBA := Lib.hid (HB.out.below hb5)
  clear q5 hbb hb5
  have fin : ∀ W, Below w.heap.size w W → True := fun _ _ => trivial
  clear fin
  have hfew := raw_few b
  have hsome := raw_some b
  by_cases h17 : b.length < 17
  · have hr := hfew h17
    have CF := fun g A W (h : Pack.RdAt W g A b ⟨0, false⟩) => Label.get_any g A b ⟨0, false⟩ W h (by omega)
    have HF : Hid (∀ g A W, Pack.RdAt W g A b ⟨0, false⟩ → Calls Try.prog 21 #[.pointer (some ⟨g, 0, none⟩)] W fun e w' => e = .returned (.tuple #[.string ⟨#[]⟩, .bool false]) ∧ Keeps (fun x => x = g) W w') := Lib.hid fun g A W h => (CF g A W h).mono (by
      rintro e w' ⟨rfl, _, q⟩
      rw [hr]
      exact ⟨by simp, q⟩)
    clear CF hr hfew hsome
    have hT2 : (is = true ∧ T = s) ∨ (is = false ∧ T = ⟨#[]⟩) := by
      rcases is with _ | _
      · exact Or.inr ⟨rfl, t3 rfl⟩
      · exact Or.inl ⟨rfl, t2 rfl⟩
    clear t2 t3
    rcases hT2 with ⟨rfl, rfl⟩ | ⟨rfl, rfl⟩
    · go_wp2_with fail
      refine (HCR.out w5).mono ?_
      rintro e w9 ⟨rfl, rfl⟩
      go_wp2_with fail
      refine (Pack.read_any A b c w5 HBA.out (by omega)).mono ?_
      rintro e w6 ⟨g2, A6, rfl, hr6, hb6, hg6, _⟩
      have HR6 := Lib.hid hr6
      clear hr6
      go_wp2_with fail
      refine (HF.out g2 A6 w6 HR6.out).mono ?_
      rintro e w7 ⟨rfl, q7⟩
      have hb7 := below_keeps (bstep HB5.out hb6) q7 (fun k hk => by subst hk; have := HB5.out.size; omega) (by have := HB5.out.size; have := hb6.size; omega)
      clear q7
      go_wp2_with fail
      refine (alive_any _).mono ?_
      rintro e w8 ⟨rfl, hb8⟩
      go_wp2
      go_ret
      exact ⟨rfl, bstep hb7 hb8⟩
    · go_wp2_with fail
      refine (HCR.out w5).mono ?_
      rintro e w9 ⟨rfl, rfl⟩
      go_wp2_with fail
      refine (Pack.read_any A b c w5 HBA.out (by omega)).mono ?_
      rintro e w6 ⟨g2, A6, rfl, hr6, hb6, hg6, _⟩
      have HR6 := Lib.hid hr6
      clear hr6
      go_wp2_with fail
      refine (HF.out g2 A6 w6 HR6.out).mono ?_
      rintro e w7 ⟨rfl, q7⟩
      have hb7 := below_keeps (bstep HB5.out hb6) q7 (fun k hk => by subst hk; have := HB5.out.size; omega) (by have := HB5.out.size; have := hb6.size; omega)
      clear q7
      go_wp2_with fail
      refine (alive_any _).mono ?_
      rintro e w8 ⟨rfl, hb8⟩
      go_wp2
      go_ret
      exact ⟨rfl, bstep hb7 hb8⟩
  · obtain ⟨hl1, hl2⟩ := hsome (by omega)
    have h17' : (b.take 17).length = 17 := by rw [List.length_take]; omega
    obtain ⟨x, ok, hx⟩ : ∃ x ok, x = LabM.getS (b.take 17) ∧ ok = LabM.getOk (b.take 17) := ⟨_, _, rfl, rfl⟩
    obtain ⟨hx, hok⟩ := hx
    have CF := fun g A W (h : Pack.RdAt W g A b ⟨0, false⟩) => Label.get_any g A b ⟨0, false⟩ W h (by omega)
    have HF : Hid (∀ g A W, Pack.RdAt W g A b ⟨0, false⟩ → Calls Try.prog 21 #[.pointer (some ⟨g, 0, none⟩)] W fun e w' => e = .returned (.tuple #[.string x, .bool ok]) ∧ Pack.RdAt w' g A b ⟨17, false⟩ ∧ Keeps (fun x => x = g) W w') := Lib.hid fun g A W h => (CF g A W h).mono (by
      rintro e w' ⟨rfl, r, q⟩
      rw [hl2] at r
      rw [hl1, if_pos h17', decide_eq_true h17', Bool.true_and, ← hx, ← hok]
      exact ⟨rfl, r, q⟩)
    obtain ⟨xb, xo, hA, _⟩ := HB.out 0 (by omega)
    subst hA
    have HG : Hid (∀ W, BytesAt W (some ⟨xb, xo, none⟩) b → Calls Try.prog 23 #[.slice (some ⟨xb, xo, none⟩) 17 c] W fun e w' => e = .returned (.tuple #[.string x, .bool ok]) ∧ W = w') := Lib.hid fun W h => by
      rw [hx, hok]
      exact R07.get_any xb xo (b.take 17) c W (h.take 17) h17' (by have := K1.out; omega) M1.out
    have HLF : Hid (∀ g A W, Pack.RdAt W g A b ⟨17, false⟩ → Calls Try.prog 24 #[.pointer (some ⟨g, 0, none⟩)] W fun e w' => e = .returned (.int .i64 ((b.length : Int) - 17)) ∧ Below W.heap.size W w') := Lib.hid fun g A W h =>
      (Pack.left_any g A b ⟨17, false⟩ W h (by omega)).mono (by
        rintro e w' ⟨rfl, q⟩
        exact ⟨rfl, bquiet q⟩)
    have hw17 : IntKind.i64.wrap ((b.length : Int) - 17) = (b.length : Int) - 17 := IntWalk.i64_in _ (by omega)
    have hK17 : 17 ≤ c := by have := K1.out; omega
    clear CF hx hok hl1 hl2 hfew hsome h17'
    have hT2 : (is = true ∧ T = s) ∨ (is = false ∧ T = ⟨#[]⟩) := by
      rcases is with _ | _
      · exact Or.inr ⟨rfl, t3 rfl⟩
      · exact Or.inl ⟨rfl, t2 rfl⟩
    clear t2 t3
    rcases hT2 with ⟨rfl, rfl⟩ | ⟨rfl, rfl⟩
    all_goals (
      go_wp2_with fail
      refine (HCR.out w5).mono ?_
      rintro e w9 ⟨rfl, rfl⟩
      go_wp2_with fail
      refine (Pack.read_any _ b c w5 HBA.out (by omega)).mono ?_
      rintro e w6 ⟨g2, A6, rfl, hr6, hb6, hg6, _⟩
      have HR6 := Lib.hid hr6
      clear hr6
      go_wp2_with fail
      refine (HF.out g2 A6 w6 HR6.out).mono ?_
      rintro e w7 ⟨rfl, hr7, q7⟩
      have hb7 := below_keeps (bstep HB5.out hb6) q7 (fun k hk => by subst hk; have := HB5.out.size; omega) (by have := HB5.out.size; have := hb6.size; omega)
      have HR7 := Lib.hid hr7; have HB7 := Lib.hid (HB.out.below hb7)
      clear q7 hr7
      go_wp2_with fail
      refine (HG.out w7 HB7.out).mono ?_
      rintro e w9 ⟨rfl, rfl⟩
      go_wp2_with fail
      refine (HLF.out g2 A6 w7 HR7.out).mono ?_
      rintro e w10 ⟨rfl, hb10⟩
      go_wp2_with fail
      refine (alive_any _).mono ?_
      rintro e w8 ⟨rfl, hb8⟩
      go_wp2
      go_ret
      exact ⟨rfl, bstep hb7 (bstep hb10 hb8)⟩)
end Go.Proofs.Ytjfjflkflnebgaa.Law07
