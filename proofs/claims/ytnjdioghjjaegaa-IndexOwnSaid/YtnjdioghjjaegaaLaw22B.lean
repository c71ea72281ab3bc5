/- laws of layer 22: IndexOwn -/
import Derived.Test.YtnjdioghjjaegaaMIL
set_option maxRecDepth 100000
namespace Go.Proofs.Ytnjdioghjjaegaa.Law22
open Go.RowKit IdxM Ents Index R22

theorem putK_nil (e : En) : putK [] e = [e] := rfl
theorem names_none (w : World) : Calls Try.prog 17 #[.pointer none] w fun e w' => e = .returned (.slice none 0 0) ∧ Below w.heap.size w w' := by
  have HC := Lib.hid (all_nil w)
  have HK := Lib.hid fun V => compact_nil V
  go_enter Try.func17, Try.ntmps17
  go_wp2_with fail
  refine HC.out.mono ?_
  rintro e w1 ⟨rfl, rfl⟩
  go_wp2
  go_loopw [3, 9] (fun s3 s9 wr => s3 = .slice none 0 0 ∧ s9 = .int .i64 0 ∧ wr = w1) (fun _ _ _ => 0)
  case atStart => exact ⟨rfl, rfl, rfl⟩
  case round =>
    obtain ⟨rfl, rfl, rfl⟩ := hrel
    go_wp2_with fail
    refine (HK.out _).mono ?_
    rintro e w2 ⟨rfl, rfl⟩
    go_wp2
    go_ret
    exact ⟨rfl, Below.refl _ _⟩
/-- the one entry of a list of one, in a block of its own -/
theorem own_one {w : World} {B : Nat} {v : Value} {a : ByteArray} {i p q : Int} (h : OwnEn w B 35 v [⟨a, i, p, q⟩]) : ∃ g c, v = .slice (some ⟨g, 0, none⟩) 1 c ∧ B ≤ g ∧ g < w.heap.size ∧ EnLies w g 0 ⟨a, i, p, q⟩ ∧ w.frozen? ⟨g, 2, none⟩ = false := by
  rcases OwnEn.rowE h with ⟨_, hn⟩ | ⟨g, c, rfl, hg, hr⟩
  · cases hn
  · obtain ⟨b, o, e, k⟩ := hr.ents 0 (by simp)
    injection e with e; injection e with e1 e2; subst e1; subst e2
    obtain ⟨cur, h1, _⟩ := hr.row
    exact ⟨g, c, rfl, hg, hr.lt, k, by simp [World.frozen?, h1]⟩
set_option maxHeartbeats 4000000 in
theorem own_any (an bn : ByteArray) (ar aa ac br ba bc : Int) (w : World) :
    Calls Try.prog 4 #[.agg #[.string an, .int .i64 ar, .int .i64 aa, .int .i64 ac], .agg #[.string bn, .int .i64 br, .int .i64 ba, .int .i64 bc]] w fun e w' => e = .returned (.bool true) ∧ Below w.heap.size w w' := by
  have hb0 := (balloc w (.cells #[.string an, .int .i64 ar, .int .i64 aa, .int .i64 ac] 28)).alloc (by simp) (.cells #[.string bn, .int .i64 br, .int .i64 ba, .int .i64 bc] 28)
  have hl1 : EnLies ((w.alloc (.cells #[.string an, .int .i64 ar, .int .i64 aa, .int .i64 ac] 28)).alloc (.cells #[.string bn, .int .i64 br, .int .i64 ba, .int .i64 bc] 28)) w.heap.size 0 ⟨an, ar, aa, ac⟩ := ⟨by simp, by simp, by simp, by simp⟩
  have hl2 : EnLies ((w.alloc (.cells #[.string an, .int .i64 ar, .int .i64 aa, .int .i64 ac] 28)).alloc (.cells #[.string bn, .int .i64 br, .int .i64 ba, .int .i64 bc] 28)) (w.heap.size + 1) 0 ⟨bn, br, ba, bc⟩ := ⟨by simp, by simp, by simp, by simp⟩
  have HB0 := Lib.hid hb0; have HL1 := Lib.hid hl1; have HL2 := Lib.hid hl2
  have HAL := Lib.hid fun V => alive_any V
  have hfd := fun V => key_of an ar aa ac V
  clear hb0 hl1 hl2
  go_enter Try.func4, Try.ntmps4
  go_wp2_with fail
  generalize (w.alloc (.cells #[.string an, .int .i64 ar, .int .i64 aa, .int .i64 ac] 28)).alloc (.cells #[.string bn, .int .i64 br, .int .i64 ba, .int .i64 bc] 28) = w0 at *
  obtain ⟨qb, hqb⟩ : ∃ qb, qb = w.heap.size + 1 := ⟨_, rfl⟩
  obtain ⟨qa, hqa⟩ : ∃ qa, qa = w.heap.size := ⟨_, rfl⟩
  rw [← hqb] at HL2 ⊢
  rw [← hqa] at HL1 ⊢
  clear hqb hqa
  refine (new_any w0).mono ?_
  rintro e w1 ⟨rfl, h1, hb1⟩
  obtain ⟨x, hx⟩ : ∃ x, x = w0.heap.size := ⟨_, rfl⟩
  have HXX := Lib.hid hx
  rw [← hx] at h1 ⊢
  have H1 := Lib.hid h1; have B1 := Lib.hid hb1
  clear h1 hb1 hx
  obtain ⟨d0, d1, d2, d3⟩ := HL1.out.below B1.out
  simp only [Nat.zero_add] at d0 d1 d2 d3
  go_wp2_with fail
  clear d0 d1 d2 d3
  refine (as_any _ _ _ _ _).mono ?_
  rintro e w2 ⟨rfl, hb⟩
  have H2 := Lib.hid (H1.out.below hb); have B2 := Lib.hid (bstep B1.out hb)
  clear hb
  go_wp2_with fail
  refine (put_any x _ _ an ar aa ac x w2 H2.out (by simp)).mono ?_
  rintro e w3 ⟨rfl, v3, hx, hk, -⟩
  rw [putK_nil] at hx
  have H3 := Lib.hid hx; have B3 := Lib.hid (ix_below H2.out (by rw [HXX.out]; exact Nat.le_refl _) B2.out hk)
  clear hx hk H1 H2 B1 B2
  go_wp2_with fail
  refine (all_any x v3 _ x w3 H3.out).mono ?_
  rintro e w4 ⟨v4, rfl, ho, hb⟩
  obtain ⟨g4, c4, hv4, hg4, hg4s, hl4, -⟩ := own_one ho
  subst hv4
  have H4 := Lib.hid (H3.out.below hb); have B4 := Lib.hid (bstep B3.out hb); have L4 := Lib.hid hl4
  clear ho hb hl4
  go_wp2_with fail
  refine (all_any x v3 _ x w4 H4.out).mono ?_
  rintro e w5 ⟨v5, rfl, ho, hb⟩
  obtain ⟨g5, c5, hv5, hg5, hg5s, hl5, hf5⟩ := own_one ho
  subst hv5
  have H5 := Lib.hid (H4.out.below hb); have B5 := Lib.hid (bstep B4.out hb); have L5 := Lib.hid (L4.out.below hb)
  have d2 := hl5.c2
  simp only [Nat.zero_add] at d2
  obtain ⟨z, hz⟩ : ∃ z, IntKind.i64.wrap (aa + 1) = z := ⟨_, rfl⟩
  have hks : Keeps (fun k => k = g5) w5 (w5.setCell ⟨g5, 2, none⟩ (.int .i64 z)) := .set _ _ ⟨g5, 2, none⟩ _ rfl
  have H6 := Lib.hid (H5.out.keep hks (fun k hk e => by have := H4.out.its k hk; omega))
  have L6 := Lib.hid (L5.out.keep hks (show ¬ g4 = g5 by omega))
  have B6 := Lib.hid (below_keeps B5.out hks (fun k e => by have := B4.out.size; omega) B5.out.size)
  have hg6 : g4 < (w5.setCell ⟨g5, 2, none⟩ (.int .i64 z)).heap.size := by have := L6.out.c0; exact cell_lt this
  clear ho hb hl5 hks H3 H4 H5 L4 L5 B3 B4
  go_wp2_with fail
  generalize w5.setCell ⟨g5, 2, none⟩ (.int .i64 z) = w6 at *
  clear d2 hf5 hz
  refine (copy_any x v3 _ x w6 H6.out).mono ?_
  rintro e w7 ⟨y, vy, rfl, hy, hb⟩
  have H7 := Lib.hid (H6.out.below hb); have B7 := Lib.hid (bstep B6.out hb); have L7 := Lib.hid (L6.out.below hb)
  have Y7 := Lib.hid hy; have C7 := Lib.hid hb
  clear hy hb
  obtain ⟨d0, d1, d2, d3⟩ := HL2.out.below (bstep B6.out C7.out)
  simp only [Nat.zero_add] at d0 d1 d2 d3
  go_wp2_with fail
  clear d0 d1 d2 d3
  refine (as_any _ _ _ _ _).mono ?_
  rintro e w8 ⟨rfl, hb⟩
  have Y8 := Lib.hid (Y7.out.below hb); have C8 := Lib.hid (bstep C7.out hb)
  clear hb
  go_wp2_with fail
  refine (put_any y vy _ bn br ba bc w6.heap.size w8 Y8.out (by simp)).mono ?_
  rintro e w9 ⟨rfl, v9, hy, hk, -⟩
  have C9 := Lib.hid (ix_below Y8.out (Nat.le_refl _) C8.out hk); have Y9 := Lib.hid hy
  clear hy hk
  obtain ⟨d0, d1, d2, d3⟩ := HL1.out.below (bstep B6.out C9.out)
  simp only [Nat.zero_add] at d0 d1 d2 d3
  go_wp2_with fail
  clear d0 d1 d2 d3
  refine (as_any _ _ _ _ _).mono ?_
  rintro e w10 ⟨rfl, hb⟩
  have Y10 := Lib.hid (Y9.out.below hb); have C10 := Lib.hid (bstep C9.out hb)
  clear hb
  go_wp2_with fail
  refine (drop_any y v9 _ an ar w6.heap.size w10 Y10.out).mono ?_
  rintro e w11 ⟨rfl, v11, hy, hk, -⟩
  have C11 := Lib.hid (ix_below Y10.out (Nat.le_refl _) C10.out hk)
  have H11 := Lib.hid (H6.out.belowK C11.out H6.out.its (Nat.le_refl _)); have L11 := Lib.hid (L6.out.belowK C11.out hg6)
  have B11 := Lib.hid (bstep B6.out C11.out)
  clear hy hk Y7 Y8 Y9 Y10 H7 L7 B7 C7 C8 C9 C10
  obtain ⟨d0, d1, d2, d3⟩ := HL1.out.below B11.out
  simp only [Nat.zero_add] at d0 d1 d2 d3
  go_wp2_with fail
  clear d0 d1 d2 d3
  refine (as_any _ _ _ _ _).mono ?_
  rintro e w12 ⟨rfl, hb⟩
  have H12 := Lib.hid (H11.out.below hb); have L12 := Lib.hid (L11.out.below hb); have B12 := Lib.hid (bstep B11.out hb)
  clear hb
  go_wp2_with fail
  refine (put_nil an ar aa ac w12).mono ?_
  rintro e w13 ⟨rfl, hb⟩
  have hba := balloc w13 (.cells #[.string ⟨#[]⟩, .int .i64 0, .int .i64 0, .int .i64 0] 35)
  have HN13 := Lib.hid (EnB.new w13 ⟨#[]⟩ 0 0 0)
  have H13 := Lib.hid (H12.out.below (bstep hb hba)); have L13 := Lib.hid (L12.out.below (bstep hb hba)); have B13 := Lib.hid (bstep (bstep B12.out hb) hba)
  have hs13 : w0.heap.size ≤ w13.heap.size := (bstep B12.out hb).size
  have hx13 : ∀ k, Its x v3 k → k < w13.heap.size := (H12.out.below hb).its
  have hl13 : g4 < w13.heap.size := cell_lt (L12.out.below hb).c0
  clear hb hba
  go_wp2_with (first
    | (refine wpList_store_en rfl _ _ rfl w13.heap.size ⟨#[]⟩ 0 0 0 rfl rfl ⟨#[]⟩ 0 0 0 HN13.out ?_; intro w14 he hk
       have H14 := Lib.hid (H13.out.keep hk (fun k hk e => by have := hx13 k hk; omega)); have L14 := Lib.hid (L13.out.keep hk (show ¬ g4 = w13.heap.size by omega)); have B14 := Lib.hid (below_keeps B13.out hk (fun k e => by omega) B13.out.size)
       obtain ⟨d0, d1, d2, d3⟩ := HL1.out.below B14.out
       simp only [Nat.zero_add] at d0 d1 d2 d3
       clear he hk))
  clear d0 d1 d2 d3
  refine (as_any _ _ _ _ _).mono ?_
  rintro e w15 ⟨rfl, hb⟩
  have H15 := Lib.hid (H14.out.below hb); have L15 := Lib.hid (L14.out.below hb); have B15 := Lib.hid (bstep B14.out hb)
  clear hb
  go_wp2_with fail
  refine (drop_nil an ar w15).mono ?_
  rintro e w16 ⟨rfl, hb⟩
  have hba := balloc w16 (.cells #[.string ⟨#[]⟩, .int .i64 0, .int .i64 0, .int .i64 0] 35)
  have HN16 := Lib.hid (EnB.new w16 ⟨#[]⟩ 0 0 0)
  have H16 := Lib.hid (H15.out.below (bstep hb hba)); have L16 := Lib.hid (L15.out.below (bstep hb hba)); have B16 := Lib.hid (bstep (bstep B15.out hb) hba)
  have hs16 : w0.heap.size ≤ w16.heap.size := (bstep B15.out hb).size
  have hx16 : ∀ k, Its x v3 k → k < w16.heap.size := (H15.out.below hb).its
  have hl16 : g4 < w16.heap.size := cell_lt (L15.out.below hb).c0
  clear hb hba
  go_wp2_with (first
    | (refine wpList_store_en rfl _ _ rfl w16.heap.size ⟨#[]⟩ 0 0 0 rfl rfl ⟨#[]⟩ 0 0 0 HN16.out ?_; intro w17 he hk
       have H17 := Lib.hid (H16.out.keep hk (fun k hk e => by have := hx16 k hk; omega)); have L17 := Lib.hid (L16.out.keep hk (show ¬ g4 = w16.heap.size by omega)); have B17 := Lib.hid (below_keeps B16.out hk (fun k e => by omega) B16.out.size)
       obtain ⟨d0, d1, d2, d3⟩ := HL1.out.below B17.out
       simp only [Nat.zero_add] at d0 d1 d2 d3
       clear he hk))
  clear d0 d1 d2 d3
  refine (as_any _ _ _ _ _).mono ?_
  rintro e w18 ⟨rfl, hb⟩
  have H18 := Lib.hid (H17.out.below hb); have L18 := Lib.hid (L17.out.below hb); have B18 := Lib.hid (bstep B17.out hb)
  clear hb
  go_wp2_with fail
  refine (find_nil an ar w18).mono ?_
  rintro e w19 ⟨rfl, hb⟩
  have hba := balloc w19 (.cells #[.string ⟨#[]⟩, .int .i64 0, .int .i64 0, .int .i64 0] 35)
  have HN19 := Lib.hid (EnB.new w19 ⟨#[]⟩ 0 0 0)
  have H19 := Lib.hid (H18.out.below (bstep hb hba)); have L19 := Lib.hid (L18.out.below (bstep hb hba)); have B19 := Lib.hid (bstep (bstep B18.out hb) hba)
  have hs19 : w0.heap.size ≤ w19.heap.size := (bstep B18.out hb).size
  have hx19 : ∀ k, Its x v3 k → k < w19.heap.size := (H18.out.below hb).its
  have hl19 : g4 < w19.heap.size := cell_lt (L18.out.below hb).c0
  clear hb hba
  go_wp2_with (first
    | (refine wpList_store_en rfl _ _ rfl w19.heap.size ⟨#[]⟩ 0 0 0 rfl rfl ⟨#[]⟩ 0 0 0 HN19.out ?_; intro w20 he hk
       have H20 := Lib.hid (H19.out.keep hk (fun k hk e => by have := hx19 k hk; omega)); have L20 := Lib.hid (L19.out.keep hk (show ¬ g4 = w19.heap.size by omega)); have B20 := Lib.hid (below_keeps B19.out hk (fun k e => by omega) B19.out.size)
       obtain ⟨d0, d1, d2, d3⟩ := HL1.out.below B20.out
       simp only [Nat.zero_add] at d0 d1 d2 d3
       clear he hk))
  clear d0 d1 d2 d3
  refine (all_any x v3 _ x w20 H20.out).mono ?_
  rintro e w21 ⟨v21, rfl, ho, hb⟩
  obtain ⟨g21, c21, hv21, -, -, hl21, -⟩ := own_one ho
  subst hv21
  have L21 := Lib.hid (L20.out.below hb); have M21 := Lib.hid hl21; have B21 := Lib.hid (bstep B20.out hb)
  clear ho hb hl21
  go_wp2_with fail
  refine Drawn.wp_region_flowL 43 [Drawn.SP.is (.slice (some ⟨g21, 0, none⟩) 1 c21), Drawn.SP.is (.int .i64 1), Drawn.SP.is (.bool true), Drawn.SP.is (.bool true), Drawn.SP.is (.slice (some ⟨g21, 0, none⟩) 1 c21), Drawn.SP.is (.pointer (some ⟨g21, 0, none⟩)), Drawn.SP.is (.agg #[.string an, .int .i64 ar, .int .i64 aa, .int .i64 ac]), Drawn.SP.is (.slice (some ⟨g4, 0, none⟩) 1 c4), Drawn.SP.is (.pointer (some ⟨g4, 0, none⟩)), Drawn.SP.is (.agg #[.string an, .int .i64 ar, .int .i64 aa, .int .i64 ac]), Drawn.SP.is (.bool true), Drawn.SP.is (.bool true), Drawn.SP.is (.bool true), Drawn.SP.is (.bool false), Drawn.SP.is (.bool true), Drawn.SP.is (.bool true), Drawn.SP.is (.bool true), Drawn.SP.is (.bool false), Drawn.SP.is (.bool true), Drawn.SP.is (.bool true), Drawn.SP.is (.bool true), Drawn.SP.is (.bool false), Drawn.SP.is (.bool true), Drawn.SP.is (.bool true), Drawn.SP.is (.bool true), Drawn.SP.is (.pointer none), Drawn.SP.is (.slice none 0 0), Drawn.SP.is (.int .i64 0), Drawn.SP.is (.pointer none), Drawn.SP.is (.slice none 0 0), Drawn.SP.is (.int .i64 0), Drawn.SP.is (.int .i64 0), Drawn.SP.is (.bool true), Drawn.SP.is (.bool true), Drawn.SP.is (.bool true), Drawn.SP.is (.pointer none), Drawn.SP.is (.pointer none), Drawn.SP.is (.bool true), Drawn.SP.is (.bool true), Drawn.SP.is (.bool true), Drawn.SP.is (.bool true), Drawn.SP.is (.bool true), Drawn.SP.is (.bool true)] (by kernel_rfl) (by kernel_rfl) ?_ ?_
  · intro i hi a w22 hb hev hdep
    rcases (show i = 0 ∨ i = 1 ∨ i = 2 ∨ i = 3 ∨ i = 4 ∨ i = 5 ∨ i = 6 ∨ i = 7 ∨ i = 8 ∨ i = 9 ∨ i = 10 ∨ i = 11 ∨ i = 12 ∨ i = 13 ∨ i = 14 ∨ i = 15 ∨ i = 16 ∨ i = 17 ∨ i = 18 ∨ i = 19 ∨ i = 20 ∨ i = 21 ∨ i = 22 ∨ i = 23 ∨ i = 24 ∨ i = 25 ∨ i = 26 ∨ i = 27 ∨ i = 28 ∨ i = 29 ∨ i = 30 ∨ i = 31 ∨ i = 32 ∨ i = 33 ∨ i = 34 ∨ i = 35 ∨ i = 36 ∨ i = 37 ∨ i = 38 ∨ i = 39 ∨ i = 40 ∨ i = 41 ∨ i = 42 by omega) with rfl | rfl | rfl | rfl | rfl | rfl | rfl | rfl | rfl | rfl | rfl | rfl | rfl | rfl | rfl | rfl | rfl | rfl | rfl | rfl | rfl | rfl | rfl | rfl | rfl | rfl | rfl | rfl | rfl | rfl | rfl | rfl | rfl | rfl | rfl | rfl | rfl | rfl | rfl | rfl | rfl | rfl | rfl
    · have e16 : a.tmps[16]?.getD undef = .slice (some ⟨g21, 0, none⟩) 1 c21 := hev 16 rfl
      refine Drawn.wpOp_flow 72 rfl rfl rfl ?_
      clear hev hdep hb
      go_simp
      exact ⟨_, rfl, rfl, Below.refl _ _⟩
    · have d0 : a.tmps[72]?.getD undef = .slice (some ⟨g21, 0, none⟩) 1 c21 := hdep 0 rfl
      refine Drawn.wpOp_flow 73 rfl rfl rfl ?_
      clear hev hdep hb
      go_simp
      exact ⟨_, rfl, rfl, Below.refl _ _⟩
    · have d1 : a.tmps[73]?.getD undef = .int .i64 1 := hdep 1 rfl
      refine Drawn.wpOp_flow 74 rfl rfl rfl ?_
      clear hev hdep hb
      go_simp
      exact ⟨_, rfl, rfl, Below.refl _ _⟩
    · have d2 : a.tmps[74]?.getD undef = .bool true := hdep 2 rfl
      refine Drawn.wpOp_flow 75 rfl rfl rfl ?_
      clear hev hdep hb
      go_simp
      exact ⟨_, rfl, rfl, Below.refl _ _⟩
    · have e16 : a.tmps[16]?.getD undef = .slice (some ⟨g21, 0, none⟩) 1 c21 := hev 16 rfl
      have dg : a.tmps[75]?.getD undef = .bool true := hdep 3 rfl
      refine Drawn.wpOp_flow 76 rfl (Drawn.wanted_of rfl rfl rfl dg) rfl ?_
      clear dg
      clear hev hdep hb
      go_simp
      exact ⟨_, rfl, rfl, Below.refl _ _⟩
    · have d4 : a.tmps[76]?.getD undef = .slice (some ⟨g21, 0, none⟩) 1 c21 := hdep 4 rfl
      have dg : a.tmps[75]?.getD undef = .bool true := hdep 3 rfl
      refine Drawn.wpOp_flow 77 rfl (Drawn.wanted_of rfl rfl rfl dg) rfl ?_
      clear dg
      clear hev hdep hb
      go_simp
      exact ⟨_, rfl, rfl, Below.refl _ _⟩
    · have d5 : a.tmps[77]?.getD undef = .pointer (some ⟨g21, 0, none⟩) := hdep 5 rfl
      have dg : a.tmps[75]?.getD undef = .bool true := hdep 3 rfl
      refine Drawn.wpOp_flow 78 rfl (Drawn.wanted_of rfl rfl rfl dg) rfl ?_
      obtain ⟨c0, c1', c2', c3⟩ := M21.out.below hb
      obtain ⟨d0, d1', d2', d3⟩ := L21.out.below hb
      simp only [Nat.zero_add] at c0 c1' c2' c3 d0 d1' d2' d3
      clear dg
      clear hev hdep hb
      go_simp
      exact ⟨_, rfl, rfl, Below.refl _ _⟩
    · have e6 : a.tmps[6]?.getD undef = .slice (some ⟨g4, 0, none⟩) 1 c4 := hev 6 rfl
      have dg : a.tmps[75]?.getD undef = .bool true := hdep 3 rfl
      refine Drawn.wpOp_flow 79 rfl (Drawn.wanted_of rfl rfl rfl dg) rfl ?_
      clear dg
      clear hev hdep hb
      go_simp
      exact ⟨_, rfl, rfl, Below.refl _ _⟩
    · have d7 : a.tmps[79]?.getD undef = .slice (some ⟨g4, 0, none⟩) 1 c4 := hdep 7 rfl
      have dg : a.tmps[75]?.getD undef = .bool true := hdep 3 rfl
      refine Drawn.wpOp_flow 80 rfl (Drawn.wanted_of rfl rfl rfl dg) rfl ?_
      clear dg
      clear hev hdep hb
      go_simp
      exact ⟨_, rfl, rfl, Below.refl _ _⟩
    · have d8 : a.tmps[80]?.getD undef = .pointer (some ⟨g4, 0, none⟩) := hdep 8 rfl
      have dg : a.tmps[75]?.getD undef = .bool true := hdep 3 rfl
      refine Drawn.wpOp_flow 81 rfl (Drawn.wanted_of rfl rfl rfl dg) rfl ?_
      obtain ⟨c0, c1', c2', c3⟩ := M21.out.below hb
      obtain ⟨d0, d1', d2', d3⟩ := L21.out.below hb
      simp only [Nat.zero_add] at c0 c1' c2' c3 d0 d1' d2' d3
      clear dg
      clear hev hdep hb
      go_simp
      exact ⟨_, rfl, rfl, Below.refl _ _⟩
    · have d6 : a.tmps[78]?.getD undef = .agg #[.string an, .int .i64 ar, .int .i64 aa, .int .i64 ac] := hdep 6 rfl
      have d9 : a.tmps[81]?.getD undef = .agg #[.string an, .int .i64 ar, .int .i64 aa, .int .i64 ac] := hdep 9 rfl
      have dg : a.tmps[75]?.getD undef = .bool true := hdep 3 rfl
      refine Drawn.wpOp_flow 82 rfl (Drawn.wanted_of rfl rfl rfl dg) rfl ?_
      clear hev hdep
      have hg := en_guard
      clear hb dg
      go_simp
      exact ⟨_, rfl, rfl, Below.refl _ _⟩
    · have d3 : a.tmps[75]?.getD undef = .bool true := hdep 3 rfl
      have d10 : a.tmps[82]?.getD undef = .bool true := hdep 10 rfl
      refine Drawn.wpOp_flow 83 rfl rfl rfl ?_
      clear hev hdep hb
      go_simp
      exact ⟨_, rfl, rfl, Below.refl _ _⟩
    · have d11 : a.tmps[83]?.getD undef = .bool true := hdep 11 rfl
      refine Drawn.wpOp_flow 84 rfl rfl rfl ?_
      clear hev hdep hb
      go_simp
      exact ⟨_, rfl, rfl, Below.refl _ _⟩
    · have e11 : a.tmps[11]?.getD undef = .bool false := hev 11 rfl
      have dg : a.tmps[84]?.getD undef = .bool true := hdep 12 rfl
      refine Drawn.wpOp_flow 85 rfl (Drawn.wanted_of rfl rfl rfl dg) rfl ?_
      clear dg
      clear hev hdep hb
      go_simp
      exact ⟨_, rfl, rfl, Below.refl _ _⟩
    · have d13 : a.tmps[85]?.getD undef = .bool false := hdep 13 rfl
      have dg : a.tmps[84]?.getD undef = .bool true := hdep 12 rfl
      refine Drawn.wpOp_flow 86 rfl (Drawn.wanted_of rfl rfl rfl dg) rfl ?_
      clear dg
      clear hev hdep hb
      go_simp
      exact ⟨_, rfl, rfl, Below.refl _ _⟩
    · have d12 : a.tmps[84]?.getD undef = .bool true := hdep 12 rfl
      have d14 : a.tmps[86]?.getD undef = .bool true := hdep 14 rfl
      refine Drawn.wpOp_flow 87 rfl rfl rfl ?_
      clear hev hdep hb
      go_simp
      exact ⟨_, rfl, rfl, Below.refl _ _⟩
    · have d15 : a.tmps[87]?.getD undef = .bool true := hdep 15 rfl
      refine Drawn.wpOp_flow 88 rfl rfl rfl ?_
      clear hev hdep hb
      go_simp
      exact ⟨_, rfl, rfl, Below.refl _ _⟩
    · have e13 : a.tmps[13]?.getD undef = .bool false := hev 13 rfl
      have dg : a.tmps[88]?.getD undef = .bool true := hdep 16 rfl
      refine Drawn.wpOp_flow 89 rfl (Drawn.wanted_of rfl rfl rfl dg) rfl ?_
      clear dg
      clear hev hdep hb
      go_simp
      exact ⟨_, rfl, rfl, Below.refl _ _⟩
    · have d17 : a.tmps[89]?.getD undef = .bool false := hdep 17 rfl
      have dg : a.tmps[88]?.getD undef = .bool true := hdep 16 rfl
      refine Drawn.wpOp_flow 90 rfl (Drawn.wanted_of rfl rfl rfl dg) rfl ?_
      clear dg
      clear hev hdep hb
      go_simp
      exact ⟨_, rfl, rfl, Below.refl _ _⟩
    · have d16 : a.tmps[88]?.getD undef = .bool true := hdep 16 rfl
      have d18 : a.tmps[90]?.getD undef = .bool true := hdep 18 rfl
      refine Drawn.wpOp_flow 91 rfl rfl rfl ?_
      clear hev hdep hb
      go_simp
      exact ⟨_, rfl, rfl, Below.refl _ _⟩
    · have d19 : a.tmps[91]?.getD undef = .bool true := hdep 19 rfl
      refine Drawn.wpOp_flow 92 rfl rfl rfl ?_
      clear hev hdep hb
      go_simp
      exact ⟨_, rfl, rfl, Below.refl _ _⟩
    · have e15 : a.tmps[15]?.getD undef = .bool false := hev 15 rfl
      have dg : a.tmps[92]?.getD undef = .bool true := hdep 20 rfl
      refine Drawn.wpOp_flow 93 rfl (Drawn.wanted_of rfl rfl rfl dg) rfl ?_
      clear dg
      clear hev hdep hb
      go_simp
      exact ⟨_, rfl, rfl, Below.refl _ _⟩
    · have d21 : a.tmps[93]?.getD undef = .bool false := hdep 21 rfl
      have dg : a.tmps[92]?.getD undef = .bool true := hdep 20 rfl
      refine Drawn.wpOp_flow 94 rfl (Drawn.wanted_of rfl rfl rfl dg) rfl ?_
      clear dg
      clear hev hdep hb
      go_simp
      exact ⟨_, rfl, rfl, Below.refl _ _⟩
    · have d20 : a.tmps[92]?.getD undef = .bool true := hdep 20 rfl
      have d22 : a.tmps[94]?.getD undef = .bool true := hdep 22 rfl
      refine Drawn.wpOp_flow 95 rfl rfl rfl ?_
      clear hev hdep hb
      go_simp
      exact ⟨_, rfl, rfl, Below.refl _ _⟩
    · have d23 : a.tmps[95]?.getD undef = .bool true := hdep 23 rfl
      refine Drawn.wpOp_flow 96 rfl rfl rfl ?_
      clear hev hdep hb
      go_simp
      exact ⟨_, rfl, rfl, Below.refl _ _⟩
    · have e9 : a.tmps[9]?.getD undef = .pointer none := hev 9 rfl
      have dg : a.tmps[96]?.getD undef = .bool true := hdep 24 rfl
      refine Drawn.wpOp_flow 97 rfl (Drawn.wanted_of rfl rfl rfl dg) rfl ?_
      clear dg
      clear hev hdep hb
      go_simp
      exact ⟨_, rfl, rfl, Below.refl _ _⟩
    · have d25 : a.tmps[97]?.getD undef = .pointer none := hdep 25 rfl
      have dg : a.tmps[96]?.getD undef = .bool true := hdep 24 rfl
      refine Drawn.wpOp_flow 98 rfl (Drawn.wanted_of rfl rfl rfl dg) rfl ?_
      clear hev hdep
      clear dg
      go_simp
      refine (all_nil w22).mono ?_
      rintro e w23 ⟨rfl, hb4⟩
      exact ⟨_, rfl, rfl, by rw [hb4]; exact Below.refl _ _⟩
    · have d26 : a.tmps[98]?.getD undef = .slice none 0 0 := hdep 26 rfl
      have dg : a.tmps[96]?.getD undef = .bool true := hdep 24 rfl
      refine Drawn.wpOp_flow 99 rfl (Drawn.wanted_of rfl rfl rfl dg) rfl ?_
      clear dg
      clear hev hdep hb
      go_simp
      exact ⟨_, rfl, rfl, Below.refl _ _⟩
    · have e9 : a.tmps[9]?.getD undef = .pointer none := hev 9 rfl
      have dg : a.tmps[96]?.getD undef = .bool true := hdep 24 rfl
      refine Drawn.wpOp_flow 100 rfl (Drawn.wanted_of rfl rfl rfl dg) rfl ?_
      clear dg
      clear hev hdep hb
      go_simp
      exact ⟨_, rfl, rfl, Below.refl _ _⟩
    · have d28 : a.tmps[100]?.getD undef = .pointer none := hdep 28 rfl
      have dg : a.tmps[96]?.getD undef = .bool true := hdep 24 rfl
      refine Drawn.wpOp_flow 101 rfl (Drawn.wanted_of rfl rfl rfl dg) rfl ?_
      clear hev hdep
      clear dg
      go_simp
      refine (names_none w22).mono ?_
      rintro e w23 ⟨rfl, hb4⟩
      exact ⟨_, rfl, rfl, hb4⟩
    · have d29 : a.tmps[101]?.getD undef = .slice none 0 0 := hdep 29 rfl
      have dg : a.tmps[96]?.getD undef = .bool true := hdep 24 rfl
      refine Drawn.wpOp_flow 102 rfl (Drawn.wanted_of rfl rfl rfl dg) rfl ?_
      clear dg
      clear hev hdep hb
      go_simp
      exact ⟨_, rfl, rfl, Below.refl _ _⟩
    · have d27 : a.tmps[99]?.getD undef = .int .i64 0 := hdep 27 rfl
      have d30 : a.tmps[102]?.getD undef = .int .i64 0 := hdep 30 rfl
      have dg : a.tmps[96]?.getD undef = .bool true := hdep 24 rfl
      refine Drawn.wpOp_flow 103 rfl (Drawn.wanted_of rfl rfl rfl dg) rfl ?_
      clear dg
      clear hev hdep hb
      go_simp
      exact ⟨_, rfl, rfl, Below.refl _ _⟩
    · have d31 : a.tmps[103]?.getD undef = .int .i64 0 := hdep 31 rfl
      have dg : a.tmps[96]?.getD undef = .bool true := hdep 24 rfl
      refine Drawn.wpOp_flow 104 rfl (Drawn.wanted_of rfl rfl rfl dg) rfl ?_
      clear dg
      clear hev hdep hb
      go_simp
      exact ⟨_, rfl, rfl, Below.refl _ _⟩
    · have d24 : a.tmps[96]?.getD undef = .bool true := hdep 24 rfl
      have d32 : a.tmps[104]?.getD undef = .bool true := hdep 32 rfl
      refine Drawn.wpOp_flow 105 rfl rfl rfl ?_
      clear hev hdep hb
      go_simp
      exact ⟨_, rfl, rfl, Below.refl _ _⟩
    · have d33 : a.tmps[105]?.getD undef = .bool true := hdep 33 rfl
      refine Drawn.wpOp_flow 106 rfl rfl rfl ?_
      clear hev hdep hb
      go_simp
      exact ⟨_, rfl, rfl, Below.refl _ _⟩
    · have e9 : a.tmps[9]?.getD undef = .pointer none := hev 9 rfl
      have dg : a.tmps[106]?.getD undef = .bool true := hdep 34 rfl
      refine Drawn.wpOp_flow 107 rfl (Drawn.wanted_of rfl rfl rfl dg) rfl ?_
      clear dg
      clear hev hdep hb
      go_simp
      exact ⟨_, rfl, rfl, Below.refl _ _⟩
    · have d35 : a.tmps[107]?.getD undef = .pointer none := hdep 35 rfl
      have dg : a.tmps[106]?.getD undef = .bool true := hdep 34 rfl
      refine Drawn.wpOp_flow 108 rfl (Drawn.wanted_of rfl rfl rfl dg) rfl ?_
      clear hev hdep
      clear dg
      go_simp
      refine (copy_nil w22).mono ?_
      rintro e w23 ⟨rfl, hb4⟩
      exact ⟨_, rfl, rfl, by rw [hb4]; exact Below.refl _ _⟩
    · have d36 : a.tmps[108]?.getD undef = .pointer none := hdep 36 rfl
      have dg : a.tmps[106]?.getD undef = .bool true := hdep 34 rfl
      refine Drawn.wpOp_flow 109 rfl (Drawn.wanted_of rfl rfl rfl dg) rfl ?_
      clear dg
      clear hev hdep hb
      go_simp
      exact ⟨_, rfl, rfl, Below.refl _ _⟩
    · have d34 : a.tmps[106]?.getD undef = .bool true := hdep 34 rfl
      have d37 : a.tmps[109]?.getD undef = .bool true := hdep 37 rfl
      refine Drawn.wpOp_flow 110 rfl rfl rfl ?_
      clear hev hdep hb
      go_simp
      exact ⟨_, rfl, rfl, Below.refl _ _⟩
    · have d38 : a.tmps[110]?.getD undef = .bool true := hdep 38 rfl
      refine Drawn.wpOp_flow 111 rfl rfl rfl ?_
      clear hev hdep hb
      go_simp
      exact ⟨_, rfl, rfl, Below.refl _ _⟩
    · have dg : a.tmps[111]?.getD undef = .bool true := hdep 39 rfl
      refine Drawn.wpOp_flow 112 rfl (Drawn.wanted_of rfl rfl rfl dg) rfl ?_
      clear hev hdep
      clear dg
      go_simp
      refine (HAL.out w22).mono ?_
      rintro e w23 ⟨rfl, hb4⟩
      exact ⟨_, rfl, rfl, hb4⟩
    · have d39 : a.tmps[111]?.getD undef = .bool true := hdep 39 rfl
      have d40 : a.tmps[112]?.getD undef = .bool true := hdep 40 rfl
      refine Drawn.wpOp_flow 113 rfl rfl rfl ?_
      clear hev hdep hb
      go_simp
      exact ⟨_, rfl, rfl, Below.refl _ _⟩
    · have d41 : a.tmps[113]?.getD undef = .bool true := hdep 41 rfl
      refine Drawn.wpOp_flow 4 rfl rfl rfl ?_
      clear hev hdep hb
      go_simp
      exact ⟨_, rfl, rfl, Below.refl _ _⟩
  · intro xq w22 hb hxq
    have vq0 : xq 0 = .slice (some ⟨g21, 0, none⟩) 1 c21 := hxq 0 (by omega)
    have vq1 : xq 1 = .int .i64 1 := hxq 1 (by omega)
    have vq2 : xq 2 = .bool true := hxq 2 (by omega)
    have vq3 : xq 3 = .bool true := hxq 3 (by omega)
    have vq4 : xq 4 = .slice (some ⟨g21, 0, none⟩) 1 c21 := hxq 4 (by omega)
    have vq5 : xq 5 = .pointer (some ⟨g21, 0, none⟩) := hxq 5 (by omega)
    have vq6 : xq 6 = .agg #[.string an, .int .i64 ar, .int .i64 aa, .int .i64 ac] := hxq 6 (by omega)
    have vq7 : xq 7 = .slice (some ⟨g4, 0, none⟩) 1 c4 := hxq 7 (by omega)
    have vq8 : xq 8 = .pointer (some ⟨g4, 0, none⟩) := hxq 8 (by omega)
    have vq9 : xq 9 = .agg #[.string an, .int .i64 ar, .int .i64 aa, .int .i64 ac] := hxq 9 (by omega)
    have vq10 : xq 10 = .bool true := hxq 10 (by omega)
    have vq11 : xq 11 = .bool true := hxq 11 (by omega)
    have vq12 : xq 12 = .bool true := hxq 12 (by omega)
    have vq13 : xq 13 = .bool false := hxq 13 (by omega)
    have vq14 : xq 14 = .bool true := hxq 14 (by omega)
    have vq15 : xq 15 = .bool true := hxq 15 (by omega)
    have vq16 : xq 16 = .bool true := hxq 16 (by omega)
    have vq17 : xq 17 = .bool false := hxq 17 (by omega)
    have vq18 : xq 18 = .bool true := hxq 18 (by omega)
    have vq19 : xq 19 = .bool true := hxq 19 (by omega)
    have vq20 : xq 20 = .bool true := hxq 20 (by omega)
    have vq21 : xq 21 = .bool false := hxq 21 (by omega)
    have vq22 : xq 22 = .bool true := hxq 22 (by omega)
    have vq23 : xq 23 = .bool true := hxq 23 (by omega)
    have vq24 : xq 24 = .bool true := hxq 24 (by omega)
    have vq25 : xq 25 = .pointer none := hxq 25 (by omega)
    have vq26 : xq 26 = .slice none 0 0 := hxq 26 (by omega)
    have vq27 : xq 27 = .int .i64 0 := hxq 27 (by omega)
    have vq28 : xq 28 = .pointer none := hxq 28 (by omega)
    have vq29 : xq 29 = .slice none 0 0 := hxq 29 (by omega)
    have vq30 : xq 30 = .int .i64 0 := hxq 30 (by omega)
    have vq31 : xq 31 = .int .i64 0 := hxq 31 (by omega)
    have vq32 : xq 32 = .bool true := hxq 32 (by omega)
    have vq33 : xq 33 = .bool true := hxq 33 (by omega)
    have vq34 : xq 34 = .bool true := hxq 34 (by omega)
    have vq35 : xq 35 = .pointer none := hxq 35 (by omega)
    have vq36 : xq 36 = .pointer none := hxq 36 (by omega)
    have vq37 : xq 37 = .bool true := hxq 37 (by omega)
    have vq38 : xq 38 = .bool true := hxq 38 (by omega)
    have vq39 : xq 39 = .bool true := hxq 39 (by omega)
    have vq40 : xq 40 = .bool true := hxq 40 (by omega)
    have vq41 : xq 41 = .bool true := hxq 41 (by omega)
    have vq42 : xq 42 = .bool true := hxq 42 (by omega)
    show Exit.then _ _ Exit.normal (Drawn.acts _ [(4, some (xq 42)), (113, some (xq 41)), (112, some (xq 40)), (111, some (xq 39)), (110, some (xq 38)), (109, some (xq 37)), (108, some (xq 36)), (107, some (xq 35)), (106, some (xq 34)), (105, some (xq 33)), (104, some (xq 32)), (103, some (xq 31)), (102, some (xq 30)), (101, some (xq 29)), (100, some (xq 28)), (99, some (xq 27)), (98, some (xq 26)), (97, some (xq 25)), (96, some (xq 24)), (95, some (xq 23)), (94, some (xq 22)), (93, some (xq 21)), (92, some (xq 20)), (91, some (xq 19)), (90, some (xq 18)), (89, some (xq 17)), (88, some (xq 16)), (87, some (xq 15)), (86, some (xq 14)), (85, some (xq 13)), (84, some (xq 12)), (83, some (xq 11)), (82, some (xq 10)), (81, some (xq 9)), (80, some (xq 8)), (79, some (xq 7)), (78, some (xq 6)), (77, some (xq 5)), (76, some (xq 4)), (75, some (xq 3)), (74, some (xq 2)), (73, some (xq 1)), (72, some (xq 0))]) _
    rw [vq0, vq1, vq2, vq3, vq4, vq5, vq6, vq7, vq8, vq9, vq10, vq11, vq12, vq13, vq14, vq15, vq16, vq17, vq18, vq19, vq20, vq21, vq22, vq23, vq24, vq25, vq26, vq27, vq28, vq29, vq30, vq31, vq32, vq33, vq34, vq35, vq36, vq37, vq38, vq39, vq40, vq41, vq42]
    clear hxq vq0 vq1 vq2 vq3 vq4 vq5 vq6 vq7 vq8 vq9 vq10 vq11 vq12 vq13 vq14 vq15 vq16 vq17 vq18 vq19 vq20 vq21 vq22 vq23 vq24 vq25 vq26 vq27 vq28 vq29 vq30 vq31 vq32 vq33 vq34 vq35 vq36 vq37 vq38 vq39 vq40 vq41 vq42
    clear xq
    simp only [Drawn.acts]
    go_simp
    have HF := Lib.hid (bstep HB0.out (bstep B21.out hb))
    clear hb
    go_at_K
    go_wp2
    go_ret
    exact ⟨rfl, HF.out⟩
theorem own_all (an : ByteArray) (ar aa ac : Int) (bn : ByteArray) (br ba bc : Int) (w : World) :
    Calls Try.prog 4 #[.agg #[.string an, .int .i64 ar, .int .i64 aa, .int .i64 ac], .agg #[.string bn, .int .i64 br, .int .i64 ba, .int .i64 bc]] w fun e w' => e = .returned (.bool true) ∧ Below w.heap.size w w' := own_any an bn ar aa ac br ba bc w
end Go.Proofs.Ytnjdioghjjaegaa.Law22
