/- merged: Law22, Law22A, Law22C -/
import Derived.Test.YtnjdioghjjaegaaMRI
import Derived.Test.YtnjdioghjjaegaaFlowS
import Derived.Test.YtnjdioghjjaegaaActs22

/- laws of layer 22: as, same -/
set_option maxRecDepth 100000
namespace Go.Proofs.Ytnjdioghjjaegaa.Law22
open Go.RowKit IdxM Ents Index R22

theorem as_any (a : ByteArray) (i p q : Int) (w : World) : Calls Try.prog 8 #[.agg #[.string a, .int .i64 i, .int .i64 p, .int .i64 q]] w fun e w' => e = .returned (.agg #[.string a, .int .i64 i, .int .i64 p, .int .i64 q]) ∧ Below w.heap.size w w' := by
  have hb0 := (balloc w (.cells #[.string a, .int .i64 i, .int .i64 p, .int .i64 q] 28)).alloc (by simp) (.cells #[.string ⟨#[]⟩, .int .i64 0, .int .i64 0, .int .i64 0] 35)
  have he0 := EnB.new (w.alloc (.cells #[.string a, .int .i64 i, .int .i64 p, .int .i64 q] 28)) ⟨#[]⟩ 0 0 0
  have hz0 : (w.alloc (.cells #[.string a, .int .i64 i, .int .i64 p, .int .i64 q] 28)).heap.size = w.heap.size + 1 := by simp
  rw [hz0] at he0
  have HB0 := Lib.hid hb0; have HE0 := Lib.hid he0
  clear hb0 he0 hz0
  go_enter Try.func8, Try.ntmps8
  go_wp2_with (first | (refine wpList_store_en rfl _ _ rfl (w.heap.size + 1) a i p q rfl rfl ⟨#[]⟩ 0 0 0 HE0.out ?_; intro w1 he1 hk1))
  exact Go.bodyPost_ret (results_en1 rfl _ _ (w.heap.size + 1) a i p q rfl he1) rfl ⟨rfl, below_keeps HB0.out hk1 (fun k e => by omega) HB0.out.size⟩

theorem key_of (a : ByteArray) (i p q : Int) (w : World) : (Instr.field 35 (.agg #[.string a, .int .i64 i, .int .i64 p, .int .i64 q]) 0).run Try.prog w = .ok (.agg #[.string a, .int .i64 i]) w := by kernel_rfl
/-- the same entries: true -/
theorem same_any (A1 A2 : Option Addr) (l : List En) (n c1 c2 : Nat) (w : World) (h1 : EntsAt w A1 l) (h2 : EntsAt w A2 l) (hn : n = l.length) (hl : n ≤ 1048576) :
    Calls Try.prog 14 #[.slice A1 n c1, .slice A2 n c2] w fun e w' => e = .returned (.bool true) ∧ Below w.heap.size w w' := by
  have H1 := Lib.hid h1; have H2 := Lib.hid h2; have HN := Lib.hid hn
  clear h1 h2 hn
  go_enter Try.func14, Try.ntmps14
  go_wp2
  go_loopw [13] (fun s13 wr => ∃ k : Nat, s13 = .int .i64 k ∧ k ≤ n ∧ Hid (Below w.heap.size w wr)) (fun s13 _ => n - (intOf s13).toNat)
  case atStart => exact ⟨0, rfl, Nat.zero_le _, Lib.hid (Below.refl _ _)⟩
  case round =>
    obtain ⟨k, rfl, hk, HB⟩ := hrel
    rename World => wr
    by_cases hlt : k < n
    · have hL : k < l.length := by rw [← HN.out]; exact hlt
      obtain ⟨b1, o1, hab1, he1⟩ := (H1.out.below HB.out) k hL
      obtain ⟨b2, o2, hab2, he2⟩ := (H2.out.below HB.out) k hL
      subst hab1
      subst hab2
      generalize l[k] = y at *
      obtain ⟨yn, yr, ya, yc⟩ := y
      have HE1 := Lib.hid he1; have HE2 := Lib.hid he2
      have HC := Lib.hid fun V => as_any yn yr ya yc V
      have HQ := Lib.hid fun V => en_neq yn yn yr yr ya yc ya yc V
      clear he1 he2 hL
      go_wp2_with fail
      refine Drawn.wp_region_flowL 10 [Drawn.SP.is (.slice (some ⟨b1, o1, none⟩) n c1), Drawn.SP.is (.int .i64 (k : Nat)), Drawn.SP.is (.pointer (some ⟨b1, o1 + k * 4, none⟩)), Drawn.SP.is (.agg #[.string yn, .int .i64 yr, .int .i64 ya, .int .i64 yc]), Drawn.SP.is (.slice (some ⟨b2, o2, none⟩) n c2), Drawn.SP.is (.int .i64 (k : Nat)), Drawn.SP.is (.pointer (some ⟨b2, o2 + k * 4, none⟩)), Drawn.SP.is (.agg #[.string yn, .int .i64 yr, .int .i64 ya, .int .i64 yc]), Drawn.SP.is (.agg #[.string yn, .int .i64 yr, .int .i64 ya, .int .i64 yc]), Drawn.SP.is (.bool false)] (by kernel_rfl) (by kernel_rfl) ?_ ?_
      · intro i hi a w3 hb hev hdep
        rcases (show i = 0 ∨ i = 1 ∨ i = 2 ∨ i = 3 ∨ i = 4 ∨ i = 5 ∨ i = 6 ∨ i = 7 ∨ i = 8 ∨ i = 9 by omega) with rfl | rfl | rfl | rfl | rfl | rfl | rfl | rfl | rfl | rfl
        · have e0 : a.tmps[0]?.getD undef = .slice (some ⟨b1, o1, none⟩) n c1 := hev 0 rfl
          refine Drawn.wpOp_flow 16 rfl rfl rfl ?_
          clear hev hdep hb
          go_simp
          exact ⟨_, rfl, rfl, Below.refl _ _⟩
        · have e5 : a.tmps[5]?.getD undef = .int .i64 (k : Nat) := hev 5 rfl
          refine Drawn.wpOp_flow 17 rfl rfl rfl ?_
          clear hev hdep hb
          go_simp
          exact ⟨_, rfl, rfl, Below.refl _ _⟩
        · have d0 : a.tmps[16]?.getD undef = .slice (some ⟨b1, o1, none⟩) n c1 := hdep 0 rfl
          have d1 : a.tmps[17]?.getD undef = .int .i64 (k : Nat) := hdep 1 rfl
          refine Drawn.wpOp_flow 18 rfl rfl rfl ?_
          clear hev hdep hb
          go_simp
          exact ⟨_, rfl, rfl, Below.refl _ _⟩
        · have d2 : a.tmps[18]?.getD undef = .pointer (some ⟨b1, o1 + k * 4, none⟩) := hdep 2 rfl
          refine Drawn.wpOp_flow 19 rfl rfl rfl ?_
          obtain ⟨c0, c1', c2', c3⟩ := HE1.out.below hb
          obtain ⟨d0, d1', d2', d3⟩ := HE2.out.below hb
          simp only at c0 c1' c2' c3 d0 d1' d2' d3
          clear hev hdep hb
          go_simp
          exact ⟨_, rfl, rfl, Below.refl _ _⟩
        · have e1 : a.tmps[1]?.getD undef = .slice (some ⟨b2, o2, none⟩) n c2 := hev 1 rfl
          refine Drawn.wpOp_flow 20 rfl rfl rfl ?_
          clear hev hdep hb
          go_simp
          exact ⟨_, rfl, rfl, Below.refl _ _⟩
        · have e5 : a.tmps[5]?.getD undef = .int .i64 (k : Nat) := hev 5 rfl
          refine Drawn.wpOp_flow 21 rfl rfl rfl ?_
          clear hev hdep hb
          go_simp
          exact ⟨_, rfl, rfl, Below.refl _ _⟩
        · have d4 : a.tmps[20]?.getD undef = .slice (some ⟨b2, o2, none⟩) n c2 := hdep 4 rfl
          have d5 : a.tmps[21]?.getD undef = .int .i64 (k : Nat) := hdep 5 rfl
          refine Drawn.wpOp_flow 22 rfl rfl rfl ?_
          clear hev hdep hb
          go_simp
          exact ⟨_, rfl, rfl, Below.refl _ _⟩
        · have d6 : a.tmps[22]?.getD undef = .pointer (some ⟨b2, o2 + k * 4, none⟩) := hdep 6 rfl
          refine Drawn.wpOp_flow 23 rfl rfl rfl ?_
          obtain ⟨c0, c1', c2', c3⟩ := HE1.out.below hb
          obtain ⟨d0, d1', d2', d3⟩ := HE2.out.below hb
          simp only at c0 c1' c2' c3 d0 d1' d2' d3
          clear hev hdep hb
          go_simp
          exact ⟨_, rfl, rfl, Below.refl _ _⟩
        · have d7 : a.tmps[23]?.getD undef = .agg #[.string yn, .int .i64 yr, .int .i64 ya, .int .i64 yc] := hdep 7 rfl
          refine Drawn.wpOp_flow 24 rfl rfl rfl ?_
          clear hev hdep
          go_simp
          refine (HC.out w3).mono ?_
          rintro e w4 ⟨rfl, hb4⟩
          exact ⟨_, rfl, rfl, hb4⟩
        · have d3 : a.tmps[19]?.getD undef = .agg #[.string yn, .int .i64 yr, .int .i64 ya, .int .i64 yc] := hdep 3 rfl
          have d8 : a.tmps[24]?.getD undef = .agg #[.string yn, .int .i64 yr, .int .i64 ya, .int .i64 yc] := hdep 8 rfl
          refine Drawn.wpOp_flow 25 rfl rfl rfl ?_
          clear hev hdep
          have hg := en_guard
          clear hb
          go_simp
          exact ⟨_, rfl, rfl, Below.refl _ _⟩
      · intro xq w3 hb hxq
        have vq0 : xq 0 = .slice (some ⟨b1, o1, none⟩) n c1 := hxq 0 (by omega)
        have vq1 : xq 1 = .int .i64 (k : Nat) := hxq 1 (by omega)
        have vq2 : xq 2 = .pointer (some ⟨b1, o1 + k * 4, none⟩) := hxq 2 (by omega)
        have vq3 : xq 3 = .agg #[.string yn, .int .i64 yr, .int .i64 ya, .int .i64 yc] := hxq 3 (by omega)
        have vq4 : xq 4 = .slice (some ⟨b2, o2, none⟩) n c2 := hxq 4 (by omega)
        have vq5 : xq 5 = .int .i64 (k : Nat) := hxq 5 (by omega)
        have vq6 : xq 6 = .pointer (some ⟨b2, o2 + k * 4, none⟩) := hxq 6 (by omega)
        have vq7 : xq 7 = .agg #[.string yn, .int .i64 yr, .int .i64 ya, .int .i64 yc] := hxq 7 (by omega)
        have vq8 : xq 8 = .agg #[.string yn, .int .i64 yr, .int .i64 ya, .int .i64 yc] := hxq 8 (by omega)
        have vq9 : xq 9 = .bool false := hxq 9 (by omega)
        show Exit.then _ _ Exit.normal (Drawn.acts _ [(25, some (xq 9)), (24, some (xq 8)), (23, some (xq 7)), (22, some (xq 6)), (21, some (xq 5)), (20, some (xq 4)), (19, some (xq 3)), (18, some (xq 2)), (17, some (xq 1)), (16, some (xq 0))]) _
        rw [vq0, vq1, vq2, vq3, vq4, vq5, vq6, vq7, vq8, vq9]
        clear hxq vq0 vq1 vq2 vq3 vq4 vq5 vq6 vq7 vq8 vq9
        clear xq
        simp only [Drawn.acts]
        go_simp
        have HB3 := Lib.hid (bstep HB.out hb)
        clear hb
        go_at_K
        go_wp2
        go_roundw
        case rel => exact ⟨k + 1, by go_num, by omega, HB3⟩
        case measure => simp [intOf] <;> omega
    · obtain rfl : k = n := by omega
      go_wp2
      go_ret
      exact ⟨rfl, HB.out⟩
end Go.Proofs.Ytnjdioghjjaegaa.Law22

/- laws of layer 22: the document's example (alive) -/
set_option maxRecDepth 100000
namespace Go.Proofs.Ytnjdioghjjaegaa.Law22
open Go.RowKit IdxM Ents Index R22

/-- what an index's calls write lies beyond where it began -/
theorem ix_below {w0 w w' : World} {B x D : Nat} {v : Value} {l : List En} (h : IxAt w B x v l) (hB : D ≤ B) (hb : Below D w0 w) (hk : Keeps (Its x v) w w') : Below D w0 w' :=
  below_keeps hb hk (fun k hk => by
    rcases hk with q | q
    · have := h.base; omega
    · have := (h.own.lt k q).1; omega) (by have := h.lt; have := h.base; omega)
theorem alive_any (w : World) : Calls Try.prog 5 #[] w fun e w' => e = .returned (.bool true) ∧ Below w.heap.size w w' := by
  have p1 : putK [] ⟨⟨#[98]⟩, 0, 0, 0⟩ = [⟨⟨#[98]⟩, 0, 0, 0⟩] := by decide +kernel
  have p2 : putK [⟨⟨#[98]⟩, 0, 0, 0⟩] ⟨⟨#[97]⟩, 1, 0, 0⟩ = [⟨⟨#[97]⟩, 1, 0, 0⟩, ⟨⟨#[98]⟩, 0, 0, 0⟩] := by decide +kernel
  have p3 : putK [⟨⟨#[97]⟩, 1, 0, 0⟩, ⟨⟨#[98]⟩, 0, 0, 0⟩] ⟨⟨#[97]⟩, 0, 0, 5⟩ = [⟨⟨#[97]⟩, 0, 0, 5⟩, ⟨⟨#[97]⟩, 1, 0, 0⟩, ⟨⟨#[98]⟩, 0, 0, 0⟩] := by decide +kernel
  have p4 : (once (([⟨⟨#[97]⟩, 0, 0, 5⟩, ⟨⟨#[97]⟩, 1, 0, 0⟩, ⟨⟨#[98]⟩, 0, 0, 0⟩] : List En).map En.name)).length = 2 := by decide +kernel
  have P1 := Lib.hid p1; have P2 := Lib.hid p2; have P3 := Lib.hid p3; have P4 := Lib.hid p4
  have HNEW := Lib.hid (new_any w)
  obtain ⟨x, hx⟩ : ∃ x, x = w.heap.size := ⟨_, rfl⟩
  have HXX := Lib.hid hx
  clear p1 p2 p3 p4 hx
  go_enter Try.func5, Try.ntmps5
  go_wp2_with fail
  refine HNEW.out.mono ?_
  rintro e w1 ⟨rfl, h1, hb1⟩
  rw [← HXX.out] at h1 hb1 ⊢
  have H1 := Lib.hid h1; have B1 := Lib.hid hb1
  clear h1 hb1 HNEW
  go_wp2_with fail
  refine (as_any _ _ _ _ _).mono ?_
  rintro e w2 ⟨rfl, hb⟩
  have H2 := Lib.hid (H1.out.below hb); have B2 := Lib.hid (B1.out.trans (hb.mono (by have := H1.out.lt; omega)))
  clear hb
  go_wp2_with fail
  refine (put_any x (.slice none 0 0) _ ⟨#[98]⟩ 0 0 0 x w2 H2.out (by decide)).mono ?_
  rintro e w3 ⟨rfl, v3, hx, hk, -⟩
  rw [P1.out] at hx
  have H3 := Lib.hid hx; have B3 := Lib.hid (ix_below H2.out (Nat.le_refl _) B2.out hk)
  clear hx hk
  go_wp2_with fail
  refine (as_any _ _ _ _ _).mono ?_
  rintro e w4 ⟨rfl, hb⟩
  have H4 := Lib.hid (H3.out.below hb); have B4 := Lib.hid (B3.out.trans (hb.mono (by have := H3.out.lt; omega)))
  clear hb
  go_wp2_with fail
  refine (put_any x v3 _ ⟨#[97]⟩ 1 0 0 x w4 H4.out (by decide)).mono ?_
  rintro e w5 ⟨rfl, v5, hx, hk, -⟩
  rw [P2.out] at hx
  have H5 := Lib.hid hx; have B5 := Lib.hid (ix_below H4.out (Nat.le_refl _) B4.out hk)
  clear hx hk
  go_wp2_with fail
  refine (as_any _ _ _ _ _).mono ?_
  rintro e w6 ⟨rfl, hb⟩
  have H6 := Lib.hid (H5.out.below hb); have B6 := Lib.hid (B5.out.trans (hb.mono (by have := H5.out.lt; omega)))
  clear hb
  go_wp2_with fail
  refine (put_any x v5 _ ⟨#[97]⟩ 0 0 5 x w6 H6.out (by decide)).mono ?_
  rintro e w7 ⟨rfl, v7, hx, hk, -⟩
  rw [P3.out] at hx
  have H7 := Lib.hid hx; have B7 := Lib.hid (ix_below H6.out (Nat.le_refl _) B6.out hk)
  clear hx hk
  go_wp2_with fail
  refine (all_any x v7 _ x w7 H7.out).mono ?_
  rintro e w8 ⟨v8, rfl, ho, hb⟩
  have H8 := Lib.hid (H7.out.below hb); have B8 := Lib.hid (B7.out.trans (hb.mono (by have := H7.out.lt; omega)))
  rcases OwnEn.rowE ho with ⟨_, hnil⟩ | ⟨g, cap, hv, -, hrow⟩
  · cases hnil
  have he := hrow.ents
  obtain ⟨b0, o0, e0, k0⟩ := he 0 (by simp)
  obtain ⟨b1, o1, e1, k1⟩ := he 1 (by simp)
  obtain ⟨b2, o2, e2, k2⟩ := he 2 (by simp)
  injection e0 with e0; injection e0 with e0 f0; subst e0; subst f0
  injection e1 with e1; injection e1 with e1 f1; subst e1; subst f1
  injection e2 with e2; injection e2 with e2 f2; subst e2; subst f2
  have c0 := k0.c3; have c1 := k1.c1; have c2 := k2.c0
  simp at c0 c1 c2
  simp at hv
  subst hv
  have HNAMES := Lib.hid (names_any x v7 _ x w8 H8.out)
  clear hb ho hrow he k0 k1 k2 H1 H2 H3 H4 H5 H6 H7 B1 B2 B3 B4 B5 B6 B7
  go_wp2_with fail
  refine HNAMES.out.mono ?_
  rintro e w9 ⟨A, c, rfl, hl, hc, -, hb⟩
  rw [P4.out] at hl ⊢
  have hb' := Lib.hid (B8.out.trans (hb.mono (by have := H8.out.lt; omega)))
  clear hb HNAMES
  go_wp2
  go_ret
  exact ⟨rfl, by rw [← HXX.out]; exact hb'.out⟩
end Go.Proofs.Ytnjdioghjjaegaa.Law22

/- laws of layer 22: what stands in a round of IndexPlays -/
set_option maxRecDepth 100000
namespace Go.Proofs.Ytnjdioghjjaegaa.Law22
open Go.RowKit IdxM Ents Index R22

/-- a call in block g, the whole of it -/
def ActB (w : World) (g : Nat) (k : Int) (a : ByteArray) (i p q : Int) : Prop := w.heap[g]? = some (.cells #[.int .i64 k, .string a, .int .i64 i, .int .i64 p, .int .i64 q] 30 (0, 0))
section
variable {w w' : World} {g : Nat} {a : ByteArray} {k i p q : Int}
theorem ActB.lt (h : ActB w g k a i p q) : g < w.heap.size := (Array.getElem?_eq_some_iff.1 h).1
theorem ActB.cells (h : ActB w g k a i p q) : w.cell? ⟨g, 0, none⟩ = some (.int .i64 k) ∧ w.cell? ⟨g, 1, none⟩ = some (.string a) ∧ w.cell? ⟨g, 2, none⟩ = some (.int .i64 i) ∧ w.cell? ⟨g, 3, none⟩ = some (.int .i64 p) ∧ w.cell? ⟨g, 4, none⟩ = some (.int .i64 q) :=
  ⟨by rw [cell_of_row w g 0 _ 30 (0, 0) h]; rfl, by rw [cell_of_row w g 1 _ 30 (0, 0) h]; rfl, by rw [cell_of_row w g 2 _ 30 (0, 0) h]; rfl, by rw [cell_of_row w g 3 _ 30 (0, 0) h]; rfl, by rw [cell_of_row w g 4 _ 30 (0, 0) h]; rfl⟩
theorem ActB.new (w : World) (k : Int) (a : ByteArray) (i p q : Int) : ActB (w.alloc (.cells #[.int .i64 k, .string a, .int .i64 i, .int .i64 p, .int .i64 q] 30)) w.heap.size k a i p q := heap_alloc_new w _
theorem ActB.below (h : ActB w g k a i p q) (hb : Below w.heap.size w w') : ActB w' g k a i p q := (hb.block g h.lt).trans h
theorem ActB.keep {F : Nat → Prop} (h : ActB w g k a i p q) (hk : Keeps F w w') (hg : ¬ F g) : ActB w' g k a i p q := (hk.block g h.lt hg).trans h
end
theorem act_under : Try.prog.underlying 30 = some (.struct (Try.prog.fieldsOf 30)) := by kernel_rfl
theorem act_size : (Try.prog.info? 30).map (fun i => i.size) = some 5 := by kernel_rfl
theorem act_one (k : Int) (a : ByteArray) (i p q : Int) : (#[.int .i64 k, .string a, .int .i64 i, .int .i64 p, .int .i64 q] : Array Value).all (·.oneCell') = true := by simp [Value.oneCell']
theorem wpList_store_act {ops : Array Oper} {rest : List Oper} {o : Oper} {act : Act} {w : World} {Q : Exit → Act → World → Prop} (hgd : o.guard = none) (x y : Operand) (ho : o.op = .store 30 x y)
    (g : Nat) (k : Int) (a : ByteArray) (i p q : Int) (hx : act.eval x = .pointer (some ⟨g, 0, none⟩)) (hy : act.eval y = .agg #[.int .i64 k, .string a, .int .i64 i, .int .i64 p, .int .i64 q]) (k0 : Int) (a0 : ByteArray) (i0 p0 q0 : Int) (hg : ActB w g k0 a0 i0 p0 q0)
    (K : ∀ w', ActB w' g k a i p q → Keeps (fun k => k = g) w w' → wpList Try.prog ops Q rest (act.put o.dst undef) w') : wpList Try.prog ops Q (o :: rest) act w :=
  wpList_store_row hgd 30 x y ho g _ hx hy 30 _ hg act_size rfl (act_one k a i p q) (K _ (setRow_heap w g _ _ _ (0, 0) hg) (keeps_setRow w g _))

/-- an index and the document's entries, the same, apart from one another -/
structure Pl (w0 w : World) (x : Nat) (vx : Value) (L : List En) (A : Option Addr) (n c : Nat) : Prop where
  ix : IxAt w x x vx L
  ents : EntsAt w A L
  far : ∀ a, A = some a → 0 < L.length → ¬ Its x vx a.block
  b : Below w0.heap.size w0 w
  base : w0.heap.size ≤ x
  len : n = L.length
  cap : n ≤ c
  most : c ≤ maxLen
  sane : SaneE L
section
variable {w0 w w' : World} {x : Nat} {vx : Value} {L : List En} {A : Option Addr} {n c : Nat}
theorem Pl.below (h : Pl w0 w x vx L A n c) (hb : Below w.heap.size w w') : Pl w0 w' x vx L A n c := ⟨h.ix.below hb, h.ents.below hb, h.far, bstep h.b hb, h.base, h.len, h.cap, h.most, h.sane⟩
theorem Pl.keep {F : Nat → Prop} (h : Pl w0 w x vx L A n c) (hk : Keeps F w w') (hx : ∀ k, Its x vx k → ¬ F k) (ha : 0 < L.length → ∀ a, A = some a → ¬ F a.block) (hF : ∀ k, F k → w0.heap.size ≤ k) : Pl w0 w' x vx L A n c :=
  ⟨h.ix.keep hk hx, h.ents.keep hk ha, h.far, below_keeps h.b hk hF h.b.size, h.base, h.len, h.cap, h.most, h.sane⟩
/-- what is new stays apart -/
theorem Pl.keepN {F : Nat → Prop} (h0 : Pl w0 w x vx L A n c) {V V' : World} (h : Pl w0 V x vx L A n c) (hk : Keeps F V V') (hF : ∀ k, F k → w.heap.size ≤ k) : Pl w0 V' x vx L A n c :=
  h.keep hk (fun k hk hf => by have := h0.ix.its k hk; have := hF k hf; omega) (fun hl a e hf => by have := h0.ents.lt hl a e; have := hF _ hf; omega) (fun k hf => Nat.le_trans h0.b.size (hF k hf))
/-- the index has turned: to entries that the document's list is not yet -/
theorem Pl.turned (h : Pl w0 w x vx L A n c) {vx' : Value} {L' : List En} (_hx : IxAt w' x x vx' L') (hk : Keeps (Its x vx) w w') (hp : ∀ k, vx'.ownBlock = some k → vx.ownBlock = some k ∨ w.heap.size ≤ k) :
    EntsAt w' A L ∧ (∀ a, A = some a → 0 < L.length → ¬ Its x vx' a.block) ∧ Below w0.heap.size w0 w' := by
  refine ⟨h.ents.keep hk (fun hl a e hf => h.far a e hl hf), fun a e hl hf => ?_, ?_⟩
  · rcases hf with q | q
    · exact h.far a e hl (.inl q)
    · rcases hp _ q with q | q
      · exact h.far a e hl (.inr q)
      · have := h.ents.lt hl a e; omega
  · exact below_keeps h.b hk (fun k hk => by
      rcases hk with q | q
      · have := h.base; omega
      · have := (h.ix.own.lt k q).1; have := h.base; omega) h.b.size
end
end Go.Proofs.Ytnjdioghjjaegaa.Law22
