/- merged: IdxH, IdxI, IdxJ -/
import Derived.Test.YtnjdioghjjaegaaMIY
import Derived.Test.YtnjdioghjjaegaaHeld

/- package index: Put -/
set_option maxRecDepth 100000
namespace Go.Proofs.Ytnjdioghjjaegaa.Index
open Go.RowKit IdxM Ents

/-- what holds while 'x.entries = slices.Insert(x.entries, x.place(e.Key), e)' goes, in whatever order: f what has come up, g what it gave -/
structure PutI (w0 : World) (B : Nat) (v : Value) (l : List En) (y : En) (V : Nat → Value) (f : Nat → Bool) (g : Nat → Value) (w : World) : Prop where
  vals : ∀ i, i < 14 → i ≠ 10 → i ≠ 11 → f i = true → g i = V i
  quiet : f 11 = false → Below w0.heap.size w0 w
  lit : f 11 = false → f 10 = true → ∃ vb, g 10 = .slice (some ⟨vb, 0, none⟩) 1 1 ∧ w0.heap.size ≤ vb ∧ EnB w vb y.name y.role y.at_ y.n
  done : f 11 = true → OwnEn w B 35 (g 11) (ins l y) ∧ Keeps (fun k => v.ownBlock = some k) w0 w ∧ ∀ k, (g 11).ownBlock = some k → v.ownBlock = some k ∨ w0.heap.size ≤ k
  deps : f 11 = true → f 4 = true ∧ f 7 = true ∧ f 8 = true ∧ f 9 = true ∧ f 10 = true
  d8 : f 8 = true → f 7 = true
  d10 : f 10 = true → f 9 = true
section
variable {w0 w w' : World} {B : Nat} {v : Value} {l : List En} {y : En} {V : Nat → Value} {f : Nat → Bool} {g : Nat → Value}
theorem PutI.begin (h : ∀ i, i < 14 → f i = false) : PutI w0 B v l y V f g w0.drew :=
  ⟨fun i h14 _ _ hi => by (rw [h i h14] at hi; cases hi),
    fun _ => bdraw w0 1, fun _ h10 => by (rw [h 10 (by omega)] at h10; cases h10), fun h11 => by (rw [h 11 (by omega)] at h11; cases h11), fun h11 => by (rw [h 11 (by omega)] at h11; cases h11), fun h8 => by (rw [h 8 (by omega)] at h8; cases h8), fun h10 => by (rw [h 10 (by omega)] at h10; cases h10)⟩
/-- one that must have come up ahead of the Insert hasn't: no Insert yet -/
theorem PutI.not11 (h : PutI w0 B v l y V f g w) {i : Nat} (hi : i = 4 ∨ i = 7 ∨ i = 8 ∨ i = 9 ∨ i = 10) (hf : f i = false) : f 11 = false := by
  rcases h11 : f 11 with _ | _
  · rfl
  · exfalso
    obtain ⟨a, b, c, d, e⟩ := h.deps h11
    rcases hi with rfl | rfl | rfl | rfl | rfl
    · rw [a] at hf; cases hf
    · rw [b] at hf; cases hf
    · rw [c] at hf; cases hf
    · rw [d] at hf; cases hf
    · rw [e] at hf; cases hf
theorem up_true {f : Nat → Bool} {i j : Nat} (h : f j = true) : Drawn.upd f i j = true := by unfold Drawn.upd; rw [h]; rfl
theorem PutI.pure_ (h : PutI w0 B v l y V f g w) {i : Nat} (h8 : i ≠ 8) (h10 : i ≠ 10) (h11 : i ≠ 11) : PutI w0 B v l y V (Drawn.upd f i) (Drawn.updV g i (V i)) w := by
  refine ⟨fun j j9 j0 j1 hj => ?_, fun e => ?_, fun e e2 => ?_, fun e => ?_, fun e => ?_, fun e => ?_, fun e => ?_⟩
  · by_cases q : j = i
    · subst q; exact Drawn.updV_self
    · rw [Drawn.upd_ne q] at hj; rw [Drawn.updV_ne q]; exact h.vals j j9 j0 j1 hj
  · rw [Drawn.upd_ne (Ne.symm h11)] at e; exact h.quiet e
  · rw [Drawn.upd_ne (Ne.symm h11)] at e; rw [Drawn.upd_ne (Ne.symm h10)] at e2; rw [Drawn.updV_ne (Ne.symm h10)]; exact h.lit e e2
  · rw [Drawn.upd_ne (Ne.symm h11)] at e; rw [Drawn.updV_ne (Ne.symm h11)]; exact h.done e
  · rw [Drawn.upd_ne (Ne.symm h11)] at e
    obtain ⟨a, b, c, d, k⟩ := h.deps e
    exact ⟨up_true a, up_true b, up_true c, up_true d, up_true k⟩
  · rw [Drawn.upd_ne (Ne.symm h8)] at e; exact up_true (h.d8 e)
  · rw [Drawn.upd_ne (Ne.symm h10)] at e; exact up_true (h.d10 e)
theorem PutI.placed (h : PutI w0 B v l y V f g w) (hf : f 8 = false) (h7 : f 7 = true) (hb : Below w.heap.size w w') : PutI w0 B v l y V (Drawn.upd f 8) (Drawn.updV g 8 (V 8)) w' := by
  have n11 := h.not11 (.inr (.inr (.inl rfl))) hf
  refine ⟨fun j j9 j0 j1 hj => ?_, fun _ => bstep (h.quiet n11) hb, fun _ e2 => ?_, fun e => ?_, fun e => ?_, fun _ => up_true h7, fun e => ?_⟩
  · by_cases q : j = 8
    · subst q; exact Drawn.updV_self
    · rw [Drawn.upd_ne q] at hj; rw [Drawn.updV_ne q]; exact h.vals j j9 j0 j1 hj
  · rw [Drawn.upd_ne (by decide)] at e2; rw [Drawn.updV_ne (by decide)]
    obtain ⟨vb, k1, k2, k3⟩ := h.lit n11 e2
    exact ⟨vb, k1, k2, k3.below hb⟩
  · rw [Drawn.upd_ne (by decide), n11] at e; cases e
  · rw [Drawn.upd_ne (by decide), n11] at e; cases e
  · rw [Drawn.upd_ne (by decide)] at e; exact up_true (h.d10 e)
theorem PutI.built (h : PutI w0 B v l y V f g w) (hf : f 10 = false) (h9 : f 9 = true) : PutI w0 B v l y V (Drawn.upd f 10) (Drawn.updV g 10 (.slice (some ⟨w.heap.size, 0, none⟩) 1 1)) (w.alloc (.cells #[.string y.name, .int .i64 y.role, .int .i64 y.at_, .int .i64 y.n] 35)) := by
  have n11 := h.not11 (.inr (.inr (.inr (.inr rfl)))) hf
  have hb := h.quiet n11
  refine ⟨fun j j9 j0 j1 hj => ?_, fun _ => bstep hb (balloc _ _), fun _ _ => ⟨w.heap.size, Drawn.updV_self, hb.size, EnB.new w _ _ _ _⟩, fun e => ?_, fun e => ?_, fun e => ?_, fun _ => up_true h9⟩
  · rw [Drawn.upd_ne j0] at hj; rw [Drawn.updV_ne j0]; exact h.vals j j9 j0 j1 hj
  · rw [Drawn.upd_ne (by decide), n11] at e; cases e
  · rw [Drawn.upd_ne (by decide), n11] at e; cases e
  · rw [Drawn.upd_ne (by decide)] at e; exact up_true (h.d8 e)
theorem PutI.put (h : PutI w0 B v l y V f g w) (h4 : f 4 = true) (h8 : f 8 = true) (h10 : f 10 = true) (n11 : f 11 = false) {v' : Value} (ho : OwnEn w' B 35 v' (ins l y)) (hk : Keeps (fun k => v.ownBlock = some k) w w') (hp : ∀ k, v'.ownBlock = some k → v.ownBlock = some k ∨ w.heap.size ≤ k) :
    PutI w0 B v l y V (Drawn.upd f 11) (Drawn.updV g 11 v') w' := by
  have hb := h.quiet n11
  refine ⟨fun j j9 j0 j1 hj => ?_, fun e => ?_, fun e => ?_, fun _ => ?_, fun _ => ⟨up_true h4, up_true (h.d8 h8), up_true h8, up_true (h.d10 h10), up_true h10⟩, fun e => ?_, fun e => ?_⟩
  · rw [Drawn.upd_ne j1] at hj; rw [Drawn.updV_ne j1]; exact h.vals j j9 j0 j1 hj
  · rw [Drawn.upd_self] at e; cases e
  · rw [Drawn.upd_self] at e; cases e
  · rw [Drawn.updV_self]
    exact ⟨ho, keeps_more (.of_below _ hb) hk (fun j e => .inl e), fun k e => (hp k e).imp id fun q => Nat.le_trans hb.size q⟩
  · exact up_true (h.d8 h8)
  · exact up_true (h.d10 h10)
end
theorem put_nil (yn : ByteArray) (yr ya yc : Int) (w : World) : Calls Try.prog 9 #[.pointer none, .agg #[.string yn, .int .i64 yr, .int .i64 ya, .int .i64 yc]] w (Told En.zero false w) := by
  have hb := (balloc w (.cells #[.string yn, .int .i64 yr, .int .i64 ya, .int .i64 yc] 35)).alloc (by simp) (.cells #[.string ByteArray.empty, .int .i64 0, .int .i64 0, .int .i64 0] 35)
  have he := EnB.new (w.alloc (.cells #[.string yn, .int .i64 yr, .int .i64 ya, .int .i64 yc] 35)) ByteArray.empty 0 0 0
  have hz : (w.alloc (.cells #[.string yn, .int .i64 yr, .int .i64 ya, .int .i64 yc] 35)).heap.size = w.heap.size + 1 := by simp
  rw [hz] at he
  go_enter Try.func9, Try.ntmps9
  go_wp2_with (first | (refine wpList_store_en rfl _ _ rfl (w.heap.size + 1) ByteArray.empty 0 0 0 rfl rfl ByteArray.empty 0 0 0 he ?_; intro w1 he1 hk1))
  exact Go.bodyPost_ret (results_en2 rfl _ _ (w.heap.size + 1) ByteArray.empty 0 0 0 rfl he1 _ rfl) rfl ⟨rfl, below_keeps1 hb (Below.refl _ _) hk1 (by omega)⟩

set_option maxHeartbeats 2000000 in
theorem put_any (x : Nat) (v : Value) (l : List En) (yn : ByteArray) (yr ya yc : Int) (B : Nat) (w : World) (h : IxAt w B x v l) (hfw : l.length < 1048576) :
    Calls Try.prog 9 #[.pointer (some ⟨x, 0, none⟩), .agg #[.string yn, .int .i64 yr, .int .i64 ya, .int .i64 yc]] w (Chg B x v (putK l ⟨yn, yr, ya, yc⟩) (got l (yn, yr)) (has l (yn, yr)) w) := by
  have hb0 := (balloc w (.cells #[.string yn, .int .i64 yr, .int .i64 ya, .int .i64 yc] 35)).alloc (by simp) (.cells #[.string ⟨#[]⟩, .int .i64 0, .int .i64 0, .int .i64 0] 35)
  have he0 := EnB.new (w.alloc (.cells #[.string yn, .int .i64 yr, .int .i64 ya, .int .i64 yc] 35)) ⟨#[]⟩ 0 0 0
  have hz0 : (w.alloc (.cells #[.string yn, .int .i64 yr, .int .i64 ya, .int .i64 yc] 35)).heap.size = w.heap.size + 1 := by simp
  rw [hz0] at he0
  have hy0 := (EnB.new w yn yr ya yc).below (balloc _ (.cells #[.string ⟨#[]⟩, .int .i64 0, .int .i64 0, .int .i64 0] 35))
  have hC := fun V hV => drop_any x v l yn yr B V hV
  have hlen : (putK l ⟨yn, yr, ya, yc⟩).length ≤ 1048576 := by have := putK_len l ⟨yn, yr, ya, yc⟩; omega
  have hput : putK l ⟨yn, yr, ya, yc⟩ = ins (dropK l (yn, yr)) ⟨yn, yr, ya, yc⟩ := rfl
  have hrise := rise_putK h.rise ⟨yn, yr, ya, yc⟩
  rw [hput] at hlen hrise
  obtain ⟨l1, hl1⟩ : ∃ l1, l1 = dropK l (yn, yr) := ⟨_, rfl⟩
  rw [← hl1] at hC hlen hrise hput
  have hll : l1.length ≤ 1048576 := by have := dropK_len l (yn, yr); rw [hl1]; omega
  have HC := Lib.hid hC; have HPUT := Lib.hid hput; have HLEN := Lib.hid hlen; have HR := Lib.hid hrise
  have HB0 := Lib.hid hb0; have HE0 := Lib.hid he0; have HY0 := Lib.hid hy0; have HX0 := Lib.hid (h.below hb0)
  have HITS := Lib.hid h.its; have HBX := Lib.hid h.base
  clear hb0 he0 hy0 hC hlen hput hrise hz0 h hl1 hfw
  generalize got l (yn, yr) = g at *
  generalize has l (yn, yr) = ok at *
  have hbt : w.heap.size ≤ w.heap.size + 1 := by omega
  obtain ⟨gn, gr, ga, gc⟩ := g
  go_enter Try.func9, Try.ntmps9
  go_wp2_with fail
  generalize (w.alloc (.cells #[.string yn, .int .i64 yr, .int .i64 ya, .int .i64 yc] 35)).alloc (.cells #[.string ⟨#[]⟩, .int .i64 0, .int .i64 0, .int .i64 0] 35) = W0 at *
  have hbe : w.heap.size ≤ w.heap.size := Nat.le_refl _
  have hbtb : w.heap.size ≠ w.heap.size + 1 := by omega
  obtain ⟨bt, hbt1⟩ : ∃ bt, bt = w.heap.size + 1 := ⟨_, rfl⟩
  obtain ⟨be, hbe1⟩ : ∃ be, be = w.heap.size := ⟨_, rfl⟩
  rw [← hbt1] at HE0 hbt hbtb ⊢
  have hbe : w.heap.size ≤ be := by omega
  rw [← hbe1] at HY0 ⊢
  clear hbt1 hbe1 hbtb
  refine (HC.out W0 HX0.out).mono ?_
  rintro e w1 ⟨rfl, v1, hx1, hk1, hp1⟩
  have HT := Lib.hid (HE0.out.keep hk1 (fun e => by have := HITS.out _ e; omega)); have HY := Lib.hid (HY0.out.keep hk1 (fun e => by have := HITS.out _ e; omega))
  have HK1 := Lib.hid (keeps_more (.of_below (Its x v) HB0.out) hk1 (fun j e => .inl e)); have HX1 := Lib.hid hx1
  have HP1 := Lib.hid fun k e => (hp1 k e).imp id fun q => Nat.lt_of_lt_of_le HE0.out.lt q; have HV1 := Lib.hid hx1.its
  clear hx1 hk1 hp1 HE0 HY0 HB0 HC HX0
  have HN2 := Lib.hid (EnB.new w1 ⟨#[]⟩ 0 0 0)
  have hba := balloc w1 (.cells #[.string ⟨#[]⟩, .int .i64 0, .int .i64 0, .int .i64 0] 35)
  have HBA := Lib.hid hba
  have HT1 := Lib.hid (HT.out.below hba); have HY1 := Lib.hid (HY.out.below hba)
  have hne : bt ≠ w1.heap.size := by have := HT.out.lt; omega
  have hne2 : be ≠ w1.heap.size := by have := HY.out.lt; omega
  go_wp2_with (first
    | (refine wpList_store_en rfl _ _ rfl w1.heap.size gn gr ga gc rfl rfl ⟨#[]⟩ 0 0 0 HN2.out ?_; intro w2 he2 hk2; have HT2 := Lib.hid (HT1.out.keep hk2 hne); have HY2 := Lib.hid (HY1.out.keep hk2 hne2); have HE2 := Lib.hid he2; have HKK2 := Lib.hid hk2; clear he2 hk2))
  have HX2 := Lib.hid ((HX1.out.below HBA.out).keep HKK2.out (fun k hk e => by have := HX1.out.its k hk; omega))
  have HK2 := Lib.hid (keeps_more (keeps_more HK1.out (Keeps.of_below (fun _ => False) HBA.out) (fun j e => e.elim)) HKK2.out (fun j e => .inr (by have := HK1.out.size; omega)))
  have hw1w : w.heap.size ≤ w1.heap.size := HK1.out.size
  clear HT1 HY1 HX1 HBA HKK2 HN2 HK1 HT HY
  obtain ⟨A1, c1, hv1, -⟩ := HX2.out.own.ents
  subst hv1
  obtain ⟨n, hn⟩ : ∃ n, n = l1.length := ⟨_, rfl⟩
  have HNL := Lib.hid hn
  have HPC := Lib.hid fun V hV => place_any x (.slice A1 n c1) l1 yn yr B V hV
  have HPL := Lib.hid (plc_le l1 (yn, yr))
  have HINS : Hid (ins l1 ⟨yn, yr, ya, yc⟩ = l1.take (plc l1 (yn, yr)) ++ ⟨yn, yr, ya, yc⟩ :: l1.drop (plc l1 (yn, yr))) := Lib.hid rfl
  rw [← hn] at HX2 hll HP1 HV1
  obtain ⟨p, hp⟩ : ∃ p, p = plc l1 (yn, yr) := ⟨_, rfl⟩
  rw [← hp] at HPC HPL HINS
  clear hn hp
  refine Drawn.wp_region_heldT 14 (PutI w2 B (.slice A1 n c1) l1 ⟨yn, yr, ya, yc⟩ (fun i => [.pointer (some ⟨x, 0, none⟩), .pointer (some ⟨x, 0, none⟩), .pointer (some ⟨x, 0, none⟩), .pointer (some ⟨x, 0, none⟩), .slice A1 n c1, .pointer (some ⟨x, 0, none⟩), .pointer (some ⟨be, 0, none⟩), .agg #[.string yn, .int .i64 yr], .int .i64 (p : Nat), .agg #[.string yn, .int .i64 yr, .int .i64 ya, .int .i64 yc], undef, undef, .pointer (some ⟨x, 0, none⟩), .pointer (some ⟨x, 0, none⟩)].getD i undef)) (by kernel_rfl) (by kernel_rfl) (fun f gg hf => PutI.begin hf) ?_ ?_
  · intro i hi f gg a w3 hf hI hev hdep
    rcases (show i = 0 ∨ i = 1 ∨ i = 2 ∨ i = 3 ∨ i = 4 ∨ i = 5 ∨ i = 6 ∨ i = 7 ∨ i = 8 ∨ i = 9 ∨ i = 10 ∨ i = 11 ∨ i = 12 ∨ i = 13 by omega) with rfl | rfl | rfl | rfl | rfl | rfl | rfl | rfl | rfl | rfl | rfl | rfl | rfl | rfl
    · have e0 : a.tmps[0]?.getD undef = .pointer (some ⟨x, 0, none⟩) := hev 0 rfl
      refine Drawn.wpOp_held 18 rfl rfl rfl ?_
      have HK := Lib.hid (hI.pure_ (i := 0) (by decide) (by decide) (by decide))
      clear hev hdep hI hf
      go_simp
      exact ⟨_, rfl, HK.out⟩
    · have e0 : a.tmps[0]?.getD undef = .pointer (some ⟨x, 0, none⟩) := hev 0 rfl
      refine Drawn.wpOp_held 19 rfl rfl rfl ?_
      have HK := Lib.hid (hI.pure_ (i := 1) (by decide) (by decide) (by decide))
      clear hev hdep hI hf
      go_simp
      exact ⟨_, rfl, HK.out⟩
    · have d1 : a.tmps[19]?.getD undef = .pointer (some ⟨x, 0, none⟩) := (hdep 1 rfl).2.trans (hI.vals 1 (by decide) (by decide) (by decide) (hdep 1 rfl).1)
      refine Drawn.wpOp_held 20 rfl rfl rfl ?_
      have HK := Lib.hid (hI.pure_ (i := 2) (by decide) (by decide) (by decide))
      clear hev hdep hI hf
      go_simp
      exact ⟨_, rfl, HK.out⟩
    · have d2 : a.tmps[20]?.getD undef = .pointer (some ⟨x, 0, none⟩) := (hdep 2 rfl).2.trans (hI.vals 2 (by decide) (by decide) (by decide) (hdep 2 rfl).1)
      refine Drawn.wpOp_held 21 rfl rfl rfl ?_
      have HK := Lib.hid (hI.pure_ (i := 3) (by decide) (by decide) (by decide))
      clear hev hdep hI hf
      go_simp
      exact ⟨_, rfl, HK.out⟩
    · have d3 : a.tmps[21]?.getD undef = .pointer (some ⟨x, 0, none⟩) := (hdep 3 rfl).2.trans (hI.vals 3 (by decide) (by decide) (by decide) (hdep 3 rfl).1)
      refine Drawn.wpOp_held 22 rfl rfl rfl ?_
      have hb := hI.quiet (hI.not11 (.inl rfl) hf)
      have k0 := (HX2.out.below hb).cell
      clear hb
      have HK := Lib.hid (hI.pure_ (i := 4) (by decide) (by decide) (by decide))
      clear hev hdep hI hf
      go_simp
      exact ⟨_, rfl, HK.out⟩
    · have e0 : a.tmps[0]?.getD undef = .pointer (some ⟨x, 0, none⟩) := hev 0 rfl
      refine Drawn.wpOp_held 23 rfl rfl rfl ?_
      have HK := Lib.hid (hI.pure_ (i := 5) (by decide) (by decide) (by decide))
      clear hev hdep hI hf
      go_simp
      exact ⟨_, rfl, HK.out⟩
    · have e3 : a.tmps[3]?.getD undef = .pointer (some ⟨be, 0, none⟩) := hev 3 rfl
      refine Drawn.wpOp_held 24 rfl rfl rfl ?_
      have HK := Lib.hid (hI.pure_ (i := 6) (by decide) (by decide) (by decide))
      clear hev hdep hI hf
      go_simp
      exact ⟨_, rfl, HK.out⟩
    · have d6 : a.tmps[24]?.getD undef = .pointer (some ⟨be, 0, none⟩) := (hdep 6 rfl).2.trans (hI.vals 6 (by decide) (by decide) (by decide) (hdep 6 rfl).1)
      refine Drawn.wpOp_held 25 rfl rfl rfl ?_
      have hb := hI.quiet (hI.not11 (.inr (.inl rfl)) hf)
      obtain ⟨k0, k1, k2, k3⟩ := (HY2.out.below hb).lies
      simp only [Nat.zero_add] at k1 k2 k3
      clear hb
      have HK := Lib.hid (hI.pure_ (i := 7) (by decide) (by decide) (by decide))
      clear hev hdep hI hf
      go_simp
      exact ⟨_, rfl, HK.out⟩
    · have d5 : a.tmps[23]?.getD undef = .pointer (some ⟨x, 0, none⟩) := (hdep 5 rfl).2.trans (hI.vals 5 (by decide) (by decide) (by decide) (hdep 5 rfl).1)
      have d7 : a.tmps[25]?.getD undef = .agg #[.string yn, .int .i64 yr] := (hdep 7 rfl).2.trans (hI.vals 7 (by decide) (by decide) (by decide) (hdep 7 rfl).1)
      refine Drawn.wpOp_held 26 rfl rfl rfl ?_
      have hb := hI.quiet (hI.not11 (.inr (.inr (.inl rfl))) hf)
      have hC := HPC.out w3 (HX2.out.below hb)
      have h7 := (hdep 7 rfl).1
      clear hev hdep hb
      go_simp
      refine hC.mono ?_
      rintro e w4 ⟨rfl, hb4⟩
      exact ⟨_, rfl, hI.placed hf h7 hb4⟩
    · have e3 : a.tmps[3]?.getD undef = .pointer (some ⟨be, 0, none⟩) := hev 3 rfl
      refine Drawn.wpOp_held 27 rfl rfl rfl ?_
      have hb := hI.quiet (hI.not11 (.inr (.inr (.inr (.inl rfl)))) hf)
      obtain ⟨k0, k1, k2, k3⟩ := (HY2.out.below hb).lies
      simp only [Nat.zero_add] at k1 k2 k3
      clear hb
      have HK := Lib.hid (hI.pure_ (i := 9) (by decide) (by decide) (by decide))
      clear hev hdep hI hf
      go_simp
      exact ⟨_, rfl, HK.out⟩
    · have d9 : a.tmps[27]?.getD undef = .agg #[.string yn, .int .i64 yr, .int .i64 ya, .int .i64 yc] := (hdep 9 rfl).2.trans (hI.vals 9 (by decide) (by decide) (by decide) (hdep 9 rfl).1)
      refine Drawn.wpOp_held 28 rfl rfl rfl ?_
      have h9 := (hdep 9 rfl).1
      have HK := Lib.hid (hI.built hf h9)
      clear hev hdep hI hf h9
      go_simp
      exact ⟨_, rfl, HK.out⟩
    · have d4 : a.tmps[22]?.getD undef = .slice A1 n c1 := (hdep 4 rfl).2.trans (hI.vals 4 (by decide) (by decide) (by decide) (hdep 4 rfl).1)
      have d8 : a.tmps[26]?.getD undef = .int .i64 (p : Nat) := (hdep 8 rfl).2.trans (hI.vals 8 (by decide) (by decide) (by decide) (hdep 8 rfl).1)
      have d10 : a.tmps[28]?.getD undef = gg 10 := (hdep 10 rfl).2
      refine Drawn.wpOp_held 29 rfl rfl rfl ?_
      have h4 := (hdep 4 rfl).1
      have h8 := (hdep 8 rfl).1
      have h10 := (hdep 10 rfl).1
      have hb := hI.quiet hf
      obtain ⟨vb, hvb, hvl, hve⟩ := hI.lit hf h10
      rw [hvb] at d10
      have hx := HX2.out.below hb
      have hve' : EntsAt w3 (some ⟨vb, 0, none⟩) [⟨yn, yr, ya, yc⟩] := fun i hi => by
        obtain rfl : i = 0 := by simp at hi; omega
        exact ⟨vb, 0, rfl, hve.lies⟩
      have hC := insert_any B A1 n c1 p vb l1 ⟨yn, yr, ya, yc⟩ w3 hx.own (Nat.le_trans hx.base (Nat.le_of_lt hx.lt)) HNL.out.symm hll (by rw [HNL.out]; exact HPL.out) hve' (fun e => by have := (HX2.out.own.lt _ e).2; omega) 35 4 (by unfold World.shape?; rw [hve]; rfl) (by simp [World.frozen?, show w3.heap[vb]? = _ from hve]) (by simp [World.frozen?, show w3.heap[vb]? = _ from hve])
      rw [← HINS.out] at hC
      have HC := Lib.hid hC
      clear hev hdep hb hx hve hve' hC hvb hvl
      go_simp
      refine HC.out.mono ?_
      rintro e w4 ⟨v', rfl, ho, hk, hp⟩
      exact ⟨_, rfl, hI.put h4 h8 h10 hf ho hk hp⟩
    · have d0 : a.tmps[18]?.getD undef = .pointer (some ⟨x, 0, none⟩) := (hdep 0 rfl).2.trans (hI.vals 0 (by decide) (by decide) (by decide) (hdep 0 rfl).1)
      refine Drawn.wpOp_held 30 rfl rfl rfl ?_
      have HK := Lib.hid (hI.pure_ (i := 12) (by decide) (by decide) (by decide))
      clear hev hdep hI hf
      go_simp
      exact ⟨_, rfl, HK.out⟩
    · have d12 : a.tmps[30]?.getD undef = .pointer (some ⟨x, 0, none⟩) := (hdep 12 rfl).2.trans (hI.vals 12 (by decide) (by decide) (by decide) (hdep 12 rfl).1)
      refine Drawn.wpOp_held 31 rfl rfl rfl ?_
      have HK := Lib.hid (hI.pure_ (i := 13) (by decide) (by decide) (by decide))
      clear hev hdep hI hf
      go_simp
      exact ⟨_, rfl, HK.out⟩
  · intro f gg w3 hall hI
    obtain ⟨ho, hk, hp⟩ := hI.done (hall 11 (by omega))
    have vq0 : gg 0 = .pointer (some ⟨x, 0, none⟩) := hI.vals 0 (by decide) (by decide) (by decide) (hall 0 (by omega))
    have vq1 : gg 1 = .pointer (some ⟨x, 0, none⟩) := hI.vals 1 (by decide) (by decide) (by decide) (hall 1 (by omega))
    have vq2 : gg 2 = .pointer (some ⟨x, 0, none⟩) := hI.vals 2 (by decide) (by decide) (by decide) (hall 2 (by omega))
    have vq3 : gg 3 = .pointer (some ⟨x, 0, none⟩) := hI.vals 3 (by decide) (by decide) (by decide) (hall 3 (by omega))
    have vq4 : gg 4 = .slice A1 n c1 := hI.vals 4 (by decide) (by decide) (by decide) (hall 4 (by omega))
    have vq5 : gg 5 = .pointer (some ⟨x, 0, none⟩) := hI.vals 5 (by decide) (by decide) (by decide) (hall 5 (by omega))
    have vq6 : gg 6 = .pointer (some ⟨be, 0, none⟩) := hI.vals 6 (by decide) (by decide) (by decide) (hall 6 (by omega))
    have vq7 : gg 7 = .agg #[.string yn, .int .i64 yr] := hI.vals 7 (by decide) (by decide) (by decide) (hall 7 (by omega))
    have vq8 : gg 8 = .int .i64 (p : Nat) := hI.vals 8 (by decide) (by decide) (by decide) (hall 8 (by omega))
    have vq9 : gg 9 = .agg #[.string yn, .int .i64 yr, .int .i64 ya, .int .i64 yc] := hI.vals 9 (by decide) (by decide) (by decide) (hall 9 (by omega))
    have vq12 : gg 12 = .pointer (some ⟨x, 0, none⟩) := hI.vals 12 (by decide) (by decide) (by decide) (hall 12 (by omega))
    have vq13 : gg 13 = .pointer (some ⟨x, 0, none⟩) := hI.vals 13 (by decide) (by decide) (by decide) (hall 13 (by omega))
    show wpList _ _ _ _ (Drawn.acts _ [(31, some (gg 13)), (30, some (gg 12)), (29, some (gg 11)), (28, some (gg 10)), (27, some (gg 9)), (26, some (gg 8)), (25, some (gg 7)), (24, some (gg 6)), (23, some (gg 5)), (22, some (gg 4)), (21, some (gg 3)), (20, some (gg 2)), (19, some (gg 1)), (18, some (gg 0))]) _
    rw [vq0, vq1, vq2, vq3, vq4, vq5, vq6, vq7, vq8, vq9, vq12, vq13]
    clear vq0 vq1 vq2 vq3 vq4 vq5 vq6 vq7 vq8 vq9 vq12 vq13
    clear hI hall HPC
    generalize gg 10 = y10
    generalize gg 11 = v3 at *
    clear gg f
    have hx2 := HX2.out.lt
    have hap := HX2.out.apart
    have hrow3 : w3.heap[x]? = some (.cells #[.slice A1 n c1] 52 (0, 0)) := (hk.block x hx2 hap).trans HX2.out.row
    have hap3 : v3.ownBlock ≠ some x := fun e => by
      rcases hp x e with q | q
      · exact hap q
      · omega
    have hx4 := IxAt.stored hrow3 ho HR.out HLEN.out hap3 HBX.out
    have HE3 := Lib.hid (HE2.out.keep hk (fun e => by have := HV1.out _ (.inr e); omega))
    have HT3 := Lib.hid (HT2.out.keep hk (fun e => by
      rcases HP1.out _ e with q | q
      · have := HITS.out _ (.inr q); omega
      · omega))
    have hks : Keeps (fun k => k = x) w3 (w3.setCell ⟨x, 0, none⟩ v3) := .set _ _ ⟨x, 0, none⟩ _ rfl
    have hxw : w1.heap.size ≠ x := by have := HV1.out x (.inl rfl); omega
    have hxb : bt ≠ x := by have := HITS.out x (.inl rfl); omega
    have HE5 := Lib.hid (HE3.out.keep hks hxw)
    have HT5 := Lib.hid (HT3.out.keep hks hxb)
    have HKP := Lib.hid (keeps_more (keeps_more HK2.out hk (fun j e => (HP1.out j e).imp (fun q => (Or.inr q : Its x v j)) (fun q => by omega))) hks (fun j e => .inl (.inl e)))
    have HPP : Hid (∀ k, v3.ownBlock = some k → v.ownBlock = some k ∨ bt < k) := Lib.hid fun k e => by
      rcases hp k e with q | q
      · exact HP1.out k q
      · have := HT2.out.lt
        exact .inr (by omega)
    obtain ⟨A3, c3, hv3, -⟩ := ho.ents
    subst hv3
    generalize (ins l1 ⟨yn, yr, ya, yc⟩).length = n3 at *
    have c0 : w3.cell? ⟨x, 0, none⟩ = some (.slice A1 n c1) := by rw [cell_of_row w3 x 0 _ _ (0, 0) hrow3]; rfl
    have f0 : w3.frozen? ⟨x, 0, none⟩ = false := by simp [World.frozen?, hrow3]
    have HX4 := Lib.hid hx4
    clear hx4 hrow3 ho hk hp hks HE3 HT3 HE2 HT2 HX2 HK2 hap hap3
    simp only [Drawn.acts, List.drop_succ_cons, List.drop_zero]
    go_wp2_with (first
      | (refine wpList_load_en rfl _ rfl w1.heap.size rfl gn gr ga gc HE5.out ?_)
      | (refine wpList_store_en rfl _ _ rfl bt gn gr ga gc rfl rfl ⟨#[]⟩ 0 0 0 HT5.out ?_; intro w6 he6 hk6))
    have hx6 := HX4.out.keep hk6 (fun k hk e => by
      rcases hk with q | q
      · omega
      · rcases HPP.out k q with q | q
        · have := HITS.out _ (.inr q); omega
        · omega)
    exact Go.bodyPost_ret (results_en2 rfl _ _ bt gn gr ga gc rfl he6 _ rfl) rfl ⟨rfl, _, by rw [HPUT.out]; exact hx6, keeps_more HKP.out hk6 (fun j e => .inr (by omega)), fun k hk => (HPP.out k hk).imp id (fun q => by omega)⟩
end Go.Proofs.Ytnjdioghjjaegaa.Index

/- package index: slices.Compact of texts -/
set_option maxRecDepth 100000
namespace Go.Proofs.Ytnjdioghjjaegaa.Index
open Go.RowKit IdxM R07

/-- a row of texts in which those side by side have been taken out of the first m -/
structure CmpAt (w : World) (g cap : Nat) (L : List ByteArray) (m : Nat) : Prop where
  row : ∃ cur, w.heap[g]? = some (.cells cur 9 (0, 0)) ∧ cur.size = cap ∧ (∀ j, (h : j < (once (L.take m)).length) → cur[j]? = some (.string (once (L.take m))[j])) ∧ ∀ j, (h : j < L.length) → m ≤ j + 1 → cur[j]? = some (.string L[j])
section
variable {w w' : World} {g cap m : Nat} {L : List ByteArray}
theorem CmpAt.below (h : CmpAt w g cap L m) (hb : Below w.heap.size w w') : CmpAt w' g cap L m := by
  obtain ⟨cur, h1, h2, h3, h4⟩ := h.row
  exact ⟨cur, (hb.block g (Array.getElem?_eq_some_iff.1 h1).1).trans h1, h2, h3, h4⟩
theorem CmpAt.rest (h : CmpAt w g cap L m) {j : Nat} (hj : j < L.length) (hm : m ≤ j + 1) : w.cell? ⟨g, j, none⟩ = some (.string L[j]) := by
  obtain ⟨cur, h1, h2, h3, h4⟩ := h.row
  rw [cell_of_row w g j _ _ (0, 0) h1]; exact h4 j hj hm
theorem CmpAt.fro (h : CmpAt w g cap L m) (j : Nat) : w.frozen? ⟨g, j, none⟩ = false := by
  obtain ⟨cur, h1, _⟩ := h.row
  simp [World.frozen?, h1]
theorem CmpAt.some_ (h : CmpAt w g cap L m) {j : Nat} (hj : j < cap) : (w.cell? ⟨g, j, none⟩).isSome = true := by
  obtain ⟨cur, h1, h2, _⟩ := h.row
  rw [cell_of_row w g j _ _ (0, 0) h1, Array.getElem?_eq_getElem (by omega)]; rfl
theorem CmpAt.same (h : CmpAt w g cap L (m + 1)) (hm : m + 1 < L.length) (e : L[m + 1] = L[m]) : CmpAt w g cap L (m + 2) := by
  obtain ⟨cur, h1, h2, h3, h4⟩ := h.row
  have q := once_take hm
  rw [if_pos e] at q
  exact ⟨cur, h1, h2, by rw [q]; exact h3, fun j hj hjm => h4 j hj (by omega)⟩
theorem CmpAt.other (h : CmpAt w g cap L (m + 1)) (hm : m + 1 < L.length) (e : L[m + 1] ≠ L[m]) (hk : (once (L.take (m + 1))).length ≤ m) (hcap : L.length ≤ cap) :
    CmpAt (w.setCell ⟨g, (once (L.take (m + 1))).length, none⟩ (.string L[m + 1])) g cap L (m + 2) ∧ (once (L.take (m + 2))).length = (once (L.take (m + 1))).length + 1 := by
  obtain ⟨cur, h1, h2, h3, h4⟩ := h.row
  have q := once_take hm
  rw [if_neg e] at q
  have ql : (once (L.take (m + 2))).length = (once (L.take (m + 1))).length + 1 := by rw [q]; simp
  refine ⟨⟨_, heap_setCell_same w g _ _ _ _ h1, by simp [h2], fun j hj => ?_, fun j hj hjm => ?_⟩, ql⟩
  · rw [Array.getElem?_setIfInBounds]
    by_cases ej : (once (L.take (m + 1))).length = j
    · subst ej
      rw [if_pos rfl, if_pos (by omega)]
      simp [q]
    · rw [if_neg ej, h3 j (by omega)]
      simp only [q]
      rw [List.getElem_append_left (by omega)]
  · rw [Array.getElem?_setIfInBounds, if_neg (by omega)]
    exact h4 j hj (by omega)
end

theorem keeps_setCells (g : Nat) : ∀ (vs : List Value) (o : Nat) (w : World), Keeps (fun k => k = g) w (w.setCells g o vs)
  | [], _, _ => .refl _ _
  | v :: r, o, _ => .trans (.set _ _ ⟨g, o, none⟩ v rfl) (keeps_setCells g r (o + 1) _)
theorem str_zero (w : World) : (zeroValue 9).run Try.prog w = .ok (.string ⟨#[]⟩) w := by kernel_rfl
theorem compact_row (g cap n : Nat) (L : List ByteArray) (w : World) (h : CmpAt w g cap L 1) (hn : L.length = n) (hc : n ≤ cap) (_hc2 : cap ≤ maxLen) (hl : n ≤ 1048576) :
    Calls Try.prog 25 #[.slice (some ⟨g, 0, none⟩) n cap] w fun e w' => e = .returned (.slice (some ⟨g, 0, none⟩) (once L).length cap) ∧ StrsAt w' (some ⟨g, 0, none⟩) (once L) ∧ Keeps (fun k => k = g) w w' := by
  have H := Lib.hid h
  have HN := Lib.hid hn
  by_cases h2 : n < 2
  · have ho : once L = L := once_few (by omega)
    rw [ho, hn]
    have b1 : (n : Int) < 2 := by omega
    clear h hn ho
    go_enter Try.func25, Try.ntmps25
    go_wp2
    go_ret
    refine ⟨rfl, fun i hi => ?_, .refl _ _⟩
    rw [LabM.strV_len] at hi
    exact ⟨g, 0, rfl, by rw [Nat.zero_add, LabM.strV_get, H.out.rest hi (by omega)]⟩
  have b1 : ¬ (n : Int) < 2 := by omega
  have h0 : 0 < n := by omega
  have HO1 : Hid (once (L.take 1) = L.take 1) := Lib.hid (once_few (by rw [List.length_take]; omega))
  clear h hn
  go_enter Try.func25, Try.ntmps25
  go_wp2
  clear b1
  go_loopw [3] (fun s3 wr => ∃ k : Nat, s3 = .int .i64 k ∧ 1 ≤ k ∧ k ≤ n ∧ Hid (once (L.take k) = L.take k) ∧ Hid (Below w.heap.size w wr)) (fun s3 _ => n - (intOf s3).toNat)
  case atStart => exact ⟨1, rfl, Nat.le_refl _, by omega, HO1, Lib.hid (Below.refl _ _)⟩
  case round =>
    obtain ⟨k, rfl, hk1, hkn, HO, HB⟩ := hrel
    rename World => w0
    clear HO1
    by_cases hlt : k < n
    · obtain ⟨k1, rfl⟩ : ∃ k1, k = k1 + 1 := ⟨k - 1, by omega⟩
      have H0 := Lib.hid (H.out.below HB.out)
      have hL : k1 + 1 < L.length := by rw [HN.out]; exact hlt
      have c1 := H0.out.rest (j := k1 + 1) hL (by omega)
      have c0 := H0.out.rest (j := k1) (by omega) (by omega)
      have hot := once_take hL
      have e1 : IntKind.i64.wrap (((k1 + 1 : Nat) : Int) - 1) = (k1 : Int) := by rw [IntWalk.i64_in _ (by omega)]; omega
      obtain ⟨x1, hx1⟩ : ∃ x1, x1 = L[k1 + 1] := ⟨_, rfl⟩
      obtain ⟨x0, hx0⟩ : ∃ x0, x0 = L[k1] := ⟨_, rfl⟩
      rw [← hx1] at c1 hot
      rw [← hx0] at c0 hot
      obtain ⟨kk, hkk⟩ : ∃ kk, kk = k1 + 1 := ⟨_, rfl⟩
      rw [← hkk] at c1 e1 ⊢
      have b2 : (kk : Int) < (n : Int) := by omega
      have b3 : (k1 : Int) < (n : Int) := by omega
      by_cases hx : x1 = x0
      · rw [if_pos hx] at hot
        have q : (x1.toList == x0.toList) = true := by rw [hx]; exact beq_self_eq_true _
        have HX := Lib.hid hx; have HOT := Lib.hid hot; have HX1 := Lib.hid hx1; have HX0 := Lib.hid hx0; have HKK := Lib.hid hkk
        clear hx hot hx1 hx0 hkk
        have b4 : ¬ cap = kk := by omega
        have b5 : kk ≤ n := by omega
        have b6 : (0 : Int) ≤ (kk : Int) := by omega
        go_wp2
        go_quiet (fail)
        have hb1 : Below w0.heap.size w0 (w0.drewN nq) := bdraw w0 nq
        generalize w0.drewN nq = w1 at *
        have hs1 := (H0.out.below hb1)
        have hs2 : CmpAt w1 g cap L (kk + 1) := by
          obtain ⟨cur, h1, h2, h3, h4⟩ := hs1.row
          refine ⟨cur, h1, h2, fun j hj => ?_, fun j hj hjm => h4 j hj (by omega)⟩
          have e2 : once (L.take (kk + 1)) = L.take (k1 + 1) := by rw [HKK.out, show k1 + 1 + 1 = k1 + 2 from rfl, HOT.out, HO.out]
          simp only [e2] at hj ⊢
          rw [List.length_take] at hj
          rw [h4 j (by omega) (by omega), List.getElem_take]
        have hlen : kk = (once (L.take (kk + 1))).length := by
          rw [HKK.out, show k1 + 1 + 1 = k1 + 2 from rfl, HOT.out, HO.out, List.length_take]; omega
        have HS2 := Lib.hid hs2; have HLEN := Lib.hid hlen; have HB1 := Lib.hid (bstep HB.out hb1)
        clear hs1 hs2 hlen hb1 c0 c1 e1 HX HX0 HX1 HOT HO H0 HB hL hk1 hkn hlt q
        go_wp2
        go_loopw [3, 5] (fun s3 s5 wr => ∃ k j m : Nat, s3 = .int .i64 k ∧ s5 = .int .i64 j ∧ 1 ≤ j ∧ m = kk + j ∧ m ≤ n ∧ k + 1 ≤ m ∧ k ≤ m ∧ Hid (k = (once (L.take m)).length) ∧ Hid (CmpAt wr g cap L m) ∧ Hid (Keeps (fun k => k = g) w wr)) (fun _ s5 _ => n - (intOf s5).toNat)
        case atStart => exact ⟨kk, 1, kk + 1, rfl, rfl, Nat.le_refl _, rfl, by omega, by omega, by omega, HLEN, HS2, Lib.hid (.of_below _ HB1.out)⟩
        case round =>
          obtain ⟨k, j, m, rfl, rfl, hj, hm, hmn, hkm, _, HKL, HC, HK⟩ := hrel
          rename World => w2
          by_cases hlt : m < n
          · obtain ⟨m1, rfl⟩ : ∃ m1, m = m1 + 1 := ⟨m - 1, by omega⟩
            have hL : m1 + 1 < L.length := by rw [HN.out]; exact hlt
            obtain ⟨y1, hy1⟩ : ∃ y1, y1 = L[m1 + 1] := ⟨_, rfl⟩
            obtain ⟨y0, hy0⟩ : ∃ y0, y0 = L[m1] := ⟨_, rfl⟩
            have q1 : kk + j = m1 + 1 := hm.symm
            obtain ⟨jp, hjp⟩ : ∃ jp, j = jp + 1 := ⟨j - 1, by omega⟩
            have q0 : kk + jp = m1 := by omega
            have c1 : w2.cell? ⟨g, kk + j, none⟩ = some (.string y1) := by rw [q1, hy1]; exact HC.out.rest hL (by omega)
            have c0 : w2.cell? ⟨g, kk + jp, none⟩ = some (.string y0) := by rw [q0, hy0]; exact HC.out.rest (by omega) (by omega)
            have e1 : IntKind.i64.wrap ((j : Int) - 1) = (jp : Int) := by rw [IntWalk.i64_in _ (by omega)]; omega
            have e2 : IntKind.i64.wrap ((j : Int) + 1) = ((j : Int) + 1) := IntWalk.i64_in _ (by omega)
            have e3 : IntKind.i64.wrap ((k : Int) + 1) = ((k : Int) + 1) := IntWalk.i64_in _ (by omega)
            obtain ⟨nk, hnk⟩ : ∃ nk, nk = n - kk := ⟨_, rfl⟩
            have i1 : (j : Int) < (nk : Int) := by omega
            have i2 : (jp : Int) < (nk : Int) := by omega
            have i3 : (k : Int) < (n : Int) := by omega
            have hot := once_take hL
            rw [← hy1, ← hy0] at hot
            have hj1 : j < nk := by omega
            have HNK := Lib.hid hnk
            rw [← hnk]
            have HM := Lib.hid hm; have HL := Lib.hid hL
            by_cases hx : y1 = y0
            · rw [if_pos hx] at hot
              have hs3 := HC.out.same hL (by rw [← hy1, ← hy0]; exact hx)
              have hl3 : k = (once (L.take (m1 + 2))).length := by rw [hot]; exact HKL.out
              have HS3 := Lib.hid hs3; have HL3 := Lib.hid hl3
              have q : (y1.toList == y0.toList) = true := by rw [hx]; exact beq_self_eq_true _
              clear hx hot hs3 hl3 hy1 hy0 HC HKL q0 q1 hm hL hjp hnk
              go_wp2
              go_quiet (fail)
              go_wp2
              go_roundw
              case rel => exact ⟨k, j + 1, m1 + 2, rfl, by go_num, by omega, by have := HM.out; omega, by have := HNK.out; have := HM.out; omega, by omega, by omega, HL3, Lib.hid (HS3.out.below (bdraw w2 nq)), Lib.hid (HK.out.trans (.draw _ _ _))⟩
              case measure => have := HNK.out; simp [intOf] <;> omega
            · have hs3 := fun V (hb : Below w2.heap.size w2 V) => (HC.out.below hb).other hL (by rw [← hy1, ← hy0]; exact hx) (by rw [← HKL.out]; omega) (by rw [HN.out]; exact hc)
              rw [← HKL.out, ← hy1] at hs3
              have HS3 := Lib.hid hs3
              have q : (y1.toList == y0.toList) = false := str_ne hx
              have hf := fun V (hb : Below w2.heap.size w2 V) => (HC.out.below hb).fro k
              have hck := fun V (hb : Below w2.heap.size w2 V) => (HC.out.below hb).some_ (j := k) (by omega)
              have HF := Lib.hid hf; have HCK := Lib.hid hck
              clear hx hot hs3 hy1 hy0 HC HKL q0 q1 hm hL hjp hnk hf hck
              go_wp2
              go_quiet (fail)
              have hb2 := bdraw w2 nq
              have HKK2 := Lib.hid (HK.out.trans (.draw _ w2 nq))
              have c3 := (hb2.cell (p := ⟨g, kk + j, none⟩) (cell_lt c1)).trans c1
              generalize w2.drewN nq = w3 at *
              have f3 := HF.out w3 hb2
              have c4 := HCK.out w3 hb2
              obtain ⟨u, hu⟩ := Option.isSome_iff_exists.1 c4
              have HS4 := Lib.hid (HS3.out w3 hb2)
              clear c4 hb2 HF HCK HS3 c1 c0 HK
              go_wp2
              go_roundw
              case rel =>
                refine ⟨k + 1, j + 1, m1 + 2, by go_num, by go_num, by omega, by have := HM.out; omega, by have := HNK.out; have := HM.out; omega, by omega, by omega, Lib.hid HS4.out.2.symm, Lib.hid HS4.out.1, Lib.hid (HKK2.out.trans (.set _ _ ⟨g, k, none⟩ _ rfl))⟩
              case measure => have := HNK.out; simp [intOf] <;> omega
          · obtain rfl : m = n := by omega
            have hfull : once (L.take m) = once L := by rw [← HN.out, List.take_length]
            have hkl : k = (once L).length := by rw [← hfull]; exact HKL.out
            have hcr := Lib.run_clear_slice (P := Try.prog) w2 46 9 46 (.string ⟨#[]⟩) Try.underlying46 (fun w => str_zero w) rfl rfl g k (m - k) (cap - k) (by omega) (fun j hj => HC.out.some_ (by omega)) (fun j _ => HC.out.fro _)
            have hks := keeps_setCells g (List.replicate (m - k) (Value.string ⟨#[]⟩)) k w2
            have hst : StrsAt (w2.setCells g k (List.replicate (m - k) (Value.string ⟨#[]⟩))) (some ⟨g, 0, none⟩) (once L) := fun i hi => by
              rw [LabM.strV_len] at hi
              refine ⟨g, 0, rfl, ?_⟩
              rw [World.cell?_setCells_out g _ k w2 ⟨g, 0 + i, none⟩ (fun _ _ => by show 0 + i < k ∨ _; omega), Nat.zero_add, LabM.strV_get]
              obtain ⟨cur, h1, h2, h3, h4⟩ := HC.out.row
              rw [cell_of_row w2 g i _ _ (0, 0) h1]
              have h5 := h3 i (by rw [hfull]; exact hi)
              rw [h5]
              simp [hfull]
            generalize w2.setCells g k (List.replicate (m - k) (Value.string ⟨#[]⟩)) = w4 at *
            have HCR := Lib.hid hcr; have HST := Lib.hid hst; have HKF := Lib.hid (HK.out.trans hks); have HKL2 := Lib.hid hkl
            have d1 : ¬ (j : Int) < ((m - kk : Nat) : Int) := by omega
            have d2 : (k : Int) ≤ (m : Int) := by omega
            have d3 : (0 : Int) ≤ (k : Int) := by omega
            have d4 : ¬ cap = k := by omega
            have d5 : k ≤ m := by omega
            have d6 : (k : Int) ≤ (cap : Int) := by omega
            have d7 : ¬ j < m - kk := by omega
            clear hcr hst hks hkl hfull HC HKL hm
            go_wp2_with (first | (refine wpList_clear_run rfl (.tmp 56) 46 rfl _ rfl HCR.out ?_))
            go_ret
            exact ⟨by rw [← HKL2.out]; rfl, HST.out, HKF.out⟩
      · rw [if_neg hx] at hot
        have HOT : Hid (once (L.take (k1 + 2)) = L.take (k1 + 2)) := Lib.hid (by
          rw [hot, HO.out, hx1, List.take_succ_eq_append_getElem (show k1 + 1 < L.length from hL)])
        have q : (x1.toList == x0.toList) = false := str_ne hx
        have HKK := Lib.hid hkk
        have e5 : IntKind.i64.wrap ((kk : Int) + 1) = (kk : Int) + 1 := IntWalk.i64_in _ (by omega)
        clear hx hot hx1 hx0 hkk HO H0 hL hk1
        go_wp2
        go_quiet (fail)
        go_wp2
        go_roundw
        case rel => exact ⟨k1 + 2, by rw [HKK.out]; go_num, by omega, by omega, HOT, Lib.hid (bstep HB.out (bdraw w0 nq))⟩
        case measure => have := HKK.out; simp [intOf] <;> omega
    · obtain rfl : k = n := by omega
      have hO : once L = L := by have := HO.out; rwa [← HN.out, List.take_length] at this
      have HOO := Lib.hid hO
      have HST : Hid (StrsAt w0 (some ⟨g, 0, none⟩) (once L)) := Lib.hid (by
        rw [hO]
        intro i hi
        rw [LabM.strV_len] at hi
        exact ⟨g, 0, rfl, by rw [Nat.zero_add, LabM.strV_get, (H.out.below HB.out).rest hi (by omega)]⟩)
      clear hO
      go_wp2
      go_ret
      exact ⟨by rw [HOO.out, HN.out]; rfl, HST.out, .of_below _ HB.out⟩
end Go.Proofs.Ytnjdioghjjaegaa.Index

/- package index: New, Copy, Names -/
set_option maxRecDepth 100000
namespace Go.Proofs.Ytnjdioghjjaegaa.Index
open Go.RowKit IdxM Ents R07

theorem IxAt.new (w : World) (B : Nat) (v : Value) (l : List En) (ho : OwnEn w B 35 v l) (hr : Rise l) (hf : l.length ≤ 1048576) (hB : B ≤ w.heap.size) : IxAt (w.alloc (.cells #[v] 52)) B w.heap.size v l :=
  ⟨heap_alloc_new w _, ho.below (balloc w _), hr, hf, fun e => by have := (ho.lt _ e).2; omega, hB⟩
theorem new_any (w : World) : Calls Try.prog 6 #[] w fun e w' => e = .returned (.pointer (some ⟨w.heap.size, 0, none⟩)) ∧ IxAt w' w.heap.size w.heap.size (.slice none 0 0) [] ∧ Below w.heap.size w w' := by
  have HN := Lib.hid (IxAt.new w w.heap.size (.slice none 0 0) [] (OwnEn.nil _ _ _) Rise.nil (by simp) (Nat.le_refl _))
  have HB := Lib.hid (balloc w (.cells #[.slice none 0 0] 52))
  go_enter Try.func6, Try.ntmps6
  go_wp2
  go_ret
  exact ⟨rfl, HN.out, HB.out⟩
theorem copy_nil (w : World) : Calls Try.prog 19 #[.pointer none] w fun e w' => e = .returned (.pointer none) ∧ w' = w := by
  go_enter Try.func19, Try.ntmps19
  go_wp2
  go_ret
  exact ⟨rfl, rfl⟩
theorem copy_any (x : Nat) (v : Value) (l : List En) (B : Nat) (w : World) (h : IxAt w B x v l) : Calls Try.prog 19 #[.pointer (some ⟨x, 0, none⟩)] w fun e w' => ∃ y v', e = .returned (.pointer (some ⟨y, 0, none⟩)) ∧ IxAt w' w.heap.size y v' l ∧ Below w.heap.size w w' := by
  have HC := Lib.hid (all_any x v l B w h)
  have HR := Lib.hid h.rise; have HF := Lib.hid h.few
  clear h
  go_enter Try.func19, Try.ntmps19
  go_wp2_with fail
  refine HC.out.mono ?_
  rintro e w1 ⟨v1, rfl, ho, hb⟩
  have HN := Lib.hid (IxAt.new w1 w.heap.size v1 l ho HR.out HF.out hb.size)
  have HB := Lib.hid (bstep hb (balloc w1 (.cells #[v1] 52)))
  obtain ⟨A1, c1, hv, -⟩ := ho.ents
  subst hv
  generalize l.length = n at *
  clear ho hb HC
  go_wp2
  go_ret
  exact ⟨_, _, rfl, HN.out, HB.out⟩
theorem compact_nil (w : World) : Calls Try.prog 25 #[.slice none 0 0] w fun e w' => e = .returned (.slice none 0 0) ∧ w' = w := by
  go_enter Try.func25, Try.ntmps25
  go_wp2
  go_ret
  exact ⟨rfl, rfl⟩
theorem OwnS.cmp {w : World} {B : Nat} {v : Value} {L : List ByteArray} (h : OwnS w B v L) : v = .slice none 0 0 ∧ L = [] ∨ ∃ g cap, v = .slice (some ⟨g, 0, none⟩) L.length cap ∧ B ≤ g ∧ CmpAt w g cap L 1 ∧ L.length ≤ cap ∧ cap ≤ maxLen := by
  rcases h.2 with ⟨rfl, hn⟩ | ⟨g, cap, cur, rfl, hg, h3, h4, h5, h6, h7⟩
  · exact .inl ⟨rfl, List.eq_nil_of_length_eq_zero hn⟩
  · refine .inr ⟨g, cap, rfl, hg, ⟨cur, h3, by omega, fun j hj => ?_, fun j hj _ => ?_⟩, h4, h5⟩
    all_goals
      have key : ∀ i, (hi : i < L.length) → cur[i]? = some (.string L[i]) := fun i hi => by
        have : (LabM.strV L)[i]? = some (.string L[i]) := by simp [LabM.strV, hi]
        rw [← h7, List.getElem?_take, if_pos (by omega)] at this
        rw [← this]; simp
    · have e : once (L.take 1) = L.take 1 := once_few (by rw [List.length_take]; omega)
      simp only [e] at hj ⊢
      rw [List.length_take] at hj
      rw [key j (by omega), List.getElem_take]
    · exact key j hj
theorem OwnS.keep {F : Nat → Prop} {w w' : World} {B : Nat} {v : Value} {L : List ByteArray} (h : OwnS w B v L) (q : Keeps F w w') (hF : ∀ k, v.ownBlock = some k → ¬ F k) : OwnS w' B v L := by
  refine ⟨h.1, ?_⟩
  rcases h.2 with h2 | ⟨g, cap, cur, rfl, h2, h3, h4⟩
  · exact .inl h2
  · exact .inr ⟨g, cap, cur, rfl, h2, (q.block g (Array.getElem?_eq_some_iff.1 h3).1 (hF g rfl)).trans h3, h4⟩
theorem str_row (w : World) (s : ByteArray) : StrsAt (w.alloc (.cells #[.string s] 9)) (some ⟨w.heap.size, 0, none⟩) [s] := fun i hi => by
  obtain rfl : i = 0 := by simp [LabM.strV] at hi; omega
  exact ⟨w.heap.size, 0, rfl, by simp [LabM.strV]⟩
theorem names_nil (w : World) : Calls Try.prog 17 #[.pointer none] w (RetStrs w []) := by
  have HC := Lib.hid (all_nil w)
  have HK := Lib.hid fun V => compact_nil V
  go_enter Try.func17, Try.ntmps17
  go_wp2_with fail
  refine HC.out.mono ?_
  rintro e w1 ⟨rfl, rfl⟩
  go_wp2
  go_loopw [3, 9] (fun s3 s9 wr => s3 = .slice none 0 0 ∧ s9 = .int .i64 0 ∧ wr = w1) (fun _ _ _ => 0)
  case atStart => exact ⟨rfl, rfl, rfl⟩
  case round =>
    obtain ⟨rfl, rfl, rfl⟩ := hrel
    go_wp2_with fail
    refine (HK.out _).mono ?_
    rintro e w2 ⟨rfl, rfl⟩
    go_wp2
    go_ret
    exact ⟨none, 0, rfl, Nat.le_refl _, Nat.zero_le _, fun i hi => absurd hi (by simp [LabM.strV]), Below.refl _ _⟩
theorem names_any (x : Nat) (v : Value) (l : List En) (B : Nat) (w : World) (h : IxAt w B x v l) : Calls Try.prog 17 #[.pointer (some ⟨x, 0, none⟩)] w (RetStrs w (once (l.map En.name))) := by
  have HC := Lib.hid (all_any x v l B w h)
  have hfew := h.few
  obtain ⟨n, hn⟩ : ∃ n, n = l.length := ⟨_, rfl⟩
  rw [← hn] at hfew
  have HN := Lib.hid hn
  clear h hn
  go_enter Try.func17, Try.ntmps17
  go_wp2_with fail
  refine HC.out.mono ?_
  rintro e w1 ⟨v1, rfl, ho, hb⟩
  obtain ⟨A, c, hv, hc1, hc2, hA, hblk⟩ := ho.ents
  rw [← HN.out] at hv hc1
  subst hv
  have HA := Lib.hid hA; have HB := Lib.hid hb; have HBLK := Lib.hid fun a e => (hblk a e).2.1
  clear ho hb hA hblk HC
  go_wp2
  go_loopw [3, 9] (fun s3 s9 wr => ∃ k : Nat, s9 = .int .i64 k ∧ k ≤ n ∧ Hid (Below w1.heap.size w1 wr) ∧ Hid (OwnS wr w1.heap.size s3 ((l.map En.name).take k))) (fun _ s9 _ => n - (intOf s9).toNat)
  case atStart => exact ⟨0, rfl, Nat.zero_le _, Lib.hid (Below.refl _ _), Lib.hid (OwnS.nil _ _)⟩
  case round =>
    obtain ⟨k, rfl, hk, HBL, HO⟩ := hrel
    rename World => w2
    by_cases hlt : k < n
    · obtain ⟨b, o, rfl, he⟩ := (HA.out.belowK HBL.out (fun _ a e => HBLK.out a e)) k (by rw [← HN.out]; exact hlt)
      obtain ⟨y, hy⟩ : ∃ y, y = l[k]'(by rw [← HN.out]; exact hlt) := ⟨_, rfl⟩
      rw [← hy] at he
      have hnm : (l.map En.name).take (k + 1) = (l.map En.name).take k ++ [y.name] := by
        rw [List.take_succ_eq_append_getElem (by simp; rw [← HN.out]; exact hlt)]; simp [hy]
      obtain ⟨yn, yr, ya, yc⟩ := y
      obtain ⟨c0, c1, c2, c3⟩ := he
      simp only at c0 c1 c2 c3 hnm
      have HNM := Lib.hid hnm
      have hkl : ((l.map En.name).take k).length = k := by simp; rw [← HN.out]; omega
      have HKL := Lib.hid hkl
      clear hy hnm hkl
      have HN0 := Lib.hid (EnB.new w2 ⟨#[]⟩ 0 0 0)
      have hba := balloc w2 (.cells #[.string ⟨#[]⟩, .int .i64 0, .int .i64 0, .int .i64 0] 35)
      have HBA := Lib.hid hba
      have HO1 := Lib.hid (HO.out.below hba)
      have HLT := Lib.hid (fun q e => (World.ownsRow.lt HO.out q e).2)
      have hws : (w2.alloc (.cells #[.string ⟨#[]⟩, .int .i64 0, .int .i64 0, .int .i64 0] 35)).heap.size = w2.heap.size + 1 := by simp
      clear hba HO
      go_wp2_with (first
        | (refine wpList_store_en rfl _ _ rfl w2.heap.size yn yr ya yc rfl rfl ⟨#[]⟩ 0 0 0 HN0.out ?_; intro w3 he3 hk3
           have HO3 := Lib.hid (OwnS.keep HO1.out hk3 (fun q hq e => by have := HLT.out q hq; omega))
           have HB3 : Hid (Below w1.heap.size w1 w3) := Lib.hid (below_keeps (bstep HBL.out HBA.out) hk3 (fun q e => by rw [e]; exact HBL.out.size) (bstep HBL.out HBA.out).size)
           obtain ⟨d0, -, -, -⟩ := he3.lies
           have hb4 := balloc w3 (.cells #[.string yn] 9)
           have HB4 : Hid (Below w1.heap.size w1 (w3.alloc (.cells #[.string yn] 9))) := Lib.hid (bstep HB3.out hb4)
           have HO4 := Lib.hid (HO3.out.below hb4)
           have HR := Lib.hid (str_row w3 yn)
           clear hb4 he3 hk3)
        | (refine wpList_append_strs rfl _ _ rfl w1.heap.size _ _ rfl HO4.out (some ⟨w3.heap.size, 0, none⟩) 1 1 [yn] rfl rfl HR.out (by rw [HKL.out]; omega) HB4.out.size ?_; intro v5 w5 ha; have HAB : Hid (Below w1.heap.size w1 w5) := Lib.hid (ha.below HO4.out HB4.out (Nat.le_refl _) HB4.out.size); have HAO := Lib.hid ha.own; clear ha))
      rw [← HNM.out] at HAO
      go_roundw
      case rel => exact ⟨k + 1, by go_num, by omega, HAB, HAO⟩
      case measure => simp [intOf] <;> omega
    · obtain rfl : k = n := by omega
      have hfull : (l.map En.name).take k = l.map En.name := List.take_of_length_le (by simp; rw [HN.out]; exact Nat.le_refl _)
      rw [hfull] at HO
      have hln : (l.map En.name).length = k := by rw [List.length_map, HN.out]
      rcases OwnS.cmp HO.out with ⟨hv, hnil⟩ | ⟨g, cap, hv, hg, hcmp, hcap, hmax⟩
      · subst hv
        have HK := Lib.hid (compact_nil w2)
        have HNIL := Lib.hid hnil
        clear hnil hfull hln
        go_wp2_with fail
        refine HK.out.mono ?_
        rintro e w3 ⟨rfl, rfl⟩
        go_wp2
        go_ret
        exact ⟨none, 0, by rw [HNIL.out]; rfl, by rw [HNIL.out]; exact Nat.le_refl _, Nat.zero_le _, by rw [HNIL.out]; exact fun i hi => absurd hi (by simp [once, LabM.strV]), bstep HB.out HBL.out⟩
      · rw [hln] at hv hcap
        subst hv
        have HK := Lib.hid (compact_row g cap k (l.map En.name) w2 hcmp hln hcap hmax hfew)
        have HG := Lib.hid hg
        have HOL := Lib.hid (Nat.le_trans (once_len (l.map En.name)) (by rw [hln]; exact hcap))
        have HMX := Lib.hid hmax
        clear hfull hln hcmp hcap hmax hg HO
        go_wp2_with fail
        refine HK.out.mono ?_
        rintro e w3 ⟨rfl, hst, hkk⟩
        have HST := Lib.hid hst
        have HBF : Hid (Below w.heap.size w w3) := Lib.hid (below_keeps (bstep HB.out HBL.out) hkk (fun q e => by have := HG.out; have := HB.out.size; omega) (bstep HB.out HBL.out).size)
        clear hst hkk
        go_wp2
        go_ret
        exact ⟨_, _, rfl, HOL.out, HMX.out, HST.out, HBF.out⟩
end Go.Proofs.Ytnjdioghjjaegaa.Index
