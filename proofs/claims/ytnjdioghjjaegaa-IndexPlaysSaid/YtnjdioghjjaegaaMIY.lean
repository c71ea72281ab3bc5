/- merged: IdxE, IdxF, IdxG -/
import Derived.Test.YtnjdioghjjaegaaMIX
import Derived.Lib.AppendZerosOnto
import Derived.Lib.Overlaps

/- package index: slices.Delete, Drop -/
set_option maxRecDepth 100000
namespace Go.Proofs.Ytnjdioghjjaegaa.Index
open Go.RowKit IdxM Ents

theorem delete_any (g cap n i j : Nat) (l : List En) (w : World) (h : RowE w g cap l) (hn : l.length = n) (hi : i < n) (hj : j = i + 1) (hl : n ≤ 1048576) :
    Calls Try.prog 23 #[.slice (some ⟨g, 0, none⟩) n cap, .int .i64 (i : Nat), .int .i64 (j : Nat)] w fun e w' => e = .returned (.slice (some ⟨g, 0, none⟩) (n - 1) cap) ∧ RowE w' g cap (drop l i) ∧ Keeps (fun k => k = g) w w' := by
  have hcap := h.le
  rw [hn] at hcap
  have hm := h.most
  unfold maxLen at hm
  have hS := h.shorter i
  have hE : EntsAt w (some ⟨g, j * 4, none⟩) (l.drop j) := by
    have := h.ents.drop j
    rwa [Nat.zero_add] at this
  have e1 : (l.take i).length = i := by rw [List.length_take]; omega
  have e2 : (l.drop j).length = n - j := by rw [List.length_drop, hn]
  have hel : (drop l i).length = n - 1 := by rw [drop_len (by omega), hn]
  obtain ⟨ad, hD⟩ : ∃ ad : Addr, (if cap = j then some ⟨g, 0, none⟩ else some ⟨g, j * 4, none⟩ : Option Addr) = some ad := by
    by_cases h : cap = j
    · exact ⟨_, if_pos h⟩
    · exact ⟨_, if_neg h⟩
  have hE2 : EntsAt w (some ad) (l.drop j) := by
    rw [← hD]
    split
    · rename_i hcj
      rw [show l.drop j = [] from List.drop_eq_nil_of_le (by omega)]
      exact EntsAt.nil _ _
    · exact hE
  have hR := fun ty V (hb : Below w.heap.size w V) => run_append_in (hS.below hb) (c := cap - j) (hE2.below hb) (by rw [e1, e2]; omega) ty
  rw [e1, e2, show i + (n - j) = n - 1 by omega, show l.take i ++ l.drop j = drop l i by rw [hj]; rfl] at hR
  have HD := Lib.hid hD
  have HR := Lib.hid hR; have HEL := Lib.hid hel; have HJ := Lib.hid hj
  have b0 : (0 : Int) ≤ (j : Int) := by omega
  have b1 : (i : Int) ≤ (j : Int) := by omega
  have b2 : (j : Int) ≤ (n : Int) := by omega
  have b3 : (n : Int) ≤ (cap : Int) := by omega
  have b4 : (i : Int) ≤ (cap : Int) := by omega
  have b5 : ¬ (i : Int) = (j : Int) := by omega
  have n1 : i ≤ j := by omega
  have n2 : j ≤ n := by omega
  have b6 : ¬ i = j := by omega
  have b7 : i ≤ cap := by omega
  have b8 : ¬ cap = j ∨ cap = j := by omega
  clear h hS hE hE2 hD e1 e2 hR hel hn hj
  go_enter Try.func23, Try.ntmps23
  go_wp2_with fail
  refine Drawn.wp_region_flowT 6 [Drawn.SP.is (.slice (some ⟨g, 0, none⟩) n cap), Drawn.SP.is (.int .i64 (i : Nat)), Drawn.SP.is (.slice (some ⟨g, 0, none⟩) i cap), Drawn.SP.is (.slice (some ⟨g, 0, none⟩) n cap), Drawn.SP.is (.int .i64 (j : Nat)), Drawn.SP.is (.slice (some ad) (n - j) (cap - j))] (by kernel_rfl) (by kernel_rfl) ?_ ?_
  · intro i hi a w1 hb hev hdep
    rcases (show i = 0 ∨ i = 1 ∨ i = 2 ∨ i = 3 ∨ i = 4 ∨ i = 5 by omega) with rfl | rfl | rfl | rfl | rfl | rfl
    · have e0 : a.tmps[0]?.getD undef = .slice (some ⟨g, 0, none⟩) n cap := hev 0 rfl
      refine Drawn.wpOp_flow 20 rfl rfl rfl ?_
      clear hev hdep hb
      go_simp
      exact ⟨_, rfl, rfl, Below.refl _ _⟩
    · have e1 : a.tmps[1]?.getD undef = .int .i64 (i : Nat) := hev 1 rfl
      refine Drawn.wpOp_flow 21 rfl rfl rfl ?_
      clear hev hdep hb
      go_simp
      exact ⟨_, rfl, rfl, Below.refl _ _⟩
    · have d0 : a.tmps[20]?.getD undef = .slice (some ⟨g, 0, none⟩) n cap := hdep 0 rfl
      have d1 : a.tmps[21]?.getD undef = .int .i64 (i : Nat) := hdep 1 rfl
      refine Drawn.wpOp_flow 22 rfl rfl rfl ?_
      clear hev hdep hb
      go_simp
      exact ⟨_, rfl, rfl, Below.refl _ _⟩
    · have e0 : a.tmps[0]?.getD undef = .slice (some ⟨g, 0, none⟩) n cap := hev 0 rfl
      refine Drawn.wpOp_flow 23 rfl rfl rfl ?_
      clear hev hdep hb
      go_simp
      exact ⟨_, rfl, rfl, Below.refl _ _⟩
    · have e2 : a.tmps[2]?.getD undef = .int .i64 (j : Nat) := hev 2 rfl
      refine Drawn.wpOp_flow 24 rfl rfl rfl ?_
      clear hev hdep hb
      go_simp
      exact ⟨_, rfl, rfl, Below.refl _ _⟩
    · have d3 : a.tmps[23]?.getD undef = .slice (some ⟨g, 0, none⟩) n cap := hdep 3 rfl
      have d4 : a.tmps[24]?.getD undef = .int .i64 (j : Nat) := hdep 4 rfl
      refine Drawn.wpOp_flow 25 rfl rfl rfl ?_
      clear hev hdep
      clear hb
      go_simp
      exact ⟨_, rfl, congrArg (fun z => Value.slice z (n - j) (cap - j)) HD.out, Below.refl _ _⟩
  · intro xq w1 hb hxq
    have vq0 : xq 0 = .slice (some ⟨g, 0, none⟩) n cap := hxq 0 (by omega)
    have vq1 : xq 1 = .int .i64 (i : Nat) := hxq 1 (by omega)
    have vq2 : xq 2 = .slice (some ⟨g, 0, none⟩) i cap := hxq 2 (by omega)
    have vq3 : xq 3 = .slice (some ⟨g, 0, none⟩) n cap := hxq 3 (by omega)
    have vq4 : xq 4 = .int .i64 (j : Nat) := hxq 4 (by omega)
    have vq5 : xq 5 = .slice (some ad) (n - j) (cap - j) := hxq 5 (by omega)
    show wpList _ _ _ _ (Drawn.acts _ [(25, some (xq 5)), (24, some (xq 4)), (23, some (xq 3)), (22, some (xq 2)), (21, some (xq 1)), (20, some (xq 0))]) _
    rw [vq0, vq1, vq2, vq3, vq4, vq5]
    clear hxq vq0 vq1 vq2 vq3 vq4 vq5
    clear xq
    simp only [Drawn.acts, List.drop_succ_cons, List.drop_zero]
    go_simp
    obtain ⟨w2, hr, hrow, hk⟩ := HR.out 43 w1 hb
    have HRow := Lib.hid hrow; have HK := Lib.hid hk; have HB := Lib.hid hb
    clear hrow hk hb HR
    obtain ⟨w3, hr3, hrow3, hk3⟩ := run_clear_in (o := (n - 1) * 4) (n := 1) (c := cap - (n - 1)) HRow.out (by omega) (by rw [HEL.out]; exact Nat.le_refl _) (by omega) 43
    have HRow3 := Lib.hid hrow3; have HK3 := Lib.hid hk3; have HR3 := Lib.hid hr3; have HR2 := Lib.hid hr
    clear hrow3 hk3 hr3 hr
    have c1 : ((n - 1 : Nat) : Int) ≤ (n : Int) := by omega
    have c2 : n - (n - 1) = 1 := by omega
    have c3 : ¬ cap = n - 1 := by omega
    have c4 : n - 1 ≤ n := by omega
    have c5 : n - 1 < n := by omega
    go_wp2_with (first | (refine wpList_append_run rfl (.tmp 22) (.tmp 25) 43 rfl _ _ rfl rfl HR2.out ?_) | (refine wpList_clear_run rfl (.tmp 31) 43 rfl _ rfl HR3.out ?_))
    go_ret
    exact ⟨rfl, HRow3.out, .trans (.of_below _ HB.out) (.trans HK.out HK3.out)⟩

/-- an entry told; the index has these entries then, and no other memory has turned -/
def Chg (B x : Nat) (v : Value) (l' : List En) (g : En) (ok : Bool) (w : World) (e : Ending) (w' : World) : Prop :=
  e = .returned (.tuple #[.agg #[.string g.name, .int .i64 g.role, .int .i64 g.at_, .int .i64 g.n], .bool ok]) ∧ ∃ v', IxAt w' B x v' l' ∧ Keeps (Its x v) w w' ∧ ∀ k, v'.ownBlock = some k → v.ownBlock = some k ∨ w.heap.size ≤ k
theorem drop_nil (kn : ByteArray) (kr : Int) (w : World) : Calls Try.prog 11 #[.pointer none, .agg #[.string kn, .int .i64 kr]] w (Told En.zero false w) := by
  have hb0 := (balloc w (.cells #[.string kn, .int .i64 kr] 33)).alloc (by simp) (.cells #[.string ⟨#[]⟩, .int .i64 0, .int .i64 0, .int .i64 0] 35)
  have he0 := EnB.new (w.alloc (.cells #[.string kn, .int .i64 kr] 33)) ⟨#[]⟩ 0 0 0
  have hz0 : (w.alloc (.cells #[.string kn, .int .i64 kr] 33)).heap.size = w.heap.size + 1 := by simp
  rw [hz0] at he0
  have HC := Lib.hid fun V => find_nil kn kr V
  have HB0 := Lib.hid hb0; have HE0 := Lib.hid he0
  clear hb0 he0 hz0
  have hbt : w.heap.size ≤ w.heap.size + 1 := by omega
  go_enter Try.func11, Try.ntmps11
  go_wp2_with fail
  generalize (w.alloc (.cells #[.string kn, .int .i64 kr] 33)).alloc (.cells #[.string ⟨#[]⟩, .int .i64 0, .int .i64 0, .int .i64 0] 35) = W0 at *
  generalize w.heap.size + 1 = bt at *
  refine (HC.out W0).mono ?_
  rintro e w1 ⟨rfl, hb1⟩
  have HT := Lib.hid (HE0.out.below hb1)
  have HB1 := Lib.hid (bstep HB0.out hb1)
  clear hb1 HE0 HB0 HC
  have HN := Lib.hid (EnB.new w1 ⟨#[]⟩ 0 0 0)
  have HT1 := Lib.hid (HT.out.below (balloc w1 (.cells #[.string ⟨#[]⟩, .int .i64 0, .int .i64 0, .int .i64 0] 35)))
  have hne : bt ≠ w1.heap.size := by have := HT.out.lt; omega
  go_wp2_with (first
    | (refine wpList_store_en rfl _ _ rfl w1.heap.size ⟨#[]⟩ 0 0 0 rfl rfl ⟨#[]⟩ 0 0 0 HN.out ?_; intro w2 he2 hk2; have HT2 := Lib.hid (HT1.out.keep hk2 hne); have HE2 := Lib.hid he2; have HK2 := Lib.hid hk2; clear he2 hk2)
    | (refine wpList_load_en rfl _ rfl w1.heap.size rfl ⟨#[]⟩ 0 0 0 HE2.out ?_)
    | (refine wpList_store_en rfl _ _ rfl bt ⟨#[]⟩ 0 0 0 rfl rfl ⟨#[]⟩ 0 0 0 HT2.out ?_; intro w3 he3 hk3))
  have hb2 : Below w.heap.size w w2 := below_keeps (bstep HB1.out (balloc w1 (.cells #[.string ⟨#[]⟩, .int .i64 0, .int .i64 0, .int .i64 0] 35))) HK2.out (fun k e => by subst e; exact HB1.out.size) (by have := HB1.out.size; simp; omega)
  exact Go.bodyPost_ret (results_en2 rfl _ _ bt ⟨#[]⟩ 0 0 0 rfl he3 _ rfl) rfl ⟨rfl, below_keeps hb2 hk3 (fun k e => by subst e; exact hbt) hb2.size⟩

theorem keeps_more {F G : Nat → Prop} {w a b : World} (h : Keeps F w a) (k : Keeps G a b) (hG : ∀ j, G j → F j ∨ w.heap.size ≤ j) : Keeps F w b :=
  ⟨k.os.trans h.os, k.tape.trans h.tape, k.output.trans h.output, Nat.le_trans h.size k.size, fun j hj hn => (k.block j (Nat.lt_of_lt_of_le hj h.size) fun hg => by
    rcases hG j hg with q | q
    · exact hn q
    · omega).trans (h.block j hj hn)⟩
theorem IxAt.stored {w : World} {B x : Nat} {v v' : Value} {l' : List En} (hrow : w.heap[x]? = some (.cells #[v] 52 (0, 0))) (ho : OwnEn w B 35 v' l') (hr : Rise l') (hf : l'.length ≤ 1048576) (ha : v'.ownBlock ≠ some x) (hb : B ≤ x) :
    IxAt (w.setCell ⟨x, 0, none⟩ v') B x v' l' := by
  refine ⟨?_, ho.keep (F := fun k => k = x) (.set _ _ ⟨x, 0, none⟩ _ rfl) (fun k hk e => by subst e; exact ha hk), hr, hf, ha, hb⟩
  rw [heap_setCell_same w x 0 _ _ _ hrow]; rfl
theorem drop_any_ (x n : Nat) (A : Option Addr) (c : Nat) (l : List En) (kn : ByteArray) (kr : Int) (B p : Nat) (w : World) (h : IxAt w B x (.slice A n c) l) (hn : l.length = n) (hp : p = plc l (kn, kr)) (g : En) (ok : Bool) (hg : g = got l (kn, kr)) (hok : ok = has l (kn, kr)) :
    Calls Try.prog 11 #[.pointer (some ⟨x, 0, none⟩), .agg #[.string kn, .int .i64 kr]] w (Chg B x (.slice A n c) (dropK l (kn, kr)) g ok w) := by
  have hb0 := (balloc w (.cells #[.string kn, .int .i64 kr] 33)).alloc (by simp) (.cells #[.string ⟨#[]⟩, .int .i64 0, .int .i64 0, .int .i64 0] 35)
  have he0 := EnB.new (w.alloc (.cells #[.string kn, .int .i64 kr] 33)) ⟨#[]⟩ 0 0 0
  have hz0 : (w.alloc (.cells #[.string kn, .int .i64 kr] 33)).heap.size = w.heap.size + 1 := by simp
  rw [hz0] at he0
  have k0 : ((w.alloc (.cells #[.string kn, .int .i64 kr] 33)).alloc (.cells #[.string ⟨#[]⟩, .int .i64 0, .int .i64 0, .int .i64 0] 35)).cell? ⟨w.heap.size, 0, none⟩ = some (.string kn) := by simp
  have k1 : ((w.alloc (.cells #[.string kn, .int .i64 kr] 33)).alloc (.cells #[.string ⟨#[]⟩, .int .i64 0, .int .i64 0, .int .i64 0] 35)).cell? ⟨w.heap.size, 1, none⟩ = some (.int .i64 kr) := by simp
  have hC := fun V hV => find_any x (.slice A n c) l kn kr B V hV
  rw [← hg, ← hok] at hC
  have hCP := fun V hV => place_any x (.slice A n c) l kn kr B V hV
  rw [← hp] at hCP
  have HC := Lib.hid hC; have HCP := Lib.hid hCP
  have HB0 := Lib.hid hb0; have HE0 := Lib.hid he0; have HK0 := Lib.hid k0; have HK1 := Lib.hid k1; have HX0 := Lib.hid (h.below hb0)
  have HPL := Lib.hid (fun q : has l (kn, kr) = true => has_lt h.rise q)
  have HITS := Lib.hid h.its; have HR := Lib.hid h.rise; have HA := Lib.hid h.apart; have HBX := Lib.hid h.base
  have hfew := h.few
  have HN := Lib.hid hn; have HP := Lib.hid hp; have HOK := Lib.hid hok
  clear hb0 he0 k0 k1 hC hCP hz0 hn hp hok hg h
  have hbt : w.heap.size ≤ w.heap.size + 1 := by omega
  obtain ⟨gn, gr, ga, gc⟩ := g
  go_enter Try.func11, Try.ntmps11
  go_wp2_with fail
  generalize (w.alloc (.cells #[.string kn, .int .i64 kr] 33)).alloc (.cells #[.string ⟨#[]⟩, .int .i64 0, .int .i64 0, .int .i64 0] 35) = W0 at *
  obtain ⟨bt, hbt1⟩ : ∃ bt, bt = w.heap.size + 1 := ⟨_, rfl⟩
  obtain ⟨bk, hbk1⟩ : ∃ bk, bk = w.heap.size := ⟨_, rfl⟩
  rw [← hbt1] at HE0 hbt ⊢
  rw [← hbk1] at HK0 HK1 ⊢
  clear hbt1 hbk1
  refine (HC.out W0 HX0.out).mono ?_
  rintro e w1 ⟨rfl, hb1⟩
  have HT := Lib.hid (HE0.out.below hb1); have HX := Lib.hid (HX0.out.below hb1)
  have HK2 := Lib.hid ((hb1.cell (p := ⟨bk, 0, none⟩) (cell_lt HK0.out)).trans HK0.out); have HK3 := Lib.hid ((hb1.cell (p := ⟨bk, 1, none⟩) (cell_lt HK1.out)).trans HK1.out)
  have HB1 := Lib.hid (bstep HB0.out hb1)
  clear hb1 HE0 HB0 HC HX0 HK0 HK1 W0
  have HN2 := Lib.hid (EnB.new w1 ⟨#[]⟩ 0 0 0)
  have hba := balloc w1 (.cells #[.string ⟨#[]⟩, .int .i64 0, .int .i64 0, .int .i64 0] 35)
  have HBA := Lib.hid hba
  have HT1 := Lib.hid (HT.out.below hba)
  have hne : bt ≠ w1.heap.size := by have := HT.out.lt; omega
  cases ok
  · have hd : dropK l (kn, kr) = l := dropK_not HOK.out.symm
    have HD := Lib.hid hd
    clear hd HCP HK2 HK3 HPL HR HP HOK
    go_wp2_with (first
      | (refine wpList_store_en rfl _ _ rfl w1.heap.size gn gr ga gc rfl rfl ⟨#[]⟩ 0 0 0 HN2.out ?_; intro w2 he2 hk2; have HT2 := Lib.hid (HT1.out.keep hk2 hne); have HE2 := Lib.hid he2; have HKK2 := Lib.hid hk2; clear he2 hk2)
      | (refine wpList_load_en rfl _ rfl w1.heap.size rfl gn gr ga gc HE2.out ?_)
      | (refine wpList_store_en rfl _ _ rfl bt gn gr ga gc rfl rfl ⟨#[]⟩ 0 0 0 HT2.out ?_; intro w3 he3 hk3))
    have hb2 : Below w.heap.size w w2 := below_keeps (bstep HB1.out HBA.out) HKK2.out (fun k e => by subst e; exact HB1.out.size) (by have := HB1.out.size; have := HBA.out.size; omega)
    have hb3 : Below w.heap.size w w3 := below_keeps hb2 hk3 (fun k e => by subst e; exact hbt) hb2.size
    have hx3 : IxAt w3 B x (.slice A n c) l := ((HX.out.below HBA.out).keep HKK2.out (fun k hk e => by have := HX.out.its k hk; omega)).keep hk3 (fun k hk e => by have := HITS.out k hk; subst e; omega)
    exact Go.bodyPost_ret (results_en2 rfl _ _ bt gn gr ga gc rfl he3 _ rfl) rfl ⟨rfl, .slice A n c, by rw [HD.out]; exact hx3, .of_below _ hb3, fun k hk => .inl hk⟩
  · have hd : dropK l (kn, kr) = drop l p := by rw [HP.out]; exact dropK_has HOK.out.symm
    have HD := Lib.hid hd
    have hn' : n ≤ 1048576 := by rw [← HN.out]; exact hfew
    have hpn : p < n := by have := HPL.out HOK.out.symm; rw [← HP.out, HN.out] at this; exact this
    obtain ⟨g, hA1⟩ : ∃ g, A = some ⟨g, 0, none⟩ := by
      rcases OwnEn.rowE HX.out.own with ⟨e, _⟩ | ⟨g, cap, e, _⟩
      · injection e with e1 e2 e3; omega
      · injection e with e1 e2 e3; exact ⟨g, e1⟩
    subst hA1
    have hBg : B ≤ g := by
      rcases OwnEn.rowE HX.out.own with ⟨e, _⟩ | ⟨g', cap, e, hb, _⟩
      · cases e
      · injection e with e1 e2 e3; injection e1 with e1; injection e1 with e1; subst e1; exact hb
    have hRow : ∀ V, IxAt V B x (.slice (some ⟨g, 0, none⟩) n c) l → RowE V g c l := fun V hV => by
      rcases OwnEn.rowE hV.own with ⟨e, _⟩ | ⟨g', cap, e, _, hr⟩
      · cases e
      · injection e with e1 e2 e3; injection e1 with e1; injection e1 with e1; subst e1; subst e3; exact hr
    have hxg : x ≠ g := fun e => HA.out (by rw [e]; rfl)
    have HROW := Lib.hid hRow
    clear hd HPL HOK hRow
    have hpw : IntKind.i64.wrap ((p : Int) + 1) = ((p + 1 : Nat) : Int) := IntWalk.i64_in _ (by omega)
    obtain ⟨p1, hp1⟩ : ∃ p1, p1 = p + 1 := ⟨_, rfl⟩
    rw [← hp1] at hpw
    have HP1 := Lib.hid hp1
    clear hp1
    go_wp2_with (first
      | (refine wpList_store_en rfl _ _ rfl w1.heap.size gn gr ga gc rfl rfl ⟨#[]⟩ 0 0 0 HN2.out ?_; intro w2 he2 hk2; have HT2 := Lib.hid (HT1.out.keep hk2 hne); have HE2 := Lib.hid he2; have HKK2 := Lib.hid hk2
         have d0 := hk2.cell ((HBA.out.cell (p := ⟨bk, 0, none⟩) (cell_lt HK2.out)).trans HK2.out) (fun e => absurd e (Nat.ne_of_lt (cell_lt HK2.out)))
         have d1 := hk2.cell ((HBA.out.cell (p := ⟨bk, 1, none⟩) (cell_lt HK3.out)).trans HK3.out) (fun e => absurd e (Nat.ne_of_lt (cell_lt HK3.out)))
         clear he2 hk2))
    have HX2 := Lib.hid ((HX.out.below HBA.out).keep HKK2.out (fun k hk e => by have := HX.out.its k hk; omega))
    have HB2 : Hid (Below w.heap.size w w2) := Lib.hid (below_keeps (bstep HB1.out HBA.out) HKK2.out (fun k e => by subst e; exact HB1.out.size) (by have := HB1.out.size; have := HBA.out.size; omega))
    refine (HCP.out w2 HX2.out).mono ?_
    rintro e w3 ⟨rfl, hb3⟩
    have HX3 := Lib.hid (HX2.out.below hb3); have HT3 := Lib.hid (HT2.out.below hb3); have HE3 := Lib.hid (HE2.out.below hb3)
    have HB3 : Hid (Below w.heap.size w w3) := Lib.hid (bstep HB2.out hb3)
    clear hb3 d0 d1 HX2 HT2 HE2 HB2 HCP HK2 HK3
    have c0 := HX3.out.cell
    have hdel := delete_any g c n p p1 l w3 (HROW.out w3 HX3.out) HN.out hpn HP1.out (by rw [← HN.out]; exact hfew)
    have HDEL := Lib.hid hdel
    clear hdel
    go_wp2_with fail
    refine HDEL.out.mono ?_
    rintro e w4 ⟨rfl, hrow4, hk4⟩
    have hw1 : w1.heap.size ≠ g := by have := HX.out.its g (.inr rfl); omega
    have HE4 := Lib.hid (HE3.out.keep hk4 hw1)
    have hbg : bt ≠ g := by have := HITS.out g (.inr rfl); omega
    have HT4 := Lib.hid (HT3.out.keep hk4 hbg)
    have hx4 : w4.heap[x]? = some (.cells #[.slice (some ⟨g, 0, none⟩) n c] 52 (0, 0)) := (hk4.block x HX3.out.lt hxg).trans HX3.out.row
    have c4 : w4.cell? ⟨x, 0, none⟩ = some (.slice (some ⟨g, 0, none⟩) n c) := by rw [cell_of_row w4 x 0 _ _ (0, 0) hx4]; rfl
    have f4 : w4.frozen? ⟨x, 0, none⟩ = false := by simp [World.frozen?, hx4]
    have hlen : (drop l p).length = n - 1 := by rw [drop_len (by rw [HN.out]; exact hpn), HN.out]
    have hx5 : IxAt (w4.setCell ⟨x, 0, none⟩ (.slice (some ⟨g, 0, none⟩) (n - 1) c)) B x (.slice (some ⟨g, 0, none⟩) (n - 1) c) (drop l p) :=
      IxAt.stored hx4 (by have := hrow4.own hBg; rw [hlen] at this; exact this) (rise_drop HR.out p) (by rw [hlen]; have := HN.out; omega) (fun e => hxg (by injection e with e; exact e.symm)) HBX.out
    have hks : Keeps (fun k => k = x) w4 (w4.setCell ⟨x, 0, none⟩ (.slice (some ⟨g, 0, none⟩) (n - 1) c)) := .set _ _ ⟨x, 0, none⟩ _ rfl
    have hxw : w1.heap.size ≠ x := by have := HX.out.lt; omega
    have hxb : bt ≠ x := by have := HITS.out x (.inl rfl); omega
    have HE5 := Lib.hid (HE4.out.keep hks hxw)
    have HT5 := Lib.hid (HT4.out.keep hks hxb)
    have HX5 := Lib.hid hx5
    have HKP : Hid (Keeps (Its x (.slice (some ⟨g, 0, none⟩) n c)) w (w4.setCell ⟨x, 0, none⟩ (.slice (some ⟨g, 0, none⟩) (n - 1) c))) := Lib.hid (keeps_more (keeps_more (.of_below _ HB3.out) hk4 (fun j e => .inl (.inr (by rw [e]; rfl)))) hks (fun j e => .inl (.inl e)))
    clear hrow4 hk4 hx4 hlen hx5 hks HDEL HE4 HT4 HE3 HT3 HX3 HB3
    go_wp2_with (first
      | (refine wpList_load_en rfl _ rfl w1.heap.size rfl gn gr ga gc HE5.out ?_)
      | (refine wpList_store_en rfl _ _ rfl bt gn gr ga gc rfl rfl ⟨#[]⟩ 0 0 0 HT5.out ?_; intro w6 he6 hk6))
    have hx6 := HX5.out.keep hk6 (fun k hk e => by
      rcases hk with q | q
      · omega
      · injection q with q; have q' : g = k := q; omega)
    exact Go.bodyPost_ret (results_en2 rfl _ _ bt gn gr ga gc rfl he6 _ rfl) rfl ⟨rfl, .slice (some ⟨g, 0, none⟩) (n - 1) c, by rw [HD.out]; exact hx6, keeps_more HKP.out hk6 (fun j e => .inr (by omega)), fun k hk => .inl hk⟩
theorem drop_any (x : Nat) (v : Value) (l : List En) (kn : ByteArray) (kr : Int) (B : Nat) (w : World) (h : IxAt w B x v l) :
    Calls Try.prog 11 #[.pointer (some ⟨x, 0, none⟩), .agg #[.string kn, .int .i64 kr]] w (Chg B x v (dropK l (kn, kr)) (got l (kn, kr)) (has l (kn, kr)) w) := by
  obtain ⟨A, c, rfl, -⟩ := h.own.ents
  exact drop_any_ x _ A c l kn kr B _ w h rfl rfl _ _ rfl rfl
end Go.Proofs.Ytnjdioghjjaegaa.Index

/- package index: an entry put among others: memory of slices.Insert -/
set_option maxRecDepth 100000
namespace Go.Proofs.Ytnjdioghjjaegaa.Index
open Go.RowKit IdxM Ents

theorem splice_shift {X T E D : List Value} {a b m : Nat} (ht : X.take a = T) (hT : T.length = a) (hE : E.length = b) (hD : D.length = m) (hX : a + b + m ≤ X.length) :
    let X1 := X.take (a + b) ++ D ++ X.drop (a + b + m)
    let X2 := X1.take a ++ E ++ X1.drop (a + b)
    X2.take (a + b + m) = T ++ E ++ D ∧ X2.length = X.length ∧ X1.length = X.length := by
  intro X1 X2
  have h1 : X1.take a = T := by
    show (X.take (a + b) ++ D ++ X.drop (a + b + m)).take a = T
    rw [List.append_assoc, List.take_append_of_le_length (by rw [List.length_take]; omega), List.take_take, Nat.min_eq_left (by omega), ht]
  have h2 : X1.drop (a + b) = D ++ X.drop (a + b + m) := by
    show (X.take (a + b) ++ D ++ X.drop (a + b + m)).drop (a + b) = _
    rw [List.append_assoc, List.drop_left' (by rw [List.length_take]; omega)]
  have hl1 : X1.length = X.length := by
    show (X.take (a + b) ++ D ++ X.drop (a + b + m)).length = _
    simp; omega
  have h3 : X2 = (T ++ E ++ D) ++ X.drop (a + b + m) := by
    show X1.take a ++ E ++ X1.drop (a + b) = _
    rw [h1, h2]; simp
  refine ⟨?_, ?_, hl1⟩
  · rw [h3, List.take_left' (by simp; omega)]
  · rw [h3]; simp; omega
theorem splice_grow {X T E D : List Value} {a b m : Nat} (ht : X.take a = T) (hT : T.length = a) (hE : E.length = b) (hD : D.length = m) (hX : a + b + m ≤ X.length) :
    let X1 := X.take a ++ E ++ X.drop (a + b)
    let X2 := X1.take (a + b) ++ D ++ X1.drop (a + b + m)
    X2.take (a + b + m) = T ++ E ++ D ∧ X2.length = X.length ∧ X1.length = X.length := by
  intro X1 X2
  have hl1 : X1.length = X.length := by
    show (X.take a ++ E ++ X.drop (a + b)).length = _
    simp; omega
  have h1 : X1.take (a + b) = T ++ E := by
    show (X.take a ++ E ++ X.drop (a + b)).take (a + b) = T ++ E
    rw [ht, List.take_left' (by simp; omega)]
  have h3 : X2 = (T ++ E ++ D) ++ X1.drop (a + b + m) := by
    show X1.take (a + b) ++ D ++ X1.drop (a + b + m) = _
    rw [h1]
  refine ⟨?_, ?_, hl1⟩
  · rw [h3, List.take_left' (by simp; omega)]
  · rw [h3]; simp; omega
theorem run_copy_e {w : World} {g o : Nat} {cur : Array Value} (hg : w.heap[g]? = some (.cells cur 35 (0, 0))) {a : Addr} {cs : List En} (hA : EntsAt w (some a) cs) {dLen dCap sLen sCap : Nat} (hn : cs.length = Nat.min sLen dLen) (hfit : o + cs.length * 4 ≤ cur.size) (ty : TypeId) :
    (Builtin.copy_ #[43, 43] ty #[.slice (some ⟨g, o, none⟩) dLen dCap, .slice (some a) sLen sCap]).run Try.prog w = .ok (goInt cs.length) (w.setRow g (cur.toList.take o ++ flat cs ++ cur.toList.drop (o + cs.length * 4)).toArray) := by
  obtain ⟨i, hi, hz, hs, hb⟩ := en_info'
  have hsrc : ∀ j u, (flat cs)[j]? = some u → w.cell? (a.add j) = some u := by
    by_cases h0 : 0 < cs.length
    · obtain ⟨b, o, e, hc⟩ := hA.cell h0
      injection e with e; subst e
      exact fun j u hj => by rw [add_lit_]; exact hc j u hj
    · have : cs = [] := List.eq_nil_of_length_eq_zero (by omega)
      subst this
      exact fun j u hj => by simp [flat] at hj
  have hl := run_firstCells_some (P := Try.prog) w 4 (Nat.min sLen dLen) a sLen sCap (flat cs) (by rw [flat_len, hn]) hsrc
  have hst := run_storeCells_at Try.prog g o 35 (flat cs) 0 cur w hg (by rw [flat_len]; simpa using hfit) (flat_one cs)
  simp only [Nat.add_zero, flat_len] at hst
  simp only [Builtin.copy_, Sem.run_bind, List.getElem?_toArray, List.getElem?_cons_zero, List.getElem?_cons_succ, run_underlying Try.underlying43, Result.andThen_ok, Builtin.lenOf, Sem.run_pure, sizeOf, typeInfo]
  simp only [run_program, Result.andThen_ok, hi, Sem.run_pure, hs, hl, hst, hn]
theorem run_zeros {w : World} {g cap : Nat} {l : List En} (h : RowE w g cap l) {i k : Nat} (hi : i ≤ l.length) (hc : cap < i + k) (hk : i + k ≤ 1048577) (h0 : 0 < k) (ty : TypeId) :
    ∃ G cur w', (Builtin.append_ #[43, 3] ty #[.slice (some ⟨g, 0, none⟩) i cap, .int .i64 (k : Nat)]).run Try.prog w = .ok (.slice (some ⟨w.heap.size, 0, none⟩) (i + k) G) w' ∧ i + k ≤ G ∧ G ≤ maxLen ∧
      w'.heap[w.heap.size]? = some (.cells cur 35 (0, 0)) ∧ cur.size = G * 4 ∧ cur.toList.take (i * 4) = flat (l.take i) ∧ Below w.heap.size w w' := by
  obtain ⟨ti, hti, hz, hs, hb⟩ := en_info'
  have hS := h.shorter i
  have e1 : (l.take i).length = i := by rw [List.length_take]; omega
  have hA := hS.ents
  have hsrc : ∀ j u, (flat (l.take i))[j]? = some u → w.drew.cell? ((⟨g, 0, none⟩ : Addr).add j) = some u := by
    by_cases h0 : 0 < (l.take i).length
    · obtain ⟨b, o, e, hc⟩ := hA.cell h0
      injection e with e; injection e with e1 e2; subst e1; subst e2
      exact fun j u hj => by rw [add_lit_]; exact hc j u hj
    · have : l.take i = [] := List.eq_nil_of_length_eq_zero (by omega)
      rw [this]
      exact fun j u hj => by simp [flat] at hj
  have hold := run_firstCells_some (P := Try.prog) w.drew ti.size i ⟨g, 0, none⟩ i cap (flat (l.take i)) (by rw [flat_len, e1, hs]) hsrc
  have hr := Lib.run_append_grow_zeros (P := Try.prog) w 43 3 ty 35 ti _ .i64 .i64 Try.underlying43 Try.underlying3 hti hz (some ⟨g, 0, none⟩) i cap (flat (l.take i)) hold k h0 (by omega) (by omega) (by omega) (by rw [hb]; omega) (by rw [hb]; exact growslice_fits (by omega) (by omega))
  have hge := grownCap_ge w (i + k) cap 35
  have hle := grownCap_le_maxLen w (i + k) cap 35 (by unfold maxLen; omega)
  generalize grownCap w (i + k) cap 35 = G at *
  refine ⟨G, _, _, hr, hge, hle, heap_alloc_new w.drew _, ?_, ?_, bstep (bdraw w 1) (balloc _ _)⟩
  · simp [Builtin.zeroCells, Value.cells, flat_len, e1]; omega
  · simp only [Array.toList_append, List.append_assoc]
    rw [List.take_left' (by rw [flat_len, e1])]
end Go.Proofs.Ytnjdioghjjaegaa.Index

/- package index: slices.Insert -/
set_option maxRecDepth 100000
namespace Go.Proofs.Ytnjdioghjjaegaa.Index
open Go.RowKit IdxM Ents

/-- entries of the list's own, in its block or a new one; nothing else has turned -/
def InsPost (B : Nat) (v : Value) (l' : List En) (w : World) (e : Ending) (w' : World) : Prop :=
  ∃ v', e = .returned v' ∧ OwnEn w' B 35 v' l' ∧ Keeps (fun k => v.ownBlock = some k) w w' ∧ ∀ k, v'.ownBlock = some k → v.ownBlock = some k ∨ w.heap.size ≤ k

theorem insert_end (B : Nat) (v : Value) (l : List En) (A : Option Addr) (n c vb : Nat) (x : En) (w : World) (hv : v = .slice A n c) (h : OwnEn w B 35 v l) (hB : B ≤ w.heap.size) (hn : l.length = n) (hl : n ≤ 1048576) (hx : EntsAt w (some ⟨vb, 0, none⟩) [x]) :
    Calls Try.prog 20 #[v, .int .i64 (n : Nat), .slice (some ⟨vb, 0, none⟩) 1 1] w (InsPost B v (l ++ [x]) w) := by
  obtain ⟨i, hi, hz, hs, hb⟩ := en_info'
  have HH := Lib.hid h; have HX := Lib.hid hx; have HN := Lib.hid hn
  have HI := Lib.hid hi; have HZ := Lib.hid hz; have HS := Lib.hid hs; have HBY := Lib.hid hb
  have hc : (n : Int) ≤ (c : Int) := by
    obtain ⟨A', c', e, h1, _⟩ := h.ents
    rw [hv] at e
    injection e with e1 e2 e3
    omega
  have b1 : (0 : Int) ≤ (n : Int) := by omega
  clear hi hz hs hb h hx hn
  subst hv
  have hcases : A = none ∨ ∃ g, A = some ⟨g, 0, none⟩ := by
    rcases OwnEn.rowE HH.out with ⟨e, _⟩ | ⟨g, cap, e, _⟩
    · injection e with e1; exact .inl e1
    · injection e with e1; exact .inr ⟨g, e1⟩
  rcases hcases with rfl | ⟨g, rfl⟩ <;> by_cases hcn : c = n
  all_goals
    go_enter Try.func20, Try.ntmps20
    go_wp2_with (first | (refine wpList_append_ents Try.underlying43 HI.out HZ.out HS.out HBY.out zero_cells rfl _ _ rfl B _ l rfl HH.out (some ⟨vb, 0, none⟩) 1 1 [x] rfl rfl HX.out (by rw [HN.out]; omega) (by omega) hB ?_; intro v' w1 ha))
    have HA := Lib.hid ha
    clear ha
    go_wp2
    go_ret
    refine ⟨v', rfl, HA.out.own, ⟨HA.out.grow.os, HA.out.grow.tape, HA.out.grow.output, HA.out.grow.size, fun k hk hn => HA.out.grow.block k hk (fun e => hn e.symm)⟩, fun k hk => ?_⟩
    rcases HA.out.place with q | q
    · exact .inl (q.symm.trans hk)
    · have hk2 := q.symm.trans hk
      injection hk2 with hk2; exact .inr (by omega)

theorem insert_shift (B g cap n i vb n1 i1 : Nat) (l : List En) (x : En) (w : World) (h : RowE w g cap l) (hBg : B ≤ g) (hn : l.length = n) (hn1 : n1 = n + 1) (hi1 : i1 = i + 1) (hl : n ≤ 1048576) (hi : i < n) (hroom : n1 ≤ cap) (hx : EntsAt w (some ⟨vb, 0, none⟩) [x]) (hvg : vb ≠ g)
    (tA : TypeId) (kA : Nat) (hsa : w.shape? vb = some (tA, kA)) (hfa : w.frozen? ⟨vb, 0, none⟩ = false) (hfe : w.frozen? ⟨vb, kA, none⟩ = false) :
    Calls Try.prog 20 #[.slice (some ⟨g, 0, none⟩) n cap, .int .i64 (i : Nat), .slice (some ⟨vb, 0, none⟩) 1 1] w (InsPost B (.slice (some ⟨g, 0, none⟩) n cap) (l.take i ++ x :: l.drop i) w) := by
  obtain ⟨cur, hcur, hcs, hct⟩ := h.row
  have hm := h.most
  unfold maxLen at hm
  have hsz : ∀ w, (sizeOf 35).run Try.prog w = .ok 4 w := fun w => by kernel_rfl
  have hsb : w.shape? g = some (35, cur.size) := by unfold World.shape?; rw [hcur]
  have hov : ∀ lb cb, (callFunc 27 #[.slice (some ⟨vb, 0, none⟩) 1 1, .slice (some ⟨g, i1 * 4, none⟩) lb cb]).run Try.prog w = .ok (.value (.bool false)) w := fun lb cb => by
    rw [run_callFunc_extern Try.func27 (by kernel_rfl) (by kernel_rfl) (by kernel_rfl) (e := Extern.SlicesOverlaps.overlaps #[43, 43] #[4]) (by kernel_rfl),
      Lib.run_overlaps_apart w 43 4 35 Try.underlying43 4 hsz ⟨vb, 0, none⟩ ⟨g, i1 * 4, none⟩ 1 1 lb cb hvg tA 35 kA cur.size hsa hsb (by omega) hfa hfe]
    rfl
  have hE := h.ents.drop i
  rw [Nat.zero_add] at hE
  have hld : (l.drop i).length = n - i := by rw [List.length_drop, hn]
  have hti : (l.take i).length = i := by rw [List.length_take]; omega
  have hT : cur.toList.take (i * 4) = flat (l.take i) := by
    have e : cur.toList.take (i * 4) = (cur.toList.take (l.length * 4)).take (i * 4) := by rw [List.take_take, Nat.min_eq_left (by omega)]
    rw [e, hct, flat_take]
  have hsp := splice_shift (X := cur.toList) (T := flat (l.take i)) (E := flat [x]) (D := flat (l.drop i)) (a := i * 4) (b := 4) (m := (n - i) * 4) hT (by rw [flat_len, hti]) rfl (by rw [flat_len, hld]) (by simp; omega)
  simp only at hsp
  have e1 : i * 4 + 4 = i1 * 4 := by omega
  have e2 : i1 * 4 + (n - i) * 4 = n1 * 4 := by omega
  rw [e1, e2] at hsp
  obtain ⟨X1, hX1⟩ : ∃ X1, X1 = cur.toList.take (i1 * 4) ++ flat (l.drop i) ++ cur.toList.drop (n1 * 4) := ⟨_, rfl⟩
  rw [← hX1] at hsp
  obtain ⟨X2, hX2⟩ : ∃ X2, X2 = X1.take (i * 4) ++ flat [x] ++ X1.drop (i1 * 4) := ⟨_, rfl⟩
  rw [← hX2] at hsp
  obtain ⟨s1, s2, s3⟩ := hsp
  have hcl : cur.toList.length = cap * 4 := by simp [hcs]
  have HR1 := Lib.hid fun V (hb : Below w.heap.size w V) => by
    have q := run_copy_e ((hb.block g h.lt).trans hcur) (o := i1 * 4) (a := ⟨g, i * 4, none⟩) (cs := l.drop i) (hE.below hb) (dLen := n1 - i1) (dCap := cap - i1) (sLen := n1 - i) (sCap := cap - i) (by rw [hld]; exact (show n - i = min (n1 - i) (n1 - i1) by omega)) (by rw [hld]; omega) 43
    rw [hld, e2, ← hX1] at q
    exact q
  have HR2 := Lib.hid fun V (hg : V.heap[g]? = some (.cells X1.toArray 35 (0, 0))) (hx : EntsAt V (some ⟨vb, 0, none⟩) [x]) => by
    have q := run_copy_e hg (o := i * 4) (a := ⟨vb, 0, none⟩) (cs := [x]) hx (dLen := n1 - i) (dCap := cap - i) (sLen := 1) (sCap := 1) (by show 1 = min 1 (n1 - i); omega) (by simp; omega) 43
    rw [show i * 4 + [x].length * 4 = i1 * 4 from e1, ← hX2] at q
    exact q
  have hflat : flat (l.take i) ++ flat [x] ++ flat (l.drop i) = flat (l.take i ++ x :: l.drop i) := by
    rw [← flat_app, ← flat_app]; simp
  rw [hflat] at s1
  have hlen : (l.take i ++ x :: l.drop i).length = n1 := by simp; omega
  have HROW := Lib.hid fun V (hg : V.heap[g]? = some (.cells X2.toArray 35 (0, 0))) => (⟨⟨X2.toArray, hg, by simp; omega, by rw [hlen]; exact s1⟩, by rw [hlen]; exact hroom, h.most⟩ : RowE V g cap (l.take i ++ x :: l.drop i))
  have HCUR := Lib.hid fun V (hb : Below w.heap.size w V) => (hb.block g h.lt).trans hcur
  have HX := Lib.hid hx; have HVG := Lib.hid hvg; have HLEN := Lib.hid hlen
  have w1 : IntKind.i64.wrap ((i : Int) + 1) = (i1 : Int) := by rw [IntWalk.i64_in _ (by omega)]; omega
  have w2 : IntKind.i64.wrap ((n : Int) + 1) = (n1 : Int) := by rw [IntWalk.i64_in _ (by omega)]; omega
  have b1 : (0 : Int) ≤ (i : Int) := by omega
  have b2 : (i : Int) ≤ (n : Int) := by omega
  have b3 : (n : Int) ≤ (cap : Int) := by omega
  have b4 : ¬ (i : Int) = (n : Int) := by omega
  have b5 : ¬ (cap : Int) < (n1 : Int) := by omega
  have b6 : (0 : Int) ≤ (n1 : Int) := by omega
  have b7 : (n1 : Int) ≤ (cap : Int) := by omega
  have b8 : (i1 : Int) ≤ (n1 : Int) := by omega
  have b9 : (0 : Int) ≤ (i1 : Int) := by omega
  have ba : (i : Int) ≤ (n1 : Int) := by omega
  have c1 : ¬ cap = i := by omega
  have c2 : ¬ cap = i1 := by omega
  have c3 : i ≤ n := by omega
  have c4 : i ≤ n1 := by omega
  have c5 : i1 ≤ n1 := by omega
  have c6 : n1 ≤ cap := by omega
  have b7' : ¬ (cap : Int) < (n1 : Int) := by omega
  clear h hx hvg hsa hfa hfe hcur hcs hct hsz hsb hE hld hti hT e1 e2 hX1 hX2 s1 s2 s3 hcl hflat hlen hn hn1 hi1 hroom hm
  go_enter Try.func20, Try.ntmps20
  go_wp2_with fail
  refine Drawn.wp_region_flowT 8 [Drawn.SP.is (.slice (some ⟨g, 0, none⟩) n1 cap), Drawn.SP.is (.int .i64 (i : Nat)), Drawn.SP.is (.int .i64 1), Drawn.SP.is (.int .i64 (i1 : Nat)), Drawn.SP.is (.slice (some ⟨g, i1 * 4, none⟩) (n1 - i1) (cap - i1)), Drawn.SP.is (.slice (some ⟨g, 0, none⟩) n1 cap), Drawn.SP.is (.int .i64 (i : Nat)), Drawn.SP.is (.slice (some ⟨g, i * 4, none⟩) (n1 - i) (cap - i))] (by kernel_rfl) (by kernel_rfl) ?_ ?_
  · intro i hi a w1 hb hev hdep
    rcases (show i = 0 ∨ i = 1 ∨ i = 2 ∨ i = 3 ∨ i = 4 ∨ i = 5 ∨ i = 6 ∨ i = 7 by omega) with rfl | rfl | rfl | rfl | rfl | rfl | rfl | rfl
    · have e0 : a.tmps[0]?.getD undef = .slice (some ⟨g, 0, none⟩) n1 cap := hev 0 rfl
      refine Drawn.wpOp_flow 69 rfl rfl rfl ?_
      clear hev hdep hb
      go_simp
      exact ⟨_, rfl, rfl, Below.refl _ _⟩
    · have e1 : a.tmps[1]?.getD undef = .int .i64 (i : Nat) := hev 1 rfl
      refine Drawn.wpOp_flow 70 rfl rfl rfl ?_
      clear hev hdep hb
      go_simp
      exact ⟨_, rfl, rfl, Below.refl _ _⟩
    · have e7 : a.tmps[7]?.getD undef = .int .i64 1 := hev 7 rfl
      refine Drawn.wpOp_flow 71 rfl rfl rfl ?_
      clear hev hdep hb
      go_simp
      exact ⟨_, rfl, rfl, Below.refl _ _⟩
    · have d1 : a.tmps[70]?.getD undef = .int .i64 (i : Nat) := hdep 1 rfl
      have d2 : a.tmps[71]?.getD undef = .int .i64 1 := hdep 2 rfl
      refine Drawn.wpOp_flow 72 rfl rfl rfl ?_
      clear hev hdep hb
      go_simp
      exact ⟨_, rfl, rfl, Below.refl _ _⟩
    · have d0 : a.tmps[69]?.getD undef = .slice (some ⟨g, 0, none⟩) n1 cap := hdep 0 rfl
      have d3 : a.tmps[72]?.getD undef = .int .i64 (i1 : Nat) := hdep 3 rfl
      refine Drawn.wpOp_flow 73 rfl rfl rfl ?_
      clear hev hdep hb
      go_simp
      exact ⟨_, rfl, rfl, Below.refl _ _⟩
    · have e0 : a.tmps[0]?.getD undef = .slice (some ⟨g, 0, none⟩) n1 cap := hev 0 rfl
      refine Drawn.wpOp_flow 74 rfl rfl rfl ?_
      clear hev hdep hb
      go_simp
      exact ⟨_, rfl, rfl, Below.refl _ _⟩
    · have e1 : a.tmps[1]?.getD undef = .int .i64 (i : Nat) := hev 1 rfl
      refine Drawn.wpOp_flow 75 rfl rfl rfl ?_
      clear hev hdep hb
      go_simp
      exact ⟨_, rfl, rfl, Below.refl _ _⟩
    · have d5 : a.tmps[74]?.getD undef = .slice (some ⟨g, 0, none⟩) n1 cap := hdep 5 rfl
      have d6 : a.tmps[75]?.getD undef = .int .i64 (i : Nat) := hdep 6 rfl
      refine Drawn.wpOp_flow 76 rfl rfl rfl ?_
      clear hev hdep hb
      go_simp
      exact ⟨_, rfl, rfl, Below.refl _ _⟩
  · intro xq w1 hb hxq
    have vq0 : xq 0 = .slice (some ⟨g, 0, none⟩) n1 cap := hxq 0 (by omega)
    have vq1 : xq 1 = .int .i64 (i : Nat) := hxq 1 (by omega)
    have vq2 : xq 2 = .int .i64 1 := hxq 2 (by omega)
    have vq3 : xq 3 = .int .i64 (i1 : Nat) := hxq 3 (by omega)
    have vq4 : xq 4 = .slice (some ⟨g, i1 * 4, none⟩) (n1 - i1) (cap - i1) := hxq 4 (by omega)
    have vq5 : xq 5 = .slice (some ⟨g, 0, none⟩) n1 cap := hxq 5 (by omega)
    have vq6 : xq 6 = .int .i64 (i : Nat) := hxq 6 (by omega)
    have vq7 : xq 7 = .slice (some ⟨g, i * 4, none⟩) (n1 - i) (cap - i) := hxq 7 (by omega)
    show wpList _ _ _ _ (Drawn.acts _ [(76, some (xq 7)), (75, some (xq 6)), (74, some (xq 5)), (73, some (xq 4)), (72, some (xq 3)), (71, some (xq 2)), (70, some (xq 1)), (69, some (xq 0))]) _
    rw [vq0, vq1, vq2, vq3, vq4, vq5, vq6, vq7]
    clear hxq vq0 vq1 vq2 vq3 vq4 vq5 vq6 vq7
    clear xq
    simp only [Drawn.acts, List.drop_succ_cons, List.drop_zero]
    go_simp
    have hg1 := HCUR.out w1 hb
    have hr1 := HR1.out w1 hb
    have hx1 := HX.out.below hb
    have hk1 := keeps_setRow w1 g X1.toArray
    have hg2 := setRow_heap w1 g cur X1.toArray _ (0, 0) hg1
    generalize w1.setRow g X1.toArray = W2 at *
    have hx2 := hx1.keep hk1 (fun _ a e q => HVG.out (by injection e with e; subst e; exact q))
    have hr2 := HR2.out W2 hg2 hx2
    have hk2 := keeps_setRow W2 g X2.toArray
    have hg3 := setRow_heap W2 g _ X2.toArray _ (0, 0) hg2
    generalize W2.setRow g X2.toArray = W3 at *
    have HK := Lib.hid (Keeps.trans (.of_below _ hb) (hk1.trans hk2)); have HW := Lib.hid (HROW.out W3 hg3)
    have H1 := Lib.hid hr1; have H2 := Lib.hid hr2
    clear hb hg1 hr1 hx1 hk1 hg2 hx2 hr2 hk2 hg3 HR1 HR2 HROW HCUR HX
    go_wp2_with (first | (refine wpList_copy_run rfl (.tmp 73) (.tmp 76) 43 rfl _ _ rfl rfl H1.out ?_) | (refine wpList_copy_run rfl (.tmp 80) (.tmp 81) 43 rfl _ _ rfl rfl H2.out ?_))
    go_ret
    have ho := HW.out.own hBg
    rw [HLEN.out] at ho
    exact ⟨_, rfl, ho, HK.out.mono (fun k _ e => by rw [e]; rfl), fun k hk => .inl hk⟩
theorem wpList_zeros_run {ops : Array Oper} {rest : List Oper} {o : Oper} {a : Act} {w : World} {Q : Exit → Act → World → Prop} (hgd : o.guard = none) (s x : Operand) (T U : TypeId) (ho : o.op = .call { callee := .builtin .append, args := #[s, x], argTypes := #[T, U] }) (v u : Value) (hs : a.eval s = v) (hx : a.eval x = u) {v' : Value} {w' : World}
    (hr : (Builtin.append_ #[T, U] o.type #[v, u]).run Try.prog w = .ok v' w') (h : wpList Try.prog ops Q rest (a.put o.dst v') w') : wpList Try.prog ops Q (o :: rest) a w :=
  wpList_plain hgd fun _ hK => by
    unfold Oper.wp execOp
    simp only [ho, resolve, invoke, builtin, Sem.run_bind, Sem.run_pure, Result.andThen_ok, List.map_toArray, List.map_cons, List.map_nil, hs, hx, hr]
    exact hK _ _ h
set_option maxHeartbeats 2000000 in
theorem insert_grow (B g cap n i vb n1 i1 : Nat) (l : List En) (x : En) (w : World) (h : RowE w g cap l) (hB : B ≤ w.heap.size) (hn : l.length = n) (hn1 : n1 = n + 1) (hi1 : i1 = i + 1) (hl : n ≤ 1048576) (hi : i < n) (hroom : cap < n1) (hx : EntsAt w (some ⟨vb, 0, none⟩) [x]) :
    Calls Try.prog 20 #[.slice (some ⟨g, 0, none⟩) n cap, .int .i64 (i : Nat), .slice (some ⟨vb, 0, none⟩) 1 1] w (InsPost B (.slice (some ⟨g, 0, none⟩) n cap) (l.take i ++ x :: l.drop i) w) := by
  have hle := h.le
  rw [hn] at hle
  obtain ⟨k, hk⟩ : ∃ k, k = n1 - i := ⟨_, rfl⟩
  have hz := fun ty => run_zeros h (i := i) (k := k) (by omega) (by omega) (by omega) (by omega) ty
  obtain ⟨G, cur, W1, hr0, hG, hGm, hg1, hcs, hT, hb1⟩ := hz 43
  rw [show i + k = n1 by omega] at hr0 hG
  obtain ⟨N, hN⟩ : ∃ N, N = w.heap.size := ⟨_, rfl⟩
  rw [← hN] at hr0 hg1
  have hE := h.ents.drop i
  rw [Nat.zero_add] at hE
  have hld : (l.drop i).length = n - i := by rw [List.length_drop, hn]
  have hti : (l.take i).length = i := by rw [List.length_take]; omega
  have hcl : cur.toList.length = G * 4 := by simp [hcs]
  have hsp := splice_grow (X := cur.toList) (T := flat (l.take i)) (E := flat [x]) (D := flat (l.drop i)) (a := i * 4) (b := 4) (m := (n - i) * 4) hT (by rw [flat_len, hti]) rfl (by rw [flat_len, hld]) (by omega)
  simp only at hsp
  have e1 : i * 4 + 4 = i1 * 4 := by omega
  have e2 : i1 * 4 + (n - i) * 4 = n1 * 4 := by omega
  rw [e1, e2] at hsp
  obtain ⟨X1, hX1⟩ : ∃ X1, X1 = cur.toList.take (i * 4) ++ flat [x] ++ cur.toList.drop (i1 * 4) := ⟨_, rfl⟩
  rw [← hX1] at hsp
  obtain ⟨X2, hX2⟩ : ∃ X2, X2 = X1.take (i1 * 4) ++ flat (l.drop i) ++ X1.drop (n1 * 4) := ⟨_, rfl⟩
  rw [← hX2] at hsp
  obtain ⟨s1, s2, s3⟩ := hsp
  have hx1 := hx.below hb1
  have hE1 := hE.below hb1
  have hr1 := run_copy_e hg1 (o := i * 4) (a := ⟨vb, 0, none⟩) (cs := [x]) hx1 (dLen := n1 - i) (dCap := G - i) (sLen := 1) (sCap := 1) (by show 1 = min 1 (n1 - i); omega) (by simp; omega) 43
  rw [show i * 4 + [x].length * 4 = i1 * 4 from e1, ← hX1] at hr1
  have hg2 := setRow_heap W1 N cur X1.toArray _ (0, 0) hg1
  have hk2 := keeps_setRow W1 N X1.toArray
  generalize W1.setRow N X1.toArray = W2 at *
  have hgN : g < N := by rw [hN]; exact h.lt
  have hE2 := hE1.keep hk2 (fun _ a e q => by injection e with e; subst e; simp only at q; omega)
  have hb2 : Below w.heap.size w W2 := below_keeps hb1 hk2 (fun k e => by omega) hb1.size
  have HR2 := Lib.hid fun V (hb : Below W2.heap.size W2 V) => by
    have q := run_copy_e ((hb.block N (Array.getElem?_eq_some_iff.1 hg2).1).trans hg2) (o := i1 * 4) (a := ⟨g, i * 4, none⟩) (cs := l.drop i) (hE2.below hb) (dLen := n1 - i1) (dCap := G - i1) (sLen := n - i) (sCap := cap - i) (by rw [hld]; exact (show n - i = min (n - i) (n1 - i1) by omega)) (by rw [hld]; simp; omega) 43
    rw [hld, e2, ← hX2] at q
    exact q
  have HG2 := Lib.hid fun V (hb : Below W2.heap.size W2 V) => (hb.block N (Array.getElem?_eq_some_iff.1 hg2).1).trans hg2
  have hflat : flat (l.take i) ++ flat [x] ++ flat (l.drop i) = flat (l.take i ++ x :: l.drop i) := by
    rw [← flat_app, ← flat_app]; simp
  rw [hflat] at s1
  have hlen : (l.take i ++ x :: l.drop i).length = n1 := by simp; omega
  have HROW := Lib.hid fun V (hg : V.heap[N]? = some (.cells X2.toArray 35 (0, 0))) => (⟨⟨X2.toArray, hg, by simp; omega, by rw [hlen]; exact s1⟩, by rw [hlen]; exact hG, hGm⟩ : RowE V N G (l.take i ++ x :: l.drop i))
  have HLEN := Lib.hid hlen; have HR0 := Lib.hid hr0; have HR1 := Lib.hid hr1; have HB2 := Lib.hid hb2; have HNN := Lib.hid hN
  unfold maxLen at hGm
  have w1 : IntKind.i64.wrap ((i : Int) + 1) = (i1 : Int) := by rw [IntWalk.i64_in _ (by omega)]; omega
  have w2 : IntKind.i64.wrap ((n : Int) + 1) = (n1 : Int) := by rw [IntWalk.i64_in _ (by omega)]; omega
  have w3 : IntKind.i64.wrap ((n1 : Int) - (i : Int)) = (k : Int) := by rw [IntWalk.i64_in _ (by omega)]; omega
  have b1 : (0 : Int) ≤ (i : Int) := by omega
  have b2 : (i : Int) ≤ (n : Int) := by omega
  have b3 : (i : Int) ≤ (cap : Int) := by omega
  have b4 : ¬ (i : Int) = (n : Int) := by omega
  have b5 : (cap : Int) < (n1 : Int) := by omega
  have b8 : (i1 : Int) ≤ (n1 : Int) := by omega
  have b9 : (0 : Int) ≤ (i1 : Int) := by omega
  have ba : (i : Int) ≤ (n1 : Int) := by omega
  have c1 : ¬ cap = i := by omega
  have c2 : ¬ G = i1 := by omega
  have c7 : ¬ G = i := by omega
  have c3 : i ≤ n := by omega
  have c4 : i ≤ n1 := by omega
  have c5 : i1 ≤ n1 := by omega
  have c6 : i ≤ cap := by omega
  clear h hx hr0 hG hg1 hcs hT hb1 hE hld hti hcl e1 e2 hX1 hX2 s1 s2 s3 hx1 hE1 hr1 hg2 hk2 hE2 hb2 hflat hlen hn hn1 hi1 hi hroom hz hk hGm hle hgN hN
  go_enter Try.func20, Try.ntmps20
  go_wp2_with (first | (refine wpList_zeros_run rfl (.tmp 34) (.tmp 39) 43 3 rfl _ _ rfl rfl HR0.out ?_) | (refine wpList_copy_run rfl (.tmp 43) (.tmp 44) 43 rfl _ _ rfl rfl HR1.out ?_))
  refine Drawn.wp_region_flowT 8 [Drawn.SP.is (.slice (some ⟨N, 0, none⟩) n1 G), Drawn.SP.is (.int .i64 (i : Nat)), Drawn.SP.is (.int .i64 1), Drawn.SP.is (.int .i64 (i1 : Nat)), Drawn.SP.is (.slice (some ⟨N, i1 * 4, none⟩) (n1 - i1) (G - i1)), Drawn.SP.is (.slice (some ⟨g, 0, none⟩) n cap), Drawn.SP.is (.int .i64 (i : Nat)), Drawn.SP.is (.slice (some ⟨g, i * 4, none⟩) (n - i) (cap - i))] (by kernel_rfl) (by kernel_rfl) ?_ ?_
  · intro i hi a w5 hb hev hdep
    rcases (show i = 0 ∨ i = 1 ∨ i = 2 ∨ i = 3 ∨ i = 4 ∨ i = 5 ∨ i = 6 ∨ i = 7 by omega) with rfl | rfl | rfl | rfl | rfl | rfl | rfl | rfl
    · have e9 : a.tmps[9]?.getD undef = .slice (some ⟨N, 0, none⟩) n1 G := hev 9 rfl
      refine Drawn.wpOp_flow 46 rfl rfl rfl ?_
      clear hev hdep hb
      go_simp
      exact ⟨_, rfl, rfl, Below.refl _ _⟩
    · have e1 : a.tmps[1]?.getD undef = .int .i64 (i : Nat) := hev 1 rfl
      refine Drawn.wpOp_flow 47 rfl rfl rfl ?_
      clear hev hdep hb
      go_simp
      exact ⟨_, rfl, rfl, Below.refl _ _⟩
    · have e7 : a.tmps[7]?.getD undef = .int .i64 1 := hev 7 rfl
      refine Drawn.wpOp_flow 48 rfl rfl rfl ?_
      clear hev hdep hb
      go_simp
      exact ⟨_, rfl, rfl, Below.refl _ _⟩
    · have d1 : a.tmps[47]?.getD undef = .int .i64 (i : Nat) := hdep 1 rfl
      have d2 : a.tmps[48]?.getD undef = .int .i64 1 := hdep 2 rfl
      refine Drawn.wpOp_flow 49 rfl rfl rfl ?_
      clear hev hdep hb
      go_simp
      exact ⟨_, rfl, rfl, Below.refl _ _⟩
    · have d0 : a.tmps[46]?.getD undef = .slice (some ⟨N, 0, none⟩) n1 G := hdep 0 rfl
      have d3 : a.tmps[49]?.getD undef = .int .i64 (i1 : Nat) := hdep 3 rfl
      refine Drawn.wpOp_flow 50 rfl rfl rfl ?_
      clear hev hdep hb
      go_simp
      exact ⟨_, rfl, rfl, Below.refl _ _⟩
    · have e0 : a.tmps[0]?.getD undef = .slice (some ⟨g, 0, none⟩) n cap := hev 0 rfl
      refine Drawn.wpOp_flow 51 rfl rfl rfl ?_
      clear hev hdep hb
      go_simp
      exact ⟨_, rfl, rfl, Below.refl _ _⟩
    · have e1 : a.tmps[1]?.getD undef = .int .i64 (i : Nat) := hev 1 rfl
      refine Drawn.wpOp_flow 52 rfl rfl rfl ?_
      clear hev hdep hb
      go_simp
      exact ⟨_, rfl, rfl, Below.refl _ _⟩
    · have d5 : a.tmps[51]?.getD undef = .slice (some ⟨g, 0, none⟩) n cap := hdep 5 rfl
      have d6 : a.tmps[52]?.getD undef = .int .i64 (i : Nat) := hdep 6 rfl
      refine Drawn.wpOp_flow 53 rfl rfl rfl ?_
      clear hev hdep hb
      go_simp
      exact ⟨_, rfl, rfl, Below.refl _ _⟩
  · intro xq w5 hb hxq
    have vq0 : xq 0 = .slice (some ⟨N, 0, none⟩) n1 G := hxq 0 (by omega)
    have vq1 : xq 1 = .int .i64 (i : Nat) := hxq 1 (by omega)
    have vq2 : xq 2 = .int .i64 1 := hxq 2 (by omega)
    have vq3 : xq 3 = .int .i64 (i1 : Nat) := hxq 3 (by omega)
    have vq4 : xq 4 = .slice (some ⟨N, i1 * 4, none⟩) (n1 - i1) (G - i1) := hxq 4 (by omega)
    have vq5 : xq 5 = .slice (some ⟨g, 0, none⟩) n cap := hxq 5 (by omega)
    have vq6 : xq 6 = .int .i64 (i : Nat) := hxq 6 (by omega)
    have vq7 : xq 7 = .slice (some ⟨g, i * 4, none⟩) (n - i) (cap - i) := hxq 7 (by omega)
    show wpList _ _ _ _ (Drawn.acts _ [(53, some (xq 7)), (52, some (xq 6)), (51, some (xq 5)), (50, some (xq 4)), (49, some (xq 3)), (48, some (xq 2)), (47, some (xq 1)), (46, some (xq 0))]) _
    rw [vq0, vq1, vq2, vq3, vq4, vq5, vq6, vq7]
    clear hxq vq0 vq1 vq2 vq3 vq4 vq5 vq6 vq7
    clear xq
    simp only [Drawn.acts, List.drop_succ_cons, List.drop_zero]
    go_simp
    have hr2 := HR2.out w5 hb
    have hg3 := HG2.out w5 hb
    have hk3 := keeps_setRow w5 N X2.toArray
    have hg4 := setRow_heap w5 N _ X2.toArray _ (0, 0) hg3
    generalize w5.setRow N X2.toArray = W3 at *
    have HK := Lib.hid (below_keeps (bstep HB2.out hb) hk3 (fun k e => by rw [e, HNN.out]; exact Nat.le_refl _) (bstep HB2.out hb).size); have HW := Lib.hid (HROW.out W3 hg4)
    have H2 := Lib.hid hr2
    clear hb hr2 hg3 hk3 hg4 HR2 HG2 HROW HR0 HR1
    go_wp2_with (first | (refine wpList_copy_run rfl (.tmp 50) (.tmp 53) 43 rfl _ _ rfl rfl H2.out ?_))
    go_ret
    have ho := HW.out.own (show B ≤ N by rw [HNN.out]; exact hB)
    rw [HLEN.out] at ho
    exact ⟨_, rfl, ho, .of_below _ HK.out, fun k hk => .inr (by have hk' : some N = some k := hk; injection hk' with hk'; rw [← hk', HNN.out]; exact Nat.le_refl _)⟩

/-- at any place -/
theorem insert_any (B : Nat) (A : Option Addr) (n c i vb : Nat) (l : List En) (x : En) (w : World) (h : OwnEn w B 35 (.slice A n c) l) (hB : B ≤ w.heap.size) (hn : l.length = n) (hl : n ≤ 1048576) (hi : i ≤ n) (hx : EntsAt w (some ⟨vb, 0, none⟩) [x]) (hvg : (Value.slice A n c).ownBlock ≠ some vb)
    (tA : TypeId) (kA : Nat) (hsa : w.shape? vb = some (tA, kA)) (hfa : w.frozen? ⟨vb, 0, none⟩ = false) (hfe : w.frozen? ⟨vb, kA, none⟩ = false) :
    Calls Try.prog 20 #[.slice A n c, .int .i64 (i : Nat), .slice (some ⟨vb, 0, none⟩) 1 1] w (InsPost B (.slice A n c) (l.take i ++ x :: l.drop i) w) := by
  by_cases hin : i = n
  · subst hin
    have e : l.take i ++ x :: l.drop i = l ++ [x] := by rw [← hn, List.take_length, List.drop_length]
    rw [e]
    exact insert_end B _ l A i c vb x w rfl h hB hn hl hx
  · rcases OwnEn.rowE h with ⟨e, e2⟩ | ⟨g, cap, e, hg, hr⟩
    · subst e2; simp at hn; omega
    · injection e with e1 e2 e3
      subst e1
      subst e3
      by_cases hroom : n + 1 ≤ c
      · exact insert_shift B g c n i vb (n + 1) (i + 1) l x w hr hg hn rfl rfl hl (by omega) hroom hx (fun e => hvg (by rw [e]; rfl)) tA kA hsa hfa hfe
      · exact insert_grow B g c n i vb (n + 1) (i + 1) l x w hr hB hn rfl rfl hl (by omega) (by omega) hx
end Go.Proofs.Ytnjdioghjjaegaa.Index
