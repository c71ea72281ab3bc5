/- the walk of BlindBack -/
import Derived.Test.YtchcgiapjhmflaaGreatLaw13
import Derived.Test.YtchcgiapjhmflaaGreatZero
import Derived.Test.YtchcgiapjhmflaaGreatR12
set_option maxRecDepth 100000
namespace Go.Proofs.YtchcgiapjhmflaaGreat.Law13
open Go.RowKit PlanM StripeM LagrM DealM RebM ZeroM Law08 Law10

structure LiesC (w : World) (g : Nat) (N T L W S R : Int) (p0 p1 p2 : Value) : Prop where
  plan : PlanLies w g N T L W S R
  a0 : w.cell? ⟨g + 1, 0, none⟩ = some p0
  a1 : w.cell? ⟨g + 1, 1, none⟩ = some p1
  a2 : w.cell? ⟨g + 1, 2, none⟩ = some p2
theorem LiesC.below {w w' : World} {g : Nat} {N T L W S R : Int} {p0 p1 p2 : Value} (h : LiesC w g N T L W S R p0 p1 p2) (hb : Below w.heap.size w w') : LiesC w' g N T L W S R p0 p1 p2 :=
  ⟨h.plan.below hb, (hb.cell (p := ⟨g + 1, 0, none⟩) (cell_lt h.a0)).trans h.a0, (hb.cell (p := ⟨g + 1, 1, none⟩) (cell_lt h.a1)).trans h.a1, (hb.cell (p := ⟨g + 1, 2, none⟩) (cell_lt h.a2)).trans h.a2⟩
theorem liesC_aux (w : World) (g : Nat) (hg : w.heap.size = g + 1) (N T L W S R : Int) (p0 p1 p2 : Value) (t : TypeId) (h : PlanLies w g N T L W S R) : LiesC (w.alloc (.cells #[p0, p1, p2] t)) g N T L W S R p0 p1 p2 := by
  have a0 : (w.alloc (.cells #[p0, p1, p2] t)).cell? ⟨w.heap.size, 0, none⟩ = some p0 := by simp
  have a1 : (w.alloc (.cells #[p0, p1, p2] t)).cell? ⟨w.heap.size, 1, none⟩ = some p1 := by simp
  have a2 : (w.alloc (.cells #[p0, p1, p2] t)).cell? ⟨w.heap.size, 2, none⟩ = some p2 := by simp
  rw [hg] at a0 a1 a2
  exact ⟨h.below (balloc _ _), a0, a1, a2⟩
theorem LiesC.new (w : World) (N T L W S R : Int) (p0 p1 p2 : Value) (t : TypeId) : LiesC ((w.alloc (.cells #[.int .i64 N, .int .i64 T, .int .i64 L, .int .i64 W, .int .i64 S, .int .i64 R] 23)).alloc (.cells #[p0, p1, p2] t)) w.heap.size N T L W S R p0 p1 p2 :=
  liesC_aux (w.alloc (.cells #[.int .i64 N, .int .i64 T, .int .i64 L, .int .i64 W, .int .i64 S, .int .i64 R] 23)) w.heap.size (by simp) N T L W S R p0 p1 p2 t (PlanLies.new w N T L W S R)
theorem rows_lit2 {w : World} {A B : Option Addr} {l m : List UInt8} {c d : Nat} (h : BytesAt w A l) (h1 : l.length ≤ c) (h2 : c ≤ maxLen) (k : BytesAt w B m) (k1 : m.length ≤ d) (k2 : d ≤ maxLen) :
    RowsAt (w.alloc (.cells #[.slice A l.length c, .slice B m.length d] 24)) (some ⟨w.heap.size, 0, none⟩) [l, m] := by
  intro i hi
  match i, hi with
  | 0, _ => exact ⟨w.heap.size, 0, _, rfl, by rw [World.cell?_alloc_at _ _ _ _ rfl]; rfl, A, c, rfl, h1, h2, h.alloc _⟩
  | 1, _ => exact ⟨w.heap.size, 0, _, rfl, by rw [World.cell?_alloc_at _ _ _ _ rfl]; rfl, B, d, rfl, k1, k2, k.alloc _⟩
def SP.bl (l : List UInt8) (n : Nat) : Drawn.SP := ⟨fun v w => ∃ X d, v = .slice X n d ∧ n ≤ d ∧ d ≤ maxLen ∧ BytesAt w X l, fun _ _ _ h hb => by
  obtain ⟨X, d, h1, h2, h3, h4⟩ := h; exact ⟨X, d, h1, h2, h3, h4.below hb⟩⟩
def SP.bln (B : Nat) (l : List UInt8) (n : Nat) : Drawn.SP := ⟨fun v w => ∃ X d, v = .slice X n d ∧ n ≤ d ∧ d ≤ maxLen ∧ BytesAt w X l ∧ ∀ a, X = some a → B ≤ a.block, fun _ _ _ h hb => by
  obtain ⟨X, d, h1, h2, h3, h4, h5⟩ := h; exact ⟨X, d, h1, h2, h3, h4.below hb, h5⟩⟩
def SP.lit2 (m : List (List UInt8)) : Drawn.SP := ⟨fun v w => ∃ X, v = .slice X 2 2 ∧ RowsAt w X m, fun _ _ _ h hb => by
  obtain ⟨X, h1, h2⟩ := h; exact ⟨X, h1, h2.below hb⟩⟩
def SP.rEn (B : Nat) (m : List (List UInt8)) (n : Nat) (r : Int) : Drawn.SP := ⟨fun v w => ∃ X d, v = .tuple #[.slice X n d, .int .i64 r] ∧ n ≤ d ∧ d ≤ maxLen ∧ RowsAt w X m ∧ ∀ a, X = some a → B ≤ a.block, fun _ _ _ h hb => by
  obtain ⟨X, d, h1, h2, h3, h4, h5⟩ := h; exact ⟨X, d, h1, h2, h3, h4.below hb, h5⟩⟩
def SP.rnn (B : Nat) (m : List (List UInt8)) (n : Nat) : Drawn.SP := ⟨fun v w => ∃ X d, v = .slice X n d ∧ n ≤ d ∧ d ≤ maxLen ∧ RowsAt w X m ∧ ∀ a, X = some a → B ≤ a.block, fun _ _ _ h hb => by
  obtain ⟨X, d, h1, h2, h3, h4, h5⟩ := h; exact ⟨X, d, h1, h2, h3, h4.below hb, h5⟩⟩
/-- what is read of memory's bytes stays, where a slice's cell is written -/
theorem bytes_off {w : World} {A : Option Addr} {l : List UInt8} (h : BytesAt w A l) {g j : Nat} {B : Option Addr} {n c : Nat} (hc : w.cell? ⟨g, j, none⟩ = some (.slice B n c)) (v : Value) : BytesAt (w.setCell ⟨g, j, none⟩ v) A l := fun i hi => by
  obtain ⟨b, o, e, hx⟩ := h i hi
  refine ⟨b, o, e, ?_⟩
  rw [World.cell?_setCell_other, hx]
  intro e2
  rw [e2, hx] at hc
  cases hc
theorem rows_off {w : World} {A : Option Addr} {m : List (List UInt8)} (h : RowsAt w A m) {g j : Nat} {B : Option Addr} {n c : Nat} (hc : w.cell? ⟨g, j, none⟩ = some (.slice B n c)) (hA : ∀ a, A = some a → g < a.block) (v : Value) : RowsAt (w.setCell ⟨g, j, none⟩ v) A m := fun i hi => by
  obtain ⟨b, o, u, e, hx, X, d, e2, h1, h2, h3⟩ := h i hi
  have := hA _ e
  refine ⟨b, o, u, e, ?_, X, d, e2, h1, h2, bytes_off h3 hc v⟩
  rw [World.cell?_setCell_other, hx]
  intro e3
  injection e3 with e3
  simp only at this
  omega
/-- a list, its first j entries told anew -/
def mixf (f g : Int → List UInt8) (hs : List Int) (j : Nat) : List (List UInt8) := (hs.take j).map g ++ (hs.drop j).map f
theorem mixf_len (f g : Int → List UInt8) (hs : List Int) {j : Nat} (h : j ≤ hs.length) : (mixf f g hs j).length = hs.length := by unfold mixf; simp; omega
theorem mixf_zero (f g : Int → List UInt8) (hs : List Int) : mixf f g hs 0 = hs.map f := by unfold mixf; simp
theorem mixf_done (f g : Int → List UInt8) (hs : List Int) : mixf f g hs hs.length = hs.map g := by unfold mixf; simp
theorem mixf_get (f g : Int → List UInt8) (hs : List Int) {j : Nat} (h : j < hs.length) (h2 : j < (mixf f g hs j).length) : (mixf f g hs j)[j] = f hs[j] := by
  have h3 : (mixf f g hs j)[j]? = some (f hs[j]) := by
    unfold mixf
    have hl : ((hs.take j).map g).length = j := by simp; omega
    rw [List.getElem?_append_right (by omega), hl, Nat.sub_self, List.getElem?_map, List.getElem?_drop, Nat.add_zero, List.getElem?_eq_getElem h]
    rfl
  rw [List.getElem?_eq_getElem h2] at h3
  exact Option.some.inj h3
theorem mixf_set (f g : Int → List UInt8) (hs : List Int) {j : Nat} (h : j < hs.length) : (mixf f g hs j).set j (g hs[j]) = mixf f g hs (j + 1) := by
  unfold mixf
  have hl : ((hs.take j).map g).length = j := by simp; omega
  rw [List.set_append_right _ _ (by omega), hl, Nat.sub_self, List.drop_eq_getElem_cons h, List.map_cons, List.set_cons_zero, List.take_succ_eq_append_getElem h, List.map_append, List.append_assoc]
  rfl
theorem unl_tail {who : List Int} (h : unl (points who) = true) : unl (points who.tail) = true := by
  rw [unl_iff] at h ⊢
  cases who with
  | nil => exact h
  | cons a l => exact (List.nodup_cons.1 h).2
theorem unl_head {who : List Int} (h : unl (points who) = true) (h0 : 0 < who.length) (i : Nat) (hi : i < who.tail.length) : who.tail[i] ≠ who[0] := by
  rw [unl_iff] at h
  cases who with
  | nil => simp at h0
  | cons a l =>
    intro e
    refine (List.nodup_cons.1 h).1 ?_
    simp only [List.tail_cons, List.getElem_cons_zero] at e
    rw [← e]
    exact List.mem_map_of_mem (List.getElem_mem _)

set_option maxHeartbeats 2000000 in
theorem back_heavy (N T L W S R : Int) (A1 A2 A4 A3 : Option Addr) (b tp zz : List UInt8) (who : List Int) (u1 u2 u4 u3 : Nat) (w : World) (hp : (⟨N, T, L, W, S, R⟩ : P).In) (hl : ¬ (N ≤ 12 ∧ L ≤ 12 ∧ T ≤ 12)) :
    Calls Tryz.prog 3 #[.agg #[.int .i64 N, .int .i64 T, .int .i64 L, .int .i64 W, .int .i64 S, .int .i64 R], .agg #[.slice A1 b.length u1, .slice A2 tp.length u2, .slice A4 zz.length u4], .slice A3 who.length u3] w fun e w' => e = .returned (.bool true) ∧ Below w.heap.size w w' := by
  have K0 := fun w => Law10.light_any N T L W S R w
  rw [decide_eq_false hl] at K0
  have H0 := Lib.hid K0
  clear K0 hl
  have HA := Lib.hid (LiesC.new w N T L W S R (.slice A1 b.length u1) (.slice A2 tp.length u2) (.slice A4 zz.length u4) 25)
  have HB0 := Lib.hid (show Below w.heap.size w ((w.alloc (.cells #[.int .i64 N, .int .i64 T, .int .i64 L, .int .i64 W, .int .i64 S, .int .i64 R] 23)).alloc (.cells #[.slice A1 b.length u1, .slice A2 tp.length u2, .slice A4 zz.length u4] 25)) from bstep (balloc _ _) (balloc _ _))
  go_enter Tryz.func3, Tryz.ntmps3
  go_wp2_with fail
  generalize (w.alloc (.cells #[.int .i64 N, .int .i64 T, .int .i64 L, .int .i64 W, .int .i64 S, .int .i64 R] 23)).alloc (.cells #[.slice A1 b.length u1, .slice A2 tp.length u2, .slice A4 zz.length u4] 25) = w0 at *
  refine Drawn.wp_region_flowL 6 [Drawn.SP.is (.pointer (some ⟨w.heap.size + 1, 0, none⟩)), Drawn.SP.is (.slice A1 b.length u1), Drawn.SP.is (.pointer (some ⟨w.heap.size + 1, 1, none⟩)), Drawn.SP.is (.slice A2 tp.length u2), Drawn.SP.is (.slice A1 b.length u1), Drawn.SP.is (.slice A2 tp.length u2)] (by kernel_rfl) (by kernel_rfl) ?_ ?_
  · intro i hi a w1 hb hev hdep
    rcases (show i = 0 ∨ i = 1 ∨ i = 2 ∨ i = 3 ∨ i = 4 ∨ i = 5 by omega) with rfl | rfl | rfl | rfl | rfl | rfl
    · have e4 : a.tmps[4]?.getD undef = .pointer (some ⟨w.heap.size + 1, 0, none⟩) := hev 4 rfl
      refine Drawn.wpOp_flow 27 rfl rfl rfl ?_
      clear hev hdep hb
      go_simp
      exact ⟨_, rfl, rfl, Below.refl _ _⟩
    · have d0 : a.tmps[27]?.getD undef = .pointer (some ⟨w.heap.size + 1, 0, none⟩) := hdep 0 rfl
      refine Drawn.wpOp_flow 28 rfl rfl rfl ?_
      have a0 := (HA.out.below hb).a0
      have a1 := (HA.out.below hb).a1
      clear hev hdep hb
      go_simp
      exact ⟨_, rfl, rfl, Below.refl _ _⟩
    · have e4 : a.tmps[4]?.getD undef = .pointer (some ⟨w.heap.size + 1, 0, none⟩) := hev 4 rfl
      refine Drawn.wpOp_flow 29 rfl rfl rfl ?_
      clear hev hdep hb
      go_simp
      exact ⟨_, rfl, rfl, Below.refl _ _⟩
    · have d2 : a.tmps[29]?.getD undef = .pointer (some ⟨w.heap.size + 1, 1, none⟩) := hdep 2 rfl
      refine Drawn.wpOp_flow 30 rfl rfl rfl ?_
      have a0 := (HA.out.below hb).a0
      have a1 := (HA.out.below hb).a1
      clear hev hdep hb
      go_simp
      exact ⟨_, rfl, rfl, Below.refl _ _⟩
    · have d1 : a.tmps[28]?.getD undef = .slice A1 b.length u1 := hdep 1 rfl
      refine Drawn.wpOp_flow 7 rfl rfl rfl ?_
      clear hev hdep hb
      go_simp
      exact ⟨_, rfl, rfl, Below.refl _ _⟩
    · have d3 : a.tmps[30]?.getD undef = .slice A2 tp.length u2 := hdep 3 rfl
      refine Drawn.wpOp_flow 8 rfl rfl rfl ?_
      clear hev hdep hb
      go_simp
      exact ⟨_, rfl, rfl, Below.refl _ _⟩
  · intro xq w1 hb hxq
    have vq0 : xq 0 = .pointer (some ⟨w.heap.size + 1, 0, none⟩) := hxq 0 (by omega)
    have vq1 : xq 1 = .slice A1 b.length u1 := hxq 1 (by omega)
    have vq2 : xq 2 = .pointer (some ⟨w.heap.size + 1, 1, none⟩) := hxq 2 (by omega)
    have vq3 : xq 3 = .slice A2 tp.length u2 := hxq 3 (by omega)
    have vq4 : xq 4 = .slice A1 b.length u1 := hxq 4 (by omega)
    have vq5 : xq 5 = .slice A2 tp.length u2 := hxq 5 (by omega)
    show Exit.then _ _ Exit.normal (Drawn.acts _ [(8, some (xq 5)), (7, some (xq 4)), (30, some (xq 3)), (29, some (xq 2)), (28, some (xq 1)), (27, some (xq 0))]) _
    rw [vq0, vq1, vq2, vq3, vq4, vq5]
    clear hxq vq0 vq1 vq2 vq3 vq4 vq5
    clear xq
    simp only [Drawn.acts]
    go_simp
    have hb1 := hb
    clear hb
    obtain ⟨c0, c1, c2, c3, c4, c5⟩ := six (HA.out.below hb1).plan
    go_at_K
    go_wp2_with fail
    refine (H0.out _).mono ?_
    rintro e w2 ⟨rfl, hb2'⟩
    have hb2 := bstep hb1 hb2'
    clear c0 c1 c2 c3 c4 c5
    clear hb1 hb2'
    obtain ⟨c0, c1, c2, c3, c4, c5⟩ := six (HA.out.below hb2).plan
    go_wp2_with fail
    refine (alive_any _).mono ?_
    rintro e wz ⟨rfl, hbz⟩
    clear c0 c1 c2 c3 c4 c5
    go_wp2
    go_ret
    exact ⟨rfl, bstep HB0.out (bstep hb2 hbz)⟩

set_option maxHeartbeats 2000000 in
theorem back_arg (N T L W S R : Int) (A1 A2 A4 A3 : Option Addr) (b tp zz : List UInt8) (who : List Int) (u1 u2 u4 u3 : Nat) (w : World) (hp : (⟨N, T, L, W, S, R⟩ : P).In) (hl : N ≤ 12 ∧ L ≤ 12 ∧ T ≤ 12) (hr : (⟨N, T, L, W, S, R⟩ : P).right = false) :
    Calls Tryz.prog 3 #[.agg #[.int .i64 N, .int .i64 T, .int .i64 L, .int .i64 W, .int .i64 S, .int .i64 R], .agg #[.slice A1 b.length u1, .slice A2 tp.length u2, .slice A4 zz.length u4], .slice A3 who.length u3] w fun e w' => e = .returned (.bool true) ∧ Below w.heap.size w w' := by
  have K0 := fun w => Law10.light_any N T L W S R w
  rw [decide_eq_true hl] at K0
  have H0 := Lib.hid K0
  clear K0 hl
  obtain ⟨q, hq⟩ : ∃ q : P, q = ⟨N, T, L, W, S, R⟩ := ⟨_, rfl⟩
  have hpq := hp
  rw [← hq] at hpq
  have hv : q.val = .agg #[.int .i64 N, .int .i64 T, .int .i64 L, .int .i64 W, .int .i64 S, .int .i64 R] := by rw [hq]; rfl
  have K3 := fun w => R08.right_any q w hpq
  rw [hq, hr, ← hq, hv] at K3
  have H3 := Lib.hid K3
  clear K3
  clear hq hr hp hpq hv
  have HA := Lib.hid (LiesC.new w N T L W S R (.slice A1 b.length u1) (.slice A2 tp.length u2) (.slice A4 zz.length u4) 25)
  have HB0 := Lib.hid (show Below w.heap.size w ((w.alloc (.cells #[.int .i64 N, .int .i64 T, .int .i64 L, .int .i64 W, .int .i64 S, .int .i64 R] 23)).alloc (.cells #[.slice A1 b.length u1, .slice A2 tp.length u2, .slice A4 zz.length u4] 25)) from bstep (balloc _ _) (balloc _ _))
  go_enter Tryz.func3, Tryz.ntmps3
  go_wp2_with fail
  generalize (w.alloc (.cells #[.int .i64 N, .int .i64 T, .int .i64 L, .int .i64 W, .int .i64 S, .int .i64 R] 23)).alloc (.cells #[.slice A1 b.length u1, .slice A2 tp.length u2, .slice A4 zz.length u4] 25) = w0 at *
  refine Drawn.wp_region_flowL 6 [Drawn.SP.is (.pointer (some ⟨w.heap.size + 1, 0, none⟩)), Drawn.SP.is (.slice A1 b.length u1), Drawn.SP.is (.pointer (some ⟨w.heap.size + 1, 1, none⟩)), Drawn.SP.is (.slice A2 tp.length u2), Drawn.SP.is (.slice A1 b.length u1), Drawn.SP.is (.slice A2 tp.length u2)] (by kernel_rfl) (by kernel_rfl) ?_ ?_
  · intro i hi a w1 hb hev hdep
    rcases (show i = 0 ∨ i = 1 ∨ i = 2 ∨ i = 3 ∨ i = 4 ∨ i = 5 by omega) with rfl | rfl | rfl | rfl | rfl | rfl
    · have e4 : a.tmps[4]?.getD undef = .pointer (some ⟨w.heap.size + 1, 0, none⟩) := hev 4 rfl
      refine Drawn.wpOp_flow 27 rfl rfl rfl ?_
      clear hev hdep hb
      go_simp
      exact ⟨_, rfl, rfl, Below.refl _ _⟩
    · have d0 : a.tmps[27]?.getD undef = .pointer (some ⟨w.heap.size + 1, 0, none⟩) := hdep 0 rfl
      refine Drawn.wpOp_flow 28 rfl rfl rfl ?_
      have a0 := (HA.out.below hb).a0
      have a1 := (HA.out.below hb).a1
      clear hev hdep hb
      go_simp
      exact ⟨_, rfl, rfl, Below.refl _ _⟩
    · have e4 : a.tmps[4]?.getD undef = .pointer (some ⟨w.heap.size + 1, 0, none⟩) := hev 4 rfl
      refine Drawn.wpOp_flow 29 rfl rfl rfl ?_
      clear hev hdep hb
      go_simp
      exact ⟨_, rfl, rfl, Below.refl _ _⟩
    · have d2 : a.tmps[29]?.getD undef = .pointer (some ⟨w.heap.size + 1, 1, none⟩) := hdep 2 rfl
      refine Drawn.wpOp_flow 30 rfl rfl rfl ?_
      have a0 := (HA.out.below hb).a0
      have a1 := (HA.out.below hb).a1
      clear hev hdep hb
      go_simp
      exact ⟨_, rfl, rfl, Below.refl _ _⟩
    · have d1 : a.tmps[28]?.getD undef = .slice A1 b.length u1 := hdep 1 rfl
      refine Drawn.wpOp_flow 7 rfl rfl rfl ?_
      clear hev hdep hb
      go_simp
      exact ⟨_, rfl, rfl, Below.refl _ _⟩
    · have d3 : a.tmps[30]?.getD undef = .slice A2 tp.length u2 := hdep 3 rfl
      refine Drawn.wpOp_flow 8 rfl rfl rfl ?_
      clear hev hdep hb
      go_simp
      exact ⟨_, rfl, rfl, Below.refl _ _⟩
  · intro xq w1 hb hxq
    have vq0 : xq 0 = .pointer (some ⟨w.heap.size + 1, 0, none⟩) := hxq 0 (by omega)
    have vq1 : xq 1 = .slice A1 b.length u1 := hxq 1 (by omega)
    have vq2 : xq 2 = .pointer (some ⟨w.heap.size + 1, 1, none⟩) := hxq 2 (by omega)
    have vq3 : xq 3 = .slice A2 tp.length u2 := hxq 3 (by omega)
    have vq4 : xq 4 = .slice A1 b.length u1 := hxq 4 (by omega)
    have vq5 : xq 5 = .slice A2 tp.length u2 := hxq 5 (by omega)
    show Exit.then _ _ Exit.normal (Drawn.acts _ [(8, some (xq 5)), (7, some (xq 4)), (30, some (xq 3)), (29, some (xq 2)), (28, some (xq 1)), (27, some (xq 0))]) _
    rw [vq0, vq1, vq2, vq3, vq4, vq5]
    clear hxq vq0 vq1 vq2 vq3 vq4 vq5
    clear xq
    simp only [Drawn.acts]
    go_simp
    have hb1 := hb
    clear hb
    obtain ⟨c0, c1, c2, c3, c4, c5⟩ := six (HA.out.below hb1).plan
    go_at_K
    go_wp2_with fail
    refine (H0.out _).mono ?_
    rintro e w2 ⟨rfl, hb2'⟩
    have hb2 := bstep hb1 hb2'
    clear c0 c1 c2 c3 c4 c5
    clear hb1 hb2'
    obtain ⟨c0, c1, c2, c3, c4, c5⟩ := six (HA.out.below hb2).plan
    go_wp2_with fail
    refine (H3.out _).mono ?_
    rintro e w3 ⟨rfl, hbx⟩
    have hb3 := bstep hb2 hbx
    clear c0 c1 c2 c3 c4 c5
    clear hb2 hbx
    obtain ⟨c0, c1, c2, c3, c4, c5⟩ := six (HA.out.below hb3).plan
    go_wp2_with fail
    refine (alive_any _).mono ?_
    rintro e wz ⟨rfl, hbz⟩
    clear c0 c1 c2 c3 c4 c5
    go_wp2
    go_ret
    exact ⟨rfl, bstep HB0.out (bstep hb3 hbz)⟩

set_option maxHeartbeats 2000000 in
theorem back_long (N T L W S R : Int) (A1 A2 A4 A3 : Option Addr) (b tp zz : List UInt8) (who : List Int) (u1 u2 u4 u3 : Nat) (w : World) (hp : (⟨N, T, L, W, S, R⟩ : P).In) (hl : N ≤ 12 ∧ L ≤ 12 ∧ T ≤ 12) (hr : (⟨N, T, L, W, S, R⟩ : P).right = true) (hf : 60 < b.length) :
    Calls Tryz.prog 3 #[.agg #[.int .i64 N, .int .i64 T, .int .i64 L, .int .i64 W, .int .i64 S, .int .i64 R], .agg #[.slice A1 b.length u1, .slice A2 tp.length u2, .slice A4 zz.length u4], .slice A3 who.length u3] w fun e w' => e = .returned (.bool true) ∧ Below w.heap.size w w' := by
  have K0 := fun w => Law10.light_any N T L W S R w
  rw [decide_eq_true hl] at K0
  have H0 := Lib.hid K0
  clear K0 hl
  obtain ⟨q, hq⟩ : ∃ q : P, q = ⟨N, T, L, W, S, R⟩ := ⟨_, rfl⟩
  have hpq := hp
  rw [← hq] at hpq
  have hv : q.val = .agg #[.int .i64 N, .int .i64 T, .int .i64 L, .int .i64 W, .int .i64 S, .int .i64 R] := by rw [hq]; rfl
  have K3 := fun w => R08.right_any q w hpq
  rw [hq, hr, ← hq, hv] at K3
  have H3 := Lib.hid K3
  clear K3
  clear hq hr hp hpq hv
  have HA := Lib.hid (LiesC.new w N T L W S R (.slice A1 b.length u1) (.slice A2 tp.length u2) (.slice A4 zz.length u4) 25)
  have HB0 := Lib.hid (show Below w.heap.size w ((w.alloc (.cells #[.int .i64 N, .int .i64 T, .int .i64 L, .int .i64 W, .int .i64 S, .int .i64 R] 23)).alloc (.cells #[.slice A1 b.length u1, .slice A2 tp.length u2, .slice A4 zz.length u4] 25)) from bstep (balloc _ _) (balloc _ _))
  go_enter Tryz.func3, Tryz.ntmps3
  go_wp2_with fail
  generalize (w.alloc (.cells #[.int .i64 N, .int .i64 T, .int .i64 L, .int .i64 W, .int .i64 S, .int .i64 R] 23)).alloc (.cells #[.slice A1 b.length u1, .slice A2 tp.length u2, .slice A4 zz.length u4] 25) = w0 at *
  refine Drawn.wp_region_flowL 6 [Drawn.SP.is (.pointer (some ⟨w.heap.size + 1, 0, none⟩)), Drawn.SP.is (.slice A1 b.length u1), Drawn.SP.is (.pointer (some ⟨w.heap.size + 1, 1, none⟩)), Drawn.SP.is (.slice A2 tp.length u2), Drawn.SP.is (.slice A1 b.length u1), Drawn.SP.is (.slice A2 tp.length u2)] (by kernel_rfl) (by kernel_rfl) ?_ ?_
  · intro i hi a w1 hb hev hdep
    rcases (show i = 0 ∨ i = 1 ∨ i = 2 ∨ i = 3 ∨ i = 4 ∨ i = 5 by omega) with rfl | rfl | rfl | rfl | rfl | rfl
    · have e4 : a.tmps[4]?.getD undef = .pointer (some ⟨w.heap.size + 1, 0, none⟩) := hev 4 rfl
      refine Drawn.wpOp_flow 27 rfl rfl rfl ?_
      clear hev hdep hb
      go_simp
      exact ⟨_, rfl, rfl, Below.refl _ _⟩
    · have d0 : a.tmps[27]?.getD undef = .pointer (some ⟨w.heap.size + 1, 0, none⟩) := hdep 0 rfl
      refine Drawn.wpOp_flow 28 rfl rfl rfl ?_
      have a0 := (HA.out.below hb).a0
      have a1 := (HA.out.below hb).a1
      clear hev hdep hb
      go_simp
      exact ⟨_, rfl, rfl, Below.refl _ _⟩
    · have e4 : a.tmps[4]?.getD undef = .pointer (some ⟨w.heap.size + 1, 0, none⟩) := hev 4 rfl
      refine Drawn.wpOp_flow 29 rfl rfl rfl ?_
      clear hev hdep hb
      go_simp
      exact ⟨_, rfl, rfl, Below.refl _ _⟩
    · have d2 : a.tmps[29]?.getD undef = .pointer (some ⟨w.heap.size + 1, 1, none⟩) := hdep 2 rfl
      refine Drawn.wpOp_flow 30 rfl rfl rfl ?_
      have a0 := (HA.out.below hb).a0
      have a1 := (HA.out.below hb).a1
      clear hev hdep hb
      go_simp
      exact ⟨_, rfl, rfl, Below.refl _ _⟩
    · have d1 : a.tmps[28]?.getD undef = .slice A1 b.length u1 := hdep 1 rfl
      refine Drawn.wpOp_flow 7 rfl rfl rfl ?_
      clear hev hdep hb
      go_simp
      exact ⟨_, rfl, rfl, Below.refl _ _⟩
    · have d3 : a.tmps[30]?.getD undef = .slice A2 tp.length u2 := hdep 3 rfl
      refine Drawn.wpOp_flow 8 rfl rfl rfl ?_
      clear hev hdep hb
      go_simp
      exact ⟨_, rfl, rfl, Below.refl _ _⟩
  · intro xq w1 hb hxq
    have vq0 : xq 0 = .pointer (some ⟨w.heap.size + 1, 0, none⟩) := hxq 0 (by omega)
    have vq1 : xq 1 = .slice A1 b.length u1 := hxq 1 (by omega)
    have vq2 : xq 2 = .pointer (some ⟨w.heap.size + 1, 1, none⟩) := hxq 2 (by omega)
    have vq3 : xq 3 = .slice A2 tp.length u2 := hxq 3 (by omega)
    have vq4 : xq 4 = .slice A1 b.length u1 := hxq 4 (by omega)
    have vq5 : xq 5 = .slice A2 tp.length u2 := hxq 5 (by omega)
    show Exit.then _ _ Exit.normal (Drawn.acts _ [(8, some (xq 5)), (7, some (xq 4)), (30, some (xq 3)), (29, some (xq 2)), (28, some (xq 1)), (27, some (xq 0))]) _
    rw [vq0, vq1, vq2, vq3, vq4, vq5]
    clear hxq vq0 vq1 vq2 vq3 vq4 vq5
    clear xq
    simp only [Drawn.acts]
    go_simp
    have hb1 := hb
    clear hb
    obtain ⟨c0, c1, c2, c3, c4, c5⟩ := six (HA.out.below hb1).plan
    go_at_K
    go_wp2_with fail
    refine (H0.out _).mono ?_
    rintro e w2 ⟨rfl, hb2'⟩
    have hb2 := bstep hb1 hb2'
    clear c0 c1 c2 c3 c4 c5
    clear hb1 hb2'
    obtain ⟨c0, c1, c2, c3, c4, c5⟩ := six (HA.out.below hb2).plan
    go_wp2_with fail
    refine (H3.out _).mono ?_
    rintro e w3 ⟨rfl, hbx⟩
    have hb3 := bstep hb2 hbx
    clear c0 c1 c2 c3 c4 c5
    clear hb2 hbx
    obtain ⟨c0, c1, c2, c3, c4, c5⟩ := six (HA.out.below hb3).plan
    go_wp2_with fail
    refine (alive_any _).mono ?_
    rintro e wz ⟨rfl, hbz⟩
    clear c0 c1 c2 c3 c4 c5
    go_wp2
    go_ret
    exact ⟨rfl, bstep HB0.out (bstep hb3 hbz)⟩

set_option maxHeartbeats 2000000 in
theorem back_short (N T L W S R : Int) (A1 A2 A4 A3 : Option Addr) (b tp zz : List UInt8) (who : List Int) (u1 u2 u4 u3 : Nat) (w : World) (hp : (⟨N, T, L, W, S, R⟩ : P).In) (hl : N ≤ 12 ∧ L ≤ 12 ∧ T ≤ 12) (hr : (⟨N, T, L, W, S, R⟩ : P).right = true) (hf : b.length ≤ 60) (hc : (tp.length : Int) < cost ⟨N, T, L, W, S, R⟩ b.length) :
    Calls Tryz.prog 3 #[.agg #[.int .i64 N, .int .i64 T, .int .i64 L, .int .i64 W, .int .i64 S, .int .i64 R], .agg #[.slice A1 b.length u1, .slice A2 tp.length u2, .slice A4 zz.length u4], .slice A3 who.length u3] w fun e w' => e = .returned (.bool true) ∧ Below w.heap.size w w' := by
  have K0 := fun w => Law10.light_any N T L W S R w
  rw [decide_eq_true hl] at K0
  have H0 := Lib.hid K0
  clear K0 hl
  obtain ⟨q, hq⟩ : ∃ q : P, q = ⟨N, T, L, W, S, R⟩ := ⟨_, rfl⟩
  have hpq := hp
  rw [← hq] at hpq
  have hv : q.val = .agg #[.int .i64 N, .int .i64 T, .int .i64 L, .int .i64 W, .int .i64 S, .int .i64 R] := by rw [hq]; rfl
  have K3 := fun w => R08.right_any q w hpq
  rw [hq, hr, ← hq, hv] at K3
  have H3 := Lib.hid K3
  clear K3
  have hM : q.May := by rw [hq]; exact of_decide_eq_true hr
  have hMM := hM
  unfold P.May at hMM
  have eN : q.N = N := by rw [hq]
  have eT : q.T = T := by rw [hq]
  have eL : q.L = L := by rw [hq]
  obtain ⟨n, hn⟩ : ∃ n : Nat, cost q b.length = n := ⟨(cost q b.length).toNat, by
    have : 0 ≤ cost q b.length := Int.mul_nonneg (by omega) (by omega)
    omega⟩
  have K9 := fun w => R10.cost_any N T L W S R b.length w (by omega) (by omega)
  rw [← hq, hn] at K9
  have H9 := Lib.hid K9
  have i1 : IntKind.i64.wrap (T + L) = T + L := IntWalk.i64_in _ (by omega)
  have i1b : IntKind.i64.wrap (T + L + 1) = T + L + 1 := IntWalk.i64_in _ (by omega)
  clear K9
  rw [← hq, hn] at hc
  have hc1 : tp.length < n := by omega
  clear hc
  clear hq hr hp hpq hv hM hMM eN eT eL hn
  have HA := Lib.hid (LiesC.new w N T L W S R (.slice A1 b.length u1) (.slice A2 tp.length u2) (.slice A4 zz.length u4) 25)
  have HB0 := Lib.hid (show Below w.heap.size w ((w.alloc (.cells #[.int .i64 N, .int .i64 T, .int .i64 L, .int .i64 W, .int .i64 S, .int .i64 R] 23)).alloc (.cells #[.slice A1 b.length u1, .slice A2 tp.length u2, .slice A4 zz.length u4] 25)) from bstep (balloc _ _) (balloc _ _))
  go_enter Tryz.func3, Tryz.ntmps3
  go_wp2_with fail
  generalize (w.alloc (.cells #[.int .i64 N, .int .i64 T, .int .i64 L, .int .i64 W, .int .i64 S, .int .i64 R] 23)).alloc (.cells #[.slice A1 b.length u1, .slice A2 tp.length u2, .slice A4 zz.length u4] 25) = w0 at *
  refine Drawn.wp_region_flowL 6 [Drawn.SP.is (.pointer (some ⟨w.heap.size + 1, 0, none⟩)), Drawn.SP.is (.slice A1 b.length u1), Drawn.SP.is (.pointer (some ⟨w.heap.size + 1, 1, none⟩)), Drawn.SP.is (.slice A2 tp.length u2), Drawn.SP.is (.slice A1 b.length u1), Drawn.SP.is (.slice A2 tp.length u2)] (by kernel_rfl) (by kernel_rfl) ?_ ?_
  · intro i hi a w1 hb hev hdep
    rcases (show i = 0 ∨ i = 1 ∨ i = 2 ∨ i = 3 ∨ i = 4 ∨ i = 5 by omega) with rfl | rfl | rfl | rfl | rfl | rfl
    · have e4 : a.tmps[4]?.getD undef = .pointer (some ⟨w.heap.size + 1, 0, none⟩) := hev 4 rfl
      refine Drawn.wpOp_flow 27 rfl rfl rfl ?_
      clear hev hdep hb
      go_simp
      exact ⟨_, rfl, rfl, Below.refl _ _⟩
    · have d0 : a.tmps[27]?.getD undef = .pointer (some ⟨w.heap.size + 1, 0, none⟩) := hdep 0 rfl
      refine Drawn.wpOp_flow 28 rfl rfl rfl ?_
      have a0 := (HA.out.below hb).a0
      have a1 := (HA.out.below hb).a1
      clear hev hdep hb
      go_simp
      exact ⟨_, rfl, rfl, Below.refl _ _⟩
    · have e4 : a.tmps[4]?.getD undef = .pointer (some ⟨w.heap.size + 1, 0, none⟩) := hev 4 rfl
      refine Drawn.wpOp_flow 29 rfl rfl rfl ?_
      clear hev hdep hb
      go_simp
      exact ⟨_, rfl, rfl, Below.refl _ _⟩
    · have d2 : a.tmps[29]?.getD undef = .pointer (some ⟨w.heap.size + 1, 1, none⟩) := hdep 2 rfl
      refine Drawn.wpOp_flow 30 rfl rfl rfl ?_
      have a0 := (HA.out.below hb).a0
      have a1 := (HA.out.below hb).a1
      clear hev hdep hb
      go_simp
      exact ⟨_, rfl, rfl, Below.refl _ _⟩
    · have d1 : a.tmps[28]?.getD undef = .slice A1 b.length u1 := hdep 1 rfl
      refine Drawn.wpOp_flow 7 rfl rfl rfl ?_
      clear hev hdep hb
      go_simp
      exact ⟨_, rfl, rfl, Below.refl _ _⟩
    · have d3 : a.tmps[30]?.getD undef = .slice A2 tp.length u2 := hdep 3 rfl
      refine Drawn.wpOp_flow 8 rfl rfl rfl ?_
      clear hev hdep hb
      go_simp
      exact ⟨_, rfl, rfl, Below.refl _ _⟩
  · intro xq w1 hb hxq
    have vq0 : xq 0 = .pointer (some ⟨w.heap.size + 1, 0, none⟩) := hxq 0 (by omega)
    have vq1 : xq 1 = .slice A1 b.length u1 := hxq 1 (by omega)
    have vq2 : xq 2 = .pointer (some ⟨w.heap.size + 1, 1, none⟩) := hxq 2 (by omega)
    have vq3 : xq 3 = .slice A2 tp.length u2 := hxq 3 (by omega)
    have vq4 : xq 4 = .slice A1 b.length u1 := hxq 4 (by omega)
    have vq5 : xq 5 = .slice A2 tp.length u2 := hxq 5 (by omega)
    show Exit.then _ _ Exit.normal (Drawn.acts _ [(8, some (xq 5)), (7, some (xq 4)), (30, some (xq 3)), (29, some (xq 2)), (28, some (xq 1)), (27, some (xq 0))]) _
    rw [vq0, vq1, vq2, vq3, vq4, vq5]
    clear hxq vq0 vq1 vq2 vq3 vq4 vq5
    clear xq
    simp only [Drawn.acts]
    go_simp
    have hb1 := hb
    clear hb
    obtain ⟨c0, c1, c2, c3, c4, c5⟩ := six (HA.out.below hb1).plan
    go_at_K
    go_wp2_with fail
    refine (H0.out _).mono ?_
    rintro e w2 ⟨rfl, hb2'⟩
    have hb2 := bstep hb1 hb2'
    clear c0 c1 c2 c3 c4 c5
    clear hb1 hb2'
    obtain ⟨c0, c1, c2, c3, c4, c5⟩ := six (HA.out.below hb2).plan
    go_wp2_with fail
    refine (H3.out _).mono ?_
    rintro e w3 ⟨rfl, hbx⟩
    have hb3 := bstep hb2 hbx
    clear c0 c1 c2 c3 c4 c5
    clear hb2 hbx
    obtain ⟨c0, c1, c2, c3, c4, c5⟩ := six (HA.out.below hb3).plan
    go_wp2_with fail
    refine (H9.out _).mono ?_
    rintro e w4 ⟨rfl, hbx⟩
    have hb4 := bstep hb3 hbx
    clear c0 c1 c2 c3 c4 c5
    clear hb3 hbx
    obtain ⟨c0, c1, c2, c3, c4, c5⟩ := six (HA.out.below hb4).plan
    go_wp2_with fail
    refine (alive_any _).mono ?_
    rintro e wz ⟨rfl, hbz⟩
    clear c0 c1 c2 c3 c4 c5
    go_wp2
    go_ret
    exact ⟨rfl, bstep HB0.out (bstep hb4 hbz)⟩

set_option maxHeartbeats 2000000 in
theorem back_many (N T L W S R : Int) (A1 A2 A4 A3 : Option Addr) (b tp zz : List UInt8) (who : List Int) (u1 u2 u4 u3 : Nat) (w : World) (hp : (⟨N, T, L, W, S, R⟩ : P).In) (hl : N ≤ 12 ∧ L ≤ 12 ∧ T ≤ 12) (hr : (⟨N, T, L, W, S, R⟩ : P).right = true) (hf : b.length ≤ 60) (hc : cost ⟨N, T, L, W, S, R⟩ b.length ≤ tp.length) (hm : 14 < who.length) :
    Calls Tryz.prog 3 #[.agg #[.int .i64 N, .int .i64 T, .int .i64 L, .int .i64 W, .int .i64 S, .int .i64 R], .agg #[.slice A1 b.length u1, .slice A2 tp.length u2, .slice A4 zz.length u4], .slice A3 who.length u3] w fun e w' => e = .returned (.bool true) ∧ Below w.heap.size w w' := by
  have K0 := fun w => Law10.light_any N T L W S R w
  rw [decide_eq_true hl] at K0
  have H0 := Lib.hid K0
  clear K0 hl
  obtain ⟨q, hq⟩ : ∃ q : P, q = ⟨N, T, L, W, S, R⟩ := ⟨_, rfl⟩
  have hpq := hp
  rw [← hq] at hpq
  have hv : q.val = .agg #[.int .i64 N, .int .i64 T, .int .i64 L, .int .i64 W, .int .i64 S, .int .i64 R] := by rw [hq]; rfl
  have K3 := fun w => R08.right_any q w hpq
  rw [hq, hr, ← hq, hv] at K3
  have H3 := Lib.hid K3
  clear K3
  have hM : q.May := by rw [hq]; exact of_decide_eq_true hr
  have hMM := hM
  unfold P.May at hMM
  have eN : q.N = N := by rw [hq]
  have eT : q.T = T := by rw [hq]
  have eL : q.L = L := by rw [hq]
  obtain ⟨n, hn⟩ : ∃ n : Nat, cost q b.length = n := ⟨(cost q b.length).toNat, by
    have : 0 ≤ cost q b.length := Int.mul_nonneg (by omega) (by omega)
    omega⟩
  have K9 := fun w => R10.cost_any N T L W S R b.length w (by omega) (by omega)
  rw [← hq, hn] at K9
  have H9 := Lib.hid K9
  have i1 : IntKind.i64.wrap (T + L) = T + L := IntWalk.i64_in _ (by omega)
  have i1b : IntKind.i64.wrap (T + L + 1) = T + L + 1 := IntWalk.i64_in _ (by omega)
  clear K9
  rw [← hq, hn] at hc
  have hc1 : n ≤ tp.length := by omega
  clear hc
  clear hq hr hp hpq hv hM hMM eN eT eL hn
  have HA := Lib.hid (LiesC.new w N T L W S R (.slice A1 b.length u1) (.slice A2 tp.length u2) (.slice A4 zz.length u4) 25)
  have HB0 := Lib.hid (show Below w.heap.size w ((w.alloc (.cells #[.int .i64 N, .int .i64 T, .int .i64 L, .int .i64 W, .int .i64 S, .int .i64 R] 23)).alloc (.cells #[.slice A1 b.length u1, .slice A2 tp.length u2, .slice A4 zz.length u4] 25)) from bstep (balloc _ _) (balloc _ _))
  go_enter Tryz.func3, Tryz.ntmps3
  go_wp2_with fail
  generalize (w.alloc (.cells #[.int .i64 N, .int .i64 T, .int .i64 L, .int .i64 W, .int .i64 S, .int .i64 R] 23)).alloc (.cells #[.slice A1 b.length u1, .slice A2 tp.length u2, .slice A4 zz.length u4] 25) = w0 at *
  refine Drawn.wp_region_flowL 6 [Drawn.SP.is (.pointer (some ⟨w.heap.size + 1, 0, none⟩)), Drawn.SP.is (.slice A1 b.length u1), Drawn.SP.is (.pointer (some ⟨w.heap.size + 1, 1, none⟩)), Drawn.SP.is (.slice A2 tp.length u2), Drawn.SP.is (.slice A1 b.length u1), Drawn.SP.is (.slice A2 tp.length u2)] (by kernel_rfl) (by kernel_rfl) ?_ ?_
  · intro i hi a w1 hb hev hdep
    rcases (show i = 0 ∨ i = 1 ∨ i = 2 ∨ i = 3 ∨ i = 4 ∨ i = 5 by omega) with rfl | rfl | rfl | rfl | rfl | rfl
    · have e4 : a.tmps[4]?.getD undef = .pointer (some ⟨w.heap.size + 1, 0, none⟩) := hev 4 rfl
      refine Drawn.wpOp_flow 27 rfl rfl rfl ?_
      clear hev hdep hb
      go_simp
      exact ⟨_, rfl, rfl, Below.refl _ _⟩
    · have d0 : a.tmps[27]?.getD undef = .pointer (some ⟨w.heap.size + 1, 0, none⟩) := hdep 0 rfl
      refine Drawn.wpOp_flow 28 rfl rfl rfl ?_
      have a0 := (HA.out.below hb).a0
      have a1 := (HA.out.below hb).a1
      clear hev hdep hb
      go_simp
      exact ⟨_, rfl, rfl, Below.refl _ _⟩
    · have e4 : a.tmps[4]?.getD undef = .pointer (some ⟨w.heap.size + 1, 0, none⟩) := hev 4 rfl
      refine Drawn.wpOp_flow 29 rfl rfl rfl ?_
      clear hev hdep hb
      go_simp
      exact ⟨_, rfl, rfl, Below.refl _ _⟩
    · have d2 : a.tmps[29]?.getD undef = .pointer (some ⟨w.heap.size + 1, 1, none⟩) := hdep 2 rfl
      refine Drawn.wpOp_flow 30 rfl rfl rfl ?_
      have a0 := (HA.out.below hb).a0
      have a1 := (HA.out.below hb).a1
      clear hev hdep hb
      go_simp
      exact ⟨_, rfl, rfl, Below.refl _ _⟩
    · have d1 : a.tmps[28]?.getD undef = .slice A1 b.length u1 := hdep 1 rfl
      refine Drawn.wpOp_flow 7 rfl rfl rfl ?_
      clear hev hdep hb
      go_simp
      exact ⟨_, rfl, rfl, Below.refl _ _⟩
    · have d3 : a.tmps[30]?.getD undef = .slice A2 tp.length u2 := hdep 3 rfl
      refine Drawn.wpOp_flow 8 rfl rfl rfl ?_
      clear hev hdep hb
      go_simp
      exact ⟨_, rfl, rfl, Below.refl _ _⟩
  · intro xq w1 hb hxq
    have vq0 : xq 0 = .pointer (some ⟨w.heap.size + 1, 0, none⟩) := hxq 0 (by omega)
    have vq1 : xq 1 = .slice A1 b.length u1 := hxq 1 (by omega)
    have vq2 : xq 2 = .pointer (some ⟨w.heap.size + 1, 1, none⟩) := hxq 2 (by omega)
    have vq3 : xq 3 = .slice A2 tp.length u2 := hxq 3 (by omega)
    have vq4 : xq 4 = .slice A1 b.length u1 := hxq 4 (by omega)
    have vq5 : xq 5 = .slice A2 tp.length u2 := hxq 5 (by omega)
    show Exit.then _ _ Exit.normal (Drawn.acts _ [(8, some (xq 5)), (7, some (xq 4)), (30, some (xq 3)), (29, some (xq 2)), (28, some (xq 1)), (27, some (xq 0))]) _
    rw [vq0, vq1, vq2, vq3, vq4, vq5]
    clear hxq vq0 vq1 vq2 vq3 vq4 vq5
    clear xq
    simp only [Drawn.acts]
    go_simp
    have hb1 := hb
    clear hb
    obtain ⟨c0, c1, c2, c3, c4, c5⟩ := six (HA.out.below hb1).plan
    go_at_K
    go_wp2_with fail
    refine (H0.out _).mono ?_
    rintro e w2 ⟨rfl, hb2'⟩
    have hb2 := bstep hb1 hb2'
    clear c0 c1 c2 c3 c4 c5
    clear hb1 hb2'
    obtain ⟨c0, c1, c2, c3, c4, c5⟩ := six (HA.out.below hb2).plan
    go_wp2_with fail
    refine (H3.out _).mono ?_
    rintro e w3 ⟨rfl, hbx⟩
    have hb3 := bstep hb2 hbx
    clear c0 c1 c2 c3 c4 c5
    clear hb2 hbx
    obtain ⟨c0, c1, c2, c3, c4, c5⟩ := six (HA.out.below hb3).plan
    go_wp2_with fail
    refine (H9.out _).mono ?_
    rintro e w4 ⟨rfl, hbx⟩
    have hb4 := bstep hb3 hbx
    clear c0 c1 c2 c3 c4 c5
    clear hb3 hbx
    obtain ⟨c0, c1, c2, c3, c4, c5⟩ := six (HA.out.below hb4).plan
    go_wp2_with fail
    refine (alive_any _).mono ?_
    rintro e wz ⟨rfl, hbz⟩
    clear c0 c1 c2 c3 c4 c5
    go_wp2
    go_ret
    exact ⟨rfl, bstep HB0.out (bstep hb4 hbz)⟩

set_option maxHeartbeats 2000000 in
theorem back_few (N T L W S R : Int) (A1 A2 A4 A3 : Option Addr) (b tp zz : List UInt8) (who : List Int) (u1 u2 u4 u3 : Nat) (w : World) (hp : (⟨N, T, L, W, S, R⟩ : P).In) (hl : N ≤ 12 ∧ L ≤ 12 ∧ T ≤ 12) (hr : (⟨N, T, L, W, S, R⟩ : P).right = true) (hf : b.length ≤ 60) (hc : cost ⟨N, T, L, W, S, R⟩ b.length ≤ tp.length) (hm : who.length ≤ 14) (hw : (who.length : Int) < T + L + 1) :
    Calls Tryz.prog 3 #[.agg #[.int .i64 N, .int .i64 T, .int .i64 L, .int .i64 W, .int .i64 S, .int .i64 R], .agg #[.slice A1 b.length u1, .slice A2 tp.length u2, .slice A4 zz.length u4], .slice A3 who.length u3] w fun e w' => e = .returned (.bool true) ∧ Below w.heap.size w w' := by
  have K0 := fun w => Law10.light_any N T L W S R w
  rw [decide_eq_true hl] at K0
  have H0 := Lib.hid K0
  clear K0 hl
  obtain ⟨q, hq⟩ : ∃ q : P, q = ⟨N, T, L, W, S, R⟩ := ⟨_, rfl⟩
  have hpq := hp
  rw [← hq] at hpq
  have hv : q.val = .agg #[.int .i64 N, .int .i64 T, .int .i64 L, .int .i64 W, .int .i64 S, .int .i64 R] := by rw [hq]; rfl
  have K3 := fun w => R08.right_any q w hpq
  rw [hq, hr, ← hq, hv] at K3
  have H3 := Lib.hid K3
  clear K3
  have hM : q.May := by rw [hq]; exact of_decide_eq_true hr
  have hMM := hM
  unfold P.May at hMM
  have eN : q.N = N := by rw [hq]
  have eT : q.T = T := by rw [hq]
  have eL : q.L = L := by rw [hq]
  obtain ⟨n, hn⟩ : ∃ n : Nat, cost q b.length = n := ⟨(cost q b.length).toNat, by
    have : 0 ≤ cost q b.length := Int.mul_nonneg (by omega) (by omega)
    omega⟩
  have K9 := fun w => R10.cost_any N T L W S R b.length w (by omega) (by omega)
  rw [← hq, hn] at K9
  have H9 := Lib.hid K9
  have i1 : IntKind.i64.wrap (T + L) = T + L := IntWalk.i64_in _ (by omega)
  have i1b : IntKind.i64.wrap (T + L + 1) = T + L + 1 := IntWalk.i64_in _ (by omega)
  clear K9
  rw [← hq, hn] at hc
  have hc1 : n ≤ tp.length := by omega
  clear hc
  clear hq hr hp hpq hv hM hMM eN eT eL hn
  have HA := Lib.hid (LiesC.new w N T L W S R (.slice A1 b.length u1) (.slice A2 tp.length u2) (.slice A4 zz.length u4) 25)
  have HB0 := Lib.hid (show Below w.heap.size w ((w.alloc (.cells #[.int .i64 N, .int .i64 T, .int .i64 L, .int .i64 W, .int .i64 S, .int .i64 R] 23)).alloc (.cells #[.slice A1 b.length u1, .slice A2 tp.length u2, .slice A4 zz.length u4] 25)) from bstep (balloc _ _) (balloc _ _))
  go_enter Tryz.func3, Tryz.ntmps3
  go_wp2_with fail
  generalize (w.alloc (.cells #[.int .i64 N, .int .i64 T, .int .i64 L, .int .i64 W, .int .i64 S, .int .i64 R] 23)).alloc (.cells #[.slice A1 b.length u1, .slice A2 tp.length u2, .slice A4 zz.length u4] 25) = w0 at *
  refine Drawn.wp_region_flowL 6 [Drawn.SP.is (.pointer (some ⟨w.heap.size + 1, 0, none⟩)), Drawn.SP.is (.slice A1 b.length u1), Drawn.SP.is (.pointer (some ⟨w.heap.size + 1, 1, none⟩)), Drawn.SP.is (.slice A2 tp.length u2), Drawn.SP.is (.slice A1 b.length u1), Drawn.SP.is (.slice A2 tp.length u2)] (by kernel_rfl) (by kernel_rfl) ?_ ?_
  · intro i hi a w1 hb hev hdep
    rcases (show i = 0 ∨ i = 1 ∨ i = 2 ∨ i = 3 ∨ i = 4 ∨ i = 5 by omega) with rfl | rfl | rfl | rfl | rfl | rfl
    · have e4 : a.tmps[4]?.getD undef = .pointer (some ⟨w.heap.size + 1, 0, none⟩) := hev 4 rfl
      refine Drawn.wpOp_flow 27 rfl rfl rfl ?_
      clear hev hdep hb
      go_simp
      exact ⟨_, rfl, rfl, Below.refl _ _⟩
    · have d0 : a.tmps[27]?.getD undef = .pointer (some ⟨w.heap.size + 1, 0, none⟩) := hdep 0 rfl
      refine Drawn.wpOp_flow 28 rfl rfl rfl ?_
      have a0 := (HA.out.below hb).a0
      have a1 := (HA.out.below hb).a1
      clear hev hdep hb
      go_simp
      exact ⟨_, rfl, rfl, Below.refl _ _⟩
    · have e4 : a.tmps[4]?.getD undef = .pointer (some ⟨w.heap.size + 1, 0, none⟩) := hev 4 rfl
      refine Drawn.wpOp_flow 29 rfl rfl rfl ?_
      clear hev hdep hb
      go_simp
      exact ⟨_, rfl, rfl, Below.refl _ _⟩
    · have d2 : a.tmps[29]?.getD undef = .pointer (some ⟨w.heap.size + 1, 1, none⟩) := hdep 2 rfl
      refine Drawn.wpOp_flow 30 rfl rfl rfl ?_
      have a0 := (HA.out.below hb).a0
      have a1 := (HA.out.below hb).a1
      clear hev hdep hb
      go_simp
      exact ⟨_, rfl, rfl, Below.refl _ _⟩
    · have d1 : a.tmps[28]?.getD undef = .slice A1 b.length u1 := hdep 1 rfl
      refine Drawn.wpOp_flow 7 rfl rfl rfl ?_
      clear hev hdep hb
      go_simp
      exact ⟨_, rfl, rfl, Below.refl _ _⟩
    · have d3 : a.tmps[30]?.getD undef = .slice A2 tp.length u2 := hdep 3 rfl
      refine Drawn.wpOp_flow 8 rfl rfl rfl ?_
      clear hev hdep hb
      go_simp
      exact ⟨_, rfl, rfl, Below.refl _ _⟩
  · intro xq w1 hb hxq
    have vq0 : xq 0 = .pointer (some ⟨w.heap.size + 1, 0, none⟩) := hxq 0 (by omega)
    have vq1 : xq 1 = .slice A1 b.length u1 := hxq 1 (by omega)
    have vq2 : xq 2 = .pointer (some ⟨w.heap.size + 1, 1, none⟩) := hxq 2 (by omega)
    have vq3 : xq 3 = .slice A2 tp.length u2 := hxq 3 (by omega)
    have vq4 : xq 4 = .slice A1 b.length u1 := hxq 4 (by omega)
    have vq5 : xq 5 = .slice A2 tp.length u2 := hxq 5 (by omega)
    show Exit.then _ _ Exit.normal (Drawn.acts _ [(8, some (xq 5)), (7, some (xq 4)), (30, some (xq 3)), (29, some (xq 2)), (28, some (xq 1)), (27, some (xq 0))]) _
    rw [vq0, vq1, vq2, vq3, vq4, vq5]
    clear hxq vq0 vq1 vq2 vq3 vq4 vq5
    clear xq
    simp only [Drawn.acts]
    go_simp
    have hb1 := hb
    clear hb
    obtain ⟨c0, c1, c2, c3, c4, c5⟩ := six (HA.out.below hb1).plan
    go_at_K
    go_wp2_with fail
    refine (H0.out _).mono ?_
    rintro e w2 ⟨rfl, hb2'⟩
    have hb2 := bstep hb1 hb2'
    clear c0 c1 c2 c3 c4 c5
    clear hb1 hb2'
    obtain ⟨c0, c1, c2, c3, c4, c5⟩ := six (HA.out.below hb2).plan
    go_wp2_with fail
    refine (H3.out _).mono ?_
    rintro e w3 ⟨rfl, hbx⟩
    have hb3 := bstep hb2 hbx
    clear c0 c1 c2 c3 c4 c5
    clear hb2 hbx
    obtain ⟨c0, c1, c2, c3, c4, c5⟩ := six (HA.out.below hb3).plan
    go_wp2_with fail
    refine (H9.out _).mono ?_
    rintro e w4 ⟨rfl, hbx⟩
    have hb4 := bstep hb3 hbx
    clear c0 c1 c2 c3 c4 c5
    clear hb3 hbx
    obtain ⟨c0, c1, c2, c3, c4, c5⟩ := six (HA.out.below hb4).plan
    go_wp2_with fail
    refine (alive_any _).mono ?_
    rintro e wz ⟨rfl, hbz⟩
    clear c0 c1 c2 c3 c4 c5
    go_wp2
    go_ret
    exact ⟨rfl, bstep HB0.out (bstep hb4 hbz)⟩

set_option maxHeartbeats 2000000 in
theorem back_twice (N T L W S R : Int) (A1 A2 A4 A3 : Option Addr) (b tp zz : List UInt8) (who : List Int) (u1 u2 u4 u3 : Nat) (w : World) (hp : (⟨N, T, L, W, S, R⟩ : P).In) (h3 : IntsAt w A3 who) (hl : N ≤ 12 ∧ L ≤ 12 ∧ T ≤ 12) (hr : (⟨N, T, L, W, S, R⟩ : P).right = true) (hf : b.length ≤ 60) (hc : cost ⟨N, T, L, W, S, R⟩ b.length ≤ tp.length) (hm : who.length ≤ 14) (hw : T + L + 1 ≤ (who.length : Int)) (hu : unl (points who) = false) :
    Calls Tryz.prog 3 #[.agg #[.int .i64 N, .int .i64 T, .int .i64 L, .int .i64 W, .int .i64 S, .int .i64 R], .agg #[.slice A1 b.length u1, .slice A2 tp.length u2, .slice A4 zz.length u4], .slice A3 who.length u3] w fun e w' => e = .returned (.bool true) ∧ Below w.heap.size w w' := by
  have K0 := fun w => Law10.light_any N T L W S R w
  rw [decide_eq_true hl] at K0
  have H0 := Lib.hid K0
  clear K0 hl
  obtain ⟨q, hq⟩ : ∃ q : P, q = ⟨N, T, L, W, S, R⟩ := ⟨_, rfl⟩
  have hpq := hp
  rw [← hq] at hpq
  have hv : q.val = .agg #[.int .i64 N, .int .i64 T, .int .i64 L, .int .i64 W, .int .i64 S, .int .i64 R] := by rw [hq]; rfl
  have K3 := fun w => R08.right_any q w hpq
  rw [hq, hr, ← hq, hv] at K3
  have H3 := Lib.hid K3
  clear K3
  have hM : q.May := by rw [hq]; exact of_decide_eq_true hr
  have hMM := hM
  unfold P.May at hMM
  have eN : q.N = N := by rw [hq]
  have eT : q.T = T := by rw [hq]
  have eL : q.L = L := by rw [hq]
  obtain ⟨n, hn⟩ : ∃ n : Nat, cost q b.length = n := ⟨(cost q b.length).toNat, by
    have : 0 ≤ cost q b.length := Int.mul_nonneg (by omega) (by omega)
    omega⟩
  have K9 := fun w => R10.cost_any N T L W S R b.length w (by omega) (by omega)
  rw [← hq, hn] at K9
  have H9 := Lib.hid K9
  have i1 : IntKind.i64.wrap (T + L) = T + L := IntWalk.i64_in _ (by omega)
  have i1b : IntKind.i64.wrap (T + L + 1) = T + L + 1 := IntWalk.i64_in _ (by omega)
  clear K9
  rw [← hq, hn] at hc
  have hc1 : n ≤ tp.length := by omega
  clear hc
  have K7 := fun V (h : IntsAt V A3 who) => R08.points_any A3 who u3 V h (by omega)
  have hpl : (points who).length = who.length := points_len who
  have K8 := fun X d V (h : BytesAt V X (points who)) => R03.unlike_any X (points who) d V h (by omega)
  rw [hu, hpl] at K8
  have H7 := Lib.hid K7; have H8 := Lib.hid K8; have HPL := Lib.hid hpl
  have B3 := Lib.hid h3
  clear K7 K8 hpl
  clear h3 hu
  clear hq hr hp hpq hv hM hMM eN eT eL hn
  have HA := Lib.hid (LiesC.new w N T L W S R (.slice A1 b.length u1) (.slice A2 tp.length u2) (.slice A4 zz.length u4) 25)
  have HB0 := Lib.hid (show Below w.heap.size w ((w.alloc (.cells #[.int .i64 N, .int .i64 T, .int .i64 L, .int .i64 W, .int .i64 S, .int .i64 R] 23)).alloc (.cells #[.slice A1 b.length u1, .slice A2 tp.length u2, .slice A4 zz.length u4] 25)) from bstep (balloc _ _) (balloc _ _))
  go_enter Tryz.func3, Tryz.ntmps3
  go_wp2_with fail
  generalize (w.alloc (.cells #[.int .i64 N, .int .i64 T, .int .i64 L, .int .i64 W, .int .i64 S, .int .i64 R] 23)).alloc (.cells #[.slice A1 b.length u1, .slice A2 tp.length u2, .slice A4 zz.length u4] 25) = w0 at *
  replace B3 := Lib.hid (B3.out.below HB0.out)
  refine Drawn.wp_region_flowL 6 [Drawn.SP.is (.pointer (some ⟨w.heap.size + 1, 0, none⟩)), Drawn.SP.is (.slice A1 b.length u1), Drawn.SP.is (.pointer (some ⟨w.heap.size + 1, 1, none⟩)), Drawn.SP.is (.slice A2 tp.length u2), Drawn.SP.is (.slice A1 b.length u1), Drawn.SP.is (.slice A2 tp.length u2)] (by kernel_rfl) (by kernel_rfl) ?_ ?_
  · intro i hi a w1 hb hev hdep
    rcases (show i = 0 ∨ i = 1 ∨ i = 2 ∨ i = 3 ∨ i = 4 ∨ i = 5 by omega) with rfl | rfl | rfl | rfl | rfl | rfl
    · have e4 : a.tmps[4]?.getD undef = .pointer (some ⟨w.heap.size + 1, 0, none⟩) := hev 4 rfl
      refine Drawn.wpOp_flow 27 rfl rfl rfl ?_
      clear hev hdep hb
      go_simp
      exact ⟨_, rfl, rfl, Below.refl _ _⟩
    · have d0 : a.tmps[27]?.getD undef = .pointer (some ⟨w.heap.size + 1, 0, none⟩) := hdep 0 rfl
      refine Drawn.wpOp_flow 28 rfl rfl rfl ?_
      have a0 := (HA.out.below hb).a0
      have a1 := (HA.out.below hb).a1
      clear hev hdep hb
      go_simp
      exact ⟨_, rfl, rfl, Below.refl _ _⟩
    · have e4 : a.tmps[4]?.getD undef = .pointer (some ⟨w.heap.size + 1, 0, none⟩) := hev 4 rfl
      refine Drawn.wpOp_flow 29 rfl rfl rfl ?_
      clear hev hdep hb
      go_simp
      exact ⟨_, rfl, rfl, Below.refl _ _⟩
    · have d2 : a.tmps[29]?.getD undef = .pointer (some ⟨w.heap.size + 1, 1, none⟩) := hdep 2 rfl
      refine Drawn.wpOp_flow 30 rfl rfl rfl ?_
      have a0 := (HA.out.below hb).a0
      have a1 := (HA.out.below hb).a1
      clear hev hdep hb
      go_simp
      exact ⟨_, rfl, rfl, Below.refl _ _⟩
    · have d1 : a.tmps[28]?.getD undef = .slice A1 b.length u1 := hdep 1 rfl
      refine Drawn.wpOp_flow 7 rfl rfl rfl ?_
      clear hev hdep hb
      go_simp
      exact ⟨_, rfl, rfl, Below.refl _ _⟩
    · have d3 : a.tmps[30]?.getD undef = .slice A2 tp.length u2 := hdep 3 rfl
      refine Drawn.wpOp_flow 8 rfl rfl rfl ?_
      clear hev hdep hb
      go_simp
      exact ⟨_, rfl, rfl, Below.refl _ _⟩
  · intro xq w1 hb hxq
    have vq0 : xq 0 = .pointer (some ⟨w.heap.size + 1, 0, none⟩) := hxq 0 (by omega)
    have vq1 : xq 1 = .slice A1 b.length u1 := hxq 1 (by omega)
    have vq2 : xq 2 = .pointer (some ⟨w.heap.size + 1, 1, none⟩) := hxq 2 (by omega)
    have vq3 : xq 3 = .slice A2 tp.length u2 := hxq 3 (by omega)
    have vq4 : xq 4 = .slice A1 b.length u1 := hxq 4 (by omega)
    have vq5 : xq 5 = .slice A2 tp.length u2 := hxq 5 (by omega)
    show Exit.then _ _ Exit.normal (Drawn.acts _ [(8, some (xq 5)), (7, some (xq 4)), (30, some (xq 3)), (29, some (xq 2)), (28, some (xq 1)), (27, some (xq 0))]) _
    rw [vq0, vq1, vq2, vq3, vq4, vq5]
    clear hxq vq0 vq1 vq2 vq3 vq4 vq5
    clear xq
    simp only [Drawn.acts]
    go_simp
    have hb1 := hb
    clear hb
    obtain ⟨c0, c1, c2, c3, c4, c5⟩ := six (HA.out.below hb1).plan
    go_at_K
    go_wp2_with fail
    refine (H0.out _).mono ?_
    rintro e w2 ⟨rfl, hb2'⟩
    have hb2 := bstep hb1 hb2'
    clear c0 c1 c2 c3 c4 c5
    clear hb1 hb2'
    obtain ⟨c0, c1, c2, c3, c4, c5⟩ := six (HA.out.below hb2).plan
    go_wp2_with fail
    refine (H3.out _).mono ?_
    rintro e w3 ⟨rfl, hbx⟩
    have hb3 := bstep hb2 hbx
    clear c0 c1 c2 c3 c4 c5
    clear hb2 hbx
    obtain ⟨c0, c1, c2, c3, c4, c5⟩ := six (HA.out.below hb3).plan
    go_wp2_with fail
    refine (H9.out _).mono ?_
    rintro e w4 ⟨rfl, hbx⟩
    have hb4 := bstep hb3 hbx
    clear c0 c1 c2 c3 c4 c5
    clear hb3 hbx
    obtain ⟨c0, c1, c2, c3, c4, c5⟩ := six (HA.out.below hb4).plan
    go_wp2_with fail
    refine (H7.out _ (B3.out.below hb4)).mono ?_
    rintro e w5 ⟨X, d, rfl, _, _, hX, hbx, _⟩
    rw [HPL.out]
    have HX := Lib.hid hX
    have hb5 := bstep hb4 hbx
    clear c0 c1 c2 c3 c4 c5
    clear hb4 hbx hX
    obtain ⟨c0, c1, c2, c3, c4, c5⟩ := six (HA.out.below hb5).plan
    go_wp2_with fail
    refine (H8.out X d _ HX.out).mono ?_
    rintro e w6 ⟨rfl, hbx⟩
    have hb6 := bstep hb5 (bquiet hbx)
    clear c0 c1 c2 c3 c4 c5
    clear hb5 hbx HX
    obtain ⟨c0, c1, c2, c3, c4, c5⟩ := six (HA.out.below hb6).plan
    go_wp2_with fail
    refine (alive_any _).mono ?_
    rintro e wz ⟨rfl, hbz⟩
    clear c0 c1 c2 c3 c4 c5
    go_wp2
    go_ret
    exact ⟨rfl, bstep HB0.out (bstep hb6 hbz)⟩

end Go.Proofs.YtchcgiapjhmflaaGreat.Law13
