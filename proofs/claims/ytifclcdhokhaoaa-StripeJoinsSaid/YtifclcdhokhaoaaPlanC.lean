/- the contracts of package plan -/
import Derived.Test.YtifclcdhokhaoaaPlanB
set_option maxRecDepth 100000
namespace Go.Proofs.Ytifclcdhokhaoaa.Plan
open Go.RowKit PlanM

theorem Own.lower {w : World} {b b' : Nat} {v : Value} {l : List UInt8} (h : Own w b v l) (hb : b' ≤ b) : Own w b' v l := by
  refine ⟨h.1, ?_⟩
  rcases h.2 with h2 | ⟨g, cap, cur, h1, h2, h3⟩
  · exact .inl h2
  · exact .inr ⟨g, cap, cur, h1, Nat.le_trans hb h2, h3⟩
theorem RetOwn.later {w w1 w2 : World} {l : List UInt8} {e : Ending} (h : RetOwn w1 l e w2) (hb : Below w.heap.size w w1) : RetOwn w l e w2 := by
  obtain ⟨v, rfl, h1, h2⟩ := h
  exact ⟨v, rfl, Own.lower h1 hb.size, bstep hb h2⟩
theorem RetInts.later {w w1 w2 : World} {l : List Int} {e : Ending} (h : RetInts w1 l e w2) (hb : Below w.heap.size w w1) : RetInts w l e w2 := by
  obtain ⟨A, c, rfl, h1, h2, h3, h4, h5⟩ := h
  exact ⟨A, c, rfl, h1, h2, h3, bstep hb h4, h5.mono hb.size⟩
theorem Says.later {w w1 w2 : World} {v : Value} {e : Ending} (h : Says w1 v e w2) (hb : Below w.heap.size w w1) : Says w v e w2 := ⟨h.1, bstep hb h.2⟩
theorem RetOwn.of_nil {w w' : World} (hb : Below w.heap.size w w') : RetOwn w [] (.returned (.slice none 0 0)) w' := ⟨_, rfl, Own.nil _ _, hb⟩
theorem RetInts.of_nil {w w' : World} (hb : Below w.heap.size w w') : RetInts w [] (.returned (.slice none 0 0)) w' := ⟨none, 0, rfl, Nat.le_refl _, Nat.zero_le _, CellsAt.nil _ _, hb, New.none w⟩

theorem of_Stripes (p : P) (g gi : Nat) (v : Int) (w : World) (hp : p.In) (hM : p.May) (hq : ∀ W, Below w.heap.size w W → Calls Try.prog 22 #[.pointer (some ⟨gi, 0, none⟩), .pointer (some ⟨g, 0, none⟩)] W (Says W (.int .i64 v))) :
    Calls Try.prog 21 #[p.val, .func (.func 22) #[] #[.pointer (some ⟨gi, 0, none⟩), .pointer (some ⟨g, 0, none⟩)]] w (Says w (.int .i64 v)) := by
  have HR := Lib.hid (fun W => right_any p W hp)
  have HQ := Lib.hid hq
  rw [P.right_yes hM] at HR
  clear hM hq
  obtain ⟨N, T, L, W, S, R⟩ := p
  unfold P.val at HR ⊢
  clear hp
  go_enter Try.func21, Try.ntmps21
  go_wp2_with fail
  refine (HR.out _).mono ?_
  rintro e w1 ⟨rfl, hb1⟩
  go_wp2_with fail
  refine (HQ.out w1 (bstep (balloc _ _) hb1)).mono ?_
  rintro e w2 ⟨rfl, hb2⟩
  go_wp2
  go_ret
  exact ⟨rfl, bstep (balloc _ _) (bstep hb1 hb2)⟩
theorem no_Stripes (p : P) (g gi : Nat) (w : World) (hp : p.In) (hM : ¬ p.May) :
    Calls Try.prog 21 #[p.val, .func (.func 22) #[] #[.pointer (some ⟨gi, 0, none⟩), .pointer (some ⟨g, 0, none⟩)]] w (Says w (.int .i64 0)) := by
  have HR := Lib.hid (fun W => right_any p W hp)
  rw [P.right_no hM] at HR
  clear hM
  obtain ⟨N, T, L, W, S, R⟩ := p
  unfold P.val at HR ⊢
  clear hp
  go_enter Try.func21, Try.ntmps21
  go_wp2_with fail
  refine (HR.out _).mono ?_
  rintro e w1 ⟨rfl, hb1⟩
  go_wp2
  go_ret
  exact ⟨rfl, bstep (balloc _ _) hb1⟩

theorem Stripes_body (g gi : Nat) (p : P) (size : Int) (w : World) (h : Six w g p) (hi : w.cell? ⟨gi, 0, none⟩ = some (.int .i64 size)) (hM : p.May) : Calls Try.prog 22 #[.pointer (some ⟨gi, 0, none⟩), .pointer (some ⟨g, 0, none⟩)] w (Says w (.int .i64 (p.stripes size : Nat))) := by
  unfold P.stripes
  obtain ⟨N, T, L, W, S, R⟩ := p
  obtain ⟨c0, c1, c2, c3, c4, c5⟩ := h
  unfold P.May at hM
  simp only at *
  have HW := Lib.hid (fun W => within_any size 1 240 W)
  by_cases hs : 1 ≤ size ∧ size ≤ 240
  · rw [wi_yes hs] at HW
    rw [if_neg (by omega)]
    have hd : 0 ≤ (size + L - 1) / L := Int.ediv_nonneg (by omega) (by omega)
    have i1 : IntKind.i64.wrap (size + L) = size + L := IntWalk.i64_in _ (by omega)
    have i2 : IntKind.i64.wrap (size + L - 1) = size + L - 1 := IntWalk.i64_in _ (by omega)
    have hq : (size + L - 1).tdiv L = (size + L - 1) / L := Int.tdiv_eq_ediv_of_nonneg (by omega)
    have hu : (size + L - 1) / L ≤ size + L - 1 := Int.ediv_le_self _ (by omega)
    have i3 : IntKind.i64.wrap ((size + L - 1) / L) = (size + L - 1) / L := IntWalk.i64_in _ (by omega)
    have hz : (L == 0) = false := by simp; omega
    rw [show (((size + L - 1) / L).toNat : Int) = (size + L - 1) / L from by omega]
    generalize (size + L - 1) / L = q at *
    have hz2 : ¬ L = 0 := by omega
    clear hM hu hd
    go_enter Try.func22, Try.ntmps22
    go_wp2_with fail
    refine (HW.out _).mono ?_
    rintro e w1 ⟨rfl, rfl⟩
    go_wp2
    go_ret
    exact ⟨rfl, Below.refl _ _⟩
  · rw [wi_no hs] at HW
    rw [if_pos (by omega)]
    clear hM
    go_enter Try.func22, Try.ntmps22
    go_wp2_with fail
    refine (HW.out _).mono ?_
    rintro e w1 ⟨rfl, rfl⟩
    go_wp2
    go_ret
    exact ⟨rfl, Below.refl _ _⟩
end Go.Proofs.Ytifclcdhokhaoaa.Plan
