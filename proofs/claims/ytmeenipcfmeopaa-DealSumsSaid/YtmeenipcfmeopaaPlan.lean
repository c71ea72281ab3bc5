/- the contracts of package plan, landed -/
import Derived.Test.YtmeenipcfmeopaaPlanC
set_option maxRecDepth 100000
namespace Go.Proofs.Ytmeenipcfmeopaa.Plan
open Go.RowKit PlanM

theorem point_any (i : Int) (w : World) (hi : In64 i) : Calls Try.prog 60 #[.int .i64 i] w (Says w (.int .u8 ((point i).toNat : Nat))) :=
  (point_same i w hi).mono fun _ _ h => ⟨h.1, by rw [← h.2]; exact Below.refl _ _⟩
theorem points_any (A : Option Addr) (l : List Int) (c : Nat) (w : World) (h : IntsAt w A l) (hl : l.length ≤ 1048576) (_hc : l.length ≤ c) (_hc2 : c ≤ maxLen) (hi : ∀ x ∈ l, In64 x) : Calls Try.prog 49 #[.slice A l.length c] w (RetOwn w (points l)) :=
  points_own A l c w h hl hi

theorem secrets_own (p : P) (w : World) (hp : p.In) : Calls Try.prog 50 #[p.val] w (RetOwn w p.secretsA) := by
  by_cases hM : p.May
  · rw [show p.secretsA = p.secrets from by simp only [P.secretsA, P.right_yes hM]; rfl]
    obtain ⟨N, T, L, W, S, R⟩ := p
    have HC : ∀ V, Below (w.alloc (.cells #[.int .i64 N, .int .i64 T, .int .i64 L, .int .i64 W, .int .i64 S, .int .i64 R] 23)).heap.size (w.alloc (.cells #[.int .i64 N, .int .i64 T, .int .i64 L, .int .i64 W, .int .i64 S, .int .i64 R] 23)) V → Calls Try.prog 62 #[.pointer (some ⟨w.heap.size, 0, none⟩)] V (RetOwn V (P.secrets ⟨N, T, L, W, S, R⟩)) := fun V hb => Secrets_body w.heap.size ⟨N, T, L, W, S, R⟩ V (Six.below (Six.new w ⟨N, T, L, W, S, R⟩) hb) hM
    have HO := Lib.hid (of_Secrets ⟨N, T, L, W, S, R⟩ w.heap.size _ (w.alloc (.cells #[.int .i64 N, .int .i64 T, .int .i64 L, .int .i64 W, .int .i64 S, .int .i64 R] 23)) hp hM HC)
    have HB := Lib.hid (balloc w _ : Below w.heap.size w (w.alloc (.cells #[.int .i64 N, .int .i64 T, .int .i64 L, .int .i64 W, .int .i64 S, .int .i64 R] 23)))
    clear HC hM hp
    unfold P.val at HO ⊢
    go_enter Try.func50, Try.ntmps50
    go_wp2_with fail
    refine HO.out.mono ?_
    rintro e w2 ⟨v, rfl, hv, hb2⟩
    go_wp2
    go_ret
    exact ret_own (Own.lower hv HB.out.size) (bstep HB.out hb2)
  · rw [show p.secretsA = [] from by simp only [P.secretsA, P.right_no hM]; rfl]
    obtain ⟨N, T, L, W, S, R⟩ := p
    have HO := Lib.hid (no_Secrets ⟨N, T, L, W, S, R⟩ w.heap.size (w.alloc (.cells #[.int .i64 N, .int .i64 T, .int .i64 L, .int .i64 W, .int .i64 S, .int .i64 R] 23)) hp hM)
    have HB := Lib.hid (balloc w _ : Below w.heap.size w (w.alloc (.cells #[.int .i64 N, .int .i64 T, .int .i64 L, .int .i64 W, .int .i64 S, .int .i64 R] 23)))
    clear hM hp
    unfold P.val at HO ⊢
    go_enter Try.func50, Try.ntmps50
    go_wp2_with fail
    refine HO.out.mono ?_
    rintro e w2 ⟨v, rfl, hv, hb2⟩
    go_wp2
    go_ret
    exact ret_own (Own.lower hv HB.out.size) (bstep HB.out hb2)

theorem all_any (p : P) (w : World) (hp : p.In) : Calls Try.prog 20 #[p.val] w (RetInts w p.allA) := by
  by_cases hM : p.May
  · rw [show p.allA = (all p.N.toNat) from by simp only [P.allA, P.right_yes hM]; rfl]
    obtain ⟨N, T, L, W, S, R⟩ := p
    have HC : ∀ V, Below (w.alloc (.cells #[.int .i64 N, .int .i64 T, .int .i64 L, .int .i64 W, .int .i64 S, .int .i64 R] 23)).heap.size (w.alloc (.cells #[.int .i64 N, .int .i64 T, .int .i64 L, .int .i64 W, .int .i64 S, .int .i64 R] 23)) V → Calls Try.prog 35 #[.pointer (some ⟨w.heap.size, 0, none⟩)] V (RetInts V (all N.toNat)) := fun V hb => All_body w.heap.size ⟨N, T, L, W, S, R⟩ V (Six.below (Six.new w ⟨N, T, L, W, S, R⟩) hb) hM
    have HO := Lib.hid (of_All ⟨N, T, L, W, S, R⟩ w.heap.size _ (w.alloc (.cells #[.int .i64 N, .int .i64 T, .int .i64 L, .int .i64 W, .int .i64 S, .int .i64 R] 23)) hp hM HC)
    have HB := Lib.hid (balloc w _ : Below w.heap.size w (w.alloc (.cells #[.int .i64 N, .int .i64 T, .int .i64 L, .int .i64 W, .int .i64 S, .int .i64 R] 23)))
    clear HC hM hp
    unfold P.val at HO ⊢
    go_enter Try.func20, Try.ntmps20
    go_wp2_with fail
    refine HO.out.mono ?_
    rintro e w2 ⟨A, c, rfl, h1, h2, h3, hb2, h5⟩
    go_wp2
    go_ret
    exact ⟨A, c, rfl, h1, h2, h3, bstep HB.out hb2, h5.mono HB.out.size⟩
  · rw [show p.allA = [] from by simp only [P.allA, P.right_no hM]; rfl]
    obtain ⟨N, T, L, W, S, R⟩ := p
    have HO := Lib.hid (no_All ⟨N, T, L, W, S, R⟩ w.heap.size (w.alloc (.cells #[.int .i64 N, .int .i64 T, .int .i64 L, .int .i64 W, .int .i64 S, .int .i64 R] 23)) hp hM)
    have HB := Lib.hid (balloc w _ : Below w.heap.size w (w.alloc (.cells #[.int .i64 N, .int .i64 T, .int .i64 L, .int .i64 W, .int .i64 S, .int .i64 R] 23)))
    clear hM hp
    unfold P.val at HO ⊢
    go_enter Try.func20, Try.ntmps20
    go_wp2_with fail
    refine HO.out.mono ?_
    rintro e w2 ⟨A, c, rfl, h1, h2, h3, hb2, h5⟩
    go_wp2
    go_ret
    exact ⟨A, c, rfl, h1, h2, h3, bstep HB.out hb2, h5.mono HB.out.size⟩

set_option maxHeartbeats 1000000 in
theorem is_any (p : P) (i : Int) (w : World) (hp : p.In) (_hi : In64 i) : Calls Try.prog 23 #[p.val, .int .i64 i] w (Says w (.bool (p.isA i))) := by
  by_cases hM : p.May
  · rw [show (p.isA i) = (p.is i) from by simp only [P.isA, P.right_yes hM]; rfl]
    obtain ⟨N, T, L, W, S, R⟩ := p
    have HB := Lib.hid (fun g gi V h1 h2 => Is_body g gi ⟨N, T, L, W, S, R⟩ i V h1 h2)
    have HO := Lib.hid (fun g gi w hq => of_Is ⟨N, T, L, W, S, R⟩ g gi (P.is ⟨N, T, L, W, S, R⟩ i) w hp hM hq)
    have HS := Lib.hid (Six.new w ⟨N, T, L, W, S, R⟩)
    clear hM hp
    generalize (P.is ⟨N, T, L, W, S, R⟩ i) = ans at *
    unfold P.val at HO ⊢
    go_enter Try.func23, Try.ntmps23
    go_wp2_with fail
    have hb1 := balloc w (.cells #[.int .i64 N, .int .i64 T, .int .i64 L, .int .i64 W, .int .i64 S, .int .i64 R] 23)
    have hz : (w.alloc (.cells #[.int .i64 N, .int .i64 T, .int .i64 L, .int .i64 W, .int .i64 S, .int .i64 R] 23)).heap.size = w.heap.size + 1 := by simp
    have hs := HS.out
    generalize w.alloc (.cells #[.int .i64 N, .int .i64 T, .int .i64 L, .int .i64 W, .int .i64 S, .int .i64 R] 23) = w1 at *
    have hb2 := balloc w1 (.cells #[.int .i64 i] 3)
    have hc : (w1.alloc (.cells #[.int .i64 i] 3)).cell? ⟨w1.heap.size, 0, none⟩ = some (.int .i64 i) := by simp [World.cell?_alloc_new]
    rw [hz] at hc
    have hs2 := hs.below hb2
    generalize w1.alloc (.cells #[.int .i64 i] 3) = w2 at *
    refine (HO.out _ _ _ (fun V hb => HB.out _ _ V (hs2.below hb) ((hb.cell (p := ⟨w.heap.size + 1, 0, none⟩) (cell_lt hc)).trans hc))).mono ?_
    rintro e w3 ⟨rfl, hb3⟩
    go_wp2
    go_ret
    exact ⟨rfl, bstep hb1 (bstep hb2 hb3)⟩
  · rw [show (p.isA i) = false from by simp only [P.isA, P.right_no hM]; rfl]
    obtain ⟨N, T, L, W, S, R⟩ := p
    have HO := Lib.hid (fun g gi w => no_Is ⟨N, T, L, W, S, R⟩ g gi w hp hM)
    clear hM hp
    unfold P.val at HO ⊢
    go_enter Try.func23, Try.ntmps23
    go_wp2_with fail
    have hb1 := balloc w (.cells #[.int .i64 N, .int .i64 T, .int .i64 L, .int .i64 W, .int .i64 S, .int .i64 R] 23)
    generalize w.alloc (.cells #[.int .i64 N, .int .i64 T, .int .i64 L, .int .i64 W, .int .i64 S, .int .i64 R] 23) = w1 at *
    have hb2 := balloc w1 (.cells #[.int .i64 i] 3)
    generalize w1.alloc (.cells #[.int .i64 i] 3) = w2 at *
    refine (HO.out _ _ _).mono ?_
    rintro e w3 ⟨rfl, hb3⟩
    go_wp2
    go_ret
    exact ⟨rfl, bstep hb1 (bstep hb2 hb3)⟩

set_option maxHeartbeats 1000000 in
theorem stripes_any (p : P) (size : Int) (w : World) (hp : p.In) (_hi : In64 size) : Calls Try.prog 24 #[p.val, .int .i64 size] w (Says w (.int .i64 (p.stripesA size))) := by
  by_cases hM : p.May
  · rw [show (p.stripesA size) = ((p.stripes size : Nat) : Int) from by simp only [P.stripesA, P.right_yes hM]; rfl]
    obtain ⟨N, T, L, W, S, R⟩ := p
    have HB := Lib.hid (fun g gi V h1 h2 => Stripes_body g gi ⟨N, T, L, W, S, R⟩ size V h1 h2 hM)
    have HO := Lib.hid (fun g gi w hq => of_Stripes ⟨N, T, L, W, S, R⟩ g gi ((P.stripes ⟨N, T, L, W, S, R⟩ size : Nat) : Int) w hp hM hq)
    have HS := Lib.hid (Six.new w ⟨N, T, L, W, S, R⟩)
    clear hM hp
    generalize ((P.stripes ⟨N, T, L, W, S, R⟩ size : Nat) : Int) = ans at *
    unfold P.val at HO ⊢
    go_enter Try.func24, Try.ntmps24
    go_wp2_with fail
    have hb1 := balloc w (.cells #[.int .i64 N, .int .i64 T, .int .i64 L, .int .i64 W, .int .i64 S, .int .i64 R] 23)
    have hz : (w.alloc (.cells #[.int .i64 N, .int .i64 T, .int .i64 L, .int .i64 W, .int .i64 S, .int .i64 R] 23)).heap.size = w.heap.size + 1 := by simp
    have hs := HS.out
    generalize w.alloc (.cells #[.int .i64 N, .int .i64 T, .int .i64 L, .int .i64 W, .int .i64 S, .int .i64 R] 23) = w1 at *
    have hb2 := balloc w1 (.cells #[.int .i64 size] 3)
    have hc : (w1.alloc (.cells #[.int .i64 size] 3)).cell? ⟨w1.heap.size, 0, none⟩ = some (.int .i64 size) := by simp [World.cell?_alloc_new]
    rw [hz] at hc
    have hs2 := hs.below hb2
    generalize w1.alloc (.cells #[.int .i64 size] 3) = w2 at *
    refine (HO.out _ _ _ (fun V hb => HB.out _ _ V (hs2.below hb) ((hb.cell (p := ⟨w.heap.size + 1, 0, none⟩) (cell_lt hc)).trans hc))).mono ?_
    rintro e w3 ⟨rfl, hb3⟩
    go_wp2
    go_ret
    exact ⟨rfl, bstep hb1 (bstep hb2 hb3)⟩
  · rw [show (p.stripesA size) = 0 from by simp only [P.stripesA, P.right_no hM]; rfl]
    obtain ⟨N, T, L, W, S, R⟩ := p
    have HO := Lib.hid (fun g gi w => no_Stripes ⟨N, T, L, W, S, R⟩ g gi w hp hM)
    clear hM hp
    unfold P.val at HO ⊢
    go_enter Try.func24, Try.ntmps24
    go_wp2_with fail
    have hb1 := balloc w (.cells #[.int .i64 N, .int .i64 T, .int .i64 L, .int .i64 W, .int .i64 S, .int .i64 R] 23)
    generalize w.alloc (.cells #[.int .i64 N, .int .i64 T, .int .i64 L, .int .i64 W, .int .i64 S, .int .i64 R] 23) = w1 at *
    have hb2 := balloc w1 (.cells #[.int .i64 size] 3)
    generalize w1.alloc (.cells #[.int .i64 size] 3) = w2 at *
    refine (HO.out _ _ _).mono ?_
    rintro e w3 ⟨rfl, hb3⟩
    go_wp2
    go_ret
    exact ⟨rfl, bstep hb1 (bstep hb2 hb3)⟩

theorem secrets_any (p : P) (w : World) (hp : p.In) : Calls Try.prog 50 #[p.val] w (RetNew w p.secretsA) := (secrets_own p w hp).mono fun _ _ h => h.new
end Go.Proofs.Ytmeenipcfmeopaa.Plan
