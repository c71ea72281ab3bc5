/- the contracts of package plan, landed -/
import Derived.Test.YtifclcdhokhaoaaPlanC
set_option maxRecDepth 100000
namespace Go.Proofs.Ytifclcdhokhaoaa.Plan
open Go.RowKit PlanM

set_option maxHeartbeats 1000000 in
theorem stripes_any (p : P) (size : Int) (w : World) (hp : p.In) (_hi : In64 size) : Calls Try.prog 16 #[p.val, .int .i64 size] w (Says w (.int .i64 (p.stripesA size))) := by
  by_cases hM : p.May
  · rw [show (p.stripesA size) = ((p.stripes size : Nat) : Int) from by simp only [P.stripesA, P.right_yes hM]; rfl]
    obtain ⟨N, T, L, W, S, R⟩ := p
    have HB := Lib.hid (fun g gi V h1 h2 => Stripes_body g gi ⟨N, T, L, W, S, R⟩ size V h1 h2 hM)
    have HO := Lib.hid (fun g gi w hq => of_Stripes ⟨N, T, L, W, S, R⟩ g gi ((P.stripes ⟨N, T, L, W, S, R⟩ size : Nat) : Int) w hp hM hq)
    have HS := Lib.hid (Six.new w ⟨N, T, L, W, S, R⟩)
    clear hM hp
    generalize ((P.stripes ⟨N, T, L, W, S, R⟩ size : Nat) : Int) = ans at *
    unfold P.val at HO ⊢
    go_enter Try.func16, Try.ntmps16
    go_wp2_with fail
    have hb1 := balloc w (.cells #[.int .i64 N, .int .i64 T, .int .i64 L, .int .i64 W, .int .i64 S, .int .i64 R] 23)
    have hz : (w.alloc (.cells #[.int .i64 N, .int .i64 T, .int .i64 L, .int .i64 W, .int .i64 S, .int .i64 R] 23)).heap.size = w.heap.size + 1 := by simp
    have hs := HS.out
    generalize w.alloc (.cells #[.int .i64 N, .int .i64 T, .int .i64 L, .int .i64 W, .int .i64 S, .int .i64 R] 23) = w1 at *
    have hb2 := balloc w1 (.cells #[.int .i64 size] 3)
    have hc : (w1.alloc (.cells #[.int .i64 size] 3)).cell? ⟨w1.heap.size, 0, none⟩ = some (.int .i64 size) := by simp [World.cell?_alloc_new]
    rw [hz] at hc
    have hs2 := hs.below hb2
    generalize w1.alloc (.cells #[.int .i64 size] 3) = w2 at *
    refine (HO.out _ _ _ (fun V hb => HB.out _ _ V (hs2.below hb) ((hb.cell (p := ⟨w.heap.size + 1, 0, none⟩) (cell_lt hc)).trans hc))).mono ?_
    rintro e w3 ⟨rfl, hb3⟩
    go_wp2
    go_ret
    exact ⟨rfl, bstep hb1 (bstep hb2 hb3)⟩
  · rw [show (p.stripesA size) = 0 from by simp only [P.stripesA, P.right_no hM]; rfl]
    obtain ⟨N, T, L, W, S, R⟩ := p
    have HO := Lib.hid (fun g gi w => no_Stripes ⟨N, T, L, W, S, R⟩ g gi w hp hM)
    clear hM hp
    unfold P.val at HO ⊢
    go_enter Try.func16, Try.ntmps16
    go_wp2_with fail
    have hb1 := balloc w (.cells #[.int .i64 N, .int .i64 T, .int .i64 L, .int .i64 W, .int .i64 S, .int .i64 R] 23)
    generalize w.alloc (.cells #[.int .i64 N, .int .i64 T, .int .i64 L, .int .i64 W, .int .i64 S, .int .i64 R] 23) = w1 at *
    have hb2 := balloc w1 (.cells #[.int .i64 size] 3)
    generalize w1.alloc (.cells #[.int .i64 size] 3) = w2 at *
    refine (HO.out _ _ _).mono ?_
    rintro e w3 ⟨rfl, hb3⟩
    go_wp2
    go_ret
    exact ⟨rfl, bstep hb1 (bstep hb2 hb3)⟩

end Go.Proofs.Ytifclcdhokhaoaa.Plan
