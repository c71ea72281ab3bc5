/- the walks of layer 8's laws -/
import Derived.Test.YtgdgbhjbeldcmaaPlan
import Derived.Test.YtgdgbhjbeldcmaaR08
import Derived.Test.YtgdgbhjbeldcmaaR01
set_option maxRecDepth 100000
namespace Go.Proofs.Ytgdgbhjbeldcmaa.Law08
open Go.RowKit PlanM

def some4 : P := ⟨4, 1, 2, 3, 16, 3⟩
theorem some4_in : some4.In := by unfold some4; constructor <;> (unfold In64; simp)
theorem some4_val : some4.val = .agg #[.int .i64 4, .int .i64 1, .int .i64 2, .int .i64 3, .int .i64 16, .int .i64 3] := rfl
theorem some_any (w : World) : Calls Try.prog 40 #[] w fun e w' => e = .returned some4.val ∧ Below w.heap.size w w' := by
  go_enter Try.func40, Try.ntmps40
  go_wp2
  refine Go.bodyPost_ret (v := some4.val) ?_ rfl ⟨rfl, balloc _ _⟩
  have hp : ∀ i v, _ := fun i v e => R08.plan_cell w 4 1 2 3 16 3 i v e
  have c0 := hp 0 _ rfl; have c1 := hp 1 _ rfl; have c2 := hp 2 _ rfl; have c3 := hp 3 _ rfl; have c4 := hp 4 _ rfl; have c5 := hp 5 _ rfl
  generalize w.alloc (.cells #[.int .i64 4, .int .i64 1, .int .i64 2, .int .i64 3, .int .i64 16, .int .i64 3] 23) = w2 at *
  clear hp
  have hz : some4.val = .agg #[.int .i64 4, .int .i64 1, .int .i64 2, .int .i64 3, .int .i64 16, .int .i64 3] := rfl
  rw [hz]
  have hf : Try.f40.results = Try.f40.results := rfl
  unfold results
  first
  | (go_simp; done)
  | (simp [Try.f40]; go_simp; done)
/-- where a plan lies -/
def PlanAt (w : World) (g : Nat) (p : P) : Prop := ∀ i v, [Value.int .i64 p.N, .int .i64 p.T, .int .i64 p.L, .int .i64 p.W, .int .i64 p.S, .int .i64 p.R][i]? = some v → w.cell? ⟨g, i, none⟩ = some v
theorem PlanAt.below {w w' : World} {g : Nat} {p : P} (h : PlanAt w g p) (hb : Below w.heap.size w w') : PlanAt w' g p := fun i v e => (hb.cell (p := ⟨g, i, none⟩) (cell_lt (h i v e))).trans (h i v e)
theorem PlanAt.new (w : World) (p : P) : PlanAt (w.alloc (.cells #[.int .i64 p.N, .int .i64 p.T, .int .i64 p.L, .int .i64 p.W, .int .i64 p.S, .int .i64 p.R] 23)) w.heap.size p := fun i v e => R08.plan_cell w p.N p.T p.L p.W p.S p.R i v e

theorem alive_any (w : World) : Calls Try.prog 20 #[] w fun e w' => e = .returned (.bool true) ∧ Below w.heap.size w w' := by
  have CR := fun W => Plan.right_any some4 W some4_in
  have CN := fun W => Plan.need_any some4 W some4_in
  have CQ := fun W => Plan.quorum_any some4 W some4_in
  have CD := fun W => Plan.dealers_any some4 W some4_in
  have CS := fun W => Plan.secrets_any some4 W some4_in
  have CT := fun W => Plan.stripes_any some4 5 W some4_in (by unfold In64; simp)
  have r1 : some4.right = true := by decide +kernel
  have r2 : some4.needA = 3 := by decide +kernel
  have r3 : some4.quorumA = 2 := by decide +kernel
  have r4 : some4.dealersA = 2 := by decide +kernel
  have r5 : some4.secretsA = [4, 5] := by decide +kernel
  have r6 : some4.stripesA 5 = 3 := by decide +kernel
  rw [r1] at CR; rw [r2] at CN; rw [r3] at CQ; rw [r4] at CD; rw [r5] at CS; rw [r6] at CT
  have HR := Lib.hid CR; have HN := Lib.hid CN; have HQ := Lib.hid CQ; have HD := Lib.hid CD; have HS := Lib.hid CS; have HT := Lib.hid CT
  have CZ := fun W => some_any W
  have HZ := Lib.hid CZ
  clear CR CN CQ CD CS CT r1 r2 r3 r4 r5 r6 CZ
  rw [some4_val] at HR HN HQ HD HS HT HZ
  go_enter Try.func20, Try.ntmps20
  go_wp2_with fail
  refine (HZ.out _).mono ?_
  rintro e w1 ⟨rfl, hb1⟩
  go_wp2_with fail
  refine (HR.out _).mono ?_
  rintro e w2 ⟨rfl, hb2⟩
  have hp := (PlanAt.new w1 some4).below hb2
  have c0 := hp 0 _ rfl; have c1 := hp 1 _ rfl; have c2 := hp 2 _ rfl; have c3 := hp 3 _ rfl; have c4 := hp 4 _ rfl; have c5 := hp 5 _ rfl
  go_wp2_with fail
  refine (HN.out _).mono ?_
  rintro e w3 ⟨rfl, hb3⟩
  have hp := hp.below hb3
  have c0 := hp 0 _ rfl; have c1 := hp 1 _ rfl; have c2 := hp 2 _ rfl; have c3 := hp 3 _ rfl; have c4 := hp 4 _ rfl; have c5 := hp 5 _ rfl
  go_wp2_with fail
  refine (HQ.out _).mono ?_
  rintro e w4 ⟨rfl, hb4⟩
  have hp := hp.below hb4
  have c0 := hp 0 _ rfl; have c1 := hp 1 _ rfl; have c2 := hp 2 _ rfl; have c3 := hp 3 _ rfl; have c4 := hp 4 _ rfl; have c5 := hp 5 _ rfl
  go_wp2_with fail
  refine (HD.out _).mono ?_
  rintro e w5 ⟨rfl, hb5⟩
  have hp := hp.below hb5
  have c0 := hp 0 _ rfl; have c1 := hp 1 _ rfl; have c2 := hp 2 _ rfl; have c3 := hp 3 _ rfl; have c4 := hp 4 _ rfl; have c5 := hp 5 _ rfl
  go_wp2_with fail
  refine (HS.out _).mono ?_
  rintro e w6 ⟨X, d, rfl, hd1, hd2, hX, hb6, _⟩
  have hp := hp.below hb6
  have HP := Lib.hid hp
  have HX := Lib.hid hX
  clear hX
  clear c0 c1 c2 c3 c4 c5 hp
  go_wp2_with fail
  have hb7 := balloc w6 (.cells #[.int .u8 4, .int .u8 5] 5)
  have L45 : BytesAt (w6.alloc (.cells #[.int .u8 4, .int .u8 5] 5)) (some ⟨w6.heap.size, 0, none⟩) [4, 5] := (Row.new w6 [4, 5]).bytes
  have HX7 := Lib.hid (HX.out.below hb7); have HP7 := Lib.hid (HP.out.below hb7)
  have C := R01.same_any X (some ⟨w6.heap.size, 0, none⟩) [4, 5] [4, 5] d 2 _ HX7.out L45 (by unfold maxLen; simp) (by unfold maxLen; simp)
  rw [same_self] at C
  generalize w6.alloc (.cells #[.int .u8 4, .int .u8 5] 5) = w7 at *
  refine C.mono ?_
  clear C
  rintro e w8 ⟨rfl, hq⟩
  have hb8 := bquiet hq
  clear hq
  have hp := HP7.out.below hb8
  have c0 := hp 0 _ rfl; have c1 := hp 1 _ rfl; have c2 := hp 2 _ rfl; have c3 := hp 3 _ rfl; have c4 := hp 4 _ rfl; have c5 := hp 5 _ rfl
  go_wp2_with fail
  refine (HT.out _).mono ?_
  rintro e w9 ⟨rfl, hb9⟩
  clear c0 c1 c2 c3 c4 c5 hp
  go_wp2
  go_ret
  exact ⟨rfl, bstep hb1 (bstep (balloc _ _) (bstep hb2 (bstep hb3 (bstep hb4 (bstep hb5 (bstep hb6 (bstep hb7 (bstep hb8 hb9))))))))⟩
/-- where a plan's six numbers lie -/
structure PlanLies (w : World) (g : Nat) (N T L W S R : Int) : Prop where
  c0 : w.cell? ⟨g, 0, none⟩ = some (.int .i64 N)
  c1 : w.cell? ⟨g, 1, none⟩ = some (.int .i64 T)
  c2 : w.cell? ⟨g, 2, none⟩ = some (.int .i64 L)
  c3 : w.cell? ⟨g, 3, none⟩ = some (.int .i64 W)
  c4 : w.cell? ⟨g, 4, none⟩ = some (.int .i64 S)
  c5 : w.cell? ⟨g, 5, none⟩ = some (.int .i64 R)
theorem PlanLies.below {w w' : World} {g : Nat} {N T L W S R : Int} (h : PlanLies w g N T L W S R) (hb : Below w.heap.size w w') : PlanLies w' g N T L W S R :=
  have k : ∀ {i : Nat} {v : Value}, w.cell? ⟨g, i, none⟩ = some v → w'.cell? ⟨g, i, none⟩ = some v := fun {i} {v} e => (hb.cell (p := ⟨g, i, none⟩) (cell_lt e)).trans e
  ⟨k h.c0, k h.c1, k h.c2, k h.c3, k h.c4, k h.c5⟩
theorem PlanLies.keep {w w' : World} {g B : Nat} {N T L W S R : Int} (h : PlanLies w g N T L W S R) (hb : Below B w w') (hg : g < B) : PlanLies w' g N T L W S R :=
  have k : ∀ {i : Nat} {v : Value}, w.cell? ⟨g, i, none⟩ = some v → w'.cell? ⟨g, i, none⟩ = some v := fun {i} {v} e => (hb.cell (p := ⟨g, i, none⟩) hg).trans e
  ⟨k h.c0, k h.c1, k h.c2, k h.c3, k h.c4, k h.c5⟩
theorem PlanLies.new (w : World) (N T L W S R : Int) : PlanLies (w.alloc (.cells #[.int .i64 N, .int .i64 T, .int .i64 L, .int .i64 W, .int .i64 S, .int .i64 R] 23)) w.heap.size N T L W S R :=
  have k : ∀ i v, _ := fun i v e => R08.plan_cell w N T L W S R i v e
  ⟨k 0 _ rfl, k 1 _ rfl, k 2 _ rfl, k 3 _ rfl, k 4 _ rfl, k 5 _ rfl⟩
theorem sameI_eq (A1 A2 : Option Addr) (l1 l2 : List Int) (c1 c2 : Nat) (w : World) (h1 : IntsAt w A1 l1) (h2 : IntsAt w A2 l2) (m1 : l1.length ≤ maxLen) (he : l1 = l2) :
    Calls Try.prog 22 #[.slice A1 l1.length c1, .slice A2 l2.length c2] w fun e w' => e = .returned (.bool true) ∧ ∃ n, w' = w.drewN n := by
  subst he
  have := R08.sameI_any A1 A2 l1 l1 c1 c2 w h1 h2 m1 m1
  rw [show decide (l1 = l1) = true from decide_eq_true rfl] at this
  exact this
/-- three numbers that a call is given -/
theorem ints3 (w : World) (a b c : Int) : IntsAt (w.alloc (.cells #[.int .i64 a, .int .i64 b, .int .i64 c] 3)) (some ⟨w.heap.size, 0, none⟩) [a, b, c] :=
  CellsAt.lit w #[.int .i64 a, .int .i64 b, .int .i64 c] 3
end Go.Proofs.Ytgdgbhjbeldcmaa.Law08
