/- merged: PlanA, PlanB, PlanC, Plan -/
import Derived.Test.YtompeiemioeohaaInts
import Derived.Test.YtompeiemioeohaaMB
import Derived.Deep.QuietTactic
import Derived.IntWalk
import Derived.Deep.RegionHeld3

/- the contracts of package plan: bounds, points, numbers -/
set_option maxRecDepth 100000
namespace Go.Proofs.Ytompeiemioeohaa.Plan
open Go.RowKit PlanM

/-- is a number from one to another one? -/
def wi (n a b : Int) : Bool := decide (a ≤ n ∧ n ≤ b)
theorem wi_yes {n a b : Int} (h : a ≤ n ∧ n ≤ b) : wi n a b = true := decide_eq_true h
theorem wi_no {n a b : Int} (h : ¬ (a ≤ n ∧ n ≤ b)) : wi n a b = false := decide_eq_false h
theorem within_any (n a b : Int) (w : World) : Calls Try.prog 89 #[.int .i64 n, .int .i64 a, .int .i64 b] w fun e w' => e = .returned (.bool (wi n a b)) ∧ w = w' := by
  by_cases h1 : a ≤ n
  · by_cases h2 : n ≤ b
    · rw [wi_yes ⟨h1, h2⟩]
      go_enter Try.func89, Try.ntmps89
      go_wp2
      go_ret
      exact ⟨rfl, rfl⟩
    · rw [wi_no (fun h => h2 h.2)]
      go_enter Try.func89, Try.ntmps89
      go_wp2
      go_ret
      exact ⟨rfl, rfl⟩
  · rw [wi_no (fun h => h1 h.1)]
    go_enter Try.func89, Try.ntmps89
    go_wp2
    go_ret
    exact ⟨rfl, rfl⟩

theorem point_same (i : Int) (w : World) (hi : In64 i) : Calls Try.prog 54 #[.int .i64 i] w fun e w' => e = .returned (.int .u8 ((point i).toNat : Nat)) ∧ w = w' := by
  unfold In64 at hi
  have C := fun W => within_any i 1 256 W
  by_cases h1 : 1 ≤ i ∧ i ≤ 256
  · have hp : ((point i).toNat : Int) = i - 1 := by
      unfold point
      rw [if_neg (by omega), UInt8.toNat_ofNat_of_lt' (by simp only [UInt8.size]; omega)]
      omega
    have i1 : IntKind.i64.wrap (i - 1) = i - 1 := IntWalk.i64_in _ (by omega)
    have i2 : IntKind.u8.wrap (i - 1) = i - 1 := by rw [IntKind.wrap_u8]; omega
    rw [hp]
    rw [wi_yes h1] at C
    clear hp
    go_enter Try.func54, Try.ntmps54
    go_wp2_with fail
    refine (C _).mono ?_
    rintro e w' ⟨rfl, rfl⟩
    go_wp2
    go_ret
    exact ⟨rfl, rfl⟩
  · have hp : point i = 0 := by unfold point; rw [if_pos (by omega)]
    rw [hp]
    rw [wi_no h1] at C
    clear hp
    go_enter Try.func54, Try.ntmps54
    go_wp2_with fail
    refine (C _).mono ?_
    rintro e w' ⟨rfl, rfl⟩
    go_wp2
    go_ret
    exact ⟨rfl, rfl⟩

/-- points, as far as they are told -/
def ptsTo (l : List Int) (k : Nat) : List UInt8 := points (l.take k) ++ List.replicate (l.length - k) 0
theorem ptsTo_len (l : List Int) (k : Nat) (h : k ≤ l.length) : (ptsTo l k).length = l.length := by
  unfold ptsTo; simp [points_len, List.length_take]; omega
theorem ptsTo_zero (l : List Int) : ptsTo l 0 = List.replicate l.length 0 := by unfold ptsTo points; simp
theorem ptsTo_done (l : List Int) : ptsTo l l.length = points l := by unfold ptsTo; simp
theorem ptsTo_succ (l : List Int) (k : Nat) (h : k < l.length) : (ptsTo l k).set k (point l[k]) = ptsTo l (k + 1) := by
  unfold ptsTo
  have hl : (points (l.take k)).length = k := by rw [points_len, List.length_take]; omega
  have hr : List.replicate (l.length - k) (0 : UInt8) = 0 :: List.replicate (l.length - (k + 1)) 0 := by
    rw [show l.length - k = (l.length - (k + 1)) + 1 from by omega, List.replicate_succ]
  rw [List.set_append_right _ _ (by omega), hl, Nat.sub_self, hr, List.set_cons_zero, List.take_succ_eq_append_getElem h]
  unfold points
  rw [List.map_append, List.append_assoc]; rfl

theorem own_row {w : World} {g base : Nat} {l : List UInt8} (h : Row w g l) (hb : base ≤ g) (hl : l.length ≤ maxLen) : Own w base (.slice (some ⟨g, 0, none⟩) l.length l.length) l :=
  ⟨by rw [vals_len, Nat.mul_one], .inr ⟨g, l.length, cells l, rfl, hb, h, Nat.le_refl _, hl, by rw [cells_size, Nat.mul_one], by
    rw [Nat.mul_one]; unfold cells; rw [← vals_len l, List.take_length]⟩⟩
theorem ret_own {w w' : World} {v : Value} {l : List UInt8} (h : Own w' w.heap.size v l) (hb : Below w.heap.size w w') : RetOwn w l (.returned v) w' := ⟨v, rfl, h, hb⟩
theorem points_own (A : Option Addr) (l : List Int) (c : Nat) (w : World) (h : IntsAt w A l) (hl : l.length ≤ 1048576) (hi : ∀ x ∈ l, In64 x) : Calls Try.prog 39 #[.slice A l.length c] w (RetOwn w (points l)) := by
  have hmk := fun W => make_u8 l.length (by omega) W
  go_enter Try.func39, Try.ntmps39
  go_wp2
  clear hmk
  go_loopw [11] (fun i wr => ∃ k : Nat, k ≤ l.length ∧ i = .int .i64 k ∧ Row wr w.heap.size (ptsTo l k) ∧ Below w.heap.size w wr)
    (fun i _ => l.length - (intOf i).toNat)
  case atStart => exact ⟨0, Nat.zero_le _, rfl, by rw [ptsTo_zero]; exact Row.new _ _, (Below.refl _ _).alloc (Nat.le_refl _) _⟩
  case round =>
    obtain ⟨k, hk, rfl, hr, hb⟩ := hrel
    have h : IntsAt wr A l := h.below hb
    by_cases hlt : k < l.length
    · obtain ⟨b, o, rfl, e⟩ := h.at hlt
      have hs := ptsTo_succ l k hlt
      have HS := Lib.hid hs
      have hc := hr.cell k (by rw [ptsTo_len _ _ hk]; exact hlt)
      have hf := hr.frozen k
      have hlen := ptsTo_len l k hk
      have HR := Lib.hid hr
      have hz := hr.lt
      have hx := hi l[k] (List.getElem_mem hlt)
      have HX := Lib.hid hx
      clear hs hr h hx
      go_wp2_with (go_at_call 54; refine (point_same _ _ HX.out).mono ?_; rintro e w' ⟨rfl, rfl⟩)
      go_roundw
      case rel =>
        refine ⟨k + 1, by omega, by go_num, ?_, ?_⟩
        · rw [← HS.out]; exact HR.out.set k _
        · exact hb.setCell (Nat.le_refl _) _
      case measure => simp [intOf] <;> omega
    · obtain rfl : k = l.length := by omega
      have HR := Lib.hid hr
      go_wp2
      go_ret
      have hr := HR.out
      rw [ptsTo_done] at hr
      have := own_row hr (Nat.le_refl w.heap.size) (by rw [points_len]; unfold maxLen; omega)
      rw [points_len] at this
      exact ret_own this hb

/-- numbers that rise one by one -/
def nums (a : Int) (n : Nat) : List Int := (List.range n).map fun (j : Nat) => a + j
theorem nums_len (a : Int) (n : Nat) : (nums a n).length = n := by unfold nums; simp
theorem nums_all (n : Nat) : nums 1 n = all n := by unfold nums all; exact List.map_congr_left fun j _ => by omega
theorem nums_in (a : Int) (n : Nat) (h1 : -9223372036854775808 ≤ a) (h2 : a + n ≤ 9223372036854775807) : ∀ x ∈ nums a n, In64 x := by
  intro x hx
  unfold nums at hx
  simp only [List.mem_map, List.mem_range] at hx
  obtain ⟨j, hj, rfl⟩ := hx
  unfold In64; omega
theorem nums_points (a : Nat) (n : Nat) (h : a + n ≤ 256) : points (nums ((a : Int) + 1) n) = from_ a n := by
  unfold points nums from_
  rw [List.map_map]
  refine List.map_congr_left fun j hj => ?_
  simp only [List.mem_range] at hj
  show point ((a : Int) + 1 + j) = _
  unfold point
  rw [if_neg (by omega)]
  congr 1; omega
def numsTo (a : Int) (n k : Nat) : List Int := nums a k ++ List.replicate (n - k) 0
theorem numsTo_len (a : Int) (n k : Nat) (h : k ≤ n) : (numsTo a n k).length = n := by unfold numsTo; simp [nums_len]; omega
theorem numsTo_zero (a : Int) (n : Nat) : numsTo a n 0 = List.replicate n 0 := by unfold numsTo nums; simp
theorem numsTo_done (a : Int) (n : Nat) : numsTo a n n = nums a n := by unfold numsTo; simp
theorem numsTo_succ (a : Int) (n k : Nat) (h : k < n) : (numsTo a n k).set k (a + k) = numsTo a n (k + 1) := by
  unfold numsTo
  have hr : List.replicate (n - k) (0 : Int) = 0 :: List.replicate (n - (k + 1)) 0 := by
    rw [show n - k = (n - (k + 1)) + 1 from by omega, List.replicate_succ]
  rw [List.set_append_right _ _ (by rw [nums_len]; omega), nums_len, Nat.sub_self, hr, List.set_cons_zero]
  have : nums a (k + 1) = nums a k ++ [a + (k : Int)] := by unfold nums; rw [List.range_succ, List.map_append]; rfl
  rw [this, List.append_assoc]; rfl

def icells (l : List Int) : Array Value := (intV l).toArray
/-- a block that is just these numbers -/
def RowI (w : World) (g : Nat) (l : List Int) : Prop := w.heap[g]? = some (.cells (icells l) 3 (0, 0))
section
variable {w w' : World} {g : Nat} {l : List Int}
theorem RowI.lt (h : RowI w g l) : g < w.heap.size := by
  rcases Nat.lt_or_ge g w.heap.size with hlt | hge
  · exact hlt
  · unfold RowI at h; rw [Array.getElem?_eq_none hge] at h; cases h
theorem RowI.cell (h : RowI w g l) (i : Nat) (hi : i < l.length) : w.cell? ⟨g, i, none⟩ = some (.int .i64 l[i]) := by
  rw [cell_of_row w g i (icells l) 3 (0, 0) h]
  unfold icells; rw [List.getElem?_toArray]; simp [intV, hi]
theorem RowI.frozen (h : RowI w g l) (i : Nat) : w.frozen? ⟨g, i, none⟩ = false := by
  unfold RowI at h
  simp [World.frozen?, h]
theorem RowI.new (w : World) (l : List Int) : RowI (w.alloc (.cells (icells l) 3)) w.heap.size l := heap_alloc_new w _
theorem RowI.set (h : RowI w g l) (i : Nat) (b : Int) : RowI (w.setCell ⟨g, i, none⟩ (.int .i64 b)) g (l.set i b) := by
  unfold RowI at h ⊢
  have e : (icells l).setIfInBounds i (.int .i64 b) = icells (l.set i b) := by
    unfold icells intV; rw [List.map_set, List.setIfInBounds_toArray]
  simp [World.setCell, Array.getElem?_modify, h, e]
theorem RowI.ints (h : RowI w g l) : IntsAt w (some ⟨g, 0, none⟩) l := fun i hi => ⟨g, 0, rfl, by rw [Nat.zero_add, h.cell i (by rw [← intV_len]; exact hi), intV_get]⟩
end
theorem ret_ints {w w' : World} {A : Option Addr} {l : List Int} (h : IntsAt w' A l) (hb : Below w.heap.size w w') (hl : l.length ≤ maxLen) (hn : New w A) : RetInts w l (.returned (.slice A l.length l.length)) w' := ⟨A, l.length, rfl, Nat.le_refl _, hl, h, hb, hn⟩
theorem make_ints (n : Nat) (hn : n ≤ 1048576) (w : World) :
    (Instr.makeSlice 25 (.int .i64 (n : Int)) (.int .i64 (n : Int))).run Try.prog w = .ok (.slice (some ⟨w.heap.size, 0, none⟩) n n) (w.alloc (.cells (icells (List.replicate n 0)) 3)) := by
  obtain ⟨i0, hi, hz, hs, hb⟩ := int_info'
  have hr := run_make (P := Try.prog) w 25 3 i0 _ Try.underlying25 hi hz .i64 .i64 n n (by omega) (by omega) (by rw [hb]; omega) (by omega)
  simp only [Int.toNat_natCast] at hr
  have : madeCells (Value.int .i64 0).cells n = icells (List.replicate n 0) := by
    apply Array.ext'
    rw [show (Value.int .i64 0).cells = #[.int .i64 0] from rfl, toList_madeCells_one]
    simp [icells, intV]
  rw [hr, hs, Nat.mul_one, this]

theorem numbers_any (a : Int) (n : Nat) (w : World) (hn : n ≤ 1048576) (h1 : -9223372036854775808 ≤ a) (h2 : a + n ≤ 9223372036854775807) :
    Calls Try.prog 79 #[.int .i64 a, .int .i64 (n : Nat)] w (RetInts w (nums a n)) := by
  have hmk := fun W => make_ints n hn W
  go_enter Try.func79, Try.ntmps79
  go_wp2
  clear hmk
  go_loopw [11] (fun i wr => ∃ k : Nat, k ≤ n ∧ i = .int .i64 k ∧ RowI wr w.heap.size (numsTo a n k) ∧ Below w.heap.size w wr)
    (fun i _ => n - (intOf i).toNat)
  case atStart => exact ⟨0, Nat.zero_le _, rfl, by rw [numsTo_zero]; exact RowI.new _ _, (Below.refl _ _).alloc (Nat.le_refl _) _⟩
  case round =>
    obtain ⟨k, hk, rfl, hr, hb⟩ := hrel
    by_cases hlt : k < n
    · have hs := numsTo_succ a n k hlt
      have HS := Lib.hid hs
      have hlen := numsTo_len a n k hk
      have hc := hr.cell k (by rw [hlen]; exact hlt)
      have hf := hr.frozen k
      have HR := Lib.hid hr
      have hz := hr.lt
      have i1 : IntKind.i64.wrap (a + (k : Int)) = a + k := IntWalk.i64_in _ (by omega)
      clear hs hr
      go_wp2
      go_roundw
      case rel =>
        refine ⟨k + 1, by omega, by go_num, ?_, ?_⟩
        · rw [← HS.out]; exact HR.out.set k _
        · exact hb.setCell (Nat.le_refl _) _
      case measure => simp [intOf] <;> omega
    · obtain rfl : k = n := by omega
      have HR := Lib.hid hr
      go_wp2
      go_ret
      have hr := HR.out
      rw [numsTo_done] at hr
      have := ret_ints hr.ints hb (by rw [nums_len]; unfold maxLen; omega) (New.at w (Nat.le_refl _))
      rw [nums_len] at this
      exact this
end Go.Proofs.Ytompeiemioeohaa.Plan

/- the contracts of package plan: whether a plan may be, and what it tells -/
set_option maxRecDepth 100000
namespace Go.Proofs.Ytompeiemioeohaa.Plan
open Go.RowKit PlanM

/-- a call that answers v and makes memory at most -/
def Says (w : World) (v : Value) (e : Ending) (w' : World) : Prop := e = .returned v ∧ Below w.heap.size w w'
/-- where a plan's six numbers lie -/
structure Six (w : World) (g : Nat) (p : P) : Prop where
  c0 : w.cell? ⟨g, 0, none⟩ = some (.int .i64 p.N)
  c1 : w.cell? ⟨g, 1, none⟩ = some (.int .i64 p.T)
  c2 : w.cell? ⟨g, 2, none⟩ = some (.int .i64 p.L)
  c3 : w.cell? ⟨g, 3, none⟩ = some (.int .i64 p.W)
  c4 : w.cell? ⟨g, 4, none⟩ = some (.int .i64 p.S)
  c5 : w.cell? ⟨g, 5, none⟩ = some (.int .i64 p.R)
theorem Six.below {w w' : World} {g : Nat} {p : P} (h : Six w g p) (hb : Below w.heap.size w w') : Six w' g p :=
  have k : ∀ {i : Nat} {v : Value}, w.cell? ⟨g, i, none⟩ = some v → w'.cell? ⟨g, i, none⟩ = some v := fun {i} {_} e => (hb.cell (p := ⟨g, i, none⟩) (cell_lt e)).trans e
  ⟨k h.c0, k h.c1, k h.c2, k h.c3, k h.c4, k h.c5⟩
theorem Six.new (w : World) (p : P) : Six (w.alloc (.cells #[.int .i64 p.N, .int .i64 p.T, .int .i64 p.L, .int .i64 p.W, .int .i64 p.S, .int .i64 p.R] 23)) w.heap.size p := by
  have k : ∀ i v, (#[.int .i64 p.N, .int .i64 p.T, .int .i64 p.L, .int .i64 p.W, .int .i64 p.S, .int .i64 p.R] : Array Value)[i]? = some v → (w.alloc (.cells #[.int .i64 p.N, .int .i64 p.T, .int .i64 p.L, .int .i64 p.W, .int .i64 p.S, .int .i64 p.R] 23)).cell? ⟨w.heap.size, i, none⟩ = some v := fun i v e => by
    rw [World.cell?_alloc_new]; exact e
  exact ⟨k 0 _ rfl, k 1 _ rfl, k 2 _ rfl, k 3 _ rfl, k 4 _ rfl, k 5 _ rfl⟩

set_option maxHeartbeats 2000000 in
theorem right_any (p : P) (w : World) (hp : p.In) : Calls Try.prog 49 #[p.val] w (Says w (.bool p.right)) := by
  obtain ⟨hn, ht, hl, hw, hs, hr⟩ := hp
  unfold In64 at hn ht hl hw hs hr
  obtain ⟨N, T, L, W, S, R⟩ := p
  unfold P.val
  simp only at *

  by_cases m0 : 1 ≤ T
  · skip
    by_cases m1 : T ≤ W
    · skip
      have i1 : IntKind.i64.wrap (W - T) = W - T := IntWalk.i64_in _ (by omega)
      by_cases m2 : 1 ≤ L
      · skip
        by_cases m3 : L ≤ W - T
        · skip
          have i2 : IntKind.i64.wrap (256 - L) = 256 - L := IntWalk.i64_in _ (by omega)
          by_cases m4 : W ≤ N
          · skip
            by_cases m5 : N ≤ 256 - L
            · skip
              by_cases m6 : 1 ≤ S
              · skip
                by_cases m7 : S ≤ 256
                · skip
                  by_cases m8 : 1 ≤ R
                  · skip
                    by_cases m9 : R ≤ 64
                    · skip
                      rw [P.right_yes (p := ⟨N, T, L, W, S, R⟩) (by unfold P.May; simp only; omega)]
                      go_enter Try.func49, Try.ntmps49
                      go_wp2
                      go_ret
                      exact ⟨rfl, balloc _ _⟩
                    · rw [P.right_no (p := ⟨N, T, L, W, S, R⟩) (fun h => by unfold P.May at h; simp only at h; omega)]
                      go_enter Try.func49, Try.ntmps49
                      go_wp2
                      go_ret
                      exact ⟨rfl, balloc _ _⟩
                  · rw [P.right_no (p := ⟨N, T, L, W, S, R⟩) (fun h => by unfold P.May at h; simp only at h; omega)]
                    go_enter Try.func49, Try.ntmps49
                    go_wp2
                    go_ret
                    exact ⟨rfl, balloc _ _⟩
                · rw [P.right_no (p := ⟨N, T, L, W, S, R⟩) (fun h => by unfold P.May at h; simp only at h; omega)]
                  go_enter Try.func49, Try.ntmps49
                  go_wp2
                  go_ret
                  exact ⟨rfl, balloc _ _⟩
              · rw [P.right_no (p := ⟨N, T, L, W, S, R⟩) (fun h => by unfold P.May at h; simp only at h; omega)]
                go_enter Try.func49, Try.ntmps49
                go_wp2
                go_ret
                exact ⟨rfl, balloc _ _⟩
            · rw [P.right_no (p := ⟨N, T, L, W, S, R⟩) (fun h => by unfold P.May at h; simp only at h; omega)]
              go_enter Try.func49, Try.ntmps49
              go_wp2
              go_ret
              exact ⟨rfl, balloc _ _⟩
          · rw [P.right_no (p := ⟨N, T, L, W, S, R⟩) (fun h => by unfold P.May at h; simp only at h; omega)]
            go_enter Try.func49, Try.ntmps49
            go_wp2
            go_ret
            exact ⟨rfl, balloc _ _⟩
        · rw [P.right_no (p := ⟨N, T, L, W, S, R⟩) (fun h => by unfold P.May at h; simp only at h; omega)]
          go_enter Try.func49, Try.ntmps49
          go_wp2
          go_ret
          exact ⟨rfl, balloc _ _⟩
      · rw [P.right_no (p := ⟨N, T, L, W, S, R⟩) (fun h => by unfold P.May at h; simp only at h; omega)]
        go_enter Try.func49, Try.ntmps49
        go_wp2
        go_ret
        exact ⟨rfl, balloc _ _⟩
    · rw [P.right_no (p := ⟨N, T, L, W, S, R⟩) (fun h => by unfold P.May at h; simp only at h; omega)]
      go_enter Try.func49, Try.ntmps49
      go_wp2
      go_ret
      exact ⟨rfl, balloc _ _⟩
  · rw [P.right_no (p := ⟨N, T, L, W, S, R⟩) (fun h => by unfold P.May at h; simp only at h; omega)]
    go_enter Try.func49, Try.ntmps49
    go_wp2
    go_ret
    exact ⟨rfl, balloc _ _⟩
end Go.Proofs.Ytompeiemioeohaa.Plan

/- the contracts of package plan -/
set_option maxRecDepth 100000
namespace Go.Proofs.Ytompeiemioeohaa.Plan
open Go.RowKit PlanM

theorem Own.lower {w : World} {b b' : Nat} {v : Value} {l : List UInt8} (h : Own w b v l) (hb : b' ≤ b) : Own w b' v l := by
  refine ⟨h.1, ?_⟩
  rcases h.2 with h2 | ⟨g, cap, cur, h1, h2, h3⟩
  · exact .inl h2
  · exact .inr ⟨g, cap, cur, h1, Nat.le_trans hb h2, h3⟩
theorem RetOwn.later {w w1 w2 : World} {l : List UInt8} {e : Ending} (h : RetOwn w1 l e w2) (hb : Below w.heap.size w w1) : RetOwn w l e w2 := by
  obtain ⟨v, rfl, h1, h2⟩ := h
  exact ⟨v, rfl, Own.lower h1 hb.size, bstep hb h2⟩
theorem RetInts.later {w w1 w2 : World} {l : List Int} {e : Ending} (h : RetInts w1 l e w2) (hb : Below w.heap.size w w1) : RetInts w l e w2 := by
  obtain ⟨A, c, rfl, h1, h2, h3, h4, h5⟩ := h
  exact ⟨A, c, rfl, h1, h2, h3, bstep hb h4, h5.mono hb.size⟩
theorem Says.later {w w1 w2 : World} {v : Value} {e : Ending} (h : Says w1 v e w2) (hb : Below w.heap.size w w1) : Says w v e w2 := ⟨h.1, bstep hb h.2⟩
theorem RetOwn.of_nil {w w' : World} (hb : Below w.heap.size w w') : RetOwn w [] (.returned (.slice none 0 0)) w' := ⟨_, rfl, Own.nil _ _, hb⟩
theorem RetInts.of_nil {w w' : World} (hb : Below w.heap.size w w') : RetInts w [] (.returned (.slice none 0 0)) w' := ⟨none, 0, rfl, Nat.le_refl _, Nat.zero_le _, CellsAt.nil _ _, hb, New.none w⟩

theorem of_Secrets (p : P) (g : Nat) (l : List UInt8) (w : World) (hp : p.In) (hM : p.May) (hq : ∀ W, Below w.heap.size w W → Calls Try.prog 78 #[.pointer (some ⟨g, 0, none⟩)] W (RetOwn W l)) :
    Calls Try.prog 77 #[p.val, .func (.func 78) #[] #[.pointer (some ⟨g, 0, none⟩)]] w (RetOwn w l) := by
  have HR := Lib.hid (fun W => right_any p W hp)
  have HQ := Lib.hid hq
  rw [P.right_yes hM] at HR
  clear hM hq
  obtain ⟨N, T, L, W, S, R⟩ := p
  unfold P.val at HR ⊢
  clear hp
  go_enter Try.func77, Try.ntmps77
  go_wp2_with fail
  refine (HR.out _).mono ?_
  rintro e w1 ⟨rfl, hb1⟩
  go_wp2_with fail
  refine (HQ.out w1 (bstep (balloc _ _) hb1)).mono ?_
  rintro e w2 ⟨v, rfl, hv, hb2⟩
  go_wp2
  go_ret
  exact ret_own (Own.lower hv (bstep (balloc _ _) hb1).size) (bstep (balloc _ _) (bstep hb1 hb2))
theorem no_Secrets (p : P) (g : Nat) (w : World) (hp : p.In) (hM : ¬ p.May) :
    Calls Try.prog 77 #[p.val, .func (.func 78) #[] #[.pointer (some ⟨g, 0, none⟩)]] w (RetOwn w []) := by
  have HR := Lib.hid (fun W => right_any p W hp)
  rw [P.right_no hM] at HR
  clear hM
  obtain ⟨N, T, L, W, S, R⟩ := p
  unfold P.val at HR ⊢
  clear hp
  go_enter Try.func77, Try.ntmps77
  go_wp2_with fail
  refine (HR.out _).mono ?_
  rintro e w1 ⟨rfl, hb1⟩
  go_wp2
  go_ret
  exact RetOwn.of_nil (bstep (balloc _ _) hb1)

theorem of_All (p : P) (g : Nat) (l : List Int) (w : World) (hp : p.In) (hM : p.May) (hq : ∀ W, Below w.heap.size w W → Calls Try.prog 101 #[.pointer (some ⟨g, 0, none⟩)] W (RetInts W l)) :
    Calls Try.prog 100 #[p.val, .func (.func 101) #[] #[.pointer (some ⟨g, 0, none⟩)]] w (RetInts w l) := by
  have HR := Lib.hid (fun W => right_any p W hp)
  have HQ := Lib.hid hq
  rw [P.right_yes hM] at HR
  clear hM hq
  obtain ⟨N, T, L, W, S, R⟩ := p
  unfold P.val at HR ⊢
  clear hp
  go_enter Try.func100, Try.ntmps100
  go_wp2_with fail
  refine (HR.out _).mono ?_
  rintro e w1 ⟨rfl, hb1⟩
  go_wp2_with fail
  refine (HQ.out w1 (bstep (balloc _ _) hb1)).mono ?_
  rintro e w2 ⟨A, c, rfl, h1, h2, h3, hb2, h5⟩
  go_wp2
  go_ret
  exact ⟨A, c, rfl, h1, h2, h3, bstep (balloc _ _) (bstep hb1 hb2), h5.mono (bstep (balloc _ _) hb1).size⟩
theorem no_All (p : P) (g : Nat) (w : World) (hp : p.In) (hM : ¬ p.May) :
    Calls Try.prog 100 #[p.val, .func (.func 101) #[] #[.pointer (some ⟨g, 0, none⟩)]] w (RetInts w []) := by
  have HR := Lib.hid (fun W => right_any p W hp)
  rw [P.right_no hM] at HR
  clear hM
  obtain ⟨N, T, L, W, S, R⟩ := p
  unfold P.val at HR ⊢
  clear hp
  go_enter Try.func100, Try.ntmps100
  go_wp2_with fail
  refine (HR.out _).mono ?_
  rintro e w1 ⟨rfl, hb1⟩
  go_wp2
  go_ret
  exact RetInts.of_nil (bstep (balloc _ _) hb1)

theorem of_Is (p : P) (g gi : Nat) (v : Bool) (w : World) (hp : p.In) (hM : p.May) (hq : ∀ W, Below w.heap.size w W → Calls Try.prog 92 #[.pointer (some ⟨gi, 0, none⟩), .pointer (some ⟨g, 0, none⟩)] W (Says W (.bool v))) :
    Calls Try.prog 91 #[p.val, .func (.func 92) #[] #[.pointer (some ⟨gi, 0, none⟩), .pointer (some ⟨g, 0, none⟩)]] w (Says w (.bool v)) := by
  have HR := Lib.hid (fun W => right_any p W hp)
  have HQ := Lib.hid hq
  rw [P.right_yes hM] at HR
  clear hM hq
  obtain ⟨N, T, L, W, S, R⟩ := p
  unfold P.val at HR ⊢
  clear hp
  go_enter Try.func91, Try.ntmps91
  go_wp2_with fail
  refine (HR.out _).mono ?_
  rintro e w1 ⟨rfl, hb1⟩
  go_wp2_with fail
  refine (HQ.out w1 (bstep (balloc _ _) hb1)).mono ?_
  rintro e w2 ⟨rfl, hb2⟩
  go_wp2
  go_ret
  exact ⟨rfl, bstep (balloc _ _) (bstep hb1 hb2)⟩
theorem no_Is (p : P) (g gi : Nat) (w : World) (hp : p.In) (hM : ¬ p.May) :
    Calls Try.prog 91 #[p.val, .func (.func 92) #[] #[.pointer (some ⟨gi, 0, none⟩), .pointer (some ⟨g, 0, none⟩)]] w (Says w (.bool false)) := by
  have HR := Lib.hid (fun W => right_any p W hp)
  rw [P.right_no hM] at HR
  clear hM
  obtain ⟨N, T, L, W, S, R⟩ := p
  unfold P.val at HR ⊢
  clear hp
  go_enter Try.func91, Try.ntmps91
  go_wp2_with fail
  refine (HR.out _).mono ?_
  rintro e w1 ⟨rfl, hb1⟩
  go_wp2
  go_ret
  exact ⟨rfl, bstep (balloc _ _) hb1⟩

theorem of_Need (p : P) (g : Nat) (v : Int) (w : World) (hp : p.In) (hM : p.May) (hq : ∀ W, Below w.heap.size w W → Calls Try.prog 94 #[.pointer (some ⟨g, 0, none⟩)] W (Says W (.int .i64 v))) :
    Calls Try.prog 93 #[p.val, .func (.func 94) #[] #[.pointer (some ⟨g, 0, none⟩)]] w (Says w (.int .i64 v)) := by
  have HR := Lib.hid (fun W => right_any p W hp)
  have HQ := Lib.hid hq
  rw [P.right_yes hM] at HR
  clear hM hq
  obtain ⟨N, T, L, W, S, R⟩ := p
  unfold P.val at HR ⊢
  clear hp
  go_enter Try.func93, Try.ntmps93
  go_wp2_with fail
  refine (HR.out _).mono ?_
  rintro e w1 ⟨rfl, hb1⟩
  go_wp2_with fail
  refine (HQ.out w1 (bstep (balloc _ _) hb1)).mono ?_
  rintro e w2 ⟨rfl, hb2⟩
  go_wp2
  go_ret
  exact ⟨rfl, bstep (balloc _ _) (bstep hb1 hb2)⟩
theorem no_Need (p : P) (g : Nat) (w : World) (hp : p.In) (hM : ¬ p.May) :
    Calls Try.prog 93 #[p.val, .func (.func 94) #[] #[.pointer (some ⟨g, 0, none⟩)]] w (Says w (.int .i64 0)) := by
  have HR := Lib.hid (fun W => right_any p W hp)
  rw [P.right_no hM] at HR
  clear hM
  obtain ⟨N, T, L, W, S, R⟩ := p
  unfold P.val at HR ⊢
  clear hp
  go_enter Try.func93, Try.ntmps93
  go_wp2_with fail
  refine (HR.out _).mono ?_
  rintro e w1 ⟨rfl, hb1⟩
  go_wp2
  go_ret
  exact ⟨rfl, bstep (balloc _ _) hb1⟩

theorem of_Stripes (p : P) (g gi : Nat) (v : Int) (w : World) (hp : p.In) (hM : p.May) (hq : ∀ W, Below w.heap.size w W → Calls Try.prog 116 #[.pointer (some ⟨gi, 0, none⟩), .pointer (some ⟨g, 0, none⟩)] W (Says W (.int .i64 v))) :
    Calls Try.prog 93 #[p.val, .func (.func 116) #[] #[.pointer (some ⟨gi, 0, none⟩), .pointer (some ⟨g, 0, none⟩)]] w (Says w (.int .i64 v)) := by
  have HR := Lib.hid (fun W => right_any p W hp)
  have HQ := Lib.hid hq
  rw [P.right_yes hM] at HR
  clear hM hq
  obtain ⟨N, T, L, W, S, R⟩ := p
  unfold P.val at HR ⊢
  clear hp
  go_enter Try.func93, Try.ntmps93
  go_wp2_with fail
  refine (HR.out _).mono ?_
  rintro e w1 ⟨rfl, hb1⟩
  go_wp2_with fail
  refine (HQ.out w1 (bstep (balloc _ _) hb1)).mono ?_
  rintro e w2 ⟨rfl, hb2⟩
  go_wp2
  go_ret
  exact ⟨rfl, bstep (balloc _ _) (bstep hb1 hb2)⟩
theorem no_Stripes (p : P) (g gi : Nat) (w : World) (hp : p.In) (hM : ¬ p.May) :
    Calls Try.prog 93 #[p.val, .func (.func 116) #[] #[.pointer (some ⟨gi, 0, none⟩), .pointer (some ⟨g, 0, none⟩)]] w (Says w (.int .i64 0)) := by
  have HR := Lib.hid (fun W => right_any p W hp)
  rw [P.right_no hM] at HR
  clear hM
  obtain ⟨N, T, L, W, S, R⟩ := p
  unfold P.val at HR ⊢
  clear hp
  go_enter Try.func93, Try.ntmps93
  go_wp2_with fail
  refine (HR.out _).mono ?_
  rintro e w1 ⟨rfl, hb1⟩
  go_wp2
  go_ret
  exact ⟨rfl, bstep (balloc _ _) hb1⟩

theorem Need_body (g : Nat) (p : P) (w : World) (h : Six w g p) (hM : p.May) : Calls Try.prog 94 #[.pointer (some ⟨g, 0, none⟩)] w (Says w (.int .i64 (p.T + p.L))) := by
  obtain ⟨N, T, L, W, S, R⟩ := p
  obtain ⟨c0, c1, c2, c3, c4, c5⟩ := h
  simp only at *
  unfold P.May at hM; simp only at hM
  have i1 : IntKind.i64.wrap (T + L) = T + L := IntWalk.i64_in _ (by omega)
  clear hM
  go_enter Try.func94, Try.ntmps94
  go_wp2
  go_ret
  exact ⟨rfl, Below.refl _ _⟩

theorem Is_body (g gi : Nat) (p : P) (i : Int) (w : World) (h : Six w g p) (hi : w.cell? ⟨gi, 0, none⟩ = some (.int .i64 i)) : Calls Try.prog 92 #[.pointer (some ⟨gi, 0, none⟩), .pointer (some ⟨g, 0, none⟩)] w (Says w (.bool (p.is i))) := by
  obtain ⟨N, T, L, W, S, R⟩ := p
  obtain ⟨c0, c1, c2, c3, c4, c5⟩ := h
  simp only at *
  have HW := Lib.hid (fun W => within_any i 1 N W)
  rw [show wi i 1 N = P.is ⟨N, T, L, W, S, R⟩ i from rfl] at HW
  generalize P.is ⟨N, T, L, W, S, R⟩ i = b at *
  go_enter Try.func92, Try.ntmps92
  go_wp2_with fail
  refine (HW.out _).mono ?_
  rintro e w1 ⟨rfl, rfl⟩
  go_wp2
  go_ret
  exact ⟨rfl, Below.refl _ _⟩
theorem Stripes_body (g gi : Nat) (p : P) (size : Int) (w : World) (h : Six w g p) (hi : w.cell? ⟨gi, 0, none⟩ = some (.int .i64 size)) (hM : p.May) : Calls Try.prog 116 #[.pointer (some ⟨gi, 0, none⟩), .pointer (some ⟨g, 0, none⟩)] w (Says w (.int .i64 (p.stripes size : Nat))) := by
  unfold P.stripes
  obtain ⟨N, T, L, W, S, R⟩ := p
  obtain ⟨c0, c1, c2, c3, c4, c5⟩ := h
  unfold P.May at hM
  simp only at *
  have HW := Lib.hid (fun W => within_any size 1 240 W)
  by_cases hs : 1 ≤ size ∧ size ≤ 240
  · rw [wi_yes hs] at HW
    rw [if_neg (by omega)]
    have hd : 0 ≤ (size + L - 1) / L := Int.ediv_nonneg (by omega) (by omega)
    have i1 : IntKind.i64.wrap (size + L) = size + L := IntWalk.i64_in _ (by omega)
    have i2 : IntKind.i64.wrap (size + L - 1) = size + L - 1 := IntWalk.i64_in _ (by omega)
    have hq : (size + L - 1).tdiv L = (size + L - 1) / L := Int.tdiv_eq_ediv_of_nonneg (by omega)
    have hu : (size + L - 1) / L ≤ size + L - 1 := Int.ediv_le_self _ (by omega)
    have i3 : IntKind.i64.wrap ((size + L - 1) / L) = (size + L - 1) / L := IntWalk.i64_in _ (by omega)
    have hz : (L == 0) = false := by simp; omega
    rw [show (((size + L - 1) / L).toNat : Int) = (size + L - 1) / L from by omega]
    generalize (size + L - 1) / L = q at *
    have hz2 : ¬ L = 0 := by omega
    clear hM hu hd
    go_enter Try.func116, Try.ntmps116
    go_wp2_with fail
    refine (HW.out _).mono ?_
    rintro e w1 ⟨rfl, rfl⟩
    go_wp2
    go_ret
    exact ⟨rfl, Below.refl _ _⟩
  · rw [wi_no hs] at HW
    rw [if_pos (by omega)]
    clear hM
    go_enter Try.func116, Try.ntmps116
    go_wp2_with fail
    refine (HW.out _).mono ?_
    rintro e w1 ⟨rfl, rfl⟩
    go_wp2
    go_ret
    exact ⟨rfl, Below.refl _ _⟩
theorem All_body (g : Nat) (p : P) (w : World) (h : Six w g p) (hM : p.May) : Calls Try.prog 101 #[.pointer (some ⟨g, 0, none⟩)] w (RetInts w (all p.N.toNat)) := by
  obtain ⟨N, T, L, W, S, R⟩ := p
  obtain ⟨c0, c1, c2, c3, c4, c5⟩ := h
  unfold P.May at hM
  simp only at *
  obtain ⟨n, hn⟩ : ∃ n : Nat, N = n := ⟨N.toNat, by omega⟩
  subst hn
  have HN := Lib.hid (fun W => numbers_any 1 n W (by omega) (by omega) (by omega))
  rw [nums_all] at HN
  rw [Int.toNat_natCast]
  generalize all n = l at *
  clear hM
  go_enter Try.func101, Try.ntmps101
  go_wp2_with fail
  refine (HN.out _).mono ?_
  rintro e w1 ⟨A, c, rfl, h1, h2, h3, hb2, h5⟩
  go_wp2
  go_ret
  exact ⟨A, c, rfl, h1, h2, h3, hb2, h5⟩
theorem Secrets_body (g : Nat) (p : P) (w : World) (h : Six w g p) (hM : p.May) : Calls Try.prog 78 #[.pointer (some ⟨g, 0, none⟩)] w (RetOwn w p.secrets) := by
  unfold P.secrets
  obtain ⟨N, T, L, W, S, R⟩ := p
  obtain ⟨c0, c1, c2, c3, c4, c5⟩ := h
  unfold P.May at hM
  simp only at *
  obtain ⟨n, hn⟩ : ∃ n : Nat, N = n := ⟨N.toNat, by omega⟩
  subst hn
  obtain ⟨m, hm⟩ : ∃ n : Nat, L = n := ⟨L.toNat, by omega⟩
  subst hm
  rw [Int.toNat_natCast, Int.toNat_natCast]
  have i1 : IntKind.i64.wrap ((n : Int) + 1) = (n : Int) + 1 := IntWalk.i64_in _ (by omega)
  have HN := Lib.hid (fun W => numbers_any ((n : Int) + 1) m W (by omega) (by omega) (by omega))
  have HP := Lib.hid (fun A c W h => points_own A (nums ((n : Int) + 1) m) c W h (by rw [nums_len]; omega) (nums_in _ _ (by omega) (by omega)))
  rw [nums_points _ _ (by omega), nums_len] at HP
  have hl := nums_len ((n : Int) + 1) m
  generalize nums ((n : Int) + 1) m = l at *
  generalize from_ n m = q at *
  clear hM
  go_enter Try.func78, Try.ntmps78
  go_wp2_with fail
  refine (HN.out _).mono ?_
  rintro e w1 ⟨A, c, rfl, h1, h2, h3, hb1, h5⟩
  rw [hl] at *
  clear hl
  go_wp2_with fail
  refine (HP.out _ _ _ h3).mono ?_
  rintro e w2 ⟨v, rfl, hv, hb2⟩
  go_wp2
  go_ret
  exact ret_own (Own.lower hv hb1.size) (bstep hb1 hb2)

end Go.Proofs.Ytompeiemioeohaa.Plan

/- the contracts of package plan, landed -/
set_option maxRecDepth 100000
namespace Go.Proofs.Ytompeiemioeohaa.Plan
open Go.RowKit PlanM

theorem point_any (i : Int) (w : World) (hi : In64 i) : Calls Try.prog 54 #[.int .i64 i] w (Says w (.int .u8 ((point i).toNat : Nat))) :=
  (point_same i w hi).mono fun _ _ h => ⟨h.1, by rw [← h.2]; exact Below.refl _ _⟩
theorem points_any (A : Option Addr) (l : List Int) (c : Nat) (w : World) (h : IntsAt w A l) (hl : l.length ≤ 1048576) (_hc : l.length ≤ c) (_hc2 : c ≤ maxLen) (hi : ∀ x ∈ l, In64 x) : Calls Try.prog 39 #[.slice A l.length c] w (RetOwn w (points l)) :=
  points_own A l c w h hl hi

theorem secrets_own (p : P) (w : World) (hp : p.In) : Calls Try.prog 38 #[p.val] w (RetOwn w p.secretsA) := by
  by_cases hM : p.May
  · rw [show p.secretsA = p.secrets from by simp only [P.secretsA, P.right_yes hM]; rfl]
    obtain ⟨N, T, L, W, S, R⟩ := p
    have HC : ∀ V, Below (w.alloc (.cells #[.int .i64 N, .int .i64 T, .int .i64 L, .int .i64 W, .int .i64 S, .int .i64 R] 23)).heap.size (w.alloc (.cells #[.int .i64 N, .int .i64 T, .int .i64 L, .int .i64 W, .int .i64 S, .int .i64 R] 23)) V → Calls Try.prog 78 #[.pointer (some ⟨w.heap.size, 0, none⟩)] V (RetOwn V (P.secrets ⟨N, T, L, W, S, R⟩)) := fun V hb => Secrets_body w.heap.size ⟨N, T, L, W, S, R⟩ V (Six.below (Six.new w ⟨N, T, L, W, S, R⟩) hb) hM
    have HO := Lib.hid (of_Secrets ⟨N, T, L, W, S, R⟩ w.heap.size _ (w.alloc (.cells #[.int .i64 N, .int .i64 T, .int .i64 L, .int .i64 W, .int .i64 S, .int .i64 R] 23)) hp hM HC)
    have HB := Lib.hid (balloc w _ : Below w.heap.size w (w.alloc (.cells #[.int .i64 N, .int .i64 T, .int .i64 L, .int .i64 W, .int .i64 S, .int .i64 R] 23)))
    clear HC hM hp
    unfold P.val at HO ⊢
    go_enter Try.func38, Try.ntmps38
    go_wp2_with fail
    refine HO.out.mono ?_
    rintro e w2 ⟨v, rfl, hv, hb2⟩
    go_wp2
    go_ret
    exact ret_own (Own.lower hv HB.out.size) (bstep HB.out hb2)
  · rw [show p.secretsA = [] from by simp only [P.secretsA, P.right_no hM]; rfl]
    obtain ⟨N, T, L, W, S, R⟩ := p
    have HO := Lib.hid (no_Secrets ⟨N, T, L, W, S, R⟩ w.heap.size (w.alloc (.cells #[.int .i64 N, .int .i64 T, .int .i64 L, .int .i64 W, .int .i64 S, .int .i64 R] 23)) hp hM)
    have HB := Lib.hid (balloc w _ : Below w.heap.size w (w.alloc (.cells #[.int .i64 N, .int .i64 T, .int .i64 L, .int .i64 W, .int .i64 S, .int .i64 R] 23)))
    clear hM hp
    unfold P.val at HO ⊢
    go_enter Try.func38, Try.ntmps38
    go_wp2_with fail
    refine HO.out.mono ?_
    rintro e w2 ⟨v, rfl, hv, hb2⟩
    go_wp2
    go_ret
    exact ret_own (Own.lower hv HB.out.size) (bstep HB.out hb2)

theorem all_any (p : P) (w : World) (hp : p.In) : Calls Try.prog 62 #[p.val] w (RetInts w p.allA) := by
  by_cases hM : p.May
  · rw [show p.allA = (all p.N.toNat) from by simp only [P.allA, P.right_yes hM]; rfl]
    obtain ⟨N, T, L, W, S, R⟩ := p
    have HC : ∀ V, Below (w.alloc (.cells #[.int .i64 N, .int .i64 T, .int .i64 L, .int .i64 W, .int .i64 S, .int .i64 R] 23)).heap.size (w.alloc (.cells #[.int .i64 N, .int .i64 T, .int .i64 L, .int .i64 W, .int .i64 S, .int .i64 R] 23)) V → Calls Try.prog 101 #[.pointer (some ⟨w.heap.size, 0, none⟩)] V (RetInts V (all N.toNat)) := fun V hb => All_body w.heap.size ⟨N, T, L, W, S, R⟩ V (Six.below (Six.new w ⟨N, T, L, W, S, R⟩) hb) hM
    have HO := Lib.hid (of_All ⟨N, T, L, W, S, R⟩ w.heap.size _ (w.alloc (.cells #[.int .i64 N, .int .i64 T, .int .i64 L, .int .i64 W, .int .i64 S, .int .i64 R] 23)) hp hM HC)
    have HB := Lib.hid (balloc w _ : Below w.heap.size w (w.alloc (.cells #[.int .i64 N, .int .i64 T, .int .i64 L, .int .i64 W, .int .i64 S, .int .i64 R] 23)))
    clear HC hM hp
    unfold P.val at HO ⊢
    go_enter Try.func62, Try.ntmps62
    go_wp2_with fail
    refine HO.out.mono ?_
    rintro e w2 ⟨A, c, rfl, h1, h2, h3, hb2, h5⟩
    go_wp2
    go_ret
    exact ⟨A, c, rfl, h1, h2, h3, bstep HB.out hb2, h5.mono HB.out.size⟩
  · rw [show p.allA = [] from by simp only [P.allA, P.right_no hM]; rfl]
    obtain ⟨N, T, L, W, S, R⟩ := p
    have HO := Lib.hid (no_All ⟨N, T, L, W, S, R⟩ w.heap.size (w.alloc (.cells #[.int .i64 N, .int .i64 T, .int .i64 L, .int .i64 W, .int .i64 S, .int .i64 R] 23)) hp hM)
    have HB := Lib.hid (balloc w _ : Below w.heap.size w (w.alloc (.cells #[.int .i64 N, .int .i64 T, .int .i64 L, .int .i64 W, .int .i64 S, .int .i64 R] 23)))
    clear hM hp
    unfold P.val at HO ⊢
    go_enter Try.func62, Try.ntmps62
    go_wp2_with fail
    refine HO.out.mono ?_
    rintro e w2 ⟨A, c, rfl, h1, h2, h3, hb2, h5⟩
    go_wp2
    go_ret
    exact ⟨A, c, rfl, h1, h2, h3, bstep HB.out hb2, h5.mono HB.out.size⟩

theorem need_any (p : P) (w : World) (hp : p.In) : Calls Try.prog 55 #[p.val] w (Says w (.int .i64 p.needA)) := by
  by_cases hM : p.May
  · rw [show p.needA = (p.T + p.L) from by simp only [P.needA, P.right_yes hM]; rfl]
    obtain ⟨N, T, L, W, S, R⟩ := p
    have HC : ∀ V, Below (w.alloc (.cells #[.int .i64 N, .int .i64 T, .int .i64 L, .int .i64 W, .int .i64 S, .int .i64 R] 23)).heap.size (w.alloc (.cells #[.int .i64 N, .int .i64 T, .int .i64 L, .int .i64 W, .int .i64 S, .int .i64 R] 23)) V → Calls Try.prog 94 #[.pointer (some ⟨w.heap.size, 0, none⟩)] V (Says V (.int .i64 (T + L))) := fun V hb => Need_body w.heap.size ⟨N, T, L, W, S, R⟩ V (Six.below (Six.new w ⟨N, T, L, W, S, R⟩) hb) hM
    have HO := Lib.hid (of_Need ⟨N, T, L, W, S, R⟩ w.heap.size _ (w.alloc (.cells #[.int .i64 N, .int .i64 T, .int .i64 L, .int .i64 W, .int .i64 S, .int .i64 R] 23)) hp hM HC)
    have HB := Lib.hid (balloc w _ : Below w.heap.size w (w.alloc (.cells #[.int .i64 N, .int .i64 T, .int .i64 L, .int .i64 W, .int .i64 S, .int .i64 R] 23)))
    clear HC hM hp
    unfold P.val at HO ⊢
    go_enter Try.func55, Try.ntmps55
    go_wp2_with fail
    refine HO.out.mono ?_
    rintro e w2 ⟨rfl, hb2⟩
    go_wp2
    go_ret
    exact ⟨rfl, bstep HB.out hb2⟩
  · rw [show p.needA = 0 from by simp only [P.needA, P.right_no hM]; rfl]
    obtain ⟨N, T, L, W, S, R⟩ := p
    have HO := Lib.hid (no_Need ⟨N, T, L, W, S, R⟩ w.heap.size (w.alloc (.cells #[.int .i64 N, .int .i64 T, .int .i64 L, .int .i64 W, .int .i64 S, .int .i64 R] 23)) hp hM)
    have HB := Lib.hid (balloc w _ : Below w.heap.size w (w.alloc (.cells #[.int .i64 N, .int .i64 T, .int .i64 L, .int .i64 W, .int .i64 S, .int .i64 R] 23)))
    clear hM hp
    unfold P.val at HO ⊢
    go_enter Try.func55, Try.ntmps55
    go_wp2_with fail
    refine HO.out.mono ?_
    rintro e w2 ⟨rfl, hb2⟩
    go_wp2
    go_ret
    exact ⟨rfl, bstep HB.out hb2⟩

set_option maxHeartbeats 1000000 in
theorem is_any (p : P) (i : Int) (w : World) (hp : p.In) (_hi : In64 i) : Calls Try.prog 53 #[p.val, .int .i64 i] w (Says w (.bool (p.isA i))) := by
  by_cases hM : p.May
  · rw [show (p.isA i) = (p.is i) from by simp only [P.isA, P.right_yes hM]; rfl]
    obtain ⟨N, T, L, W, S, R⟩ := p
    have HB := Lib.hid (fun g gi V h1 h2 => Is_body g gi ⟨N, T, L, W, S, R⟩ i V h1 h2)
    have HO := Lib.hid (fun g gi w hq => of_Is ⟨N, T, L, W, S, R⟩ g gi (P.is ⟨N, T, L, W, S, R⟩ i) w hp hM hq)
    have HS := Lib.hid (Six.new w ⟨N, T, L, W, S, R⟩)
    clear hM hp
    generalize (P.is ⟨N, T, L, W, S, R⟩ i) = ans at *
    unfold P.val at HO ⊢
    go_enter Try.func53, Try.ntmps53
    go_wp2_with fail
    have hb1 := balloc w (.cells #[.int .i64 N, .int .i64 T, .int .i64 L, .int .i64 W, .int .i64 S, .int .i64 R] 23)
    have hz : (w.alloc (.cells #[.int .i64 N, .int .i64 T, .int .i64 L, .int .i64 W, .int .i64 S, .int .i64 R] 23)).heap.size = w.heap.size + 1 := by simp
    have hs := HS.out
    generalize w.alloc (.cells #[.int .i64 N, .int .i64 T, .int .i64 L, .int .i64 W, .int .i64 S, .int .i64 R] 23) = w1 at *
    have hb2 := balloc w1 (.cells #[.int .i64 i] 3)
    have hc : (w1.alloc (.cells #[.int .i64 i] 3)).cell? ⟨w1.heap.size, 0, none⟩ = some (.int .i64 i) := by simp [World.cell?_alloc_new]
    rw [hz] at hc
    have hs2 := hs.below hb2
    generalize w1.alloc (.cells #[.int .i64 i] 3) = w2 at *
    refine (HO.out _ _ _ (fun V hb => HB.out _ _ V (hs2.below hb) ((hb.cell (p := ⟨w.heap.size + 1, 0, none⟩) (cell_lt hc)).trans hc))).mono ?_
    rintro e w3 ⟨rfl, hb3⟩
    go_wp2
    go_ret
    exact ⟨rfl, bstep hb1 (bstep hb2 hb3)⟩
  · rw [show (p.isA i) = false from by simp only [P.isA, P.right_no hM]; rfl]
    obtain ⟨N, T, L, W, S, R⟩ := p
    have HO := Lib.hid (fun g gi w => no_Is ⟨N, T, L, W, S, R⟩ g gi w hp hM)
    clear hM hp
    unfold P.val at HO ⊢
    go_enter Try.func53, Try.ntmps53
    go_wp2_with fail
    have hb1 := balloc w (.cells #[.int .i64 N, .int .i64 T, .int .i64 L, .int .i64 W, .int .i64 S, .int .i64 R] 23)
    generalize w.alloc (.cells #[.int .i64 N, .int .i64 T, .int .i64 L, .int .i64 W, .int .i64 S, .int .i64 R] 23) = w1 at *
    have hb2 := balloc w1 (.cells #[.int .i64 i] 3)
    generalize w1.alloc (.cells #[.int .i64 i] 3) = w2 at *
    refine (HO.out _ _ _).mono ?_
    rintro e w3 ⟨rfl, hb3⟩
    go_wp2
    go_ret
    exact ⟨rfl, bstep hb1 (bstep hb2 hb3)⟩

set_option maxHeartbeats 1000000 in
theorem stripes_any (p : P) (size : Int) (w : World) (hp : p.In) (_hi : In64 size) : Calls Try.prog 112 #[p.val, .int .i64 size] w (Says w (.int .i64 (p.stripesA size))) := by
  by_cases hM : p.May
  · rw [show (p.stripesA size) = ((p.stripes size : Nat) : Int) from by simp only [P.stripesA, P.right_yes hM]; rfl]
    obtain ⟨N, T, L, W, S, R⟩ := p
    have HB := Lib.hid (fun g gi V h1 h2 => Stripes_body g gi ⟨N, T, L, W, S, R⟩ size V h1 h2 hM)
    have HO := Lib.hid (fun g gi w hq => of_Stripes ⟨N, T, L, W, S, R⟩ g gi ((P.stripes ⟨N, T, L, W, S, R⟩ size : Nat) : Int) w hp hM hq)
    have HS := Lib.hid (Six.new w ⟨N, T, L, W, S, R⟩)
    clear hM hp
    generalize ((P.stripes ⟨N, T, L, W, S, R⟩ size : Nat) : Int) = ans at *
    unfold P.val at HO ⊢
    go_enter Try.func112, Try.ntmps112
    go_wp2_with fail
    have hb1 := balloc w (.cells #[.int .i64 N, .int .i64 T, .int .i64 L, .int .i64 W, .int .i64 S, .int .i64 R] 23)
    have hz : (w.alloc (.cells #[.int .i64 N, .int .i64 T, .int .i64 L, .int .i64 W, .int .i64 S, .int .i64 R] 23)).heap.size = w.heap.size + 1 := by simp
    have hs := HS.out
    generalize w.alloc (.cells #[.int .i64 N, .int .i64 T, .int .i64 L, .int .i64 W, .int .i64 S, .int .i64 R] 23) = w1 at *
    have hb2 := balloc w1 (.cells #[.int .i64 size] 3)
    have hc : (w1.alloc (.cells #[.int .i64 size] 3)).cell? ⟨w1.heap.size, 0, none⟩ = some (.int .i64 size) := by simp [World.cell?_alloc_new]
    rw [hz] at hc
    have hs2 := hs.below hb2
    generalize w1.alloc (.cells #[.int .i64 size] 3) = w2 at *
    refine (HO.out _ _ _ (fun V hb => HB.out _ _ V (hs2.below hb) ((hb.cell (p := ⟨w.heap.size + 1, 0, none⟩) (cell_lt hc)).trans hc))).mono ?_
    rintro e w3 ⟨rfl, hb3⟩
    go_wp2
    go_ret
    exact ⟨rfl, bstep hb1 (bstep hb2 hb3)⟩
  · rw [show (p.stripesA size) = 0 from by simp only [P.stripesA, P.right_no hM]; rfl]
    obtain ⟨N, T, L, W, S, R⟩ := p
    have HO := Lib.hid (fun g gi w => no_Stripes ⟨N, T, L, W, S, R⟩ g gi w hp hM)
    clear hM hp
    unfold P.val at HO ⊢
    go_enter Try.func112, Try.ntmps112
    go_wp2_with fail
    have hb1 := balloc w (.cells #[.int .i64 N, .int .i64 T, .int .i64 L, .int .i64 W, .int .i64 S, .int .i64 R] 23)
    generalize w.alloc (.cells #[.int .i64 N, .int .i64 T, .int .i64 L, .int .i64 W, .int .i64 S, .int .i64 R] 23) = w1 at *
    have hb2 := balloc w1 (.cells #[.int .i64 size] 3)
    generalize w1.alloc (.cells #[.int .i64 size] 3) = w2 at *
    refine (HO.out _ _ _).mono ?_
    rintro e w3 ⟨rfl, hb3⟩
    go_wp2
    go_ret
    exact ⟨rfl, bstep hb1 (bstep hb2 hb3)⟩

theorem secrets_any (p : P) (w : World) (hp : p.In) : Calls Try.prog 38 #[p.val] w (RetNew w p.secretsA) := (secrets_own p w hp).mono fun _ _ h => h.new
end Go.Proofs.Ytompeiemioeohaa.Plan
