/- the contracts of package plan: bounds, points, numbers -/
import Derived.Test.YtmeenipcfmeopaaInts
import Derived.Test.YtmeenipcfmeopaaPlanMath
import Derived.Deep.QuietTactic
import Derived.IntWalk
import Derived.Deep.RegionHeld3
set_option maxRecDepth 100000
namespace Go.Proofs.Ytmeenipcfmeopaa.Plan
open Go.RowKit PlanM

/-- is a number from one to another one? -/
def wi (n a b : Int) : Bool := decide (a ≤ n ∧ n ≤ b)
theorem wi_yes {n a b : Int} (h : a ≤ n ∧ n ≤ b) : wi n a b = true := decide_eq_true h
theorem wi_no {n a b : Int} (h : ¬ (a ≤ n ∧ n ≤ b)) : wi n a b = false := decide_eq_false h
theorem within_any (n a b : Int) (w : World) : Calls Try.prog 37 #[.int .i64 n, .int .i64 a, .int .i64 b] w fun e w' => e = .returned (.bool (wi n a b)) ∧ w = w' := by
  by_cases h1 : a ≤ n
  · by_cases h2 : n ≤ b
    · rw [wi_yes ⟨h1, h2⟩]
      go_enter Try.func37, Try.ntmps37
      go_wp2
      go_ret
      exact ⟨rfl, rfl⟩
    · rw [wi_no (fun h => h2 h.2)]
      go_enter Try.func37, Try.ntmps37
      go_wp2
      go_ret
      exact ⟨rfl, rfl⟩
  · rw [wi_no (fun h => h1 h.1)]
    go_enter Try.func37, Try.ntmps37
    go_wp2
    go_ret
    exact ⟨rfl, rfl⟩

theorem point_same (i : Int) (w : World) (hi : In64 i) : Calls Try.prog 60 #[.int .i64 i] w fun e w' => e = .returned (.int .u8 ((point i).toNat : Nat)) ∧ w = w' := by
  unfold In64 at hi
  have C := fun W => within_any i 1 256 W
  by_cases h1 : 1 ≤ i ∧ i ≤ 256
  · have hp : ((point i).toNat : Int) = i - 1 := by
      unfold point
      rw [if_neg (by omega), UInt8.toNat_ofNat_of_lt' (by simp only [UInt8.size]; omega)]
      omega
    have i1 : IntKind.i64.wrap (i - 1) = i - 1 := IntWalk.i64_in _ (by omega)
    have i2 : IntKind.u8.wrap (i - 1) = i - 1 := by rw [IntKind.wrap_u8]; omega
    rw [hp]
    rw [wi_yes h1] at C
    clear hp
    go_enter Try.func60, Try.ntmps60
    go_wp2_with fail
    refine (C _).mono ?_
    rintro e w' ⟨rfl, rfl⟩
    go_wp2
    go_ret
    exact ⟨rfl, rfl⟩
  · have hp : point i = 0 := by unfold point; rw [if_pos (by omega)]
    rw [hp]
    rw [wi_no h1] at C
    clear hp
    go_enter Try.func60, Try.ntmps60
    go_wp2_with fail
    refine (C _).mono ?_
    rintro e w' ⟨rfl, rfl⟩
    go_wp2
    go_ret
    exact ⟨rfl, rfl⟩

/-- points, as far as they are told -/
def ptsTo (l : List Int) (k : Nat) : List UInt8 := points (l.take k) ++ List.replicate (l.length - k) 0
theorem ptsTo_len (l : List Int) (k : Nat) (h : k ≤ l.length) : (ptsTo l k).length = l.length := by
  unfold ptsTo; simp [points_len, List.length_take]; omega
theorem ptsTo_zero (l : List Int) : ptsTo l 0 = List.replicate l.length 0 := by unfold ptsTo points; simp
theorem ptsTo_done (l : List Int) : ptsTo l l.length = points l := by unfold ptsTo; simp
theorem ptsTo_succ (l : List Int) (k : Nat) (h : k < l.length) : (ptsTo l k).set k (point l[k]) = ptsTo l (k + 1) := by
  unfold ptsTo
  have hl : (points (l.take k)).length = k := by rw [points_len, List.length_take]; omega
  have hr : List.replicate (l.length - k) (0 : UInt8) = 0 :: List.replicate (l.length - (k + 1)) 0 := by
    rw [show l.length - k = (l.length - (k + 1)) + 1 from by omega, List.replicate_succ]
  rw [List.set_append_right _ _ (by omega), hl, Nat.sub_self, hr, List.set_cons_zero, List.take_succ_eq_append_getElem h]
  unfold points
  rw [List.map_append, List.append_assoc]; rfl

theorem own_row {w : World} {g base : Nat} {l : List UInt8} (h : Row w g l) (hb : base ≤ g) (hl : l.length ≤ maxLen) : Own w base (.slice (some ⟨g, 0, none⟩) l.length l.length) l :=
  ⟨by rw [vals_len, Nat.mul_one], .inr ⟨g, l.length, cells l, rfl, hb, h, Nat.le_refl _, hl, by rw [cells_size, Nat.mul_one], by
    rw [Nat.mul_one]; unfold cells; rw [← vals_len l, List.take_length]⟩⟩
theorem ret_own {w w' : World} {v : Value} {l : List UInt8} (h : Own w' w.heap.size v l) (hb : Below w.heap.size w w') : RetOwn w l (.returned v) w' := ⟨v, rfl, h, hb⟩
theorem points_own (A : Option Addr) (l : List Int) (c : Nat) (w : World) (h : IntsAt w A l) (hl : l.length ≤ 1048576) (hi : ∀ x ∈ l, In64 x) : Calls Try.prog 49 #[.slice A l.length c] w (RetOwn w (points l)) := by
  have hmk := fun W => make_u8 l.length (by omega) W
  go_enter Try.func49, Try.ntmps49
  go_wp2
  clear hmk
  go_loopw [11] (fun i wr => ∃ k : Nat, k ≤ l.length ∧ i = .int .i64 k ∧ Row wr w.heap.size (ptsTo l k) ∧ Below w.heap.size w wr)
    (fun i _ => l.length - (intOf i).toNat)
  case atStart => exact ⟨0, Nat.zero_le _, rfl, by rw [ptsTo_zero]; exact Row.new _ _, (Below.refl _ _).alloc (Nat.le_refl _) _⟩
  case round =>
    obtain ⟨k, hk, rfl, hr, hb⟩ := hrel
    have h : IntsAt wr A l := h.below hb
    by_cases hlt : k < l.length
    · obtain ⟨b, o, rfl, e⟩ := h.at hlt
      have hs := ptsTo_succ l k hlt
      have HS := Lib.hid hs
      have hc := hr.cell k (by rw [ptsTo_len _ _ hk]; exact hlt)
      have hf := hr.frozen k
      have hlen := ptsTo_len l k hk
      have HR := Lib.hid hr
      have hz := hr.lt
      have hx := hi l[k] (List.getElem_mem hlt)
      have HX := Lib.hid hx
      clear hs hr h hx
      go_wp2_with (go_at_call 60; refine (point_same _ _ HX.out).mono ?_; rintro e w' ⟨rfl, rfl⟩)
      go_roundw
      case rel =>
        refine ⟨k + 1, by omega, by go_num, ?_, ?_⟩
        · rw [← HS.out]; exact HR.out.set k _
        · exact hb.setCell (Nat.le_refl _) _
      case measure => simp [intOf] <;> omega
    · obtain rfl : k = l.length := by omega
      have HR := Lib.hid hr
      go_wp2
      go_ret
      have hr := HR.out
      rw [ptsTo_done] at hr
      have := own_row hr (Nat.le_refl w.heap.size) (by rw [points_len]; unfold maxLen; omega)
      rw [points_len] at this
      exact ret_own this hb

/-- numbers that rise one by one -/
def nums (a : Int) (n : Nat) : List Int := (List.range n).map fun (j : Nat) => a + j
theorem nums_len (a : Int) (n : Nat) : (nums a n).length = n := by unfold nums; simp
theorem nums_all (n : Nat) : nums 1 n = all n := by unfold nums all; exact List.map_congr_left fun j _ => by omega
theorem nums_in (a : Int) (n : Nat) (h1 : -9223372036854775808 ≤ a) (h2 : a + n ≤ 9223372036854775807) : ∀ x ∈ nums a n, In64 x := by
  intro x hx
  unfold nums at hx
  simp only [List.mem_map, List.mem_range] at hx
  obtain ⟨j, hj, rfl⟩ := hx
  unfold In64; omega
theorem nums_points (a : Nat) (n : Nat) (h : a + n ≤ 256) : points (nums ((a : Int) + 1) n) = from_ a n := by
  unfold points nums from_
  rw [List.map_map]
  refine List.map_congr_left fun j hj => ?_
  simp only [List.mem_range] at hj
  show point ((a : Int) + 1 + j) = _
  unfold point
  rw [if_neg (by omega)]
  congr 1; omega
def numsTo (a : Int) (n k : Nat) : List Int := nums a k ++ List.replicate (n - k) 0
theorem numsTo_len (a : Int) (n k : Nat) (h : k ≤ n) : (numsTo a n k).length = n := by unfold numsTo; simp [nums_len]; omega
theorem numsTo_zero (a : Int) (n : Nat) : numsTo a n 0 = List.replicate n 0 := by unfold numsTo nums; simp
theorem numsTo_done (a : Int) (n : Nat) : numsTo a n n = nums a n := by unfold numsTo; simp
theorem numsTo_succ (a : Int) (n k : Nat) (h : k < n) : (numsTo a n k).set k (a + k) = numsTo a n (k + 1) := by
  unfold numsTo
  have hr : List.replicate (n - k) (0 : Int) = 0 :: List.replicate (n - (k + 1)) 0 := by
    rw [show n - k = (n - (k + 1)) + 1 from by omega, List.replicate_succ]
  rw [List.set_append_right _ _ (by rw [nums_len]; omega), nums_len, Nat.sub_self, hr, List.set_cons_zero]
  have : nums a (k + 1) = nums a k ++ [a + (k : Int)] := by unfold nums; rw [List.range_succ, List.map_append]; rfl
  rw [this, List.append_assoc]; rfl

def icells (l : List Int) : Array Value := (intV l).toArray
/-- a block that is just these numbers -/
def RowI (w : World) (g : Nat) (l : List Int) : Prop := w.heap[g]? = some (.cells (icells l) 3 (0, 0))
section
variable {w w' : World} {g : Nat} {l : List Int}
theorem RowI.lt (h : RowI w g l) : g < w.heap.size := by
  rcases Nat.lt_or_ge g w.heap.size with hlt | hge
  · exact hlt
  · unfold RowI at h; rw [Array.getElem?_eq_none hge] at h; cases h
theorem RowI.cell (h : RowI w g l) (i : Nat) (hi : i < l.length) : w.cell? ⟨g, i, none⟩ = some (.int .i64 l[i]) := by
  rw [cell_of_row w g i (icells l) 3 (0, 0) h]
  unfold icells; rw [List.getElem?_toArray]; simp [intV, hi]
theorem RowI.frozen (h : RowI w g l) (i : Nat) : w.frozen? ⟨g, i, none⟩ = false := by
  unfold RowI at h
  simp [World.frozen?, h]
theorem RowI.new (w : World) (l : List Int) : RowI (w.alloc (.cells (icells l) 3)) w.heap.size l := heap_alloc_new w _
theorem RowI.set (h : RowI w g l) (i : Nat) (b : Int) : RowI (w.setCell ⟨g, i, none⟩ (.int .i64 b)) g (l.set i b) := by
  unfold RowI at h ⊢
  have e : (icells l).setIfInBounds i (.int .i64 b) = icells (l.set i b) := by
    unfold icells intV; rw [List.map_set, List.setIfInBounds_toArray]
  simp [World.setCell, Array.getElem?_modify, h, e]
theorem RowI.ints (h : RowI w g l) : IntsAt w (some ⟨g, 0, none⟩) l := fun i hi => ⟨g, 0, rfl, by rw [Nat.zero_add, h.cell i (by rw [← intV_len]; exact hi), intV_get]⟩
end
theorem ret_ints {w w' : World} {A : Option Addr} {l : List Int} (h : IntsAt w' A l) (hb : Below w.heap.size w w') (hl : l.length ≤ maxLen) (hn : New w A) : RetInts w l (.returned (.slice A l.length l.length)) w' := ⟨A, l.length, rfl, Nat.le_refl _, hl, h, hb, hn⟩
theorem make_ints (n : Nat) (hn : n ≤ 1048576) (w : World) :
    (Instr.makeSlice 50 (.int .i64 (n : Int)) (.int .i64 (n : Int))).run Try.prog w = .ok (.slice (some ⟨w.heap.size, 0, none⟩) n n) (w.alloc (.cells (icells (List.replicate n 0)) 3)) := by
  obtain ⟨i0, hi, hz, hs, hb⟩ := int_info'
  have hr := run_make (P := Try.prog) w 50 3 i0 _ Try.underlying50 hi hz .i64 .i64 n n (by omega) (by omega) (by rw [hb]; omega) (by omega)
  simp only [Int.toNat_natCast] at hr
  have : madeCells (Value.int .i64 0).cells n = icells (List.replicate n 0) := by
    apply Array.ext'
    rw [show (Value.int .i64 0).cells = #[.int .i64 0] from rfl, toList_madeCells_one]
    simp [icells, intV]
  rw [hr, hs, Nat.mul_one, this]

theorem numbers_any (a : Int) (n : Nat) (w : World) (hn : n ≤ 1048576) (h1 : -9223372036854775808 ≤ a) (h2 : a + n ≤ 9223372036854775807) :
    Calls Try.prog 36 #[.int .i64 a, .int .i64 (n : Nat)] w (RetInts w (nums a n)) := by
  have hmk := fun W => make_ints n hn W
  go_enter Try.func36, Try.ntmps36
  go_wp2
  clear hmk
  go_loopw [11] (fun i wr => ∃ k : Nat, k ≤ n ∧ i = .int .i64 k ∧ RowI wr w.heap.size (numsTo a n k) ∧ Below w.heap.size w wr)
    (fun i _ => n - (intOf i).toNat)
  case atStart => exact ⟨0, Nat.zero_le _, rfl, by rw [numsTo_zero]; exact RowI.new _ _, (Below.refl _ _).alloc (Nat.le_refl _) _⟩
  case round =>
    obtain ⟨k, hk, rfl, hr, hb⟩ := hrel
    by_cases hlt : k < n
    · have hs := numsTo_succ a n k hlt
      have HS := Lib.hid hs
      have hlen := numsTo_len a n k hk
      have hc := hr.cell k (by rw [hlen]; exact hlt)
      have hf := hr.frozen k
      have HR := Lib.hid hr
      have hz := hr.lt
      have i1 : IntKind.i64.wrap (a + (k : Int)) = a + k := IntWalk.i64_in _ (by omega)
      clear hs hr
      go_wp2
      go_roundw
      case rel =>
        refine ⟨k + 1, by omega, by go_num, ?_, ?_⟩
        · rw [← HS.out]; exact HR.out.set k _
        · exact hb.setCell (Nat.le_refl _) _
      case measure => simp [intOf] <;> omega
    · obtain rfl : k = n := by omega
      have HR := Lib.hid hr
      go_wp2
      go_ret
      have hr := HR.out
      rw [numsTo_done] at hr
      have := ret_ints hr.ints hb (by rw [nums_len]; unfold maxLen; omega) (New.at w (Nat.le_refl _))
      rw [nums_len] at this
      exact this
end Go.Proofs.Ytmeenipcfmeopaa.Plan
