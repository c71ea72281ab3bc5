/- package stripe: Cut -/
import Derived.Test.YtmeenipcfmeopaaParts
import Derived.RangeFuncBox
set_option maxRecDepth 100000
namespace Go.Proofs.Ytmeenipcfmeopaa.Stripe
open Go.RowKit Go.Shelf PlanM StripeM Plan PolyM
attribute [local go_sem] Oper.semAt_some

/-- rows and an error's number are handed back -/
def RetRowsE (w : World) (m : List (List UInt8)) (err : Int) (e : Ending) (w' : World) : Prop :=
  ∃ A c, e = .returned (.tuple #[.slice A m.length c, .int .i64 err]) ∧ m.length ≤ c ∧ c ≤ maxLen ∧ RowsAt w' A m ∧ Below w.heap.size w w' ∧ New w A
/-- bytes and an error's number are handed back -/
def RetBytesE (w : World) (l : List UInt8) (err : Int) (e : Ending) (w' : World) : Prop :=
  ∃ A c, e = .returned (.tuple #[.slice A l.length c, .int .i64 err]) ∧ l.length ≤ c ∧ c ≤ maxLen ∧ BytesAt w' A l ∧ Below w.heap.size w w' ∧ New w A

/-- what is written behind a new block is new -/
theorem grow_new {A B C : World} {g k : Nat} (h : A.grownBy B (some g)) (h2 : B.grownBy C (some k)) (hk : A.heap.size ≤ k) : A.grownBy C (some g) :=
  ⟨h2.os.trans h.os, h2.tape.trans h.tape, h2.output.trans h.output, Nat.le_trans h.size h2.size, fun i hi hne => (h2.block i (Nat.lt_of_lt_of_le hi h.size) (fun e => by injection e with e; omega)).trans (h.block i hi hne)⟩
theorem ownFrom_grown {β : Type} (w0 : World) (g : Nat) : OwnFrom w0.heap.size (fun (_ : β) W => w0.grownBy W (some g)) := fun _ A B row h hg hr =>
  ⟨hg.os.trans h.os, hg.tape.trans h.tape, hg.output.trans h.output, Nat.le_trans h.size hg.size, fun i hi hne => (hg.block i (Nat.lt_of_lt_of_le hi h.size) (fun e => by have := (hr i e.symm).1; omega)).trans (h.block i hi hne)⟩

def nilRows (n : Nat) : List Value := List.replicate n (.slice none 0 0)
theorem make_slices (n : Nat) (hn : n ≤ 1048576) (w : World) :
    (Instr.makeSlice 29 (.int .i64 (n : Int)) (.int .i64 (n : Int))).run Try.prog w = .ok (.slice (some ⟨w.heap.size, 0, none⟩) n n) (w.alloc (.cells (nilRows n).toArray 24)) := by
  obtain ⟨i0, hi, hz, hs, hb⟩ := sl_info'
  have hr := run_make (P := Try.prog) w 29 24 i0 _ Try.underlying29 hi hz .i64 .i64 n n (by omega) (by omega) (by rw [hb]; omega) (by omega)
  simp only [Int.toNat_natCast] at hr
  rw [hr, hs, Nat.mul_one]
  congr 2
  have : madeCells (Value.slice none 0 0).cells n = (nilRows n).toArray := by
    apply Array.ext'
    rw [show (Value.slice none 0 0).cells = #[.slice none 0 0] from rfl, toList_madeCells_one]
    simp [nilRows]
  rw [this]

/-- a block of rows, those of some numbers made -/
def RowsTo (g N L : Nat) (b : List UInt8) (pre : List (Fin N)) (W : World) : Prop :=
  ∃ rs : List Value, rs.length = N ∧ W.heap[g]? = some (.cells rs.toArray 24 (0, 0)) ∧ ∀ x : Fin N, x ∈ pre → ∃ g', rs[x.1]? = some (.slice (some ⟨g', 0, none⟩) L L) ∧ g' ≠ g ∧ Row W g' (row L b x.1)
theorem rowsTo_own (g N L : Nat) (b : List UInt8) : Go.Own (RowsTo g N L b) := fun pre A B row h hg hr => by
  obtain ⟨rs, h1, h2, h3⟩ := h
  refine ⟨rs, h1, (grownBy_keeps_cells hg hr h2 rfl).trans h2, fun x hx => ?_⟩
  obtain ⟨g', k1, k2, k3⟩ := h3 x hx
  exact ⟨g', k1, k2, (grownBy_keeps_cells hg hr k3 rfl).trans k3⟩
theorem rowsTo_new (w : World) (N L : Nat) (b : List UInt8) : RowsTo w.heap.size N L b [] (w.alloc (.cells (nilRows N).toArray 24)) :=
  ⟨nilRows N, by simp [nilRows], heap_alloc_new w _, fun x hx => by cases hx⟩
theorem rowsTo_below {w w' : World} {g N L : Nat} {b : List UInt8} {pre : List (Fin N)} (h : RowsTo g N L b pre w) (hb : Below w.heap.size w w') : RowsTo g N L b pre w' := by
  obtain ⟨rs, h1, h2, h3⟩ := h
  refine ⟨rs, h1, (hb.block g ?_).trans h2, fun x hx => ?_⟩
  · exact (Array.getElem?_eq_some_iff.1 h2).1
  · obtain ⟨g', k1, k2, k3⟩ := h3 x hx
    exact ⟨g', k1, k2, (hb.block g' k3.lt).trans k3⟩
/-- one more row is made: the block g has row x's value put in, the new block holds its bytes -/
theorem rowsTo_put {w w2 : World} {g N L n : Nat} {b : List UInt8} {pre : List (Fin N)} (h : RowsTo g N L b pre w) (x : Fin N) (hn : w.heap.size ≤ n)
    (h1 : ∀ rs : List Value, w.heap[g]? = some (.cells rs.toArray 24 (0, 0)) → w2.heap[g]? = some (.cells (rs.set x.1 (.slice (some ⟨n, 0, none⟩) L L)).toArray 24 (0, 0)))
    (hg : w.grownBy w2 (some g)) (hr : Row w2 n (row L b x.1)) : RowsTo g N L b (pre ++ [x]) w2 := by
  obtain ⟨rs, k1, k2, k3⟩ := h
  have hgl : g < w.heap.size := (Array.getElem?_eq_some_iff.1 k2).1
  refine ⟨_, by rw [List.length_set]; exact k1, h1 rs k2, fun y hy => ?_⟩
  by_cases e : y = x
  · subst e
    exact ⟨n, by rw [List.getElem?_set_self (by rw [k1]; exact y.2)], by omega, hr⟩
  · have hy' : y ∈ pre := by
      rcases List.mem_append.mp hy with hy | hy
      · exact hy
      · exact absurd (List.mem_singleton.mp hy) e
    obtain ⟨g', q1, q2, q3⟩ := k3 y hy'
    have hne : x.1 ≠ y.1 := fun e' => e (Fin.ext e'.symm)
    exact ⟨g', by rw [List.getElem?_set_ne hne]; exact q1, q2, (hg.block g' q3.lt (fun e => q2 (by injection e))).trans q3⟩
/-- all of them are made -/
theorem rowsTo_rows {w : World} {g N L : Nat} {b : List UInt8} (h : RowsTo g N L b (ks N) w) (hL : L ≤ 1048576) : RowsAt w (some ⟨g, 0, none⟩) (cutTo L b N) := by
  obtain ⟨rs, k1, k2, k3⟩ := h
  intro i hi
  have hiN : i < N := by rw [cutTo_len] at hi; exact hi
  obtain ⟨g', q1, q2, q3⟩ := k3 ⟨i, hiN⟩ (ks_mem _ _)
  have hget : (cutTo L b N)[i] = row L b i := cutTo_get L b N i hi
  rw [hget]
  refine ⟨g, 0, _, rfl, ?_, some ⟨g', 0, none⟩, L, by rw [row_len], by rw [row_len]; exact Nat.le_refl _, by unfold maxLen; omega, q3.bytes⟩
  rw [Nat.zero_add, cell_of_row w g i rs.toArray 24 (0, 0) k2, List.getElem?_toArray]
  exact q1
theorem rowsTo_slot {w : World} {g N L : Nat} {b : List UInt8} {pre : List (Fin N)} (h : RowsTo g N L b pre w) (x : Fin N) : (∃ v, w.cell? ⟨g, x.1, none⟩ = some v) ∧ w.frozen? ⟨g, x.1, none⟩ = false := by
  obtain ⟨rs, k1, k2, k3⟩ := h
  refine ⟨⟨rs[x.1]'(by rw [k1]; exact x.2), ?_⟩, by simp [World.frozen?, k2]⟩
  rw [cell_of_row w g x.1 rs.toArray 24 (0, 0) k2, List.getElem?_toArray, List.getElem?_eq_getElem]
/-- a stripe's own bytes, the rest stays 0 -/
theorem row_splice (L : Nat) (b : List UInt8) (k : Nat) : splice (List.replicate L 0) 0 (((b.drop (k * L)).take (min (k * L + L) b.length - k * L)).take L) = row L b k := by
  obtain ⟨x, hx⟩ : ∃ x, x = k * L := ⟨_, rfl⟩
  unfold splice row
  rw [← hx]
  refine List.ext_getElem ?_ fun i h1 h2 => ?_
  · simp [tab_len]; omega
  · rw [tab_get]
    have hiL : i < L := by rw [tab_len] at h2; exact h2
    simp only [List.take_zero, List.nil_append, Nat.zero_add]
    by_cases hi : x + i < b.length
    · rw [List.getElem_append_left (by simp; omega), co_get b (x + i) hi]
      simp
    · rw [co_ge _ _ (by omega), List.getElem_append_right (by simp; omega)]
      simp
end Go.Proofs.Ytmeenipcfmeopaa.Stripe
