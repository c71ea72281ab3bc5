/- merged: Parts, StripeB, StripeC, StripeA, StripeD, Stripe -/
import Derived.Test.YtchcgiapjhmflaaGreatMP
import Derived.Test.YtchcgiapjhmflaaGreatMB
import Derived.Lib.MinMax
import Derived.RangeFuncNested
import Derived.RangeFuncBound
import Derived.RangeFuncCalls
import Derived.RangeFuncLeaves
import Derived.Shelf.Abstract
import Derived.Shelf.RegionOpen
import Derived.OwnWalkIn
import Derived.TacticsInMore
import Derived.LoopNIn
import Derived.LoopIn
import Derived.RangeFuncBox

/- package stripe: the places of a blob's stripes, an iterator -/
set_option maxRecDepth 100000
namespace Go.Proofs.YtchcgiapjhmflaaGreat.Stripe
open Go.RowKit Go.Shelf PlanM StripeM Plan
attribute [local go_sem] Oper.semAt_some

/-- copy's answer, where it writes a row of bytes that is known whole -/
theorem run_copy_u8 (w : World) (ty : TypeId) (D : Option Addr) (dn dc : Nat) (A : Option Addr) (l : List UInt8) (c : Nat) (g off : Nat) (l0 : List UInt8) (hg : Row w g l0) (hD : 0 < dn → D = some ⟨g, off, none⟩) (hA : BytesAt w A l) (hfit : off + min l.length dn ≤ l0.length) :
    ∃ w', (Builtin.copy_ #[24, 24] ty #[.slice D dn dc, .slice A l.length c]).run Tryz.prog w = .ok (goInt (min l.length dn : Nat)) w' ∧ Row w' g (splice l0 off (l.take dn)) ∧ w.grownBy w' (some g) := by
  by_cases h0 : min l.length dn = 0
  · refine ⟨w, ?_, ?_, grow_refl _ _⟩
    · rw [h0]; exact run_copy_none (P := Tryz.prog) w 24 24 ty 5 D A dn dc l.length c Tryz.underlying24 u8_size h0
    · have : l.take dn = [] := by
        apply List.eq_nil_of_length_eq_zero
        rw [List.length_take]; omega
      rw [this]
      simpa [splice] using hg
  · rw [hD (by omega)]
    obtain ⟨b, o', hA', _⟩ := hA 0 (by omega)
    have hlen : (vals (l.take dn)).length = Nat.min l.length dn := by rw [vals_len, List.length_take]; exact Nat.min_comm _ _
    have hsrc : ∀ j v, (vals (l.take dn))[j]? = some v → w.cell? ((⟨b, o', none⟩ : Addr).add j) = some v := fun j v hv => by
      have hj : j < (vals (l.take dn)).length := by
        rcases Nat.lt_or_ge j (vals (l.take dn)).length with hlt | hge
        · exact hlt
        · rw [List.getElem?_eq_none hge] at hv; cases hv
      have hj2 : j < l.length := by rw [vals_len, List.length_take] at hj; omega
      obtain ⟨b2, o2, hA2, hc⟩ := hA j hj2
      rw [hA'] at hA2
      obtain ⟨rfl, rfl⟩ : b = b2 ∧ o' = o2 := by injection hA2 with hA2; injection hA2 with h1 h2; exact ⟨h1, h2⟩
      have hv' : (vals (l.take dn))[j]? = some (.int .u8 (l[j].toNat : Nat)) := by
        rw [vals_get _ j (by rw [vals_len] at hj; exact hj)]
        simp
      rw [hv'] at hv
      injection hv with hv
      subst hv
      have hadd : (⟨b, o', none⟩ : Addr).add j = ⟨b, o' + j, none⟩ := by unfold Addr.add; split <;> simp_all
      rw [hadd]; exact hc
    rw [hA']
    have hlen' : (vals (l.take dn)).length = min l.length dn := hlen
    have hr := run_copy_row (P := Tryz.prog) w 24 24 ty 5 g off dn dc ⟨b, o', none⟩ l.length c (cells l0) 5 (vals (l.take dn)) Tryz.underlying24 u8_size hg hlen hsrc (by rw [hlen', cells_size]; exact hfit)
      (fun u hu => by simp only [vals, List.mem_map] at hu; obtain ⟨b, _, rfl⟩ := hu; rfl)
    rw [hlen'] at hr
    refine ⟨_, hr, ?_, ⟨rfl, rfl, rfl, by simp [World.setRow], fun k _ hne => setRow_other w g k _ (fun e => hne (by rw [e]))⟩⟩
    have e : splice (vals l0) off (vals (l.take dn)) = vals (splice l0 off (l.take dn)) := by
      simp [splice, vals, List.map_take, List.map_drop]
    have h2 := setRow_heap w g (cells l0) ((cells l0).toList.take off ++ vals (l.take dn) ++ (cells l0).toList.drop (off + min l.length dn)).toArray 5 (0, 0) hg
    refine h2.trans ?_
    unfold cells
    rw [← e]
    simp [splice, hlen']
theorem wpListIn_copy_u8 {F : Fence} {n : Nat} {ops : Array Oper} {rest : List Oper} {o : Oper} {a : Act} {w : World} {Q : Exit → Act → World → Prop} (hgd : o.guard = none) (d s : Operand)
    (ho : o.op = .call { callee := .builtin .copy, args := #[d, s], argTypes := #[24, 24] })
    (D : Option Addr) (dn dc : Nat) (A : Option Addr) (l : List UInt8) (sn c : Nat) (hd : a.eval d = .slice D dn dc) (hs : a.eval s = .slice A sn c) (hsn : l.length = sn)
    (g off : Nat) (l0 : List UInt8) (hg : Row w g l0) (hD : 0 < dn → D = some ⟨g, off, none⟩) (hA : BytesAt w A l) (hfit : off + min l.length dn ≤ l0.length)
    (h : ∀ w', Row w' g (splice l0 off (l.take dn)) → w.grownBy w' (some g) → wpListIn F n Tryz.prog ops Q rest (a.put o.dst (goInt (min l.length dn : Nat))) w') : wpListIn F n Tryz.prog ops Q (o :: rest) a w := by
  subst hsn
  obtain ⟨w', hrun, r1, r2⟩ := run_copy_u8 w o.type D dn dc A l c g off l0 hg hD hA hfit
  refine wpListIn_plain hgd fun K hK' => ?_
  unfold Oper.wpIn
  refine ⟨?_, ?_⟩
  · simp [Oper.about, ho, resolve, Target.leads, Sem.run_pure]
  · rw [Oper.semAt_plain F _ _ (by rw [ho]; intro c hc'; cases hc')]
    simp [execOp, ho, resolve, invoke, builtin, hd, hs, hrun, Result.andThen]
    exact hK' _ _ (h w' r1 r2)

/-- all stripes' numbers -/
def ks (N : Nat) : List (Fin N) := List.ofFn fun i : Fin N => i
theorem ks_len (N : Nat) : (ks N).length = N := by unfold ks; simp
theorem ks_take (N k : Nat) (h : k < N) : (ks N).take (k + 1) = (ks N).take k ++ [⟨k, h⟩] := by
  have hp : k < (ks N).length := by rw [ks_len]; exact h
  rw [List.take_succ_eq_append_getElem hp]
  have e : (ks N)[k] = ⟨k, h⟩ := by simp [ks]
  rw [e]
theorem ks_mem (N : Nat) (k : Fin N) : k ∈ ks N := by unfold ks; rw [List.mem_ofFn]; exact ⟨k, rfl⟩
/-- what the iterator hands on of stripe k -/
def part (a o n c L k : Nat) : Value := .slice (some ⟨a, o + k * L, none⟩) (min (k * L + L) n - k * L) (c - k * L)
theorem six_of {W W' : World} {g : Nat} {p : P} (h : Six W g p) (e : W'.heap[g]? = W.heap[g]?) : Six W' g p :=
  have k : ∀ {i : Nat} {v : Value}, W.cell? ⟨g, i, none⟩ = some v → W'.cell? ⟨g, i, none⟩ = some v := fun {i} {v} h => by rw [← h]; exact World.cell?_of_block (w := W) e
  ⟨k h.c0, k h.c1, k h.c2, k h.c3, k h.c4, k h.c5⟩
abbrev Kept (g1 g2 : Nat) (W W' : World) : Prop := W'.heap[g1]? = W.heap[g1]? ∧ W'.heap[g2]? = W.heap[g2]?

end Go.Proofs.YtchcgiapjhmflaaGreat.Stripe

/- package stripe: Cut -/
set_option maxRecDepth 100000
namespace Go.Proofs.YtchcgiapjhmflaaGreat.Stripe
open Go.RowKit Go.Shelf PlanM StripeM Plan PolyM
attribute [local go_sem] Oper.semAt_some

/-- rows and an error's number are handed back -/
def RetRowsE (w : World) (m : List (List UInt8)) (err : Int) (e : Ending) (w' : World) : Prop :=
  ∃ A c, e = .returned (.tuple #[.slice A m.length c, .int .i64 err]) ∧ m.length ≤ c ∧ c ≤ maxLen ∧ RowsAt w' A m ∧ Below w.heap.size w w' ∧ New w A
/-- bytes and an error's number are handed back -/
def RetBytesE (w : World) (l : List UInt8) (err : Int) (e : Ending) (w' : World) : Prop :=
  ∃ A c, e = .returned (.tuple #[.slice A l.length c, .int .i64 err]) ∧ l.length ≤ c ∧ c ≤ maxLen ∧ BytesAt w' A l ∧ Below w.heap.size w w' ∧ New w A

/-- what is written behind a new block is new -/
theorem grow_new {A B C : World} {g k : Nat} (h : A.grownBy B (some g)) (h2 : B.grownBy C (some k)) (hk : A.heap.size ≤ k) : A.grownBy C (some g) :=
  ⟨h2.os.trans h.os, h2.tape.trans h.tape, h2.output.trans h.output, Nat.le_trans h.size h2.size, fun i hi hne => (h2.block i (Nat.lt_of_lt_of_le hi h.size) (fun e => by injection e with e; omega)).trans (h.block i hi hne)⟩
theorem ownFrom_grown {β : Type} (w0 : World) (g : Nat) : OwnFrom w0.heap.size (fun (_ : β) W => w0.grownBy W (some g)) := fun _ A B row h hg hr =>
  ⟨hg.os.trans h.os, hg.tape.trans h.tape, hg.output.trans h.output, Nat.le_trans h.size hg.size, fun i hi hne => (hg.block i (Nat.lt_of_lt_of_le hi h.size) (fun e => by have := (hr i e.symm).1; omega)).trans (h.block i hi hne)⟩

def nilRows (n : Nat) : List Value := List.replicate n (.slice none 0 0)
theorem make_slices (n : Nat) (hn : n ≤ 1048576) (w : World) :
    (Instr.makeSlice 35 (.int .i64 (n : Int)) (.int .i64 (n : Int))).run Tryz.prog w = .ok (.slice (some ⟨w.heap.size, 0, none⟩) n n) (w.alloc (.cells (nilRows n).toArray 24)) := by
  obtain ⟨i0, hi, hz, hs, hb⟩ := sl_info'
  have hr := run_make (P := Tryz.prog) w 35 24 i0 _ Tryz.underlying35 hi hz .i64 .i64 n n (by omega) (by omega) (by rw [hb]; omega) (by omega)
  simp only [Int.toNat_natCast] at hr
  rw [hr, hs, Nat.mul_one]
  congr 2
  have : madeCells (Value.slice none 0 0).cells n = (nilRows n).toArray := by
    apply Array.ext'
    rw [show (Value.slice none 0 0).cells = #[.slice none 0 0] from rfl, toList_madeCells_one]
    simp [nilRows]
  rw [this]

/-- a block of rows, those of some numbers made -/
def RowsTo (g N L : Nat) (b : List UInt8) (pre : List (Fin N)) (W : World) : Prop :=
  ∃ rs : List Value, rs.length = N ∧ W.heap[g]? = some (.cells rs.toArray 24 (0, 0)) ∧ ∀ x : Fin N, x ∈ pre → ∃ g', rs[x.1]? = some (.slice (some ⟨g', 0, none⟩) L L) ∧ g' ≠ g ∧ Row W g' (row L b x.1)
theorem rowsTo_own (g N L : Nat) (b : List UInt8) : Go.Own (RowsTo g N L b) := fun pre A B row h hg hr => by
  obtain ⟨rs, h1, h2, h3⟩ := h
  refine ⟨rs, h1, (grownBy_keeps_cells hg hr h2 rfl).trans h2, fun x hx => ?_⟩
  obtain ⟨g', k1, k2, k3⟩ := h3 x hx
  exact ⟨g', k1, k2, (grownBy_keeps_cells hg hr k3 rfl).trans k3⟩
theorem rowsTo_new (w : World) (N L : Nat) (b : List UInt8) : RowsTo w.heap.size N L b [] (w.alloc (.cells (nilRows N).toArray 24)) :=
  ⟨nilRows N, by simp [nilRows], heap_alloc_new w _, fun x hx => by cases hx⟩
theorem rowsTo_below {w w' : World} {g N L : Nat} {b : List UInt8} {pre : List (Fin N)} (h : RowsTo g N L b pre w) (hb : Below w.heap.size w w') : RowsTo g N L b pre w' := by
  obtain ⟨rs, h1, h2, h3⟩ := h
  refine ⟨rs, h1, (hb.block g ?_).trans h2, fun x hx => ?_⟩
  · exact (Array.getElem?_eq_some_iff.1 h2).1
  · obtain ⟨g', k1, k2, k3⟩ := h3 x hx
    exact ⟨g', k1, k2, (hb.block g' k3.lt).trans k3⟩
/-- one more row is made: the block g has row x's value put in, the new block holds its bytes -/
theorem rowsTo_put {w w2 : World} {g N L n : Nat} {b : List UInt8} {pre : List (Fin N)} (h : RowsTo g N L b pre w) (x : Fin N) (hn : w.heap.size ≤ n)
    (h1 : ∀ rs : List Value, w.heap[g]? = some (.cells rs.toArray 24 (0, 0)) → w2.heap[g]? = some (.cells (rs.set x.1 (.slice (some ⟨n, 0, none⟩) L L)).toArray 24 (0, 0)))
    (hg : w.grownBy w2 (some g)) (hr : Row w2 n (row L b x.1)) : RowsTo g N L b (pre ++ [x]) w2 := by
  obtain ⟨rs, k1, k2, k3⟩ := h
  have hgl : g < w.heap.size := (Array.getElem?_eq_some_iff.1 k2).1
  refine ⟨_, by rw [List.length_set]; exact k1, h1 rs k2, fun y hy => ?_⟩
  by_cases e : y = x
  · subst e
    exact ⟨n, by rw [List.getElem?_set_self (by rw [k1]; exact y.2)], by omega, hr⟩
  · have hy' : y ∈ pre := by
      rcases List.mem_append.mp hy with hy | hy
      · exact hy
      · exact absurd (List.mem_singleton.mp hy) e
    obtain ⟨g', q1, q2, q3⟩ := k3 y hy'
    have hne : x.1 ≠ y.1 := fun e' => e (Fin.ext e'.symm)
    exact ⟨g', by rw [List.getElem?_set_ne hne]; exact q1, q2, (hg.block g' q3.lt (fun e => q2 (by injection e))).trans q3⟩
/-- all of them are made -/
theorem rowsTo_rows {w : World} {g N L : Nat} {b : List UInt8} (h : RowsTo g N L b (ks N) w) (hL : L ≤ 1048576) : RowsAt w (some ⟨g, 0, none⟩) (cutTo L b N) := by
  obtain ⟨rs, k1, k2, k3⟩ := h
  intro i hi
  have hiN : i < N := by rw [cutTo_len] at hi; exact hi
  obtain ⟨g', q1, q2, q3⟩ := k3 ⟨i, hiN⟩ (ks_mem _ _)
  have hget : (cutTo L b N)[i] = row L b i := cutTo_get L b N i hi
  rw [hget]
  refine ⟨g, 0, _, rfl, ?_, some ⟨g', 0, none⟩, L, by rw [row_len], by rw [row_len]; exact Nat.le_refl _, by unfold maxLen; omega, q3.bytes⟩
  rw [Nat.zero_add, cell_of_row w g i rs.toArray 24 (0, 0) k2, List.getElem?_toArray]
  exact q1
theorem rowsTo_slot {w : World} {g N L : Nat} {b : List UInt8} {pre : List (Fin N)} (h : RowsTo g N L b pre w) (x : Fin N) : (∃ v, w.cell? ⟨g, x.1, none⟩ = some v) ∧ w.frozen? ⟨g, x.1, none⟩ = false := by
  obtain ⟨rs, k1, k2, k3⟩ := h
  refine ⟨⟨rs[x.1]'(by rw [k1]; exact x.2), ?_⟩, by simp [World.frozen?, k2]⟩
  rw [cell_of_row w g x.1 rs.toArray 24 (0, 0) k2, List.getElem?_toArray, List.getElem?_eq_getElem]
/-- a stripe's own bytes, the rest stays 0 -/
theorem row_splice (L : Nat) (b : List UInt8) (k : Nat) : splice (List.replicate L 0) 0 (((b.drop (k * L)).take (min (k * L + L) b.length - k * L)).take L) = row L b k := by
  obtain ⟨x, hx⟩ : ∃ x, x = k * L := ⟨_, rfl⟩
  unfold splice row
  rw [← hx]
  refine List.ext_getElem ?_ fun i h1 h2 => ?_
  · simp [tab_len]; omega
  · rw [tab_get]
    have hiL : i < L := by rw [tab_len] at h2; exact h2
    simp only [List.take_zero, List.nil_append, Nat.zero_add]
    by_cases hi : x + i < b.length
    · rw [List.getElem_append_left (by simp; omega), co_get b (x + i) hi]
      simp
    · rw [co_ge _ _ (by omega), List.getElem_append_right (by simp; omega)]
      simp
end Go.Proofs.YtchcgiapjhmflaaGreat.Stripe

/- package stripe: Cut -/
set_option maxRecDepth 100000
namespace Go.Proofs.YtchcgiapjhmflaaGreat.Stripe
open Go.RowKit Go.Shelf PlanM StripeM Plan PolyM
attribute [local go_sem] Oper.semAt_some

end Go.Proofs.YtchcgiapjhmflaaGreat.Stripe

/- package stripe: whether these may be all stripes of a blob -/
set_option maxRecDepth 100000
namespace Go.Proofs.YtchcgiapjhmflaaGreat.Stripe
open Go.RowKit PlanM StripeM Plan

/-- are all of one length? -/
def allL (m : List (List UInt8)) (L : Nat) : Bool := m.all fun r => decide (r.length = L)
theorem allL_no {m : List (List UInt8)} {L i : Nat} (hi : i < m.length) (h : m[i].length ≠ L) : allL m L = false := by
  unfold allL
  rw [List.all_eq_false]
  exact ⟨m[i], List.getElem_mem hi, by simpa using h⟩
theorem allL_yes {m : List (List UInt8)} {L : Nat} (h : ∀ i, (hi : i < m.length) → m[i].length = L) : allL m L = true := by
  unfold allL
  refine List.all_eq_true.mpr fun r hr => ?_
  obtain ⟨i, hi, rfl⟩ := List.mem_iff_getElem.mp hr
  exact decide_eq_true (h i hi)

end Go.Proofs.YtchcgiapjhmflaaGreat.Stripe

/- package stripe: Join -/
set_option maxRecDepth 100000
namespace Go.Proofs.YtchcgiapjhmflaaGreat.Stripe
open Go.RowKit Go.Shelf PlanM StripeM Plan PolyM
attribute [local go_sem] Oper.semAt_some

/-- the bytes of some stripes, the others 0 -/
def joinTo (L : Nat) (l : List (List UInt8)) (n N : Nat) (pre : List (Fin N)) : List UInt8 := tab n fun i => if pre.any (fun x => x.1 == i / L) then byteAt L l i else 0
theorem joinTo_len (L : Nat) (l : List (List UInt8)) (n N : Nat) (pre : List (Fin N)) : (joinTo L l n N pre).length = n := tab_len _ _
theorem joinTo_get (L : Nat) (l : List (List UInt8)) (n N : Nat) (pre : List (Fin N)) (i : Nat) (h : i < (joinTo L l n N pre).length) : (joinTo L l n N pre)[i] = if pre.any (fun x => x.1 == i / L) then byteAt L l i else 0 :=
  tab_get n (fun i => if pre.any (fun x => x.1 == i / L) then byteAt L l i else 0) i h
theorem joinTo_nil (L : Nat) (l : List (List UInt8)) (n N : Nat) : joinTo L l n N [] = List.replicate n 0 := by unfold joinTo; rw [← tab_rep]; exact tab_congr fun i _ => rfl
theorem joinTo_all (L : Nat) (l : List (List UInt8)) (n N : Nat) (hL : 1 ≤ L) (hn : n ≤ N * L) : joinTo L l n N (ks N) = join L l n := by
  unfold joinTo join
  refine tab_congr fun i hi => ?_
  have hk : i / L < N := by rw [Nat.div_lt_iff_lt_mul (by omega)]; omega
  rw [if_pos]
  rw [List.any_eq_true]
  exact ⟨⟨i / L, hk⟩, ks_mem _ _, by simp⟩
theorem joinTo_put (L : Nat) (l : List (List UInt8)) (n N : Nat) (pre : List (Fin N)) (k : Nat) (hk : k < N) (hL : 1 ≤ L) (hkl : k < l.length) (hl : l[k].length = L) (hkn : k * L < n) :
    splice (joinTo L l n N pre) (0 + k * L) (l[k].take (min (k * L + L) n - k * L)) = joinTo L l n N (pre ++ [⟨k, hk⟩]) := by
  obtain ⟨x, hx⟩ : ∃ x, x = k * L := ⟨_, rfl⟩
  have hdiv : ∀ i, i / L = k ↔ (x ≤ i ∧ i < x + L) := fun i => by
    rw [Nat.div_eq_iff (by omega), hx]
    constructor <;> intro h <;> omega
  have hmod : ∀ i, i / L = k → i % L = i - x := fun i h => by
    have := Nat.div_add_mod i L
    rw [h, Nat.mul_comm, ← hx] at this
    omega
  rw [← hx] at hkn ⊢
  rw [Nat.zero_add]
  unfold splice
  refine List.ext_getElem ?_ fun i h1 h2 => ?_
  · simp [joinTo_len]; omega
  · have hin : i < n := by rw [joinTo_len] at h2; exact h2
    have hr : (joinTo L l n N (pre ++ [⟨k, hk⟩]))[i] = if (pre.any fun x => x.1 == i / L) || (k == i / L) then byteAt L l i else 0 := by
      rw [joinTo_get, List.any_append]; simp
    have ho : ∀ h, (joinTo L l n N pre)[i]'h = if pre.any fun x => x.1 == i / L then byteAt L l i else 0 := fun h => joinTo_get _ _ _ _ _ _ h
    rw [hr]
    have hT : ((joinTo L l n N pre).take x).length = x := by rw [List.length_take, joinTo_len]; omega
    have hM : (l[k].take (min (x + L) n - x)).length = min (x + L) n - x := by rw [List.length_take, hl]; omega
    by_cases c1 : i < x
    · rw [List.getElem_append_left (by omega), List.getElem_take, ho]
      have : (k == i / L) = false := by
        rw [beq_eq_false_iff_ne]; intro e; have := (hdiv i).1 e.symm; omega
      rw [this, Bool.or_false]
    · rw [List.getElem_append_right (by omega)]
      by_cases c2 : i < x + L
      · have e := (hdiv i).2 ⟨by omega, c2⟩
        rw [List.getElem_append_left (by omega), List.getElem_take]
        have : (k == i / L) = true := by rw [e]; simp
        rw [this, Bool.or_true, if_pos rfl]
        unfold byteAt
        rw [e, hmod i e, ← List.getElem_eq_getD (h := hkl), co_get _ _ (by omega)]
        congr 1
        omega
      · have : (k == i / L) = false := by
          rw [beq_eq_false_iff_ne]; intro e; have := (hdiv i).1 e.symm; omega
        rw [List.getElem_append_right (by omega), List.getElem_drop]
        have e2 : x + (l[k].take (min (x + L) n - x)).length + (i - ((joinTo L l n N pre).take x).length - (l[k].take (min (x + L) n - x)).length) = i := by omega
        simp only [e2]
        rw [ho, this, Bool.or_false]
theorem row_own {β : Type} (g : Nat) (f : β → List UInt8) : Go.Own (fun (s : β) W => Row W g (f s)) := fun _ _ _ _ h hg hr => (grownBy_keeps_cells hg hr h rfl).trans h

end Go.Proofs.YtchcgiapjhmflaaGreat.Stripe

/- the contracts of package stripe -/
set_option maxRecDepth 100000
namespace Go.Proofs.YtchcgiapjhmflaaGreat.Stripe
open Go.RowKit Go.Shelf PlanM StripeM Plan
attribute [local go_sem] Oper.semAt_some

end Go.Proofs.YtchcgiapjhmflaaGreat.Stripe
