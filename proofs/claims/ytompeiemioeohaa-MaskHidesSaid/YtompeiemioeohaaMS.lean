/- merged: Parts, StripeB, StripeC, StripeA, StripeD, Stripe -/
import Derived.Test.YtompeiemioeohaaMP
import Derived.Test.YtompeiemioeohaaMB
import Derived.Lib.MinMax
import Derived.RangeFuncNested
import Derived.RangeFuncBound
import Derived.RangeFuncCalls
import Derived.RangeFuncLeaves
import Derived.Shelf.Abstract
import Derived.Shelf.RegionOpen
import Derived.OwnWalkIn
import Derived.TacticsInMore
import Derived.LoopNIn
import Derived.LoopIn
import Derived.RangeFuncBox

/- package stripe: the places of a blob's stripes, an iterator -/
set_option maxRecDepth 100000
namespace Go.Proofs.Ytompeiemioeohaa.Stripe
open Go.RowKit Go.Shelf PlanM StripeM Plan
attribute [local go_sem] Oper.semAt_some

/-- copy's answer, where it writes a row of bytes that is known whole -/
theorem run_copy_u8 (w : World) (ty : TypeId) (D : Option Addr) (dn dc : Nat) (A : Option Addr) (l : List UInt8) (c : Nat) (g off : Nat) (l0 : List UInt8) (hg : Row w g l0) (hD : 0 < dn → D = some ⟨g, off, none⟩) (hA : BytesAt w A l) (hfit : off + min l.length dn ≤ l0.length) :
    ∃ w', (Builtin.copy_ #[24, 24] ty #[.slice D dn dc, .slice A l.length c]).run Try.prog w = .ok (goInt (min l.length dn : Nat)) w' ∧ Row w' g (splice l0 off (l.take dn)) ∧ w.grownBy w' (some g) := by
  by_cases h0 : min l.length dn = 0
  · refine ⟨w, ?_, ?_, grow_refl _ _⟩
    · rw [h0]; exact run_copy_none (P := Try.prog) w 24 24 ty 5 D A dn dc l.length c Try.underlying24 u8_size h0
    · have : l.take dn = [] := by
        apply List.eq_nil_of_length_eq_zero
        rw [List.length_take]; omega
      rw [this]
      simpa [splice] using hg
  · rw [hD (by omega)]
    obtain ⟨b, o', hA', _⟩ := hA 0 (by omega)
    have hlen : (vals (l.take dn)).length = Nat.min l.length dn := by rw [vals_len, List.length_take]; exact Nat.min_comm _ _
    have hsrc : ∀ j v, (vals (l.take dn))[j]? = some v → w.cell? ((⟨b, o', none⟩ : Addr).add j) = some v := fun j v hv => by
      have hj : j < (vals (l.take dn)).length := by
        rcases Nat.lt_or_ge j (vals (l.take dn)).length with hlt | hge
        · exact hlt
        · rw [List.getElem?_eq_none hge] at hv; cases hv
      have hj2 : j < l.length := by rw [vals_len, List.length_take] at hj; omega
      obtain ⟨b2, o2, hA2, hc⟩ := hA j hj2
      rw [hA'] at hA2
      obtain ⟨rfl, rfl⟩ : b = b2 ∧ o' = o2 := by injection hA2 with hA2; injection hA2 with h1 h2; exact ⟨h1, h2⟩
      have hv' : (vals (l.take dn))[j]? = some (.int .u8 (l[j].toNat : Nat)) := by
        rw [vals_get _ j (by rw [vals_len] at hj; exact hj)]
        simp
      rw [hv'] at hv
      injection hv with hv
      subst hv
      have hadd : (⟨b, o', none⟩ : Addr).add j = ⟨b, o' + j, none⟩ := by unfold Addr.add; split <;> simp_all
      rw [hadd]; exact hc
    rw [hA']
    have hlen' : (vals (l.take dn)).length = min l.length dn := hlen
    have hr := run_copy_row (P := Try.prog) w 24 24 ty 5 g off dn dc ⟨b, o', none⟩ l.length c (cells l0) 5 (vals (l.take dn)) Try.underlying24 u8_size hg hlen hsrc (by rw [hlen', cells_size]; exact hfit)
      (fun u hu => by simp only [vals, List.mem_map] at hu; obtain ⟨b, _, rfl⟩ := hu; rfl)
    rw [hlen'] at hr
    refine ⟨_, hr, ?_, ⟨rfl, rfl, rfl, by simp [World.setRow], fun k _ hne => setRow_other w g k _ (fun e => hne (by rw [e]))⟩⟩
    have e : splice (vals l0) off (vals (l.take dn)) = vals (splice l0 off (l.take dn)) := by
      simp [splice, vals, List.map_take, List.map_drop]
    have h2 := setRow_heap w g (cells l0) ((cells l0).toList.take off ++ vals (l.take dn) ++ (cells l0).toList.drop (off + min l.length dn)).toArray 5 (0, 0) hg
    refine h2.trans ?_
    unfold cells
    rw [← e]
    simp [splice, hlen']
theorem wpListIn_copy_u8 {F : Fence} {n : Nat} {ops : Array Oper} {rest : List Oper} {o : Oper} {a : Act} {w : World} {Q : Exit → Act → World → Prop} (hgd : o.guard = none) (d s : Operand)
    (ho : o.op = .call { callee := .builtin .copy, args := #[d, s], argTypes := #[24, 24] })
    (D : Option Addr) (dn dc : Nat) (A : Option Addr) (l : List UInt8) (sn c : Nat) (hd : a.eval d = .slice D dn dc) (hs : a.eval s = .slice A sn c) (hsn : l.length = sn)
    (g off : Nat) (l0 : List UInt8) (hg : Row w g l0) (hD : 0 < dn → D = some ⟨g, off, none⟩) (hA : BytesAt w A l) (hfit : off + min l.length dn ≤ l0.length)
    (h : ∀ w', Row w' g (splice l0 off (l.take dn)) → w.grownBy w' (some g) → wpListIn F n Try.prog ops Q rest (a.put o.dst (goInt (min l.length dn : Nat))) w') : wpListIn F n Try.prog ops Q (o :: rest) a w := by
  subst hsn
  obtain ⟨w', hrun, r1, r2⟩ := run_copy_u8 w o.type D dn dc A l c g off l0 hg hD hA hfit
  refine wpListIn_plain hgd fun K hK' => ?_
  unfold Oper.wpIn
  refine ⟨?_, ?_⟩
  · simp [Oper.about, ho, resolve, Target.leads, Sem.run_pure]
  · rw [Oper.semAt_plain F _ _ (by rw [ho]; intro c hc'; cases hc')]
    simp [execOp, ho, resolve, invoke, builtin, hd, hs, hrun, Result.andThen]
    exact hK' _ _ (h w' r1 r2)

/-- all stripes' numbers -/
def ks (N : Nat) : List (Fin N) := List.ofFn fun i : Fin N => i
theorem ks_len (N : Nat) : (ks N).length = N := by unfold ks; simp
theorem ks_take (N k : Nat) (h : k < N) : (ks N).take (k + 1) = (ks N).take k ++ [⟨k, h⟩] := by
  have hp : k < (ks N).length := by rw [ks_len]; exact h
  rw [List.take_succ_eq_append_getElem hp]
  have e : (ks N)[k] = ⟨k, h⟩ := by simp [ks]
  rw [e]
theorem ks_mem (N : Nat) (k : Fin N) : k ∈ ks N := by unfold ks; rw [List.mem_ofFn]; exact ⟨k, rfl⟩
/-- what the iterator hands on of stripe k -/
def part (a o n c L k : Nat) : Value := .slice (some ⟨a, o + k * L, none⟩) (min (k * L + L) n - k * L) (c - k * L)
theorem six_of {W W' : World} {g : Nat} {p : P} (h : Six W g p) (e : W'.heap[g]? = W.heap[g]?) : Six W' g p :=
  have k : ∀ {i : Nat} {v : Value}, W.cell? ⟨g, i, none⟩ = some v → W'.cell? ⟨g, i, none⟩ = some v := fun {i} {v} h => by rw [← h]; exact World.cell?_of_block (w := W) e
  ⟨k h.c0, k h.c1, k h.c2, k h.c3, k h.c4, k h.c5⟩
abbrev Kept (g1 g2 : Nat) (W W' : World) : Prop := W'.heap[g1]? = W.heap[g1]? ∧ W'.heap[g2]? = W.heap[g2]?

set_option maxHeartbeats 1000000 in
theorem parts1_in (m l g1 g2 : Nat) (p : P) (A : Option Addr) (n c a o L N : Nat) (hm : 1 ≤ m) (hp : p.In) (hM : p.May) (hL : p.L = (L : Int)) (hN : N = p.stripes n) (hA : 0 < n → A = some ⟨a, o, none⟩) (hn : n ≤ 240) (hc : n ≤ c) (_hc2 : c ≤ maxLen)
    (J Jx : List (Fin N) → World → Prop) (W : World) (hJ : AbidesFrom W.heap.size J)
    (hY : ∀ pre x W, J pre W → pre.length < N → YieldAt Fence.wide (m - 1) Try.prog l #[.int .i64 (x.1 : Nat), part a o n c L x.1] W fun e W' =>
      (e = .returned (.bool true) ∧ J (pre ++ [x]) W' ∧ Kept g1 g2 W W') ∨ (e = .returned (.bool false) ∧ Jx (pre ++ [x]) W'))
    (hs : Six W g1 p) (hb : W.cell? ⟨g2, 0, none⟩ = some (.slice A n c)) (h0 : J [] W) :
    CallsIn Fence.wide m Try.prog 117 #[.func (.yield l) #[] #[], .pointer (some ⟨g1, 0, none⟩), .pointer (some ⟨g2, 0, none⟩)] W fun e W' => (∃ v, e = .returned v) ∧
      ((∃ ys, ys = ks N ∧ J ys W') ∨ (∃ pre, pre <+: ks N ∧ Jx pre W')) := by
  have hT := fun V => Plan.stripes_any p (n : Int) V hp (by unfold In64; omega)
  have hL2 : 1 ≤ L ∧ L ≤ 256 := by unfold P.May at hM; omega
  have hend : ∀ k, k < N → k * L < n := fun k hk => by
    by_cases e : n = 0
    · subst e; rw [hN] at hk; unfold P.stripes at hk; rw [if_pos (by omega)] at hk; omega
    · rcases Nat.lt_or_ge (k * L) n with h | h
      · exact h
      · exfalso
        rw [hN] at hk
        unfold P.stripes at hk
        rw [if_neg (by omega), hL] at hk
        have := stripes_end (L := (L : Int)) (size := (n : Int)) (n := (k : Int)) (by omega) (by rw [← Int.natCast_mul]; omega)
        omega
  rw [show p.stripesA (n : Int) = (N : Int) from by unfold P.stripesA; rw [P.right_yes hM, hN]; rfl] at hT
  obtain ⟨pN, pT, pL, pW, pS, pR⟩ := p
  simp only at hL
  subst hL
  unfold P.val at hT
  have HT := Lib.hid hT; have HY := Lib.hid hY; have HE := Lib.hid hend; have HA := Lib.hid hA; have HS := Lib.hid hs; have HB := Lib.hid hb
  have hN2 : N ≤ 240 := by rw [hN]; exact stripes_le _ _ (by show (1 : Int) ≤ L; omega)
  clear hT hY hend hM hp hN hA hs hb
  unfold maxLen at _hc2
  have c0 := HS.out.c0; have c1 := HS.out.c1; have c2 := HS.out.c2; have c3 := HS.out.c3; have c4 := HS.out.c4; have c5 := HS.out.c5
  have cb := HB.out
  refine callsIn_of_wp Try.func117 rfl trivial ?_ rfl
  simp only [Try.ntmps117, List.size_toArray, List.length_cons, List.length_nil, Nat.reduceAdd, Nat.reduceSub, Array.replicate_succ, Array.replicate_zero, List.push_toArray, List.append_toArray, List.nil_append, List.cons_append]
  gi_wp2_with fail
  refine ⟨trivial, ?_⟩
  refine (callsIn_wide.2 (HT.out _)).mono ?_
  rintro e w1 ⟨rfl, hb1⟩
  have hJ1 := hJ [] W w1 none h0 (grow_below hb1) (fun r e => by cases e)
  have hs1 := HS.out.below hb1
  have HS1 := Lib.hid hs1
  have HB1 := Lib.hid ((hb1.cell (p := ⟨g2, 0, none⟩) (cell_lt cb)).trans cb)
  clear c0 c1 c2 c3 c4 c5 cb hs1
  gi_wp2_with fail
  gi_loopw [10] (fun i wr => ∃ k : Nat, k ≤ N ∧ i = .int .i64 k ∧ J ((ks N).take k) wr ∧ Kept g1 g2 w1 wr)
    (fun i _ => N - (intOf i).toNat)
  case atStart => exact ⟨0, Nat.zero_le _, rfl, hJ1, rfl, rfl⟩
  case round =>
    obtain ⟨k, hk, rfl, hJ2, hk1, hk2⟩ := hrel
    rename World => w2
    have HJ2 := Lib.hid hJ2
    clear hJ2 hJ1
    by_cases hlt : k < N
    · have d2 := (six_of HS1.out hk1).c2
      have db : w2.cell? ⟨g2, 0, none⟩ = some (.slice A n c) := by rw [← HB1.out]; exact World.cell?_of_block (w := w1) hk2
      have hlen : ((ks N).take k).length = k := by rw [List.length_take, ks_len]; omega
      have hy := HY.out _ ⟨k, hlt⟩ w2 HJ2.out (by rw [hlen]; exact hlt)
      rw [← ks_take] at hy
      have hkl := HE.out k hlt
      have hA2 := HA.out (by omega)
      subst hA2
      obtain ⟨x, hx⟩ : ∃ x, x = k * L := ⟨_, rfl⟩
      have hpart : part a o n c L k = .slice (some ⟨a, o + x, none⟩) (min (x + L) n - x) (c - x) := by rw [hx]; rfl
      have i1 : ((k : Int) * (L : Int)) = (x : Int) := by rw [← Int.natCast_mul, ← hx]
      have i2 : IntKind.i64.wrap (x : Int) = (x : Int) := IntWalk.i64_in _ (by omega)
      rw [← hx] at hkl
      have i3 : IntKind.i64.wrap ((x : Int) + L) = (x : Int) + L := IntWalk.i64_in _ (by omega)
      obtain ⟨z, hz⟩ : ∃ z, z = min (x + L) n := ⟨_, rfl⟩
      have i4 : min ((x : Int) + L) (n : Int) = (z : Int) := by omega
      have hz1 : x < z := by omega
      have hz2 : z ≤ n := by omega
      have hcx : ¬ c = x := by omega
      rw [hpart, ← hz] at hy
      obtain ⟨fn, tmps, assign, body, hy, hR⟩ := hy
      have HR := Lib.hid hR
      clear hx hpart hz hR
      gi_wp2_with fail
      refine HR.out.mono ?_
      rintro e w3 (⟨rfl, hJ3, hk3⟩ | ⟨rfl, hJ3⟩)
      · have HJ3 := Lib.hid hJ3
        clear hJ3 hy
        gi_wp2
        go_roundw
        case rel => exact ⟨k + 1, by omega, by go_num, HJ3.out, hk3.1.trans hk1, hk3.2.trans hk2⟩
        case measure => simp [intOf] <;> omega
      · have HJ3 := Lib.hid hJ3
        clear hJ3 hy
        gi_wp2
        refine bodyPost_ret (results_none rfl _ _ _) rfl ?_
        exact ⟨⟨_, rfl⟩, .inr ⟨_, List.take_prefix _ _, HJ3.out⟩⟩
    · obtain rfl : k = N := by omega
      have hJ3 := HJ2.out
      rw [List.take_of_length_le (by rw [ks_len]; omega)] at hJ3
      have HJ3 := Lib.hid hJ3
      clear hJ3
      gi_wp2
      go_end0
      exact ⟨⟨_, rfl⟩, .inl ⟨_, rfl, HJ3.out⟩⟩

/-- parts: a function value over two new blocks, of the plan and of the blob's place -/
theorem parts_in (m : Nat) (p : P) (A : Option Addr) (n c : Nat) (w : World) :
    CallsIn Fence.wide m Try.prog 113 #[p.val, .slice A n c] w fun e w' => e = .returned (.func (.func 117) #[] #[.pointer (some ⟨w.heap.size, 0, none⟩), .pointer (some ⟨w.heap.size + 1, 0, none⟩)]) ∧
      w' = (w.alloc (.cells #[.int .i64 p.N, .int .i64 p.T, .int .i64 p.L, .int .i64 p.W, .int .i64 p.S, .int .i64 p.R] 23)).alloc (.cells #[.slice A n c] 24) := by
  unfold P.val
  refine callsIn_of_wp Try.func113 rfl trivial ?_ rfl
  simp only [Try.ntmps113, List.size_toArray, List.length_cons, List.length_nil, Nat.reduceAdd, Nat.reduceSub, Array.replicate_succ, Array.replicate_zero, List.push_toArray, List.append_toArray, List.nil_append, List.cons_append]
  gi_wp2
  go_ret
  exact ⟨rfl, rfl⟩

theorem parts_stops (m g1 g2 : Nat) (p : P) (A : Option Addr) (n c a o L N : Nat) (hm : 1 ≤ m) (hp : p.In) (hM : p.May) (hL : p.L = (L : Int)) (hN : N = p.stripes n) (hA : 0 < n → A = some ⟨a, o, none⟩) (hn : n ≤ 240) (hc : n ≤ c) (hc2 : c ≤ maxLen)
    (w : World) (hs : Six w g1 p) (hb : w.cell? ⟨g2, 0, none⟩ = some (.slice A n c)) :
    SeqStopsK Fence.wide m Try.prog 117 #[.pointer (some ⟨g1, 0, none⟩), .pointer (some ⟨g2, 0, none⟩)] (fun x : Fin N => #[.int .i64 (x.1 : Nat), part a o n c L x.1]) (Kept g1 g2) (fun ys => ys = ks N) (fun pre => pre <+: ks N) N w :=
  fun l J Jx W hW hJ _ hY h0 => parts1_in m l g1 g2 p A n c a o L N hm hp hM hL hN hA hn hc hc2 J Jx W hJ hY (hs.below hW) ((hW.cell (p := ⟨g2, 0, none⟩) (cell_lt hb)).trans hb) h0
end Go.Proofs.Ytompeiemioeohaa.Stripe

/- package stripe: Cut -/
set_option maxRecDepth 100000
namespace Go.Proofs.Ytompeiemioeohaa.Stripe
open Go.RowKit Go.Shelf PlanM StripeM Plan PolyM
attribute [local go_sem] Oper.semAt_some

/-- rows and an error's number are handed back -/
def RetRowsE (w : World) (m : List (List UInt8)) (err : Int) (e : Ending) (w' : World) : Prop :=
  ∃ A c, e = .returned (.tuple #[.slice A m.length c, .int .i64 err]) ∧ m.length ≤ c ∧ c ≤ maxLen ∧ RowsAt w' A m ∧ Below w.heap.size w w' ∧ New w A
/-- bytes and an error's number are handed back -/
def RetBytesE (w : World) (l : List UInt8) (err : Int) (e : Ending) (w' : World) : Prop :=
  ∃ A c, e = .returned (.tuple #[.slice A l.length c, .int .i64 err]) ∧ l.length ≤ c ∧ c ≤ maxLen ∧ BytesAt w' A l ∧ Below w.heap.size w w' ∧ New w A

/-- what is written behind a new block is new -/
theorem grow_new {A B C : World} {g k : Nat} (h : A.grownBy B (some g)) (h2 : B.grownBy C (some k)) (hk : A.heap.size ≤ k) : A.grownBy C (some g) :=
  ⟨h2.os.trans h.os, h2.tape.trans h.tape, h2.output.trans h.output, Nat.le_trans h.size h2.size, fun i hi hne => (h2.block i (Nat.lt_of_lt_of_le hi h.size) (fun e => by injection e with e; omega)).trans (h.block i hi hne)⟩
theorem ownFrom_grown {β : Type} (w0 : World) (g : Nat) : OwnFrom w0.heap.size (fun (_ : β) W => w0.grownBy W (some g)) := fun _ A B row h hg hr =>
  ⟨hg.os.trans h.os, hg.tape.trans h.tape, hg.output.trans h.output, Nat.le_trans h.size hg.size, fun i hi hne => (hg.block i (Nat.lt_of_lt_of_le hi h.size) (fun e => by have := (hr i e.symm).1; omega)).trans (h.block i hi hne)⟩

def nilRows (n : Nat) : List Value := List.replicate n (.slice none 0 0)
theorem make_slices (n : Nat) (hn : n ≤ 1048576) (w : World) :
    (Instr.makeSlice 52 (.int .i64 (n : Int)) (.int .i64 (n : Int))).run Try.prog w = .ok (.slice (some ⟨w.heap.size, 0, none⟩) n n) (w.alloc (.cells (nilRows n).toArray 24)) := by
  obtain ⟨i0, hi, hz, hs, hb⟩ := sl_info'
  have hr := run_make (P := Try.prog) w 52 24 i0 _ Try.underlying52 hi hz .i64 .i64 n n (by omega) (by omega) (by rw [hb]; omega) (by omega)
  simp only [Int.toNat_natCast] at hr
  rw [hr, hs, Nat.mul_one]
  congr 2
  have : madeCells (Value.slice none 0 0).cells n = (nilRows n).toArray := by
    apply Array.ext'
    rw [show (Value.slice none 0 0).cells = #[.slice none 0 0] from rfl, toList_madeCells_one]
    simp [nilRows]
  rw [this]

/-- a block of rows, those of some numbers made -/
def RowsTo (g N L : Nat) (b : List UInt8) (pre : List (Fin N)) (W : World) : Prop :=
  ∃ rs : List Value, rs.length = N ∧ W.heap[g]? = some (.cells rs.toArray 24 (0, 0)) ∧ ∀ x : Fin N, x ∈ pre → ∃ g', rs[x.1]? = some (.slice (some ⟨g', 0, none⟩) L L) ∧ g' ≠ g ∧ Row W g' (row L b x.1)
theorem rowsTo_own (g N L : Nat) (b : List UInt8) : Go.Own (RowsTo g N L b) := fun pre A B row h hg hr => by
  obtain ⟨rs, h1, h2, h3⟩ := h
  refine ⟨rs, h1, (grownBy_keeps_cells hg hr h2 rfl).trans h2, fun x hx => ?_⟩
  obtain ⟨g', k1, k2, k3⟩ := h3 x hx
  exact ⟨g', k1, k2, (grownBy_keeps_cells hg hr k3 rfl).trans k3⟩
theorem rowsTo_new (w : World) (N L : Nat) (b : List UInt8) : RowsTo w.heap.size N L b [] (w.alloc (.cells (nilRows N).toArray 24)) :=
  ⟨nilRows N, by simp [nilRows], heap_alloc_new w _, fun x hx => by cases hx⟩
theorem rowsTo_below {w w' : World} {g N L : Nat} {b : List UInt8} {pre : List (Fin N)} (h : RowsTo g N L b pre w) (hb : Below w.heap.size w w') : RowsTo g N L b pre w' := by
  obtain ⟨rs, h1, h2, h3⟩ := h
  refine ⟨rs, h1, (hb.block g ?_).trans h2, fun x hx => ?_⟩
  · exact (Array.getElem?_eq_some_iff.1 h2).1
  · obtain ⟨g', k1, k2, k3⟩ := h3 x hx
    exact ⟨g', k1, k2, (hb.block g' k3.lt).trans k3⟩
/-- one more row is made: the block g has row x's value put in, the new block holds its bytes -/
theorem rowsTo_put {w w2 : World} {g N L n : Nat} {b : List UInt8} {pre : List (Fin N)} (h : RowsTo g N L b pre w) (x : Fin N) (hn : w.heap.size ≤ n)
    (h1 : ∀ rs : List Value, w.heap[g]? = some (.cells rs.toArray 24 (0, 0)) → w2.heap[g]? = some (.cells (rs.set x.1 (.slice (some ⟨n, 0, none⟩) L L)).toArray 24 (0, 0)))
    (hg : w.grownBy w2 (some g)) (hr : Row w2 n (row L b x.1)) : RowsTo g N L b (pre ++ [x]) w2 := by
  obtain ⟨rs, k1, k2, k3⟩ := h
  have hgl : g < w.heap.size := (Array.getElem?_eq_some_iff.1 k2).1
  refine ⟨_, by rw [List.length_set]; exact k1, h1 rs k2, fun y hy => ?_⟩
  by_cases e : y = x
  · subst e
    exact ⟨n, by rw [List.getElem?_set_self (by rw [k1]; exact y.2)], by omega, hr⟩
  · have hy' : y ∈ pre := by
      rcases List.mem_append.mp hy with hy | hy
      · exact hy
      · exact absurd (List.mem_singleton.mp hy) e
    obtain ⟨g', q1, q2, q3⟩ := k3 y hy'
    have hne : x.1 ≠ y.1 := fun e' => e (Fin.ext e'.symm)
    exact ⟨g', by rw [List.getElem?_set_ne hne]; exact q1, q2, (hg.block g' q3.lt (fun e => q2 (by injection e))).trans q3⟩
/-- all of them are made -/
theorem rowsTo_rows {w : World} {g N L : Nat} {b : List UInt8} (h : RowsTo g N L b (ks N) w) (hL : L ≤ 1048576) : RowsAt w (some ⟨g, 0, none⟩) (cutTo L b N) := by
  obtain ⟨rs, k1, k2, k3⟩ := h
  intro i hi
  have hiN : i < N := by rw [cutTo_len] at hi; exact hi
  obtain ⟨g', q1, q2, q3⟩ := k3 ⟨i, hiN⟩ (ks_mem _ _)
  have hget : (cutTo L b N)[i] = row L b i := cutTo_get L b N i hi
  rw [hget]
  refine ⟨g, 0, _, rfl, ?_, some ⟨g', 0, none⟩, L, by rw [row_len], by rw [row_len]; exact Nat.le_refl _, by unfold maxLen; omega, q3.bytes⟩
  rw [Nat.zero_add, cell_of_row w g i rs.toArray 24 (0, 0) k2, List.getElem?_toArray]
  exact q1
theorem rowsTo_slot {w : World} {g N L : Nat} {b : List UInt8} {pre : List (Fin N)} (h : RowsTo g N L b pre w) (x : Fin N) : (∃ v, w.cell? ⟨g, x.1, none⟩ = some v) ∧ w.frozen? ⟨g, x.1, none⟩ = false := by
  obtain ⟨rs, k1, k2, k3⟩ := h
  refine ⟨⟨rs[x.1]'(by rw [k1]; exact x.2), ?_⟩, by simp [World.frozen?, k2]⟩
  rw [cell_of_row w g x.1 rs.toArray 24 (0, 0) k2, List.getElem?_toArray, List.getElem?_eq_getElem]
/-- a stripe's own bytes, the rest stays 0 -/
theorem row_splice (L : Nat) (b : List UInt8) (k : Nat) : splice (List.replicate L 0) 0 (((b.drop (k * L)).take (min (k * L + L) b.length - k * L)).take L) = row L b k := by
  obtain ⟨x, hx⟩ : ∃ x, x = k * L := ⟨_, rfl⟩
  unfold splice row
  rw [← hx]
  refine List.ext_getElem ?_ fun i h1 h2 => ?_
  · simp [tab_len]; omega
  · rw [tab_get]
    have hiL : i < L := by rw [tab_len] at h2; exact h2
    simp only [List.take_zero, List.nil_append, Nat.zero_add]
    by_cases hi : x + i < b.length
    · rw [List.getElem_append_left (by simp; omega), co_get b (x + i) hi]
      simp
    · rw [co_ge _ _ (by omega), List.getElem_append_right (by simp; omega)]
      simp
end Go.Proofs.Ytompeiemioeohaa.Stripe

/- package stripe: Cut -/
set_option maxRecDepth 100000
namespace Go.Proofs.Ytompeiemioeohaa.Stripe
open Go.RowKit Go.Shelf PlanM StripeM Plan PolyM
attribute [local go_sem] Oper.semAt_some

set_option maxHeartbeats 4000000 in
theorem cut_all (p : P) (A : Option Addr) (b : List UInt8) (c : Nat) (w : World) (hp : p.In) (hM : p.May) (h : BytesAt w A b) (hc : b.length ≤ c) (hc2 : c ≤ maxLen) (hb : b.length ≤ 240) :
    Calls Try.prog 95 #[p.val, .slice A b.length c] w (RetRowsE w (cut p b) 0) := by
  obtain ⟨L, hL⟩ : ∃ L : Nat, p.L = (L : Int) := ⟨p.L.toNat, by unfold P.May at hM; omega⟩
  have hL2 : 1 ≤ L ∧ L ≤ 256 := by unfold P.May at hM; omega
  have hT := fun V => Plan.stripes_any p (b.length : Int) V hp (by unfold In64; omega)
  have hR := fun V => Plan.right_any p V hp
  have hN2 : p.stripes b.length ≤ 240 := stripes_le _ _ (by omega)
  rw [show p.stripesA b.length = ((p.stripes b.length : Nat) : Int) from by unfold P.stripesA; rw [P.right_yes hM]; rfl] at hT
  rw [P.right_yes hM] at hR
  have hI := fun g1 g2 W2 (hs : Six W2 g1 p) hb' a o hA => parts_stops 12 g1 g2 p A b.length c a o L (p.stripes b.length) (by omega) hp hM hL rfl hA hb hc hc2 W2 hs hb'
  have hend : ∀ k, k < p.stripes b.length → k * L < b.length := fun k hk => by
    by_cases e : b.length = 0
    · rw [e] at hk; unfold P.stripes at hk; rw [if_pos (by omega)] at hk; omega
    · rcases Nat.lt_or_ge (k * L) b.length with h | h
      · exact h
      · exfalso
        unfold P.stripes at hk
        rw [if_neg (by omega), hL] at hk
        have := stripes_end (L := (L : Int)) (size := (b.length : Int)) (n := (k : Int)) (by omega) (by rw [← Int.natCast_mul]; omega)
        omega
  have hcut : cut p b = cutTo L b (p.stripes b.length) := by unfold cut; rw [hL, Int.toNat_natCast]
  rw [hcut]
  have HS := Lib.hid (Six.new w p)
  have HP := Lib.hid (fun V => parts_in 12 p A b.length c V)
  obtain ⟨n, hn⟩ : ∃ n, n = b.length := ⟨_, rfl⟩
  obtain ⟨N, hN⟩ : ∃ N, N = p.stripes b.length := ⟨_, rfl⟩
  rw [← hN] at hT hI hN2 hend ⊢
  rw [← hn] at hT hI hc hb HP hend ⊢
  have HEND := Lib.hid hend
  clear hend
  have hmk := fun W => make_slices N (by omega) W
  have HMK := Lib.hid hmk
  have H := Lib.hid h; have HN := Lib.hid hN; have Hn := Lib.hid hn; have HI := Lib.hid hI
  clear hmk h hN hn hI hM hcut hp
  obtain ⟨pN, pT, pL, pW, pS, pR⟩ := p
  simp only at hL
  subst hL
  unfold P.val at hT hR HP ⊢
  simp only at HP
  have HT := Lib.hid hT; have HR := Lib.hid hR
  clear hT hR
  unfold maxLen at hc2
  have hb0 := balloc w (.cells #[.int .i64 pN, .int .i64 pT, .int .i64 (L : Int), .int .i64 pW, .int .i64 pS, .int .i64 pR] 23)
  have s0 := HS.out
  refine (callsIn_wide (n := 13)).1 ?_
  refine callsIn_of_wp_marks Try.func95 rfl trivial ?_ rfl
  simp only [Try.ntmps95, List.size_toArray, List.length_cons, List.length_nil, Nat.reduceAdd, Nat.reduceSub, Array.replicate_succ, Array.replicate_zero, List.push_toArray, List.append_toArray, List.nil_append, List.cons_append]
  gi_wp2_with fail
  have c0 := s0.c0; have c1 := s0.c1; have c2 := s0.c2; have c3 := s0.c3; have c4 := s0.c4; have c5 := s0.c5
  generalize w.alloc (.cells #[.int .i64 pN, .int .i64 pT, .int .i64 (L : Int), .int .i64 pW, .int .i64 pS, .int .i64 pR] 23) = w0 at *
  gi_wp2_with fail
  refine ⟨trivial, ?_⟩
  refine (callsIn_wide.2 (HR.out _)).mono ?_
  rintro e w1 ⟨rfl, hb1⟩
  have s1 := s0.below hb1
  clear c0 c1 c2 c3 c4 c5
  have c0 := s1.c0; have c1 := s1.c1; have c2 := s1.c2; have c3 := s1.c3; have c4 := s1.c4; have c5 := s1.c5
  gi_wp2_with fail
  refine ⟨trivial, ?_⟩
  refine (callsIn_wide.2 (HT.out _)).mono ?_
  rintro e w2 ⟨rfl, hb2⟩
  have s2 := s1.below hb2
  clear c0 c1 c2 c3 c4 c5
  have hmk := HMK.out
  have c0 := s2.c0; have c1 := s2.c1; have c2 := s2.c2; have c3 := s2.c3; have c4 := s2.c4; have c5 := s2.c5
  have hzz : w.heap.size < w2.heap.size := cell_lt c0
  gi_wp2_with fail
  refine ⟨trivial, ?_⟩
  refine (HP.out _).mono ?_
  rintro e w' ⟨rfl, rfl⟩
  gi_wp2_with fail
  clear c0 c1 c2 c3 c4 c5 hmk
  obtain ⟨a, o, hA⟩ : ∃ a o, 0 < n → A = some ⟨a, o, none⟩ := by
    by_cases e : 0 < n
    · obtain ⟨a, o, hA, _⟩ := H.out 0 (by rw [← Hn.out]; exact e)
      exact ⟨a, o, fun _ => hA⟩
    · exact ⟨0, 0, fun h => absurd h e⟩
  have HAA := Lib.hid hA
  clear hA
  have HB2 : Below w.heap.size w w2 := bstep hb0 (bstep hb1 hb2)
  have f1 := ((rowsTo_below (rowsTo_below (rowsTo_below (rowsTo_new w2 N L b) (balloc _ (.cells #[.slice (some ⟨w2.heap.size, 0, none⟩) N N] 52))) (balloc _ (.cells #[.int .i64 pN, .int .i64 pT, .int .i64 (L : Int), .int .i64 pW, .int .i64 pS, .int .i64 pR] 23))) (balloc _ (.cells #[.slice A n c] 24))))
  have f2 := ((Boxed.new (w2.alloc (.cells (nilRows N).toArray 24)) 52 (.slice (some ⟨w2.heap.size, 0, none⟩) N N)).alloc (.cells #[.int .i64 pN, .int .i64 pT, .int .i64 (L : Int), .int .i64 pW, .int .i64 pS, .int .i64 pR] 23)).alloc (.cells #[.slice A n c] 24)
  have f3 := (Six.new ((w2.alloc (.cells (nilRows N).toArray 24)).alloc (.cells #[.slice (some ⟨w2.heap.size, 0, none⟩) N N] 52)) ⟨pN, pT, (L : Int), pW, pS, pR⟩).below (balloc _ (.cells #[.slice A n c] 24))
  have f4 := (Boxed.new (((w2.alloc (.cells (nilRows N).toArray 24)).alloc (.cells #[.slice (some ⟨w2.heap.size, 0, none⟩) N N] 52)).alloc (.cells #[.int .i64 pN, .int .i64 pT, .int .i64 (L : Int), .int .i64 pW, .int .i64 pS, .int .i64 pR] 23)) 24 (.slice A n c))
  have f6 : Below w2.heap.size w2 ((((w2.alloc (.cells (nilRows N).toArray 24)).alloc (.cells #[.slice (some ⟨w2.heap.size, 0, none⟩) N N] 52)).alloc (.cells #[.int .i64 pN, .int .i64 pT, .int .i64 (L : Int), .int .i64 pW, .int .i64 pS, .int .i64 pR] 23)).alloc (.cells #[.slice A n c] 24)) :=
    bstep (bstep (bstep (balloc _ _) (balloc _ _)) (balloc _ _)) (balloc _ _)
  have f7 : ((((w2.alloc (.cells (nilRows N).toArray 24)).alloc (.cells #[.slice (some ⟨w2.heap.size, 0, none⟩) N N] 52)).alloc (.cells #[.int .i64 pN, .int .i64 pT, .int .i64 (L : Int), .int .i64 pW, .int .i64 pS, .int .i64 pR] 23)).alloc (.cells #[.slice A n c] 24)).heap.size = w2.heap.size + 4 := by simp
  have f5 := s2.below f6
  simp only [World.size_alloc] at f2 f3 f4
  generalize (((w2.alloc (.cells (nilRows N).toArray 24)).alloc (.cells #[.slice (some ⟨w2.heap.size, 0, none⟩) N N] 52)).alloc (.cells #[.int .i64 pN, .int .i64 pT, .int .i64 (L : Int), .int .i64 pW, .int .i64 pS, .int .i64 pR] 23)).alloc (.cells #[.slice A n c] 24) = W0 at *
  have HB0 : Below w.heap.size w W0 := bstep HB2 f6
  clear s0 s1 s2
  generalize w2.heap.size = g at *
  refine wpIn_rangeFunc_ownG rfl (by omega) (gf := 117) (lb := #[.pointer (some ⟨g + 1 + 1, 0, none⟩), .pointer (some ⟨g + 1 + 1 + 1, 0, none⟩)]) rfl trivial (enters_of Try.func117 (by kernel_rfl) rfl)
    (HI.out _ _ W0 f3 f4.cell a o HAA.out) (fun h k => ⟨k.1.trans h.1, k.2.trans h.2⟩) (fun W l o o' h1 h2 h3 h4 => ⟨World.putObj_heap_other (by omega), World.putObj_heap_other (by omega)⟩) (Below.refl _ _) (fun _ => rfl)
    (fun pre W => RowsTo g N L b pre W ∧ W0.grownBy W (some g))
    (fun c pre W => False)
    (OwnFrom.and (Own.from (rowsTo_own g N L b) _) (ownFrom_grown W0 g))
    (fun c _ _ _ _ h _ _ => h)
    ⟨f1, grow_refl _ _⟩
    (fun x => { tmps := #[.agg #[.int .i64 pN, .int .i64 pT, .int .i64 (L : Int), .int .i64 pW, .int .i64 pS, .int .i64 pR], .slice A n c, .pointer (some ⟨w.heap.size, 0, none⟩), undef, .slice none 0 0, .int .i64 0, .pointer (some ⟨g + 1, 0, none⟩), .int .i64 (x.1 : Nat), part a o n c L x.1,
      .agg #[.int .i64 pN, .int .i64 pT, .int .i64 (L : Int), .int .i64 pW, .int .i64 pS, .int .i64 pR], .bool true, .bool false, .slice A n c, .int .i64 n, .bool (decide (240 < (n : Int))), .agg #[.int .i64 pN, .int .i64 pT, .int .i64 (L : Int), .int .i64 pW, .int .i64 pS, .int .i64 pR], .slice A n c, .int .i64 n, .int .i64 N, .slice (some ⟨g, 0, none⟩) N N,
      .agg #[.int .i64 pN, .int .i64 pT, .int .i64 (L : Int), .int .i64 pW, .int .i64 pS, .int .i64 pR], .slice A n c, .func (.func 117) #[] #[.pointer (some ⟨g + 1 + 1, 0, none⟩), .pointer (some ⟨g + 1 + 1 + 1, 0, none⟩)], .int .i64 (x.1 : Nat), part a o n c L x.1, undef, undef, undef, undef, undef, undef, undef, undef, undef, undef, undef, undef, undef], defers := [] }) ?assign ?body ?done ?stop
  case assign =>
    intro l x W K hK
    gi_wp2
    exact hK
  case body =>
    rintro lp pre x W ⟨hr, hg⟩ hlt
    have cH := grow_cell hg f2.cell (by omega)
    have cL := grow_cell hg f5.c2 (by omega)
    obtain ⟨⟨u, cu⟩, fu⟩ := rowsTo_slot hr x
    have hgs := hg.size
    have hgW : g < W.heap.size := by omega
    have hgW2 : g + 1 < W.heap.size := by omega
    have hgW3 : w.heap.size < W.heap.size := by omega
    have hgW4 : ¬ g = W.heap.size := by omega
    have hmk := fun W => make_u8 L (by omega) W
    obtain ⟨k, hk⟩ := x
    have hkb := HEND.out k hk
    have HR := Lib.hid hr
    have HG := Lib.hid hg
    have hAA := HAA.out (by omega)
    clear hr hg
    simp only at cu fu
    have hszs : (W.setCell ⟨g, k, none⟩ (.slice (some ⟨W.heap.size, 0, none⟩) L L)).heap.size = W.heap.size := by simp [World.setCell]
    have r1 : Row (((W.setCell ⟨g, k, none⟩ (.slice (some ⟨W.heap.size, 0, none⟩) L L)).alloc (.cells (cells (List.replicate L 0)) 5)).drew) W.heap.size (List.replicate L 0) := by
      have := Row.new (W.setCell ⟨g, k, none⟩ (.slice (some ⟨W.heap.size, 0, none⟩) L L)) (List.replicate L 0)
      rw [hszs] at this
      exact this.drew
    have r3 : W.grownBy (((W.setCell ⟨g, k, none⟩ (.slice (some ⟨W.heap.size, 0, none⟩) L L)).alloc (.cells (cells (List.replicate L 0)) 5)).drew) (some g) :=
      grow_trans (grow_set W ⟨g, k, none⟩ _) (grow_trans (grow_mono (World.grownBy_alloc _ _ _)) (grow_draw _ 1 _))
    have r4 : ∀ rs : List Value, W.heap[g]? = some (.cells rs.toArray 24 (0, 0)) → (((W.setCell ⟨g, k, none⟩ (.slice (some ⟨W.heap.size, 0, none⟩) L L)).alloc (.cells (cells (List.replicate L 0)) 5)).drew).heap[g]? = some (.cells (rs.set k (.slice (some ⟨W.heap.size, 0, none⟩) L L)).toArray 24 (0, 0)) := fun rs h => by
      have e : (rs.toArray).setIfInBounds k (.slice (some ⟨W.heap.size, 0, none⟩) L L) = (rs.set k (.slice (some ⟨W.heap.size, 0, none⟩) L L)).toArray := List.setIfInBounds_toArray _ _ _
      refine (Below.heap_alloc _ _ _ (by rw [hszs]; exact hgW)).trans ?_
      simp [World.setCell, Array.getElem?_modify, h, e]
    obtain ⟨S, hS⟩ : ∃ S, S = (b.drop (k * L)).take (min (k * L + L) n - k * L) := ⟨_, rfl⟩
    have hSl : S.length = min (k * L + L) n - k * L := by rw [hS, List.length_take, List.length_drop, ← Hn.out]; omega
    have r2 : BytesAt (((W.setCell ⟨g, k, none⟩ (.slice (some ⟨W.heap.size, 0, none⟩) L L)).alloc (.cells (cells (List.replicate L 0)) 5)).drew) (some ⟨a, o + k * L, none⟩) S := by
      have h1 := H.out.below (below_grow HB0 (grow_trans HG.out r3) (by omega) HB0.size)
      rw [hAA] at h1
      rw [hS]
      exact (h1.drop (k * L)).take _
    have hfit : 0 + min S.length L ≤ (List.replicate L (0 : UInt8)).length := by rw [List.length_replicate]; omega
    have hrow : splice (List.replicate L 0) 0 (S.take L) = row L b k := by rw [hS, Hn.out]; exact row_splice L b k
    have R1 := Lib.hid r1; have R2 := Lib.hid r2; have R3 := Lib.hid r3; have R4 := Lib.hid r4; have HS2 := Lib.hid hSl; have HF := Lib.hid hfit; have HROW := Lib.hid hrow
    clear r1 r2 r3 r4 hSl hfit hrow hS hszs hAA
    gi_wp2_with fail
    gi_region
    all_goals (
      gi_wp2_with (refine wpListIn_copy_u8 rfl (.tmp 34) (.tmp 35) rfl (some ⟨W.heap.size, 0, none⟩) L L (some ⟨a, o + k * L, none⟩) S (min (k * L + L) n - k * L) (c - k * L) rfl rfl HS2.out W.heap.size 0 (List.replicate L 0) R1.out (fun _ => rfl) R2.out HF.out ?_; intro w3 hr3 hg3)
      have hgg := grow_new R3.out hg3 (Nat.le_refl _)
      refine ⟨(KeepsOthers.of_grownBy hgg (fun j o e ho => by cases e; obtain ⟨rs, _, q2, _⟩ := HR.out; rw [q2] at ho; cases ho; rfl)).from _, ⟨hgg.block _ (by omega) (by simp; omega), hgg.block _ (by omega) (by simp; omega)⟩, ?_, grow_trans HG.out hgg⟩
      exact rowsTo_put HR.out ⟨k, hk⟩ (Nat.le_refl _) (fun rs h => (hg3.block g (Nat.lt_of_lt_of_le hgW R3.out.size) (by simp; omega)).trans (R4.out rs h)) hgg (by rw [← HROW.out]; exact hr3))
  case done =>
    rintro D ys W hD rfl ⟨hr, hg⟩ hK
    have cH := grow_cell hg f2.cell (by omega)
    have hr2 := (rowsTo_own g N L b).putObj (.deferred none) hr hK rfl
    have hg2 := (ownFrom_grown W0 g (β := Unit)).putObj (s := ()) (.deferred none) hg hD hK rfl
    have hrows := rowsTo_rows hr2 (by omega)
    have hb := below_grow HB0 hg2 (by omega) HB0.size
    have HROWS := Lib.hid hrows; have HB := Lib.hid hb
    clear hrows hb hr hg hr2 hg2
    gi_wp2
    refine ⟨by simp, .inl ⟨_, _, rfl, run_takeDeferred hK, ?_⟩⟩
    refine ⟨.tuple #[.slice (some ⟨g, 0, none⟩) N N, .int .i64 0], ?_, some ⟨g, 0, none⟩, N, ?_, ?_, ?_, HROWS.out, HB.out, New.at w (by omega)⟩
    · simp [results, Try.f95, go_sem]
    · rw [cutTo_len]
    · rw [cutTo_len]; exact Nat.le_refl _
    · unfold maxLen; omega
  case stop => 
    rintro D c pre W hD hpre h
    exact h.elim
end Go.Proofs.Ytompeiemioeohaa.Stripe

/- package stripe: whether these may be all stripes of a blob -/
set_option maxRecDepth 100000
namespace Go.Proofs.Ytompeiemioeohaa.Stripe
open Go.RowKit PlanM StripeM Plan

/-- are all of one length? -/
def allL (m : List (List UInt8)) (L : Nat) : Bool := m.all fun r => decide (r.length = L)
theorem allL_no {m : List (List UInt8)} {L i : Nat} (hi : i < m.length) (h : m[i].length ≠ L) : allL m L = false := by
  unfold allL
  rw [List.all_eq_false]
  exact ⟨m[i], List.getElem_mem hi, by simpa using h⟩
theorem allL_yes {m : List (List UInt8)} {L : Nat} (h : ∀ i, (hi : i < m.length) → m[i].length = L) : allL m L = true := by
  unfold allL
  refine List.all_eq_true.mpr fun r hr => ?_
  obtain ⟨i, hi, rfl⟩ := List.mem_iff_getElem.mp hr
  exact decide_eq_true (h i hi)

end Go.Proofs.Ytompeiemioeohaa.Stripe

/- package stripe: Join -/
set_option maxRecDepth 100000
namespace Go.Proofs.Ytompeiemioeohaa.Stripe
open Go.RowKit Go.Shelf PlanM StripeM Plan PolyM
attribute [local go_sem] Oper.semAt_some

/-- the bytes of some stripes, the others 0 -/
def joinTo (L : Nat) (l : List (List UInt8)) (n N : Nat) (pre : List (Fin N)) : List UInt8 := tab n fun i => if pre.any (fun x => x.1 == i / L) then byteAt L l i else 0
theorem joinTo_len (L : Nat) (l : List (List UInt8)) (n N : Nat) (pre : List (Fin N)) : (joinTo L l n N pre).length = n := tab_len _ _
theorem joinTo_get (L : Nat) (l : List (List UInt8)) (n N : Nat) (pre : List (Fin N)) (i : Nat) (h : i < (joinTo L l n N pre).length) : (joinTo L l n N pre)[i] = if pre.any (fun x => x.1 == i / L) then byteAt L l i else 0 :=
  tab_get n (fun i => if pre.any (fun x => x.1 == i / L) then byteAt L l i else 0) i h
theorem joinTo_nil (L : Nat) (l : List (List UInt8)) (n N : Nat) : joinTo L l n N [] = List.replicate n 0 := by unfold joinTo; rw [← tab_rep]; exact tab_congr fun i _ => rfl
theorem joinTo_all (L : Nat) (l : List (List UInt8)) (n N : Nat) (hL : 1 ≤ L) (hn : n ≤ N * L) : joinTo L l n N (ks N) = join L l n := by
  unfold joinTo join
  refine tab_congr fun i hi => ?_
  have hk : i / L < N := by rw [Nat.div_lt_iff_lt_mul (by omega)]; omega
  rw [if_pos]
  rw [List.any_eq_true]
  exact ⟨⟨i / L, hk⟩, ks_mem _ _, by simp⟩
theorem joinTo_put (L : Nat) (l : List (List UInt8)) (n N : Nat) (pre : List (Fin N)) (k : Nat) (hk : k < N) (hL : 1 ≤ L) (hkl : k < l.length) (hl : l[k].length = L) (hkn : k * L < n) :
    splice (joinTo L l n N pre) (0 + k * L) (l[k].take (min (k * L + L) n - k * L)) = joinTo L l n N (pre ++ [⟨k, hk⟩]) := by
  obtain ⟨x, hx⟩ : ∃ x, x = k * L := ⟨_, rfl⟩
  have hdiv : ∀ i, i / L = k ↔ (x ≤ i ∧ i < x + L) := fun i => by
    rw [Nat.div_eq_iff (by omega), hx]
    constructor <;> intro h <;> omega
  have hmod : ∀ i, i / L = k → i % L = i - x := fun i h => by
    have := Nat.div_add_mod i L
    rw [h, Nat.mul_comm, ← hx] at this
    omega
  rw [← hx] at hkn ⊢
  rw [Nat.zero_add]
  unfold splice
  refine List.ext_getElem ?_ fun i h1 h2 => ?_
  · simp [joinTo_len]; omega
  · have hin : i < n := by rw [joinTo_len] at h2; exact h2
    have hr : (joinTo L l n N (pre ++ [⟨k, hk⟩]))[i] = if (pre.any fun x => x.1 == i / L) || (k == i / L) then byteAt L l i else 0 := by
      rw [joinTo_get, List.any_append]; simp
    have ho : ∀ h, (joinTo L l n N pre)[i]'h = if pre.any fun x => x.1 == i / L then byteAt L l i else 0 := fun h => joinTo_get _ _ _ _ _ _ h
    rw [hr]
    have hT : ((joinTo L l n N pre).take x).length = x := by rw [List.length_take, joinTo_len]; omega
    have hM : (l[k].take (min (x + L) n - x)).length = min (x + L) n - x := by rw [List.length_take, hl]; omega
    by_cases c1 : i < x
    · rw [List.getElem_append_left (by omega), List.getElem_take, ho]
      have : (k == i / L) = false := by
        rw [beq_eq_false_iff_ne]; intro e; have := (hdiv i).1 e.symm; omega
      rw [this, Bool.or_false]
    · rw [List.getElem_append_right (by omega)]
      by_cases c2 : i < x + L
      · have e := (hdiv i).2 ⟨by omega, c2⟩
        rw [List.getElem_append_left (by omega), List.getElem_take]
        have : (k == i / L) = true := by rw [e]; simp
        rw [this, Bool.or_true, if_pos rfl]
        unfold byteAt
        rw [e, hmod i e, ← List.getElem_eq_getD (h := hkl), co_get _ _ (by omega)]
        congr 1
        omega
      · have : (k == i / L) = false := by
          rw [beq_eq_false_iff_ne]; intro e; have := (hdiv i).1 e.symm; omega
        rw [List.getElem_append_right (by omega), List.getElem_drop]
        have e2 : x + (l[k].take (min (x + L) n - x)).length + (i - ((joinTo L l n N pre).take x).length - (l[k].take (min (x + L) n - x)).length) = i := by omega
        simp only [e2]
        rw [ho, this, Bool.or_false]
theorem row_own {β : Type} (g : Nat) (f : β → List UInt8) : Go.Own (fun (s : β) W => Row W g (f s)) := fun _ _ _ _ h hg hr => (grownBy_keeps_cells hg hr h rfl).trans h

end Go.Proofs.Ytompeiemioeohaa.Stripe

/- the contracts of package stripe -/
set_option maxRecDepth 100000
namespace Go.Proofs.Ytompeiemioeohaa.Stripe
open Go.RowKit Go.Shelf PlanM StripeM Plan
attribute [local go_sem] Oper.semAt_some

theorem cut_arg (p : P) (A : Option Addr) (n c : Nat) (w : World) (hp : p.In) (hM : ¬ p.May) :
    Calls Try.prog 95 #[p.val, .slice A n c] w (RetRowsE w [] 1) := by
  have hR := fun V => Plan.right_any p V hp
  rw [P.right_no hM] at hR
  have s0 := Six.new w p
  clear hM hp
  obtain ⟨pN, pT, pL, pW, pS, pR⟩ := p
  unfold P.val at hR ⊢
  have HR := Lib.hid hR
  clear hR
  have hb0 := balloc w (.cells #[.int .i64 pN, .int .i64 pT, .int .i64 pL, .int .i64 pW, .int .i64 pS, .int .i64 pR] 23)
  refine (callsIn_wide (n := 13)).1 ?_
  refine callsIn_of_wp_marks Try.func95 rfl trivial ?_ rfl
  simp only [Try.ntmps95, List.size_toArray, List.length_cons, List.length_nil, Nat.reduceAdd, Nat.reduceSub, Array.replicate_succ, Array.replicate_zero, List.push_toArray, List.append_toArray, List.nil_append, List.cons_append]
  gi_wp2_with fail
  have c0 := s0.c0; have c1 := s0.c1; have c2 := s0.c2; have c3 := s0.c3; have c4 := s0.c4; have c5 := s0.c5
  generalize w.alloc (.cells #[.int .i64 pN, .int .i64 pT, .int .i64 pL, .int .i64 pW, .int .i64 pS, .int .i64 pR] 23) = w0 at *
  gi_wp2_with fail
  refine ⟨trivial, ?_⟩
  refine (callsIn_wide.2 (HR.out _)).mono ?_
  rintro e w1 ⟨rfl, hb1⟩
  clear c0 c1 c2 c3 c4 c5
  gi_wp2
  refine ⟨.tuple #[.slice none 0 0, .int .i64 1], ?_, none, 0, rfl, Nat.le_refl _, Nat.zero_le _, RowsAt.nil _ _, bstep hb0 hb1, New.none w⟩
  simp [results, Try.f95, go_sem]
theorem cut_big (p : P) (A : Option Addr) (n c : Nat) (w : World) (hp : p.In) (hM : p.May) (hn : 240 < n) :
    Calls Try.prog 95 #[p.val, .slice A n c] w (RetRowsE w [] 7) := by
  have hR := fun V => Plan.right_any p V hp
  rw [P.right_yes hM] at hR
  have s0 := Six.new w p
  clear hM hp
  obtain ⟨pN, pT, pL, pW, pS, pR⟩ := p
  unfold P.val at hR ⊢
  have HR := Lib.hid hR
  clear hR
  have hb0 := balloc w (.cells #[.int .i64 pN, .int .i64 pT, .int .i64 pL, .int .i64 pW, .int .i64 pS, .int .i64 pR] 23)
  refine (callsIn_wide (n := 13)).1 ?_
  refine callsIn_of_wp_marks Try.func95 rfl trivial ?_ rfl
  simp only [Try.ntmps95, List.size_toArray, List.length_cons, List.length_nil, Nat.reduceAdd, Nat.reduceSub, Array.replicate_succ, Array.replicate_zero, List.push_toArray, List.append_toArray, List.nil_append, List.cons_append]
  gi_wp2_with fail
  have c0 := s0.c0; have c1 := s0.c1; have c2 := s0.c2; have c3 := s0.c3; have c4 := s0.c4; have c5 := s0.c5
  generalize w.alloc (.cells #[.int .i64 pN, .int .i64 pT, .int .i64 pL, .int .i64 pW, .int .i64 pS, .int .i64 pR] 23) = w0 at *
  gi_wp2_with fail
  refine ⟨trivial, ?_⟩
  refine (callsIn_wide.2 (HR.out _)).mono ?_
  rintro e w1 ⟨rfl, hb1⟩
  clear c0 c1 c2 c3 c4 c5
  gi_wp2
  refine ⟨.tuple #[.slice none 0 0, .int .i64 7], ?_, none, 0, rfl, Nat.le_refl _, Nat.zero_le _, RowsAt.nil _ _, bstep hb0 hb1, New.none w⟩
  simp [results, Try.f95, go_sem]
theorem cut_any (p : P) (A : Option Addr) (b : List UInt8) (c : Nat) (w : World) (hp : p.In) (h : BytesAt w A b) (hc : b.length ≤ c) (hc2 : c ≤ maxLen) (_hb : b.length ≤ 1048576) :
    Calls Try.prog 95 #[p.val, .slice A b.length c] w (RetRowsE w (cutA p b) (cutE p b)) := by
  by_cases hM : p.May
  · by_cases hn : 240 < b.length
    · have e : cutE p b = 7 := by unfold cutE; rw [P.right_yes hM, if_pos rfl, if_pos hn]
      rw [show cutA p b = [] from by unfold cutA; rw [e]; rfl, e]
      exact cut_big p A b.length c w hp hM hn
    · have e : cutE p b = 0 := by unfold cutE; rw [P.right_yes hM, if_pos rfl, if_neg hn]
      rw [show cutA p b = cut p b from by unfold cutA; rw [e]; rfl, e]
      exact cut_all p A b c w hp hM h hc hc2 (by omega)
  · have e : cutE p b = 1 := by unfold cutE; rw [P.right_no hM]; rfl
    rw [show cutA p b = [] from by unfold cutA; rw [e]; rfl, e]
    exact cut_arg p A b.length c w hp hM
end Go.Proofs.Ytompeiemioeohaa.Stripe
