/- merged: EntG, EntH, EntI -/
import Derived.Test.YtnjghhkebcojnaaMEN
import Derived.Test.YtnjghhkebcojnaaSeqs
import Derived.Test.YtnjghhkebcojnaaFlow
import Derived.Test.YtnjghhkebcojnaaDrawnIn
import Derived.Test.YtnjghhkebcojnaaRowsN

/- package entry: bodies of a text, one behind the other: slices.Chunk, bodies -/
set_option maxRecDepth 100000
namespace Go.Proofs.Ytnjghhkebcojnaa.Entry
open Go.RowKit Go.Shelf EntM Seqs
attribute [local go_sem] Oper.semAt_some

/-- all chunks' numbers -/
def nums (N : Nat) : List (Fin N) := List.ofFn fun i : Fin N => i
theorem nums_len (N : Nat) : (nums N).length = N := by unfold nums; simp
theorem nums_take (N k : Nat) (h : k < N) : (nums N).take (k + 1) = (nums N).take k ++ [⟨k, h⟩] := by
  have hp : k < (nums N).length := by rw [nums_len]; exact h
  rw [List.take_succ_eq_append_getElem hp]
  have e : (nums N)[k] = ⟨k, h⟩ := by simp [nums]
  rw [e]
/-- what Chunk hands on of chunk k -/
def chunkV (a o n k : Nat) : Value := .slice (some ⟨a, o + k * 58, none⟩) (min 58 (n - k * 58)) (min 58 (n - k * 58))
abbrev KeptC (g1 g2 : Nat) (W W' : World) : Prop := W'.heap[g1]? = W.heap[g1]? ∧ W'.heap[g2]? = W.heap[g2]?
set_option maxHeartbeats 1000000 in
theorem chunk1_in (m l g1 g2 : Nat) (A : Option Addr) (n c a o N : Nat) (hm : 1 ≤ m) (hN : N = (n + 57) / 58) (hA : 0 < n → A = some ⟨a, o, none⟩) (hn : n ≤ 1048576) (hc : n ≤ c) (_hc2 : c ≤ maxLen)
    (J Jx : List (Fin N) → World → Prop) (W : World) (hJ : AbidesFrom W.heap.size J)
    (hY : ∀ pre x W, J pre W → pre.length < N → YieldAt Fence.wide (m - 1) Try.prog l #[chunkV a o n x.1] W fun e W' =>
      (e = .returned (.bool true) ∧ J (pre ++ [x]) W' ∧ KeptC g1 g2 W W') ∨ (e = .returned (.bool false) ∧ Jx (pre ++ [x]) W'))
    (hb1 : W.cell? ⟨g1, 0, none⟩ = some (.slice A n c)) (hb2 : W.cell? ⟨g2, 0, none⟩ = some (.int .i64 58)) (h0 : J [] W) :
    CallsIn Fence.wide m Try.prog 66 #[.func (.yield l) #[] #[], .pointer (some ⟨g1, 0, none⟩), .pointer (some ⟨g2, 0, none⟩)] W fun e W' => (∃ v, e = .returned v) ∧
      ((∃ ys, ys = nums N ∧ J ys W') ∨ (∃ pre, pre <+: nums N ∧ Jx pre W')) := by
  have HY := Lib.hid hY; have HA := Lib.hid hA; have HJ := Lib.hid hJ; have HB1 := Lib.hid hb1; have HB2 := Lib.hid hb2
  have HEND : Hid (∀ k, k < N ↔ k * 58 < n) := Lib.hid fun k => by omega
  have hN2 : N ≤ 20000 := by omega
  clear hY hA hJ hb1 hb2 hN
  unfold maxLen at _hc2
  refine callsIn_of_wp Try.func66 rfl trivial ?_ rfl
  simp only [Try.ntmps66, List.size_toArray, List.length_cons, List.length_nil, Nat.reduceAdd, Nat.reduceSub, Array.replicate_succ, Array.replicate_zero, List.push_toArray, List.append_toArray, List.nil_append, List.cons_append]
  gi_wp2
  gi_loopw [4] (fun i wr => ∃ k : Nat, k ≤ N ∧ i = .int .i64 ((k * 58 : Nat) : Int) ∧ J ((nums N).take k) wr ∧ KeptC g1 g2 W wr)
    (fun i _ => 1160001 - (intOf i).toNat)
  case atStart => exact ⟨0, Nat.zero_le _, rfl, h0, rfl, rfl⟩
  case round =>
    obtain ⟨k, hk, rfl, hJ2, hk1, hk2⟩ := hrel
    rename World => w2
    have HJ2 := Lib.hid hJ2
    clear hJ2 h0
    have d1 : w2.cell? ⟨g1, 0, none⟩ = some (.slice A n c) := by rw [← HB1.out]; exact World.cell?_of_block (w := W) hk1
    have d2 : w2.cell? ⟨g2, 0, none⟩ = some (.int .i64 58) := by rw [← HB2.out]; exact World.cell?_of_block (w := W) hk2
    have hke := HEND.out k
    by_cases hlt : k < N
    · have hkn := hke.1 hlt
      have hlen : ((nums N).take k).length = k := by rw [List.length_take, nums_len]; omega
      have hA2 := HA.out (by omega)
      subst hA2
      have HY2 := Lib.hid (fun W' h => HY.out _ ⟨k, hlt⟩ W' h (by rw [hlen]; exact hlt))
      rw [← nums_take] at HY2
      obtain ⟨x, hx⟩ : ∃ x, x = k * 58 := ⟨_, rfl⟩
      obtain ⟨z, hz⟩ : ∃ z, z = min 58 (n - x) := ⟨_, rfl⟩
      have hcv : chunkV a o n k = .slice (some ⟨a, o + x, none⟩) z z := by unfold chunkV; rw [← hx, hz]
      rw [hcv] at HY2
      have i4 : min (58 : Int) ((n : Int) - x) = (z : Int) := by omega
      have HX := Lib.hid hx
      rw [← hx] at hkn ⊢
      have hcx : ¬ c = x := by omega
      have hz1 : 1 ≤ z ∧ z ≤ 58 ∧ x + z ≤ n := by omega
      clear hx hz hcv hke hlen
      have i5 : min (58 : Int) ((n - x : Nat) : Int) = (z : Int) := by omega
      gi_wp2_with fail
      gi_region
      have hJ3 : J ((nums N).take k) w2.drew := HJ.out _ _ _ none HJ2.out ⟨rfl, rfl, rfl, Nat.le_refl _, fun _ _ _ => rfl⟩ (fun r e => by cases e)
      have e1 : w2.drew.heap[g1]? = W.heap[g1]? := hk1
      have e2 : w2.drew.heap[g2]? = W.heap[g2]? := hk2
      have d3 : w2.drew.cell? ⟨g1, 0, none⟩ = some (.slice (some ⟨a, o, none⟩) n c) := d1
      have d4 : w2.drew.cell? ⟨g2, 0, none⟩ = some (.int .i64 58) := d2
      generalize w2.drew = w3 at *
      obtain ⟨fn, tmps, assign, body, hy, hR⟩ := HY2.out w3 hJ3
      have HR := Lib.hid hR
      have i6 : IntKind.i64.wrap ((x : Int) + z) = (x : Int) + z := IntWalk.i64_in _ (by omega)
      clear hR hJ3 d1 d2 hk1 hk2 i4 i5 HJ2 HY2
      gi_wp2_with fail
      refine HR.out.mono ?_
      rintro e w4 (⟨rfl, hJ4, hk4⟩ | ⟨rfl, hJ4⟩)
      · have HJ4 := Lib.hid hJ4
        have f2 : w4.cell? ⟨g2, 0, none⟩ = some (.int .i64 58) := by rw [← d4]; exact World.cell?_of_block (w := w3) hk4.2
        clear hJ4 hy d3 d4
        gi_wp2
        go_roundw
        case rel => exact ⟨k + 1, by omega, by rw [HX.out]; go_num, HJ4.out, hk4.1.trans e1, hk4.2.trans e2⟩
        case measure => simp [intOf] <;> omega
      · have HJ4 := Lib.hid hJ4
        clear hJ4 hy
        gi_wp2
        refine bodyPost_ret (results_none rfl _ _ _) rfl ?_
        exact ⟨⟨_, rfl⟩, .inr ⟨_, List.take_prefix _ _, HJ4.out⟩⟩
    · obtain rfl : k = N := by omega
      have hJ3 := HJ2.out
      rw [List.take_of_length_le (by rw [nums_len]; omega)] at hJ3
      have HJ3 := Lib.hid hJ3
      have hge : ¬ ((k * 58 : Nat) : Int) < (n : Int) := by omega
      clear hJ3
      generalize k * 58 = x at *
      gi_wp2
      go_end0
      exact ⟨⟨_, rfl⟩, .inl (by first | exact HJ3.out | exact ⟨_, rfl, HJ3.out⟩)⟩
end Go.Proofs.Ytnjghhkebcojnaa.Entry

/- package entry: bodies, an iterator over another one -/
set_option maxRecDepth 100000
namespace Go.Proofs.Ytnjghhkebcojnaa.Entry
open Go.RowKit Go.Shelf EntM Seqs
attribute [local go_sem] Oper.semAt_some

theorem chunk_in (m : Nat) (A : Option Addr) (n c : Nat) (w : World) :
    CallsIn Fence.wide m Try.prog 52 #[.slice A n c, .int .i64 58] w fun e w' => e = .returned (.func (.func 66) #[] #[.pointer (some ⟨w.heap.size, 0, none⟩), .pointer (some ⟨w.heap.size + 1, 0, none⟩)]) ∧
      w' = (w.alloc (.cells #[.slice A n c] 22)).alloc (.cells #[.int .i64 58] 3) := by
  refine callsIn_of_wp Try.func52 rfl trivial ?_ rfl
  simp only [Try.ntmps52, List.size_toArray, List.length_cons, List.length_nil, Nat.reduceAdd, Nat.reduceSub, Array.replicate_succ, Array.replicate_zero, List.push_toArray, List.append_toArray, List.nil_append, List.cons_append]
  gi_wp2
  go_ret
  exact ⟨rfl, rfl⟩
theorem chunk_stops (m g1 g2 : Nat) (A : Option Addr) (n c a o N : Nat) (hm : 1 ≤ m) (hN : N = (n + 57) / 58) (hA : 0 < n → A = some ⟨a, o, none⟩) (hn : n ≤ 1048576) (hc : n ≤ c) (hc2 : c ≤ maxLen)
    (w : World) (hb1 : w.cell? ⟨g1, 0, none⟩ = some (.slice A n c)) (hb2 : w.cell? ⟨g2, 0, none⟩ = some (.int .i64 58)) :
    SeqStopsK Fence.wide m Try.prog 66 #[.pointer (some ⟨g1, 0, none⟩), .pointer (some ⟨g2, 0, none⟩)] (fun x : Fin N => #[chunkV a o n x.1]) (KeptC g1 g2) (fun ys => ys = nums N) (fun pre => pre <+: nums N) N w :=
  fun l J Jx W hW hJ _ hY h0 => chunk1_in m l g1 g2 A n c a o N hm hN hA hn hc hc2 J Jx W hJ hY ((hW.cell (p := ⟨g1, 0, none⟩) (cell_lt hb1)).trans hb1) ((hW.cell (p := ⟨g2, 0, none⟩) (cell_lt hb2)).trans hb2) h0

/-- a body that is handed on: where it lies, and its bytes -/
structure Bd where
  A : Option Addr
  c : Nat
  l : List UInt8
def Bd.at_ (x : Bd) (V : World) : Prop := x.l.length ≤ x.c ∧ x.c ≤ maxLen ∧ BytesAt V x.A x.l
def Bd.encs (x : Bd) : Array Value := #[.slice x.A x.l.length x.c]
/-- the blocks that a text's bodies are read from -/
def Txt (tb : Nat) (A : Option Addr) (b : List UInt8) (k : Nat) : Prop := k = tb ∨ (0 < b.length ∧ ∃ a, A = some a ∧ k = a.block)
def bodiesL (b : List UInt8) (n : Nat) : List (List UInt8) := (List.range n).map (body_ b)
/-- a body whose number and chunk are whatever they are -/
def bodyP (b : List UInt8) (i k : Nat) : List UInt8 := [98, UInt8.ofNat i] ++ chunk b k
def bodiesP (b : List UInt8) {N : Nat} (pre : List (Fin N)) : List (List UInt8) := pre.mapIdx fun i x => bodyP b i x.1
theorem bodiesP_snoc (b : List UInt8) {N : Nat} (pre : List (Fin N)) (x : Fin N) : bodiesP b (pre ++ [x]) = bodiesP b pre ++ [bodyP b pre.length x.1] := by
  unfold bodiesP; rw [List.mapIdx_append]; simp
theorem bodiesP_all (b : List UInt8) (N : Nat) : bodiesP b (nums N) = bodiesL b N := by
  unfold bodiesP bodiesL nums
  apply List.ext_getElem
  · simp
  · intro i h1 h2
    simp
    rfl
theorem body_is (b : List UInt8) (k x : Nat) (hk : k < 256) : PackM.numB 1 98 ++ PackM.numB 1 (k : Nat) ++ chunk b x = bodyP b k x := by
  have h1 : PackM.numB 1 98 = [98] := by decide
  have h2 : PackM.numB 1 (k : Nat) = [UInt8.ofNat k] := by
    unfold PackM.numB
    rw [show PackM.wid 1 = 1 from rfl, Int.toNat_natCast]
    unfold PackM.be
    simp [PackM.be]
    rw [Nat.mod_eq_of_lt (by omega)]
  rw [h1, h2]; rfl
/-- between two rounds of the loop over chunks: what came, the iterator's blocks, what they hold -/
structure Bdy (W : World) (l : Nat) (J : List Bd → (Nat → Prop) → World → Prop) (tb yb nb c1 c2 s0 : Nat) (A : Option Addr) (b : List UInt8) (c : Nat) (ls : List (List UInt8)) (k : Nat) (V : World) : Prop where
  had : ∃ (xs : List Bd) (T : Nat → Prop), xs.map Bd.l = ls ∧ xs.length = k ∧ J xs T V ∧ T yb ∧ T nb ∧ T c1 ∧ T c2
  yb : Boxed V yb 95 (.func (.yield l) #[] #[])
  nb : Boxed V nb 3 (.int .i64 (k : Nat))
  tb : V.cell? ⟨tb, 0, none⟩ = some (.slice A b.length c)
  text : BytesAt V A b
  size : s0 ≤ V.heap.size
theorem boxed_below {V V' : World} {B : Nat} {t : TypeId} {v : Value} (h : Boxed V B t v) (hb : Below V.heap.size V V') : Boxed V' B t v := (hb.block B h.lt).trans h
theorem boxed_keep {K : Nat → Prop} {V V' : World} {B : Nat} {t : TypeId} {v : Value} (h : Boxed V B t v) (hk : Keeps K V V') (hn : ¬ K B) : Boxed V' B t v := (hk.block B h.lt hn).trans h
theorem keepsFrom_below {B : Nat} {V V' : World} (hb : Below V.heap.size V V') : KeepsFrom B V V' := ⟨hb.size, fun k _ _ h _ => (hb.block k (Array.getElem?_eq_some_iff.1 h).1).trans h⟩
theorem keepsFrom_mono {B B' : Nat} {V V' : World} (h : KeepsFrom B V V') (hB : B ≤ B') : KeepsFrom B' V V' := ⟨h.size, fun k o hk h1 h2 => h.same k o (by omega) h1 h2⟩
theorem Bdy.own {W : World} {l : Nat} {J : List Bd → (Nat → Prop) → World → Prop} {tb yb nb c1 c2 s0 B : Nat} {A : Option Addr} {b : List UInt8} {c : Nat} (hJ : ∀ T, OwnFrom W.heap.size (fun s V => J s T V)) (hB : W.heap.size ≤ B) : OwnFrom B (fun (pre : List (Fin (bodies b))) V => Bdy W l J tb yb nb c1 c2 s0 A b c (bodiesP b pre) pre.length V) := fun s X Y row h hg hr => by
  obtain ⟨⟨xs, T, h1, h1', h2, h3⟩, h4, h5, h6, h7, h8⟩ := h
  have hr2 : ∀ r, row = some r → ∃ o : Obj, X.heap[r]? = some o ∧ o.isCells = false := fun r e => (hr r e).2
  refine ⟨⟨xs, T, h1, h1', hJ T xs X Y row h2 hg (fun r e => ⟨by have := (hr r e).1; omega, (hr r e).2⟩), h3⟩, ?_, ?_, cell_kept h6 hg hr2, fun i hi => ?_, Nat.le_trans h8 hg.size⟩
  · exact (grownBy_keeps_cells hg hr2 h4 rfl).trans h4
  · exact (grownBy_keeps_cells hg hr2 h5 rfl).trans h5
  · obtain ⟨x, y, e, hc⟩ := h7 i hi
    exact ⟨x, y, e, cell_kept hc hg hr2⟩
end Go.Proofs.Ytnjghhkebcojnaa.Entry

/- package entry: Put -/
set_option maxRecDepth 100000
namespace Go.Proofs.Ytnjghhkebcojnaa.Entry
open Go.RowKit Go.Shelf EntM Seqs
attribute [local go_sem] Oper.semAt_some

section
variable {w w' : World} {base : Nat} {T : Nat → Prop} {v : Value} {m : List (List UInt8)}
theorem OwnT_joined (h : OwnT w base T v m) (q : Keeps T w w') : OwnT w' base (Seqs.plus T w w') v m :=
  (h.more (T' := Seqs.plus T w w') fun k hk => by
    rcases hk with hk | hk
    · exact .inl hk
    · exact .inr hk.1).keep q fun _ h => .inl h
end
theorem _root_.Go.Proofs.Ytnjghhkebcojnaa.OwnT.grown {w w' : World} {base : Nat} {T : Nat → Prop} {v : Value} {m : List (List UInt8)} {row : Option Nat} (h : OwnT w base T v m) (hg : w.grownBy w' row) (hr : ∀ r, row = some r → ∃ o : Obj, w.heap[r]? = some o ∧ o.isCells = false) : OwnT w' base T v m := by
  obtain ⟨vs, h1, h2, h3⟩ := h
  refine ⟨vs, ⟨h1.1, ?_⟩, h2, fun i hi => ?_⟩
  · rcases h1.2 with h | ⟨g, cap, cur, k1, k2, k3, k4⟩
    · exact .inl h
    · exact .inr ⟨g, cap, cur, k1, k2, (grownBy_keeps_cells hg hr k3 rfl).trans k3, k4⟩
  · obtain ⟨A, c, k1, k2, k3, k4, k5⟩ := h3 i hi
    refine ⟨A, c, k1, k2, k3, fun j hj => ?_, k5⟩
    obtain ⟨x, y, e, hc⟩ := k4 j hj
    exact ⟨x, y, e, cell_kept hc hg hr⟩
theorem _root_.Go.Proofs.Ytnjghhkebcojnaa.OwnT.form {w : World} {base : Nat} {T : Nat → Prop} {v : Value} {m : List (List UInt8)} (h : OwnT w base T v m) (h0 : 0 < m.length) : ∃ g cap, v = .slice (some ⟨g, 0, none⟩) m.length cap ∧ base ≤ g ∧ g < w.heap.size ∧ ¬ T g := by
  have hlt := h.ownM.ownlt
  obtain ⟨vs, h1, h2, _⟩ := h
  rcases h1.2 with ⟨_, hn⟩ | ⟨g, cap, cur, rfl, k2, k3, k4⟩
  · omega
  · exact ⟨g, cap, rfl, k2, (hlt g rfl).2, h2 g rfl⟩
theorem wpListIn_append_rowT {F : Fence} {n : Nat} {ops : Array Oper} {rest : List Oper} {o : Oper} {a : Act} {w : World} {Q : Exit → Act → World → Prop} (hgd : o.guard = none) (s x : Operand)
    (ho : o.op = .call { callee := .builtin .append, args := #[s, x], argTypes := #[25, 25] })
    (base : Nat) (T : Nat → Prop) (v : Value) (m : List (List UInt8)) (hs : a.eval s = v) (hown : OwnT w base T v m) (g c : Nat) (r : List UInt8) (A : Option Addr) (cr : Nat) (hx : a.eval x = .slice (some ⟨g, 0, none⟩) 1 c)
    (hc : w.cell? ⟨g, 0, none⟩ = some (.slice A r.length cr)) (h1 : r.length ≤ cr) (h2 : cr ≤ maxLen) (hr : BytesAt w A r) (hne : 0 < r.length → ∀ a, A = some a → v.ownBlock ≠ some a.block ∧ ¬ T a.block)
    (hT : ∀ k, T k → k < w.heap.size) (hl : m.length < 1099511627776) (hbase : base ≤ w.heap.size)
    (h : ∀ v' w', OwnT w' base T v' (m ++ [r]) → w.grownBy w' v.ownBlock → (v'.ownBlock = v.ownBlock ∨ v'.ownBlock = some w.heap.size) → wpListIn F n Try.prog ops Q rest (a.put o.dst v') w') : wpListIn F n Try.prog ops Q (o :: rest) a w := by
  obtain ⟨v', w', hrun, k2, k3, k4⟩ := run_append_rowT w o.type base T v m hown g c r A cr hc h1 h2 hr hne hT hl hbase
  refine wpListIn_plain hgd fun K hK' => ?_
  unfold Oper.wpIn
  refine ⟨?_, ?_⟩
  · simp [Oper.about, ho, resolve, Target.leads, Sem.run_pure]
  · rw [Oper.semAt_plain F _ _ (by rw [ho]; intro c hc'; cases hc')]
    simp [execOp, ho, resolve, invoke, builtin, hs, hx, hrun, Result.andThen]
    exact hK' _ _ (h v' w' k2 k3 k4)
/-- a call that hands back sectors and a number -/
def RetPut (w : World) (m : List (List UInt8)) (n : Int) (e : Ending) (w' : World) : Prop :=
  ∃ X d, e = .returned (.tuple #[.slice X m.length d, .int .i64 n]) ∧ m.length ≤ d ∧ d ≤ maxLen ∧ RowsAt w' X m ∧ Below w.heap.size w w'
/-- the same, and that the sectors' bytes are new -/
def RetPutN (w : World) (m : List (List UInt8)) (n : Int) (e : Ending) (w' : World) : Prop :=
  ∃ X d, e = .returned (.tuple #[.slice X m.length d, .int .i64 n]) ∧ m.length ≤ d ∧ d ≤ maxLen ∧ RowsP (fun k => w.heap.size ≤ k) w' X m ∧ Below w.heap.size w w'
/-- a literal of one row -/
theorem ownM_lit (w : World) (B : Nat) (hB : B ≤ w.heap.size) (r : List UInt8) (A : Option Addr) (c : Nat) (h1 : r.length ≤ c) (h2 : c ≤ maxLen) (hr : BytesAt w A r) : OwnM (w.alloc (.cells #[.slice A r.length c] 22)) B (.slice (some ⟨w.heap.size, 0, none⟩) 1 1) [r] :=
  ⟨[.slice A r.length c], ⟨rfl, .inr ⟨w.heap.size, 1, #[.slice A r.length c], rfl, hB, heap_alloc_new w _, Nat.le_refl _, by unfold maxLen; omega, rfl, rfl⟩⟩, fun i hi => by
    obtain rfl : i = 0 := by simp at hi; omega
    exact ⟨_, A, c, rfl, rfl, h1, h2, hr.alloc _, fun h0 a e e2 => by have := hr.lt h0 a e; injection e2 with e2; simp only at e2; omega⟩⟩
theorem boxed_far {w : World} {g : Nat} {ty : TypeId} {X : Option Addr} {n d : Nat} (h : Boxed w g ty (.slice X n d)) {A : Option Addr} {l : List UInt8} (hA : BytesAt w A l) (h0 : 0 < l.length) : ∀ a, A = some a → a.block ≠ g := fun a e e' => by
  obtain ⟨b, o, e2, hc⟩ := hA 0 h0
  subst e
  injection e2 with e2
  subst e2
  simp only at e'
  subst e'
  rw [cell_of_row w b (o + 0) _ ty (0, 0) h] at hc
  rcases Nat.eq_zero_or_pos o with ho | ho
  · subst ho; simp at hc
  · rw [Array.getElem?_eq_none (by simp; omega)] at hc; cases hc
/-- a store into a box of a list leaves what was gathered -/
theorem _root_.Go.Proofs.Ytnjghhkebcojnaa.OwnT.setBox {w : World} {base g : Nat} {T : Nat → Prop} {v : Value} {m : List (List UInt8)} {ty : TypeId} {X : Option Addr} {n d : Nat} (h : OwnT w base T v m) (hb : Boxed w g ty (.slice X n d)) (hv : v.ownBlock ≠ some g) (u : Value) : OwnT (w.setCell ⟨g, 0, none⟩ u) base T v m := by
  obtain ⟨vs, h1, h2, h3⟩ := h
  refine ⟨vs, ownsRow_keep h1 (.set (fun k => k = g) w ⟨g, 0, none⟩ u rfl) (fun k hk e => hv (by rw [hk, e])), h2, fun i hi => ?_⟩
  obtain ⟨A, c, k1, k2, k3, k4, k5⟩ := h3 i hi
  exact ⟨A, c, k1, k2, k3, k4.far' _ _ (fun h0 a e => boxed_far hb k4 h0 a e), k5⟩
theorem _root_.Go.Proofs.Ytnjghhkebcojnaa.OwnT.cells {w : World} {base : Nat} {T : Nat → Prop} {v : Value} {m : List (List UInt8)} (h : OwnT w base T v m) : ∀ j, v.ownBlock = some j → ∀ o : Obj, w.heap[j]? = some o → o.isCells = true := fun j hj o ho => by
  obtain ⟨vs, h1, _⟩ := h
  rcases h1.2 with ⟨e, _⟩ | ⟨g, cap, cur, e, _, hh, _⟩
  · rw [e] at hj; cases hj
  · rw [e] at hj
    injection hj with hj
    simp only at hj
    subst hj
    rw [hh] at ho
    injection ho with ho
    subst ho
    rfl
/-- between two rounds of Put's loop: what lies in the box, and that nothing of before was touched -/
structure Pt (w2 : World) (g tb : Nat) (Z : List UInt8) (xs : List Bd) (T : Nat → Prop) (V : World) : Prop where
  box : ∃ X d, Boxed V g 25 (.slice X (xs.length + 1) d) ∧ OwnT V w2.heap.size (fun k => T k ∨ (k = tb ∨ k < w2.heap.size)) (.slice X (xs.length + 1) d) (Z :: xs.map fun x => Sector.sealOf x.l) ∧ d ≤ maxLen ∧ xs.length + 1 ≤ d
  below : Below w2.heap.size w2 V
  ne : w2.heap.size ≤ g
  tl : tb < V.heap.size
theorem Pt.grown {w2 : World} {g tb : Nat} {Z : List UInt8} {xs : List Bd} {T : Nat → Prop} {V V' : World} {row : Option Nat} (h : Pt w2 g tb Z xs T V) (hg : V.grownBy V' row) (hr : ∀ r, row = some r → w2.heap.size ≤ r ∧ ∃ o : Obj, V.heap[r]? = some o ∧ o.isCells = false) : Pt w2 g tb Z xs T V' := by
  obtain ⟨⟨X, d, h1, h2, h3⟩, h4, h5, h6⟩ := h
  have hr2 : ∀ r, row = some r → ∃ o : Obj, V.heap[r]? = some o ∧ o.isCells = false := fun r e => (hr r e).2
  exact ⟨⟨X, d, (grownBy_keeps_cells hg hr2 h1 rfl).trans h1, h2.grown hg hr2, h3⟩, h4.grown hg h4.size (fun k e => (hr k e).1), h5, Nat.lt_of_lt_of_le h6 hg.size⟩
theorem Pt.joined {w2 : World} {g tb : Nat} {Z : List UInt8} {xs : List Bd} {T : Nat → Prop} {V V' : World} (h : Pt w2 g tb Z xs T V) (hT : ∀ k, T k → w2.heap.size ≤ k) (hg : ¬ T g) (q : Keeps T V V') : Pt w2 g tb Z xs (Seqs.plus T V V') V' := by
  obtain ⟨⟨X, d, h1, h2, h3⟩, h4, h5, h6⟩ := h
  exact ⟨⟨X, d, boxed_keep h1 q hg, (h2.more (T' := fun k => Seqs.plus T V V' k ∨ (k = tb ∨ k < w2.heap.size)) fun k hk => by
    rcases hk with (hk | hk) | hk
    · exact .inl (.inl hk)
    · exact .inr hk.1
    · exact .inl (.inr hk)).keep q (fun _ h => .inl (.inl h)), h3⟩, below_keeps h4 q (fun k hk => hT k hk) h4.size, h5, Nat.lt_of_lt_of_le h6 q.size⟩
/-- boxes of lists, of lists of lists -/
def SP.ownN (B : Nat) (m : List (List UInt8)) : Drawn.SP := ⟨fun v w => ∃ u, v = u ∧ OwnT w B (fun k => k < B) u m, fun _ _ _ h hb => by
  obtain ⟨u, h1, h2⟩ := h
  exact ⟨u, h1, h2.below hb⟩⟩
def boxOf (w : World) (g : Nat) : Prop := w.heap[g]? = some (.cells #[.slice none 0 0] 25 (0, 0))
theorem boxOf.far {w : World} {g : Nat} (h : boxOf w g) {A : Option Addr} {l : List UInt8} (hA : BytesAt w A l) (h0 : 0 < l.length) : ∀ a, A = some a → a.block ≠ g := fun a e e' => by
  obtain ⟨b, o, e2, hc⟩ := hA 0 h0
  subst e
  injection e2 with e2
  subst e2
  simp only at e'
  subst e'
  rw [cell_of_row w b (o + 0) _ 25 (0, 0) h] at hc
  rcases Nat.eq_zero_or_pos o with ho | ho
  · subst ho; simp at hc
  · rw [Array.getElem?_eq_none (by simp; omega)] at hc; cases hc
/-- a list gathered lies apart from such a box -/
theorem with_box {w : World} {base g : Nat} {T : Nat → Prop} {v : Value} {m : List (List UInt8)} (h : OwnT w base T v m) (hb : boxOf w g) : OwnT w base (fun k => k = g ∨ T k) v m := by
  obtain ⟨vs, h1, hv, h2⟩ := h
  refine ⟨vs, h1, fun k hk e => ?_, fun i hi => ?_⟩
  · rcases e with e | e
    · subst e
      rcases h1.2 with ⟨e, _⟩ | ⟨g', cap', cur, e, _, hh, _⟩
      · rw [e] at hk; cases hk
      · rw [e] at hk
        injection hk with hk
        subst hk
        rw [show w.heap[_]? = _ from hb] at hh
        injection hh with hh
        injection hh with _ hh
        cases hh
    · exact hv k hk e
  · obtain ⟨A, c, k1, k3, k4, k5, k6⟩ := h2 i hi
    exact ⟨A, c, k1, k3, k4, k5, fun h0 a e => ⟨(k6 h0 a e).1, fun h => by
      rcases h with h | h
      · exact hb.far k5 h0 a e h
      · exact (k6 h0 a e).2 h⟩⟩
/-- bytes in new memory; a literal of one such row -/
def SP.bytesN (B : Nat) (l : List UInt8) : Drawn.SP := ⟨fun v w => ∃ X d, v = .slice X l.length d ∧ l.length ≤ d ∧ d ≤ maxLen ∧ BytesAt w X l ∧ ∀ a, X = some a → B ≤ a.block, fun _ _ _ h hb => by
  obtain ⟨X, d, h1, h2, h3, h4, h5⟩ := h
  exact ⟨X, d, h1, h2, h3, h4.below hb, h5⟩⟩
def SP.litN (B : Nat) (l : List UInt8) : Drawn.SP := ⟨fun v w => ∃ g X d, v = .slice (some ⟨g, 0, none⟩) 1 1 ∧ w.cell? ⟨g, 0, none⟩ = some (.slice X l.length d) ∧ l.length ≤ d ∧ d ≤ maxLen ∧ BytesAt w X l ∧ ∀ a, X = some a → B ≤ a.block, fun _ _ _ h hb => by
  obtain ⟨g, X, d, h1, h2, h3, h4, h5, h6⟩ := h
  exact ⟨g, X, d, h1, (hb.cell (p := ⟨g, 0, none⟩) (cell_lt h2)).trans h2, h3, h4, h5.below hb, h6⟩⟩
theorem lit1_cell (w : World) (v : Value) (t : TypeId) : (w.alloc (.cells #[v] t)).cell? ⟨w.heap.size, 0, none⟩ = some v := by simp
def SP.boxM (B : Nat) : Drawn.SP := ⟨fun v w => ∃ g, v = .pointer (some ⟨g, 0, none⟩) ∧ boxOf w g ∧ B ≤ g, fun _ _ _ h hb => by
  obtain ⟨g, h1, h2, h3⟩ := h
  exact ⟨g, h1, (hb.block g (Array.getElem?_eq_some_iff.1 h2).1).trans h2, h3⟩⟩
end Go.Proofs.Ytnjghhkebcojnaa.Entry
