/- merged: EntG, EntH, EntI, EntJ -/
import Derived.Test.YtapgpibindhlfaaMEN
import Derived.Test.YtapgpibindhlfaaSeqs
import Derived.Test.YtapgpibindhlfaaFlow
import Derived.Test.YtapgpibindhlfaaDrawnIn
import Derived.Test.YtapgpibindhlfaaRowsN

/- package entry: bodies of a text, one behind the other: slices.Chunk, bodies -/
set_option maxRecDepth 100000
namespace Go.Proofs.Ytapgpibindhlfaa.Entry
open Go.RowKit Go.Shelf EntM Seqs
attribute [local go_sem] Oper.semAt_some

/-- all chunks' numbers -/
def nums (N : Nat) : List (Fin N) := List.ofFn fun i : Fin N => i
theorem nums_len (N : Nat) : (nums N).length = N := by unfold nums; simp
theorem nums_take (N k : Nat) (h : k < N) : (nums N).take (k + 1) = (nums N).take k ++ [⟨k, h⟩] := by
  have hp : k < (nums N).length := by rw [nums_len]; exact h
  rw [List.take_succ_eq_append_getElem hp]
  have e : (nums N)[k] = ⟨k, h⟩ := by simp [nums]
  rw [e]
/-- what Chunk hands on of chunk k -/
def chunkV (a o n k : Nat) : Value := .slice (some ⟨a, o + k * 58, none⟩) (min 58 (n - k * 58)) (min 58 (n - k * 58))
abbrev KeptC (g1 g2 : Nat) (W W' : World) : Prop := W'.heap[g1]? = W.heap[g1]? ∧ W'.heap[g2]? = W.heap[g2]?
set_option maxHeartbeats 1000000 in
theorem chunk1_in (m l g1 g2 : Nat) (A : Option Addr) (n c a o N : Nat) (hm : 1 ≤ m) (hN : N = (n + 57) / 58) (hA : 0 < n → A = some ⟨a, o, none⟩) (hn : n ≤ 1048576) (hc : n ≤ c) (_hc2 : c ≤ maxLen)
    (J Jx : List (Fin N) → World → Prop) (W : World) (hJ : AbidesFrom W.heap.size J)
    (hY : ∀ pre x W, J pre W → pre.length < N → YieldAt Fence.wide (m - 1) Try.prog l #[chunkV a o n x.1] W fun e W' =>
      (e = .returned (.bool true) ∧ J (pre ++ [x]) W' ∧ KeptC g1 g2 W W') ∨ (e = .returned (.bool false) ∧ Jx (pre ++ [x]) W'))
    (hb1 : W.cell? ⟨g1, 0, none⟩ = some (.slice A n c)) (hb2 : W.cell? ⟨g2, 0, none⟩ = some (.int .i64 58)) (h0 : J [] W) :
    CallsIn Fence.wide m Try.prog 98 #[.func (.yield l) #[] #[], .pointer (some ⟨g1, 0, none⟩), .pointer (some ⟨g2, 0, none⟩)] W fun e W' => (∃ v, e = .returned v) ∧
      ((∃ ys, ys = nums N ∧ J ys W') ∨ (∃ pre, pre <+: nums N ∧ Jx pre W')) := by
  have HY := Lib.hid hY; have HA := Lib.hid hA; have HJ := Lib.hid hJ; have HB1 := Lib.hid hb1; have HB2 := Lib.hid hb2
  have HEND : Hid (∀ k, k < N ↔ k * 58 < n) := Lib.hid fun k => by omega
  have hN2 : N ≤ 20000 := by omega
  clear hY hA hJ hb1 hb2 hN
  unfold maxLen at _hc2
  refine callsIn_of_wp Try.func98 rfl trivial ?_ rfl
  simp only [Try.ntmps98, List.size_toArray, List.length_cons, List.length_nil, Nat.reduceAdd, Nat.reduceSub, Array.replicate_succ, Array.replicate_zero, List.push_toArray, List.append_toArray, List.nil_append, List.cons_append]
  gi_wp2
  gi_loopw [4] (fun i wr => ∃ k : Nat, k ≤ N ∧ i = .int .i64 ((k * 58 : Nat) : Int) ∧ J ((nums N).take k) wr ∧ KeptC g1 g2 W wr)
    (fun i _ => 1160001 - (intOf i).toNat)
  case atStart => exact ⟨0, Nat.zero_le _, rfl, h0, rfl, rfl⟩
  case round =>
    obtain ⟨k, hk, rfl, hJ2, hk1, hk2⟩ := hrel
    rename World => w2
    have HJ2 := Lib.hid hJ2
    clear hJ2 h0
    have d1 : w2.cell? ⟨g1, 0, none⟩ = some (.slice A n c) := by rw [← HB1.out]; exact World.cell?_of_block (w := W) hk1
    have d2 : w2.cell? ⟨g2, 0, none⟩ = some (.int .i64 58) := by rw [← HB2.out]; exact World.cell?_of_block (w := W) hk2
    have hke := HEND.out k
    by_cases hlt : k < N
    · have hkn := hke.1 hlt
      have hlen : ((nums N).take k).length = k := by rw [List.length_take, nums_len]; omega
      have hA2 := HA.out (by omega)
      subst hA2
      have HY2 := Lib.hid (fun W' h => HY.out _ ⟨k, hlt⟩ W' h (by rw [hlen]; exact hlt))
      rw [← nums_take] at HY2
      obtain ⟨x, hx⟩ : ∃ x, x = k * 58 := ⟨_, rfl⟩
      obtain ⟨z, hz⟩ : ∃ z, z = min 58 (n - x) := ⟨_, rfl⟩
      have hcv : chunkV a o n k = .slice (some ⟨a, o + x, none⟩) z z := by unfold chunkV; rw [← hx, hz]
      rw [hcv] at HY2
      have i4 : min (58 : Int) ((n : Int) - x) = (z : Int) := by omega
      have HX := Lib.hid hx
      rw [← hx] at hkn ⊢
      have hcx : ¬ c = x := by omega
      have hz1 : 1 ≤ z ∧ z ≤ 58 ∧ x + z ≤ n := by omega
      clear hx hz hcv hke hlen
      have i5 : min (58 : Int) ((n - x : Nat) : Int) = (z : Int) := by omega
      gi_wp2_with fail
      gi_region
      have hJ3 : J ((nums N).take k) w2.drew := HJ.out _ _ _ none HJ2.out ⟨rfl, rfl, rfl, Nat.le_refl _, fun _ _ _ => rfl⟩ (fun r e => by cases e)
      have e1 : w2.drew.heap[g1]? = W.heap[g1]? := hk1
      have e2 : w2.drew.heap[g2]? = W.heap[g2]? := hk2
      have d3 : w2.drew.cell? ⟨g1, 0, none⟩ = some (.slice (some ⟨a, o, none⟩) n c) := d1
      have d4 : w2.drew.cell? ⟨g2, 0, none⟩ = some (.int .i64 58) := d2
      generalize w2.drew = w3 at *
      obtain ⟨fn, tmps, assign, body, hy, hR⟩ := HY2.out w3 hJ3
      have HR := Lib.hid hR
      have i6 : IntKind.i64.wrap ((x : Int) + z) = (x : Int) + z := IntWalk.i64_in _ (by omega)
      clear hR hJ3 d1 d2 hk1 hk2 i4 i5 HJ2 HY2
      gi_wp2_with fail
      refine HR.out.mono ?_
      rintro e w4 (⟨rfl, hJ4, hk4⟩ | ⟨rfl, hJ4⟩)
      · have HJ4 := Lib.hid hJ4
        have f2 : w4.cell? ⟨g2, 0, none⟩ = some (.int .i64 58) := by rw [← d4]; exact World.cell?_of_block (w := w3) hk4.2
        clear hJ4 hy d3 d4
        gi_wp2
        go_roundw
        case rel => exact ⟨k + 1, by omega, by rw [HX.out]; go_num, HJ4.out, hk4.1.trans e1, hk4.2.trans e2⟩
        case measure => simp [intOf] <;> omega
      · have HJ4 := Lib.hid hJ4
        clear hJ4 hy
        gi_wp2
        refine bodyPost_ret (results_none rfl _ _ _) rfl ?_
        exact ⟨⟨_, rfl⟩, .inr ⟨_, List.take_prefix _ _, HJ4.out⟩⟩
    · obtain rfl : k = N := by omega
      have hJ3 := HJ2.out
      rw [List.take_of_length_le (by rw [nums_len]; omega)] at hJ3
      have HJ3 := Lib.hid hJ3
      have hge : ¬ ((k * 58 : Nat) : Int) < (n : Int) := by omega
      clear hJ3
      generalize k * 58 = x at *
      gi_wp2
      go_end0
      exact ⟨⟨_, rfl⟩, .inl (by first | exact HJ3.out | exact ⟨_, rfl, HJ3.out⟩)⟩
end Go.Proofs.Ytapgpibindhlfaa.Entry

/- package entry: bodies, an iterator over another one -/
set_option maxRecDepth 100000
namespace Go.Proofs.Ytapgpibindhlfaa.Entry
open Go.RowKit Go.Shelf EntM Seqs
attribute [local go_sem] Oper.semAt_some

theorem chunk_in (m : Nat) (A : Option Addr) (n c : Nat) (w : World) :
    CallsIn Fence.wide m Try.prog 88 #[.slice A n c, .int .i64 58] w fun e w' => e = .returned (.func (.func 98) #[] #[.pointer (some ⟨w.heap.size, 0, none⟩), .pointer (some ⟨w.heap.size + 1, 0, none⟩)]) ∧
      w' = (w.alloc (.cells #[.slice A n c] 23)).alloc (.cells #[.int .i64 58] 3) := by
  refine callsIn_of_wp Try.func88 rfl trivial ?_ rfl
  simp only [Try.ntmps88, List.size_toArray, List.length_cons, List.length_nil, Nat.reduceAdd, Nat.reduceSub, Array.replicate_succ, Array.replicate_zero, List.push_toArray, List.append_toArray, List.nil_append, List.cons_append]
  gi_wp2
  go_ret
  exact ⟨rfl, rfl⟩
theorem bodies_in (m : Nat) (A : Option Addr) (n c : Nat) (w : World) :
    CallsIn Fence.wide m Try.prog 56 #[.slice A n c] w fun e w' => e = .returned (.func (.func 87) #[] #[.pointer (some ⟨w.heap.size, 0, none⟩)]) ∧
      w' = w.alloc (.cells #[.slice A n c] 23) := by
  refine callsIn_of_wp Try.func56 rfl trivial ?_ rfl
  simp only [Try.ntmps56, List.size_toArray, List.length_cons, List.length_nil, Nat.reduceAdd, Nat.reduceSub, Array.replicate_succ, Array.replicate_zero, List.push_toArray, List.append_toArray, List.nil_append, List.cons_append]
  gi_wp2
  go_ret
  exact ⟨rfl, rfl⟩
theorem chunk_stops (m g1 g2 : Nat) (A : Option Addr) (n c a o N : Nat) (hm : 1 ≤ m) (hN : N = (n + 57) / 58) (hA : 0 < n → A = some ⟨a, o, none⟩) (hn : n ≤ 1048576) (hc : n ≤ c) (hc2 : c ≤ maxLen)
    (w : World) (hb1 : w.cell? ⟨g1, 0, none⟩ = some (.slice A n c)) (hb2 : w.cell? ⟨g2, 0, none⟩ = some (.int .i64 58)) :
    SeqStopsK Fence.wide m Try.prog 98 #[.pointer (some ⟨g1, 0, none⟩), .pointer (some ⟨g2, 0, none⟩)] (fun x : Fin N => #[chunkV a o n x.1]) (KeptC g1 g2) (fun ys => ys = nums N) (fun pre => pre <+: nums N) N w :=
  fun l J Jx W hW hJ _ hY h0 => chunk1_in m l g1 g2 A n c a o N hm hN hA hn hc hc2 J Jx W hJ hY ((hW.cell (p := ⟨g1, 0, none⟩) (cell_lt hb1)).trans hb1) ((hW.cell (p := ⟨g2, 0, none⟩) (cell_lt hb2)).trans hb2) h0

/-- a body that is handed on: where it lies, and its bytes -/
structure Bd where
  A : Option Addr
  c : Nat
  l : List UInt8
def Bd.at_ (x : Bd) (V : World) : Prop := x.l.length ≤ x.c ∧ x.c ≤ maxLen ∧ BytesAt V x.A x.l
def Bd.encs (x : Bd) : Array Value := #[.slice x.A x.l.length x.c]
/-- the blocks that a text's bodies are read from -/
def Txt (tb : Nat) (A : Option Addr) (b : List UInt8) (k : Nat) : Prop := k = tb ∨ (0 < b.length ∧ ∃ a, A = some a ∧ k = a.block)
def bodiesL (b : List UInt8) (n : Nat) : List (List UInt8) := (List.range n).map (body_ b)
/-- a body whose number and chunk are whatever they are -/
def bodyP (b : List UInt8) (i k : Nat) : List UInt8 := [98, UInt8.ofNat i] ++ chunk b k
def bodiesP (b : List UInt8) {N : Nat} (pre : List (Fin N)) : List (List UInt8) := pre.mapIdx fun i x => bodyP b i x.1
theorem bodiesP_snoc (b : List UInt8) {N : Nat} (pre : List (Fin N)) (x : Fin N) : bodiesP b (pre ++ [x]) = bodiesP b pre ++ [bodyP b pre.length x.1] := by
  unfold bodiesP; rw [List.mapIdx_append]; simp
theorem bodiesP_all (b : List UInt8) (N : Nat) : bodiesP b (nums N) = bodiesL b N := by
  unfold bodiesP bodiesL nums
  apply List.ext_getElem
  · simp
  · intro i h1 h2
    simp
    rfl
theorem body_is (b : List UInt8) (k x : Nat) (hk : k < 256) : PackM.numB 1 98 ++ PackM.numB 1 (k : Nat) ++ chunk b x = bodyP b k x := by
  have h1 : PackM.numB 1 98 = [98] := by decide
  have h2 : PackM.numB 1 (k : Nat) = [UInt8.ofNat k] := by
    unfold PackM.numB
    rw [show PackM.wid 1 = 1 from rfl, Int.toNat_natCast]
    unfold PackM.be
    simp [PackM.be]
    rw [Nat.mod_eq_of_lt (by omega)]
  rw [h1, h2]; rfl
/-- between two rounds of the loop over chunks: what came, the iterator's blocks, what they hold -/
structure Bdy (W : World) (l : Nat) (J : List Bd → (Nat → Prop) → World → Prop) (tb yb nb c1 c2 s0 : Nat) (A : Option Addr) (b : List UInt8) (c : Nat) (ls : List (List UInt8)) (k : Nat) (V : World) : Prop where
  had : ∃ (xs : List Bd) (T : Nat → Prop), xs.map Bd.l = ls ∧ xs.length = k ∧ J xs T V ∧ T yb ∧ T nb ∧ T c1 ∧ T c2
  yb : Boxed V yb 74 (.func (.yield l) #[] #[])
  nb : Boxed V nb 3 (.int .i64 (k : Nat))
  tb : V.cell? ⟨tb, 0, none⟩ = some (.slice A b.length c)
  text : BytesAt V A b
  size : s0 ≤ V.heap.size
theorem boxed_below {V V' : World} {B : Nat} {t : TypeId} {v : Value} (h : Boxed V B t v) (hb : Below V.heap.size V V') : Boxed V' B t v := (hb.block B h.lt).trans h
theorem boxed_keep {K : Nat → Prop} {V V' : World} {B : Nat} {t : TypeId} {v : Value} (h : Boxed V B t v) (hk : Keeps K V V') (hn : ¬ K B) : Boxed V' B t v := (hk.block B h.lt hn).trans h
theorem keepsFrom_below {B : Nat} {V V' : World} (hb : Below V.heap.size V V') : KeepsFrom B V V' := ⟨hb.size, fun k _ _ h _ => (hb.block k (Array.getElem?_eq_some_iff.1 h).1).trans h⟩
theorem keepsFrom_mono {B B' : Nat} {V V' : World} (h : KeepsFrom B V V') (hB : B ≤ B') : KeepsFrom B' V V' := ⟨h.size, fun k o hk h1 h2 => h.same k o (by omega) h1 h2⟩
theorem Bdy.own {W : World} {l : Nat} {J : List Bd → (Nat → Prop) → World → Prop} {tb yb nb c1 c2 s0 B : Nat} {A : Option Addr} {b : List UInt8} {c : Nat} (hJ : ∀ T, OwnFrom W.heap.size (fun s V => J s T V)) (hB : W.heap.size ≤ B) : OwnFrom B (fun (pre : List (Fin (bodies b))) V => Bdy W l J tb yb nb c1 c2 s0 A b c (bodiesP b pre) pre.length V) := fun s X Y row h hg hr => by
  obtain ⟨⟨xs, T, h1, h1', h2, h3⟩, h4, h5, h6, h7, h8⟩ := h
  have hr2 : ∀ r, row = some r → ∃ o : Obj, X.heap[r]? = some o ∧ o.isCells = false := fun r e => (hr r e).2
  refine ⟨⟨xs, T, h1, h1', hJ T xs X Y row h2 hg (fun r e => ⟨by have := (hr r e).1; omega, (hr r e).2⟩), h3⟩, ?_, ?_, cell_kept h6 hg hr2, fun i hi => ?_, Nat.le_trans h8 hg.size⟩
  · exact (grownBy_keeps_cells hg hr2 h4 rfl).trans h4
  · exact (grownBy_keeps_cells hg hr2 h5 rfl).trans h5
  · obtain ⟨x, y, e, hc⟩ := h7 i hi
    exact ⟨x, y, e, cell_kept hc hg hr2⟩
set_option maxHeartbeats 4000000 in
theorem bodies1_own (tb : Nat) (A : Option Addr) (b : List UInt8) (c : Nat) (hc : b.length ≤ c) (hc2 : c ≤ maxLen) (hb : bodies b ≤ 255) (w0 : World) (h0 : w0.cell? ⟨tb, 0, none⟩ = some (.slice A b.length c)) (ht : BytesAt w0 A b) :
    SeqOwn Fence.wide 11 Try.prog 87 #[.pointer (some ⟨tb, 0, none⟩)] Bd.encs Bd.at_ (Txt tb A b) (fun xs => xs.map Bd.l = bodiesL b (bodies b)) (bodies b) w0 := by
  intro l J W hW hJ1 hJ2 hY hJ0
  have HJ1 := Lib.hid hJ1; have HJ2 := Lib.hid hJ2; have HY := Lib.hid hY; have HJ0 := Lib.hid hJ0
  have e0 := (hW.cell (p := ⟨tb, 0, none⟩) (cell_lt h0)).trans h0
  have HT := Lib.hid (ht.below hW)
  have HW := Lib.hid hW
  clear hJ1 hJ2 hY hJ0 ht h0 hW
  obtain ⟨n, hn⟩ : ∃ n, n = b.length := ⟨_, rfl⟩
  have HN := Lib.hid hn
  rw [← hn] at e0 hc
  have hnl : n ≤ 14790 := by unfold bodies at hb; omega
  have hbn : bodies b = (n + 57) / 58 := by rw [hn]; rfl
  have HBN := Lib.hid hbn
  clear hn hbn
  refine callsIn_of_wp_marks Try.func87 rfl trivial ?_ rfl
  simp only [Try.ntmps87, List.size_toArray, List.length_cons, List.length_nil, Nat.reduceAdd, Nat.reduceSub, Array.replicate_succ, Array.replicate_zero, List.push_toArray, List.append_toArray, List.nil_append, List.cons_append]
  have e1 := ((bstep (balloc W (.cells #[.func (.yield l) #[] #[]] 74)) (balloc _ (.cells #[.int .i64 0] 3))).cell (p := ⟨tb, 0, none⟩) (cell_lt e0)).trans e0
  gi_wp2_with fail
  refine ⟨trivial, ?_⟩
  refine (chunk_in _ A n c _).mono ?_
  rintro e w1 ⟨rfl, rfl⟩
  gi_wp2_with fail
  have HN0 : Hid (∃ a o, 0 < n → A = some ⟨a, o, none⟩) := Lib.hid (by
    by_cases h : 0 < b.length
    · obtain ⟨a, o, hA, _⟩ := HT.out 0 h
      exact ⟨a, o, fun _ => hA⟩
    · exact ⟨0, 0, fun h2 => absurd h2 (by rw [HN.out]; exact h)⟩)
  have b1 := (((Boxed.new W 74 (.func (.yield l) #[] #[])).alloc (.cells #[.int .i64 0] 3)).alloc (.cells #[.slice A n c] 23)).alloc (.cells #[.int .i64 58] 3)
  have b2 := ((Boxed.new (W.alloc (.cells #[.func (.yield l) #[] #[]] 74)) 3 (.int .i64 0)).alloc (.cells #[.slice A n c] 23)).alloc (.cells #[.int .i64 58] 3)
  have b3 := (Boxed.new ((W.alloc (.cells #[.func (.yield l) #[] #[]] 74)).alloc (.cells #[.int .i64 0] 3)) 23 (.slice A n c)).alloc (.cells #[.int .i64 58] 3)
  have b4 := Boxed.new (((W.alloc (.cells #[.func (.yield l) #[] #[]] 74)).alloc (.cells #[.int .i64 0] 3)).alloc (.cells #[.slice A n c] 23)) 3 (.int .i64 58)
  have hbw := bstep (bstep (bstep (balloc W (.cells #[.func (.yield l) #[] #[]] 74)) (balloc _ (.cells #[.int .i64 0] 3))) (balloc _ (.cells #[.slice A n c] 23))) (balloc _ (.cells #[.int .i64 58] 3))
  have hsz : ((((W.alloc (.cells #[.func (.yield l) #[] #[]] 74)).alloc (.cells #[.int .i64 0] 3)).alloc (.cells #[.slice A n c] 23)).alloc (.cells #[.int .i64 58] 3)).heap.size = W.heap.size + 4 := by simp
  simp only [World.size_alloc] at b1 b2 b3 b4
  obtain ⟨W0, hW0⟩ : ∃ W0, (((W.alloc (.cells #[.func (.yield l) #[] #[]] 74)).alloc (.cells #[.int .i64 0] 3)).alloc (.cells #[.slice A n c] 23)).alloc (.cells #[.int .i64 58] 3) = W0 := ⟨_, rfl⟩
  rw [hW0] at b1 b2 b3 b4 hbw hsz ⊢
  clear hW0 e1
  have HJS : Hid (J [] (plus (fun _ => False) W W0) W0) := Lib.hid (HJ2.out _ _ _ _ HJ0.out (.of_below _ hbw))
  have etb := (hbw.cell (p := ⟨tb, 0, none⟩) (cell_lt e0)).trans e0
  obtain ⟨a, o, hao⟩ := HN0.out
  have HAO := Lib.hid hao
  clear hao
  have hW0 : W0.heap.size = W.heap.size + 1 + 1 + 1 + 1 := by omega
  obtain ⟨yb, hyb⟩ : ∃ yb, yb = W.heap.size := ⟨_, rfl⟩
  obtain ⟨nb, hnb⟩ : ∃ nb, nb = W.heap.size + 1 := ⟨_, rfl⟩
  obtain ⟨c1, hc1⟩ : ∃ c1, c1 = W.heap.size + 1 + 1 := ⟨_, rfl⟩
  obtain ⟨c2, hc2'⟩ : ∃ c2, c2 = W.heap.size + 1 + 1 + 1 := ⟨_, rfl⟩
  rw [← hc2'] at b4 ⊢
  rw [← hc1] at b3 ⊢
  rw [← hnb] at b2 ⊢
  rw [← hyb] at b1 ⊢
  have HBX : Hid (nb ≠ c1 ∧ nb ≠ c2 ∧ nb ≠ yb ∧ c1 < W0.heap.size ∧ c2 < W0.heap.size ∧ nb < W0.heap.size ∧ yb < W0.heap.size ∧ W.heap.size ≤ nb ∧ W.heap.size ≤ yb ∧ W.heap.size ≤ c1 ∧ W.heap.size ≤ c2) := Lib.hid (by omega)
  have HS0 : Hid (Bdy W l J tb yb nb c1 c2 W0.heap.size A b c [] 0 W0) := Lib.hid ⟨⟨[], _, rfl, rfl, HJS.out, .inr (by omega), .inr (by omega), .inr (by omega), .inr (by omega)⟩, b1, b2, by rw [← HN.out]; exact etb, HT.out.below hbw, Nat.le_refl _⟩
  have HST := Lib.hid (chunk_stops 10 c1 c2 A n c a o (bodies b) (by omega) HBN.out HAO.out (by omega) hc hc2 W0 b3.cell b4.cell)
  have hWle : W.heap.size ≤ W0.heap.size := by omega
  have hc1lt : c1 < W0.heap.size := by omega
  have hc2lt : c2 < W0.heap.size := by omega
  clear hyb hnb hc1 hc2' hW0 hsz hbw b1 b2 b3 b4 etb e0 HJS HJ0 HN0
  refine wpIn_rangeFunc_ownG rfl (by omega) (gf := 98) (lb := #[.pointer (some ⟨c1, 0, none⟩), .pointer (some ⟨c2, 0, none⟩)]) rfl trivial (enters_of Try.func98 (by kernel_rfl) rfl)
    HST.out (fun h k => ⟨k.1.trans h.1, k.2.trans h.2⟩) (fun V q x x' hq _ _ _ => ⟨World.putObj_heap_other (by omega), World.putObj_heap_other (by omega)⟩) (Below.refl _ _) (fun _ => rfl)
    (fun pre V => Bdy W l J tb yb nb c1 c2 W0.heap.size A b c (bodiesP b pre) pre.length V) (fun _ _ _ => False) (Bdy.own HJ1.out hWle) (fun _ _ _ _ _ hs _ _ => hs) HS0.out
    (fun x => { tmps := #[.func (.yield l) #[] #[], .pointer (some ⟨tb, 0, none⟩), .pointer (some ⟨yb, 0, none⟩), .pointer (some ⟨nb, 0, none⟩), chunkV a o n x.1, undef, .slice A n c, .func (.func 98) #[] #[.pointer (some ⟨c1, 0, none⟩), .pointer (some ⟨c2, 0, none⟩)], chunkV a o n x.1, undef, undef, undef, undef, undef, undef, undef, undef, undef, undef, undef], defers := [] }) ?assign ?body ?done ?stop
  case assign =>
    intro q x V K hK
    gi_wp2
    exact hK
  case body =>
    rintro q pre x V hB hlt
    have HBD := Lib.hid hB
    clear hB
    have HSN := Lib.hid (bodiesP_snoc b pre x)
    have hk255 : pre.length < 256 := by omega
    have HIS := Lib.hid (body_is b pre.length x.1 hk255)
    obtain ⟨ls2, hls2⟩ : ∃ q, q = bodiesP b (pre ++ [x]) := ⟨_, rfl⟩
    rw [← hls2] at HSN
    obtain ⟨k, hkk⟩ : ∃ k, k = pre.length := ⟨_, rfl⟩
    rw [← hkk] at HBD hlt hk255 HIS HSN
    have HGO : Hid (∀ V', Bdy W l J tb yb nb c1 c2 W0.heap.size A b c ls2 (k + 1) V' → Bdy W l J tb yb nb c1 c2 W0.heap.size A b c (bodiesP b (pre ++ [x])) (pre ++ [x]).length V') := Lib.hid fun V' h => by rw [List.length_append, List.length_singleton, ← hls2, ← hkk]; exact h
    have HLT := Lib.hid hlt
    have hxn : x.1 * 58 < n := by have h1 := x.2; have h2 := HBN.out; omega
    generalize bodiesP b pre = ls at *
    have hcl : (chunk b x.1).length = min 58 (n - x.1 * 58) := by unfold chunk; rw [List.length_take, List.length_drop, ← HN.out]; omega
    have HCH : Hid (∀ V', BytesAt V' A b → BytesAt V' (some ⟨a, o + x.1 * 58, none⟩) (chunk b x.1)) := Lib.hid fun V' h => by
      rw [HAO.out (by omega)] at h
      have := (h.drop (58 * x.1)).take 58
      rw [Nat.mul_comm 58 x.1] at this
      unfold chunk
      rw [Nat.mul_comm 58 x.1]
      exact this
    have hcv : chunkV a o n x.1 = .slice (some ⟨a, o + x.1 * 58, none⟩) (chunk b x.1).length (chunk b x.1).length := by unfold chunkV; rw [hcl]
    rw [hcv]
    have hcl58 : (chunk b x.1).length ≤ 58 := by omega
    generalize bodyP b k x.1 = Bk at *
    generalize chunk b x.1 = ch at *
    generalize o + x.1 * 58 = ox at *
    clear hcv hcl hxn hkk hlt hls2
    have e1 := HBD.out.nb.cell
    have e2 := HBD.out.yb.cell
    have HWS := Lib.hid (Wrs.start (Below.refl _ V) 114)
    have L1 : (PackM.numB 1 98).length = 1 := PackM.numB_len _ _
    have L2 : (PackM.numB 1 98 ++ PackM.numB 1 (k : Nat)).length = 2 := by rw [List.length_append, PackM.numB_len, PackM.numB_len]; rfl
    have L3 : Bk.length ≤ 1048576 := by rw [← HIS.out, List.length_append, L2]; omega
    have C1 := Lib.hid (fun W g v h => Pack.wnum_any g g v [] 1 98 W h (by simp))
    have C2 := Lib.hid (fun W g v h => Pack.wnum_any g g v (PackM.numB 1 98) 1 (k : Nat) W h (by omega))
    have C3 := Lib.hid (fun W g v h hb hA => Pack.wraw_any g g v (PackM.numB 1 98 ++ PackM.numB 1 (k : Nat)) (some ⟨a, ox, none⟩) ch ch.length W h (by omega) hb hA (by omega))
    have C4 := Lib.hid (fun W g v h => Pack.wbytes_any g g v Bk W h (by omega))
    rw [List.nil_append] at C1
    rw [HIS.out] at C3
    clear L1 L2 HIS
    generalize PackM.numB 1 98 ++ PackM.numB 1 (k : Nat) = T2 at *
    generalize PackM.numB 1 98 = T1 at *
    generalize hcn : ch.length = cn at *
    gi_wp2_with fail
    obtain ⟨g, hg⟩ : ∃ g, g = V.heap.size := ⟨_, rfl⟩
    rw [← hg] at HWS ⊢
    have HG := Lib.hid hg
    clear hg e1 e2
    generalize V.alloc (.cells #[.slice none 0 0] 114) = V1 at *
    refine ⟨trivial, ?_⟩
    refine (CallsIn.inRound q (callsIn_wide.2 (C1.out V1 g _ HWS.out.at_ HWS.out.lt (by omega)))).mono ?_
    rintro e V2 k1
    obtain ⟨rfl, v2, h2⟩ := HWS.out.next k1
    have H2 := Lib.hid h2
    have e1 := (boxed_below HBD.out.nb h2.below).cell
    clear h2 k1 C1 HWS
    gi_wp2_with fail
    refine ⟨trivial, ?_⟩
    refine (CallsIn.inRound q (callsIn_wide.2 (C2.out V2 g _ H2.out.at_ H2.out.lt (by omega)))).mono ?_
    rintro e V3 k1
    obtain ⟨rfl, v3, h3⟩ := H2.out.next k1
    have H3 := Lib.hid h3
    clear h3 k1 C2 H2 e1
    gi_wp2_with fail
    refine ⟨trivial, ?_⟩
    refine (CallsIn.inRound q (callsIn_wide.2 (C3.out V3 g _ H3.out.at_ H3.out.lt (HCH.out _ (HBD.out.text.below H3.out.below))))).mono ?_
    rintro e V4 k1
    obtain ⟨rfl, v4, h4⟩ := H3.out.next k1
    have e2 := (boxed_below HBD.out.yb h4.below).cell
    have hd : Below V4.heap.size V4 V4.drew := ⟨rfl, rfl, rfl, Nat.le_refl _, fun _ _ => rfl⟩
    have H5 := Lib.hid (h4.step hd)
    have HYY : Hid (∀ V5 X d, Bk.length ≤ d → d ≤ maxLen → BytesAt V5 X Bk → Below V4.drew.heap.size V4.drew V5 → ∃ fn tmps assign body, (Instr.yield l #[.slice X Bk.length d]).run Try.prog V5 = .ok (.round l fn tmps assign body) V5 ∧ ∀ q m', RoundIn (Fence.wide.inRound q) m' Try.prog l fn tmps assign body V5 fun e V' =>
        e = .returned (.bool true) ∧ ∃ (xs : List Bd) (T : Nat → Prop), xs.map Bd.l = ls2 ∧ xs.length = k + 1 ∧ J xs T V' ∧ T yb ∧ T nb ∧ T c1 ∧ T c2 ∧ Keeps (fun j => ¬ T j ∧ ¬ Txt tb A b j) V5 V' ∧ KeepsFrom W.heap.size V5 V') := Lib.hid fun V5 X d d1 d2 hX hb5 => by
      obtain ⟨xs, T, h1, h2, h3, h5, h6, h7, h8⟩ := HBD.out.had
      have hv5 : Below V.heap.size V V5 := bstep H5.out.below hb5
      have hy := HY.out xs ⟨X, d, Bk⟩ _ V5 (HJ2.out xs T V V5 h3 (.of_below _ hv5)) ⟨d1, d2, hX⟩ (by have := HLT.out; omega)
      obtain ⟨fn, tmps, assign, body, hy1, hy2⟩ := yield_all rfl hy
      refine ⟨fn, tmps, assign, body, hy1, fun q m' => (hy2 q m').mono ?_⟩
      rintro e V' ⟨rfl, r1, r2, r3⟩
      exact ⟨rfl, _, _, by rw [List.map_append, h1]; exact HSN.out.symm, by rw [List.length_append, h2]; rfl, r1, .inl h5, .inl h6, .inl h7, .inl h8, r2, r3⟩
    clear h4 k1 C3 H3 hd
    have e3 : V4.drew.cell? ⟨yb, 0, none⟩ = some (.func (.yield l) #[] #[]) := e2
    clear e2
    gi_wp2_with fail
    gi_region_with (first
      | (refine ⟨trivial, ?_⟩; gi_at_call 84; refine (CallsIn.inRound q (callsIn_wide.2 (C4.out _ g _ H5.out.at_))).mono ?_; rintro e V5 ⟨X, d, rfl, x1, x2, x3, hb5, -⟩; obtain ⟨fn, tmps, assign, body, hy, hR⟩ := HYY.out V5 X d x1 x2 x3 hb5; have e4 := (hb5.cell (p := ⟨yb, 0, none⟩) (cell_lt e3)).trans e3; have HR := Lib.hid hR; have HB5 := Lib.hid hb5; clear hR hb5 x1 x2 x3)
      | (refine (HR.out _ _).mono ?_; rintro e V6 ⟨rfl, h6⟩; have H6 := Lib.hid h6; clear h6))
    all_goals (
      obtain ⟨xs, T, h1, h2, h3, h5, h6, h7, h8, h9, h10⟩ := H6.out
      have hv5 : Below V.heap.size V V5 := bstep H5.out.below HB5.out
      have bn : Boxed V6 nb 3 (.int .i64 (k : Nat)) := boxed_keep (boxed_below HBD.out.nb hv5) h9 (fun h => h.1 h6)
      have qs : Keeps T V6 (V6.setCell ⟨nb, 0, none⟩ (.int .i64 ((k : Int) + 1))) := .set _ _ _ _ h6
      have hx := HBX.out
      have hVs := HBD.out.size
      have hs5 := hv5.size
      have FIN : Hid (KeepsFrom W0.heap.size V (V6.setCell ⟨nb, 0, none⟩ (.int .i64 ((k : Int) + 1))) ∧ KeptC c1 c2 V (V6.setCell ⟨nb, 0, none⟩ (.int .i64 ((k : Int) + 1))) ∧ Bdy W l J tb yb nb c1 c2 W0.heap.size A b c ls2 (k + 1) (V6.setCell ⟨nb, 0, none⟩ (.int .i64 ((k : Int) + 1)))) := Lib.hid (by
        refine ⟨(keepsFrom_below hv5).trans ((keepsFrom_mono h10 hWle).trans ((KeepsOthers.setCell _ _ _).from _)), ⟨?_, ?_⟩, ⟨xs, _, h1, h2, HJ2.out xs T V6 _ h3 qs, .inl h5, .inl h6, .inl h7, .inl h8⟩, ?_, ?_, ?_, ?_, ?_⟩
        · exact (Below.heap_setCell _ _ _ _ (by simp only; omega)).trans ((h9.block c1 (by omega) (fun h => h.1 h7)).trans (hv5.block c1 (by omega)))
        · exact (Below.heap_setCell _ _ _ _ (by simp only; omega)).trans ((h9.block c2 (by omega) (fun h => h.1 h8)).trans (hv5.block c2 (by omega)))
        · exact (boxed_keep (boxed_below HBD.out.yb hv5) h9 (fun h => h.1 h5)).other (by omega) _
        · exact bn.set _
        · have ht := h9.cell ((hv5.cell (p := ⟨tb, 0, none⟩) (cell_lt HBD.out.tb)).trans HBD.out.tb) (fun h => h.2 (.inl rfl))
          by_cases e : tb = nb
          · subst e
            have := bn.cell
            rw [ht] at this
            cases this
          · exact (World.cell?_setCell_other _ _ _ _ (by intro h'; cases h'; exact e rfl)).trans ht
        · exact (h9.bytes' (HBD.out.text.below hv5) (fun h0 a e h => h.2 (.inr ⟨h0, a, e, rfl⟩))).far' _ _ (fun h0 a e => by have := HT.out.lt h0 a e; simp only; omega)
        · have h9s := h9.size
          have hz : (V6.setCell ⟨nb, 0, none⟩ (.int .i64 ((k : Int) + 1))).heap.size = V6.heap.size := by simp
          omega)
      have e5 := bn.cell
      have f5 := bn.frozen
      clear h1 h2 h3 h5 h6 h7 h8 h9 h10 hv5 bn qs hx hVs hs5 e3 H6
      gi_wp2
      exact ⟨FIN.out.1, FIN.out.2.1, HGO.out _ FIN.out.2.2⟩)
  case done =>
    rintro D ys V hD rfl hB hK
    rw [nums_len, bodiesP_all] at hB
    obtain ⟨xs, T, h1, h2, h3, -⟩ := hB.had
    have HX := Lib.hid h1
    have HJX := Lib.hid h3
    clear h1 h2 h3 hB
    gi_wp2
    refine ⟨by simp, .inl ⟨_, _, rfl, run_takeDeferred hK, ?_⟩⟩
    exact ⟨_, results_none rfl _ _ _, ⟨_, rfl⟩, xs, T, HX.out, (HJ1.out T).putObj (s := xs) _ HJX.out (by omega) hK rfl⟩
  case stop =>
    rintro D c pre V _ _ h _
    exact h.elim
end Go.Proofs.Ytapgpibindhlfaa.Entry

/- package entry: Put -/
set_option maxRecDepth 100000
namespace Go.Proofs.Ytapgpibindhlfaa.Entry
open Go.RowKit Go.Shelf EntM Seqs
attribute [local go_sem] Oper.semAt_some

section
variable {w w' : World} {base : Nat} {T : Nat → Prop} {v : Value} {m : List (List UInt8)}
theorem OwnT_joined (h : OwnT w base T v m) (q : Keeps T w w') : OwnT w' base (Seqs.plus T w w') v m :=
  (h.more (T' := Seqs.plus T w w') fun k hk => by
    rcases hk with hk | hk
    · exact .inl hk
    · exact .inr hk.1).keep q fun _ h => .inl h
end
theorem _root_.Go.Proofs.Ytapgpibindhlfaa.OwnT.grown {w w' : World} {base : Nat} {T : Nat → Prop} {v : Value} {m : List (List UInt8)} {row : Option Nat} (h : OwnT w base T v m) (hg : w.grownBy w' row) (hr : ∀ r, row = some r → ∃ o : Obj, w.heap[r]? = some o ∧ o.isCells = false) : OwnT w' base T v m := by
  obtain ⟨vs, h1, h2, h3⟩ := h
  refine ⟨vs, ⟨h1.1, ?_⟩, h2, fun i hi => ?_⟩
  · rcases h1.2 with h | ⟨g, cap, cur, k1, k2, k3, k4⟩
    · exact .inl h
    · exact .inr ⟨g, cap, cur, k1, k2, (grownBy_keeps_cells hg hr k3 rfl).trans k3, k4⟩
  · obtain ⟨A, c, k1, k2, k3, k4, k5⟩ := h3 i hi
    refine ⟨A, c, k1, k2, k3, fun j hj => ?_, k5⟩
    obtain ⟨x, y, e, hc⟩ := k4 j hj
    exact ⟨x, y, e, cell_kept hc hg hr⟩
theorem _root_.Go.Proofs.Ytapgpibindhlfaa.OwnT.form {w : World} {base : Nat} {T : Nat → Prop} {v : Value} {m : List (List UInt8)} (h : OwnT w base T v m) (h0 : 0 < m.length) : ∃ g cap, v = .slice (some ⟨g, 0, none⟩) m.length cap ∧ base ≤ g ∧ g < w.heap.size ∧ ¬ T g := by
  have hlt := h.ownM.ownlt
  obtain ⟨vs, h1, h2, _⟩ := h
  rcases h1.2 with ⟨_, hn⟩ | ⟨g, cap, cur, rfl, k2, k3, k4⟩
  · omega
  · exact ⟨g, cap, rfl, k2, (hlt g rfl).2, h2 g rfl⟩
theorem wpListIn_append_rowT {F : Fence} {n : Nat} {ops : Array Oper} {rest : List Oper} {o : Oper} {a : Act} {w : World} {Q : Exit → Act → World → Prop} (hgd : o.guard = none) (s x : Operand)
    (ho : o.op = .call { callee := .builtin .append, args := #[s, x], argTypes := #[44, 44] })
    (base : Nat) (T : Nat → Prop) (v : Value) (m : List (List UInt8)) (hs : a.eval s = v) (hown : OwnT w base T v m) (g c : Nat) (r : List UInt8) (A : Option Addr) (cr : Nat) (hx : a.eval x = .slice (some ⟨g, 0, none⟩) 1 c)
    (hc : w.cell? ⟨g, 0, none⟩ = some (.slice A r.length cr)) (h1 : r.length ≤ cr) (h2 : cr ≤ maxLen) (hr : BytesAt w A r) (hne : 0 < r.length → ∀ a, A = some a → v.ownBlock ≠ some a.block ∧ ¬ T a.block)
    (hT : ∀ k, T k → k < w.heap.size) (hl : m.length < 1099511627776) (hbase : base ≤ w.heap.size)
    (h : ∀ v' w', OwnT w' base T v' (m ++ [r]) → w.grownBy w' v.ownBlock → (v'.ownBlock = v.ownBlock ∨ v'.ownBlock = some w.heap.size) → wpListIn F n Try.prog ops Q rest (a.put o.dst v') w') : wpListIn F n Try.prog ops Q (o :: rest) a w := by
  obtain ⟨v', w', hrun, k2, k3, k4⟩ := run_append_rowT w o.type base T v m hown g c r A cr hc h1 h2 hr hne hT hl hbase
  refine wpListIn_plain hgd fun K hK' => ?_
  unfold Oper.wpIn
  refine ⟨?_, ?_⟩
  · simp [Oper.about, ho, resolve, Target.leads, Sem.run_pure]
  · rw [Oper.semAt_plain F _ _ (by rw [ho]; intro c hc'; cases hc')]
    simp [execOp, ho, resolve, invoke, builtin, hs, hx, hrun, Result.andThen]
    exact hK' _ _ (h v' w' k2 k3 k4)
/-- a call that hands back sectors and a number -/
def RetPut (w : World) (m : List (List UInt8)) (n : Int) (e : Ending) (w' : World) : Prop :=
  ∃ X d, e = .returned (.tuple #[.slice X m.length d, .int .i64 n]) ∧ m.length ≤ d ∧ d ≤ maxLen ∧ RowsAt w' X m ∧ Below w.heap.size w w'
/-- the same, and that the sectors' bytes are new -/
def RetPutN (w : World) (m : List (List UInt8)) (n : Int) (e : Ending) (w' : World) : Prop :=
  ∃ X d, e = .returned (.tuple #[.slice X m.length d, .int .i64 n]) ∧ m.length ≤ d ∧ d ≤ maxLen ∧ RowsP (fun k => w.heap.size ≤ k) w' X m ∧ Below w.heap.size w w'
theorem put_not (t : Nat) (A : Option Addr) (l : List Ch) (c : Nat) (w : World) (h : ChsAt w A l) (hl : l.length ≤ 15000) (hv : ¬ checkV l = 0) :
    Calls Try.prog 29 #[.pointer (some ⟨t, 0, none⟩), .slice A l.length c] w (RetPutN w (putV l) (checkV l)) := by
  rw [putV_not hv]
  have CC := Lib.hid (fun W h => check_any A l c W h hl)
  have H := Lib.hid (h.below (balloc w (.cells #[.pointer (some ⟨t, 0, none⟩)] 26)))
  have HB := Lib.hid (balloc w (.cells #[.pointer (some ⟨t, 0, none⟩)] 26))
  have hq : (checkV l != 0) = true := by rw [bne_iff_ne]; exact hv
  clear h hv
  generalize checkV l = r at *
  go_enter Try.func29, Try.ntmps29
  go_wp2_with fail
  refine (CC.out _ H.out).mono ?_
  rintro e w1 ⟨rfl, hb1⟩
  have HB1 := Lib.hid (bstep HB.out hb1)
  clear hb1
  go_wp2
  go_ret2
  exact ⟨none, 0, rfl, Nat.le_refl _, Nat.zero_le _, RowsP.nil _ _ _, HB1.out⟩
/-- a literal of one row -/
theorem ownM_lit (w : World) (B : Nat) (hB : B ≤ w.heap.size) (r : List UInt8) (A : Option Addr) (c : Nat) (h1 : r.length ≤ c) (h2 : c ≤ maxLen) (hr : BytesAt w A r) : OwnM (w.alloc (.cells #[.slice A r.length c] 23)) B (.slice (some ⟨w.heap.size, 0, none⟩) 1 1) [r] :=
  ⟨[.slice A r.length c], ⟨rfl, .inr ⟨w.heap.size, 1, #[.slice A r.length c], rfl, hB, heap_alloc_new w _, Nat.le_refl _, by unfold maxLen; omega, rfl, rfl⟩⟩, fun i hi => by
    obtain rfl : i = 0 := by simp at hi; omega
    exact ⟨_, A, c, rfl, rfl, h1, h2, hr.alloc _, fun h0 a e e2 => by have := hr.lt h0 a e; injection e2 with e2; simp only at e2; omega⟩⟩
theorem boxed_far {w : World} {g : Nat} {ty : TypeId} {X : Option Addr} {n d : Nat} (h : Boxed w g ty (.slice X n d)) {A : Option Addr} {l : List UInt8} (hA : BytesAt w A l) (h0 : 0 < l.length) : ∀ a, A = some a → a.block ≠ g := fun a e e' => by
  obtain ⟨b, o, e2, hc⟩ := hA 0 h0
  subst e
  injection e2 with e2
  subst e2
  simp only at e'
  subst e'
  rw [cell_of_row w b (o + 0) _ ty (0, 0) h] at hc
  rcases Nat.eq_zero_or_pos o with ho | ho
  · subst ho; simp at hc
  · rw [Array.getElem?_eq_none (by simp; omega)] at hc; cases hc
/-- a store into a box of a list leaves what was gathered -/
theorem _root_.Go.Proofs.Ytapgpibindhlfaa.OwnT.setBox {w : World} {base g : Nat} {T : Nat → Prop} {v : Value} {m : List (List UInt8)} {ty : TypeId} {X : Option Addr} {n d : Nat} (h : OwnT w base T v m) (hb : Boxed w g ty (.slice X n d)) (hv : v.ownBlock ≠ some g) (u : Value) : OwnT (w.setCell ⟨g, 0, none⟩ u) base T v m := by
  obtain ⟨vs, h1, h2, h3⟩ := h
  refine ⟨vs, ownsRow_keep h1 (.set (fun k => k = g) w ⟨g, 0, none⟩ u rfl) (fun k hk e => hv (by rw [hk, e])), h2, fun i hi => ?_⟩
  obtain ⟨A, c, k1, k2, k3, k4, k5⟩ := h3 i hi
  exact ⟨A, c, k1, k2, k3, k4.far' _ _ (fun h0 a e => boxed_far hb k4 h0 a e), k5⟩
theorem _root_.Go.Proofs.Ytapgpibindhlfaa.OwnT.cells {w : World} {base : Nat} {T : Nat → Prop} {v : Value} {m : List (List UInt8)} (h : OwnT w base T v m) : ∀ j, v.ownBlock = some j → ∀ o : Obj, w.heap[j]? = some o → o.isCells = true := fun j hj o ho => by
  obtain ⟨vs, h1, _⟩ := h
  rcases h1.2 with ⟨e, _⟩ | ⟨g, cap, cur, e, _, hh, _⟩
  · rw [e] at hj; cases hj
  · rw [e] at hj
    injection hj with hj
    simp only at hj
    subst hj
    rw [hh] at ho
    injection ho with ho
    subst ho
    rfl
/-- between two rounds of Put's loop: what lies in the box, and that nothing of before was touched -/
structure Pt (w2 : World) (g tb : Nat) (Z : List UInt8) (xs : List Bd) (T : Nat → Prop) (V : World) : Prop where
  box : ∃ X d, Boxed V g 44 (.slice X (xs.length + 1) d) ∧ OwnT V w2.heap.size (fun k => T k ∨ (k = tb ∨ k < w2.heap.size)) (.slice X (xs.length + 1) d) (Z :: xs.map fun x => Sector.sealOf x.l) ∧ d ≤ maxLen ∧ xs.length + 1 ≤ d
  below : Below w2.heap.size w2 V
  ne : w2.heap.size ≤ g
  tl : tb < V.heap.size
theorem Pt.grown {w2 : World} {g tb : Nat} {Z : List UInt8} {xs : List Bd} {T : Nat → Prop} {V V' : World} {row : Option Nat} (h : Pt w2 g tb Z xs T V) (hg : V.grownBy V' row) (hr : ∀ r, row = some r → w2.heap.size ≤ r ∧ ∃ o : Obj, V.heap[r]? = some o ∧ o.isCells = false) : Pt w2 g tb Z xs T V' := by
  obtain ⟨⟨X, d, h1, h2, h3⟩, h4, h5, h6⟩ := h
  have hr2 : ∀ r, row = some r → ∃ o : Obj, V.heap[r]? = some o ∧ o.isCells = false := fun r e => (hr r e).2
  exact ⟨⟨X, d, (grownBy_keeps_cells hg hr2 h1 rfl).trans h1, h2.grown hg hr2, h3⟩, h4.grown hg h4.size (fun k e => (hr k e).1), h5, Nat.lt_of_lt_of_le h6 hg.size⟩
theorem Pt.joined {w2 : World} {g tb : Nat} {Z : List UInt8} {xs : List Bd} {T : Nat → Prop} {V V' : World} (h : Pt w2 g tb Z xs T V) (hT : ∀ k, T k → w2.heap.size ≤ k) (hg : ¬ T g) (q : Keeps T V V') : Pt w2 g tb Z xs (Seqs.plus T V V') V' := by
  obtain ⟨⟨X, d, h1, h2, h3⟩, h4, h5, h6⟩ := h
  exact ⟨⟨X, d, boxed_keep h1 q hg, (h2.more (T' := fun k => Seqs.plus T V V' k ∨ (k = tb ∨ k < w2.heap.size)) fun k hk => by
    rcases hk with (hk | hk) | hk
    · exact .inl (.inl hk)
    · exact .inr hk.1
    · exact .inl (.inr hk)).keep q (fun _ h => .inl (.inl h)), h3⟩, below_keeps h4 q (fun k hk => hT k hk) h4.size, h5, Nat.lt_of_lt_of_le h6 q.size⟩
/-- boxes of lists, of lists of lists -/
def SP.ownN (B : Nat) (m : List (List UInt8)) : Drawn.SP := ⟨fun v w => ∃ u, v = u ∧ OwnT w B (fun k => k < B) u m, fun _ _ _ h hb => by
  obtain ⟨u, h1, h2⟩ := h
  exact ⟨u, h1, h2.below hb⟩⟩
def boxOf (w : World) (g : Nat) : Prop := w.heap[g]? = some (.cells #[.slice none 0 0] 44 (0, 0))
theorem boxOf.far {w : World} {g : Nat} (h : boxOf w g) {A : Option Addr} {l : List UInt8} (hA : BytesAt w A l) (h0 : 0 < l.length) : ∀ a, A = some a → a.block ≠ g := fun a e e' => by
  obtain ⟨b, o, e2, hc⟩ := hA 0 h0
  subst e
  injection e2 with e2
  subst e2
  simp only at e'
  subst e'
  rw [cell_of_row w b (o + 0) _ 44 (0, 0) h] at hc
  rcases Nat.eq_zero_or_pos o with ho | ho
  · subst ho; simp at hc
  · rw [Array.getElem?_eq_none (by simp; omega)] at hc; cases hc
/-- a list gathered lies apart from such a box -/
theorem with_box {w : World} {base g : Nat} {T : Nat → Prop} {v : Value} {m : List (List UInt8)} (h : OwnT w base T v m) (hb : boxOf w g) : OwnT w base (fun k => k = g ∨ T k) v m := by
  obtain ⟨vs, h1, hv, h2⟩ := h
  refine ⟨vs, h1, fun k hk e => ?_, fun i hi => ?_⟩
  · rcases e with e | e
    · subst e
      rcases h1.2 with ⟨e, _⟩ | ⟨g', cap', cur, e, _, hh, _⟩
      · rw [e] at hk; cases hk
      · rw [e] at hk
        injection hk with hk
        subst hk
        rw [show w.heap[_]? = _ from hb] at hh
        injection hh with hh
        injection hh with _ hh
        cases hh
    · exact hv k hk e
  · obtain ⟨A, c, k1, k3, k4, k5, k6⟩ := h2 i hi
    exact ⟨A, c, k1, k3, k4, k5, fun h0 a e => ⟨(k6 h0 a e).1, fun h => by
      rcases h with h | h
      · exact hb.far k5 h0 a e h
      · exact (k6 h0 a e).2 h⟩⟩
/-- bytes in new memory; a literal of one such row -/
def SP.bytesN (B : Nat) (l : List UInt8) : Drawn.SP := ⟨fun v w => ∃ X d, v = .slice X l.length d ∧ l.length ≤ d ∧ d ≤ maxLen ∧ BytesAt w X l ∧ ∀ a, X = some a → B ≤ a.block, fun _ _ _ h hb => by
  obtain ⟨X, d, h1, h2, h3, h4, h5⟩ := h
  exact ⟨X, d, h1, h2, h3, h4.below hb, h5⟩⟩
def SP.litN (B : Nat) (l : List UInt8) : Drawn.SP := ⟨fun v w => ∃ g X d, v = .slice (some ⟨g, 0, none⟩) 1 1 ∧ w.cell? ⟨g, 0, none⟩ = some (.slice X l.length d) ∧ l.length ≤ d ∧ d ≤ maxLen ∧ BytesAt w X l ∧ ∀ a, X = some a → B ≤ a.block, fun _ _ _ h hb => by
  obtain ⟨g, X, d, h1, h2, h3, h4, h5, h6⟩ := h
  exact ⟨g, X, d, h1, (hb.cell (p := ⟨g, 0, none⟩) (cell_lt h2)).trans h2, h3, h4, h5.below hb, h6⟩⟩
theorem lit1_cell (w : World) (v : Value) (t : TypeId) : (w.alloc (.cells #[v] t)).cell? ⟨w.heap.size, 0, none⟩ = some v := by simp
def SP.boxM (B : Nat) : Drawn.SP := ⟨fun v w => ∃ g, v = .pointer (some ⟨g, 0, none⟩) ∧ boxOf w g ∧ B ≤ g, fun _ _ _ h hb => by
  obtain ⟨g, h1, h2, h3⟩ := h
  exact ⟨g, h1, (hb.block g (Array.getElem?_eq_some_iff.1 h2).1).trans h2, h3⟩⟩
set_option maxHeartbeats 4000000 in
theorem put_may (t : Nat) (A : Option Addr) (l : List Ch) (c : Nat) (w : World) (ht : Crc.Tab w t) (h : ChsAt w A l) (hl : l.length ≤ 15000) (hv : checkV l = 0) :
    Calls Try.prog 29 #[.pointer (some ⟨t, 0, none⟩), .slice A l.length c] w (RetPutN w (putV l) 0) := by
  have hm := (checkV_may l).1 hv
  have hbd := hm.bodies
  have CC := Lib.hid (fun W h => check_any A l c W h hl)
  have CW := Lib.hid (fun W h => written_any A l c W h hl hm.data)
  rw [hv] at CC
  have HPV : Hid (putV l = SecM.sec (head_ (text l)) :: (bodiesL (text l) (bodies (text l))).map SecM.sec) := Lib.hid (by
    rw [putV_may hm]; unfold put putB bodiesL; rw [List.map_map]; rfl)
  have CH := Lib.hid (fun W X d hT hX h1 h2 => head_any t X (text l) d W hT hX h1 h2 (by omega))
  have hhl := head_len (text l)
  have CS := Lib.hid (fun W X d (hT : Crc.Tab W t) hX => Sector.seal_any t X (head_ (text l)) d W hT hX)
  rw [show Sector.sealOf (head_ (text l)) = SecM.sec (head_ (text l)) from if_pos (by omega)] at CS
  have CB := Lib.hid (fun W X (x : List UInt8) d (hT : Crc.Tab W t) hX => Sector.seal_any t X x d W hT hX)
  have HL0 := Lib.hid (SecM.sec_len (head_ (text l)) (by omega))
  generalize text l = T at *
  generalize head_ T = hd at *
  generalize SecM.sec hd = Z at *
  obtain ⟨ln, hln⟩ : ∃ ln, ln = l.length := ⟨_, rfl⟩
  rw [← hln] at CC CW ⊢
  have HW0 := Lib.hid (h.below (balloc w (.cells #[.pointer (some ⟨t, 0, none⟩)] 26)))
  have HT0 := Lib.hid (ht.below (balloc w (.cells #[.pointer (some ⟨t, 0, none⟩)] 26)))
  have HB0 := Lib.hid (balloc w (.cells #[.pointer (some ⟨t, 0, none⟩)] 26))
  have hbx : (w.alloc (.cells #[.pointer (some ⟨t, 0, none⟩)] 26)).cell? ⟨w.heap.size, 0, none⟩ = some (.pointer (some ⟨t, 0, none⟩)) := by simp
  have HBX := Lib.hid hbx
  generalize putV l = R at *
  clear h ht hln hv hm hhl hbx
  refine (callsIn_wide (n := 12)).1 ?_
  refine callsIn_of_wp_marks Try.func29 rfl trivial ?_ rfl
  simp only [Try.ntmps29, List.size_toArray, List.length_cons, List.length_nil, Nat.reduceAdd, Nat.reduceSub, Array.replicate_succ, Array.replicate_zero, List.push_toArray, List.append_toArray, List.nil_append, List.cons_append]
  gi_wp2_with fail
  obtain ⟨p, hp⟩ : ∃ p, p = w.heap.size := ⟨_, rfl⟩
  rw [← hp] at HBX ⊢
  have HP := Lib.hid hp
  clear hp
  generalize w.alloc (.cells #[.pointer (some ⟨t, 0, none⟩)] 26) = w0 at *
  refine ⟨trivial, ?_⟩
  refine (callsIn_wide.2 (CC.out w0 HW0.out)).mono ?_
  rintro e w1 ⟨rfl, hb1⟩
  have HB1 := Lib.hid hb1
  have cp := (hb1.cell (p := ⟨p, 0, none⟩) (cell_lt HBX.out)).trans HBX.out
  clear hb1 CC
  gi_wp2_with fail
  refine ⟨trivial, ?_⟩
  refine (callsIn_wide.2 (CW.out w1 (HW0.out.below HB1.out))).mono ?_
  rintro e w2 ⟨XT, dt, rfl, t1, t2, t3, hb2, -⟩
  have HB2 := Lib.hid (bstep HB1.out hb2)
  have HTX := Lib.hid t3
  have cp2 := (hb2.cell (p := ⟨p, 0, none⟩) (cell_lt cp)).trans cp
  have HCP := Lib.hid cp2
  have HT2 := Lib.hid (HT0.out.below HB2.out)
  have hpl : p < w2.heap.size := cell_lt cp2
  have T1 := Lib.hid t1; have T2 := Lib.hid t2
  obtain ⟨tn, htn⟩ : ∃ tn, tn = T.length := ⟨_, rfl⟩
  have HTN := Lib.hid htn
  rw [← htn] at t1 CH T1 ⊢
  clear t3 hb2 CW cp HB1 HBX HT0 HW0 cp2 htn
  gi_wp2_with fail
  refine wpIn_wide.2 ?_
  have HB2W := Lib.hid (bstep HB0.out HB2.out)
  clear t1 t2 HB0 HB2
  --FLOW--
  refine Drawn.wp_region_flowT 7 [Drawn.SP.is (.pointer (some ⟨t, 0, none⟩)), Drawn.SP.is (.pointer (some ⟨t, 0, none⟩)), Drawn.SP.is (.slice XT tn dt), Drawn.SP.bytes hd, SP.bytesN w2.heap.size Z, SP.ownN w2.heap.size [Z], SP.boxM w2.heap.size] (by kernel_rfl) (by kernel_rfl) ?_ ?_
  · intro i hi a w3 hb hev hdep
    rcases (show i = 0 ∨ i = 1 ∨ i = 2 ∨ i = 3 ∨ i = 4 ∨ i = 5 ∨ i = 6 by omega) with rfl | rfl | rfl | rfl | rfl | rfl | rfl
    · have e2 : a.tmps[2]?.getD undef = .pointer (some ⟨p, 0, none⟩) := hev 2 rfl
      refine Drawn.wpOp_flow 21 rfl rfl rfl ?_
      have k1 := (hb.cell (p := ⟨p, 0, none⟩) (cell_lt HCP.out)).trans HCP.out
      clear hev hdep hb
      go_simp
      exact ⟨_, rfl, rfl, Below.refl _ _⟩
    · have e2 : a.tmps[2]?.getD undef = .pointer (some ⟨p, 0, none⟩) := hev 2 rfl
      refine Drawn.wpOp_flow 22 rfl rfl rfl ?_
      have k1 := (hb.cell (p := ⟨p, 0, none⟩) (cell_lt HCP.out)).trans HCP.out
      clear hev hdep hb
      go_simp
      exact ⟨_, rfl, rfl, Below.refl _ _⟩
    · have e7 : a.tmps[7]?.getD undef = .slice XT tn dt := hev 7 rfl
      refine Drawn.wpOp_flow 23 rfl rfl rfl ?_
      clear hev hdep hb
      go_simp
      exact ⟨_, rfl, rfl, Below.refl _ _⟩
    · have d1 : a.tmps[22]?.getD undef = .pointer (some ⟨t, 0, none⟩) := hdep 1 rfl
      have d2 : a.tmps[23]?.getD undef = .slice XT tn dt := hdep 2 rfl
      refine Drawn.wpOp_flow 24 rfl rfl rfl ?_
      clear hev hdep
      have C := CH.out w3 XT dt (HT2.out.below hb) (HTX.out.below hb) T1.out T2.out
      clear hb
      go_simp
      refine C.mono ?_
      rintro e w' ⟨X, d, rfl, q1, q2, q, hb', _⟩
      exact ⟨_, rfl, ⟨X, d, rfl, q1, q2, q⟩, hb'⟩
    · have d0 : a.tmps[21]?.getD undef = .pointer (some ⟨t, 0, none⟩) := hdep 0 rfl
      obtain ⟨Xd3, cd3, d3, hd3, kd3, qd3⟩ : (Drawn.SP.bytes hd).p (a.tmps[24]?.getD undef) w3 := hdep 3 rfl
      refine Drawn.wpOp_flow 25 rfl rfl rfl ?_
      clear hev hdep
      have C := CS.out w3 Xd3 cd3 (HT2.out.below hb) qd3
      have hz := hb.size
      clear hb
      go_simp
      refine C.mono ?_
      rintro e w' ⟨X, d, rfl, q1, q2, q, hb', hn'⟩
      exact ⟨_, rfl, ⟨X, d, rfl, q1, q2, q, fun a e => Nat.le_trans hz (hn' a e)⟩, hb'⟩
    · obtain ⟨Xd4, cd4, d4, hd4, kd4, qd4, nd4⟩ : (SP.bytesN w2.heap.size Z).p (a.tmps[25]?.getD undef) w3 := hdep 4 rfl
      refine Drawn.wpOp_flow 26 rfl rfl rfl ?_
      clear hev hdep
      have C := OwnT.lit (T := fun k => k < w2.heap.size) w3 w2.heap.size hb.size Z Xd4 cd4 hd4 kd4 qd4 (fun _ a e h => by have := nd4 a e; omega) (fun k hk => Nat.lt_of_lt_of_le hk hb.size)
      clear hb
      go_simp
      exact ⟨_, rfl, ⟨_, rfl, C⟩, balloc _ _⟩
    · refine Drawn.wpOp_flow 8 rfl rfl rfl ?_
      clear hev hdep
      have hz := hb.size
      clear hb
      go_simp
      exact ⟨_, rfl, ⟨_, rfl, heap_alloc_new _ _, hz⟩, balloc _ _⟩
  · intro xq w3 hb hxq
    have vq0 : xq 0 = .pointer (some ⟨t, 0, none⟩) := hxq 0 (by omega)
    have vq1 : xq 1 = .pointer (some ⟨t, 0, none⟩) := hxq 1 (by omega)
    have vq2 : xq 2 = .slice XT tn dt := hxq 2 (by omega)
    obtain ⟨Uvq5, vq5, ovq5⟩ : (SP.ownN w2.heap.size [Z]).p (xq 5) w3 := hxq 5 (by omega)
    obtain ⟨gvq6, vq6, cvq6, fvq6⟩ : (SP.boxM w2.heap.size).p (xq 6) w3 := hxq 6 (by omega)
    show wpList _ _ _ _ (Drawn.acts _ [(8, some (xq 6)), (26, some (xq 5)), (25, some (xq 4)), (24, some (xq 3)), (23, some (xq 2)), (22, some (xq 1)), (21, some (xq 0))]) _
    rw [vq0, vq1, vq2, vq5, vq6]
    clear hxq vq0 vq1 vq2 vq5 vq6
    generalize xq 3 = yq3
    generalize xq 4 = yq4
    clear xq
    simp only [Drawn.acts, List.drop_succ_cons, List.drop_zero]
    go_simp
  --END--
    obtain ⟨AU, cu, hU, hu1, hu2, -, -⟩ := ovq5.ownM.rows
    have hU' : Uvq5 = .slice AU 1 cu := hU
    subst hU'
    have hcg : w3.cell? ⟨gvq6, 0, none⟩ = some (.slice none 0 0) := by rw [cell_of_row w3 gvq6 0 _ 44 (0, 0) cvq6]; rfl
    have hfg : w3.frozen? ⟨gvq6, 0, none⟩ = false := by unfold boxOf at cvq6; simp [World.frozen?, cvq6]
    have hbx0 : Boxed w3 gvq6 44 (.slice none 0 0) := cvq6
    have hg3 : gvq6 < w3.heap.size := cell_lt hcg
    go_wp2_with fail
    gi_wp2_with fail
    refine ⟨trivial, ?_⟩
    refine (bodies_in _ XT tn dt _).mono ?_
    rintro e w' ⟨rfl, rfl⟩
    gi_wp2_with fail
    have q3 : Keeps (fun j => j = gvq6) w3 (w3.setCell ⟨gvq6, 0, none⟩ (.slice AU 1 cu)) := .set _ _ _ _ rfl
    have hs0 : OwnT (w3.setCell ⟨gvq6, 0, none⟩ (.slice AU 1 cu)) w2.heap.size (fun k => False ∨ (k = w3.heap.size ∨ k < w2.heap.size)) (.slice AU 1 cu) [Z] :=
      ((with_box ovq5 cvq6).keep q3 (fun _ e => .inl e)).more fun k h => by
        rcases h with h | h | h
        · exact h.elim
        · exact .inr (by subst h; simp)
        · exact .inl (.inr h)
    have e3 : (w3.setCell ⟨gvq6, 0, none⟩ (.slice AU 1 cu)).heap.size = w3.heap.size := by simp
    have hb0 : Below w2.heap.size w2 ((w3.setCell ⟨gvq6, 0, none⟩ (.slice AU 1 cu)).alloc (.cells #[.slice XT tn dt] 23)) :=
      bstep (below_keeps hb q3 (fun j e => by omega) hb.size) (balloc _ _)
    have HPT : Hid (Pt w2 gvq6 w3.heap.size Z [] (fun _ => False) ((w3.setCell ⟨gvq6, 0, none⟩ (.slice AU 1 cu)).alloc (.cells #[.slice XT tn dt] 23))) := Lib.hid
      ⟨⟨AU, cu, (hbx0.set _).alloc _, hs0.below (balloc _ _), hu2, hu1⟩, hb0, fvq6, by simp⟩
    have hnc : ∀ (V : World) (v : Value) (ty : TypeId), (V.alloc (.cells #[v] ty)).cell? ⟨V.heap.size, 0, none⟩ = some v := fun V v ty => by simp
    have ht2 := hnc (w3.setCell ⟨gvq6, 0, none⟩ (.slice AU 1 cu)) (.slice XT tn dt) 23
    rw [e3] at ht2
    have HBO : Hid (SeqOwn Fence.wide 11 Try.prog 87 #[.pointer (some ⟨w3.heap.size, 0, none⟩)] Bd.encs Bd.at_ (Txt w3.heap.size XT T) (fun xs => xs.map Bd.l = bodiesL T (bodies T)) (bodies T) ((w3.setCell ⟨gvq6, 0, none⟩ (.slice AU 1 cu)).alloc (.cells #[.slice XT tn dt] 23))) := Lib.hid
      (bodies1_own w3.heap.size XT T dt (by rw [← HTN.out]; exact T1.out) T2.out (by omega) _ (by rw [← HTN.out]; exact ht2) (HTX.out.below hb0))
    have hz0 : ((w3.setCell ⟨gvq6, 0, none⟩ (.slice AU 1 cu)).alloc (.cells #[.slice XT tn dt] 23)).heap.size = w3.heap.size + 1 := by simp
    have hbs := hb0.size
    have HTXL : Hid (∀ j, Txt w3.heap.size XT T j → j = w3.heap.size ∨ j < w2.heap.size) := Lib.hid fun j hj => by
      rcases hj with rfl | ⟨h0, a, e, rfl⟩
      · exact .inl rfl
      · exact .inr (HTX.out.lt h0 a e)
    have HFV := Lib.hid fvq6
    generalize (w3.setCell ⟨gvq6, 0, none⟩ (.slice AU 1 cu)).alloc (.cells #[.slice XT tn dt] 23) = W0 at *
    obtain ⟨tb, htb⟩ : ∃ tb, tb = w3.heap.size := ⟨_, rfl⟩
    rw [← htb] at HBO HTXL HPT hz0 hg3 ⊢
    clear q3 hs0 e3 hb0 ovq5 hcg hfg hbx0 hnc ht2 cvq6 fvq6 hb htb CH CS HTX hu1 hu2
    refine wpIn_rangeFunc_seq rfl (by omega) (gf := 87) (lb := #[.pointer (some ⟨tb, 0, none⟩)]) rfl trivial (enters_of Try.func87 (by kernel_rfl) rfl)
      HBO.out (Below.refl _ _) (fun _ => rfl) (fun j hj => by have := HTXL.out j hj; omega)
      (fun xs Tt V => Pt w2 gvq6 tb Z xs Tt V)
      (fun Tt xs X Y row h hg hr => h.grown hg (fun r e => ⟨by have := (hr r e).1; omega, (hr r e).2⟩))
      (fun xs Tt V V' hTt h q => h.joined (fun j hj => by have := (hTt j hj).1; omega) (fun hj => by have := (hTt _ hj).1; omega) q)
      (fun x _ X Y row h hg hr => ⟨h.1, h.2.1, fun i hi => by
        obtain ⟨bb, oo, e, hc⟩ := h.2.2 i hi
        exact ⟨bb, oo, e, cell_kept hc hg (fun r e => (hr r e).2)⟩⟩)
      HPT.out
      (fun x => { tmps := #[.pointer (some ⟨t, 0, none⟩), .slice A ln c, .pointer (some ⟨p, 0, none⟩), undef, .slice none 0 0, .int .i64 0, .int .i64 0, .slice XT tn dt, .pointer (some ⟨gvq6, 0, none⟩), .slice x.A x.l.length x.c,
        .slice A ln c, .int .i64 0, .int .i64 0, .bool false, .bool false, .pointer (some ⟨t, 0, none⟩), .bool false, .bool false, undef, .slice A ln c, .slice XT tn dt, .pointer (some ⟨t, 0, none⟩), .pointer (some ⟨t, 0, none⟩), .slice XT tn dt, yq3, yq4, .slice AU 1 cu, .slice XT tn dt,
        .func (.func 87) #[] #[.pointer (some ⟨tb, 0, none⟩)], .slice x.A x.l.length x.c, undef, undef, undef, undef, undef, undef, undef], defers := [] }) ?assign ?body ?done
    case assign =>
      intro q x V K hK
      unfold Bd.encs
      gi_wp2
      exact hK
    case body =>
      rintro q pre x Tt V hTt hP hPx hlt
      obtain ⟨⟨X, d, h1, h2, h3, h4⟩, h5, h6, htbV⟩ := hP
      have HCG : Hid (V.cell? ⟨gvq6, 0, none⟩ = some (.slice X (pre.length + 1) d)) := Lib.hid h1.cell
      have HCPV : Hid (V.cell? ⟨p, 0, none⟩ = some (.pointer (some ⟨t, 0, none⟩))) := Lib.hid ((h5.cell (p := ⟨p, 0, none⟩) (cell_lt HCP.out)).trans HCP.out)
      have HTV := Lib.hid (HT2.out.below h5)
      have HOV := Lib.hid h2
      have HH5 := Lib.hid h5
      have HBXV := Lib.hid h1
      have HX := Lib.hid hPx.2.2
      have hx1 := hPx.1; have hx2 := hPx.2.1
      have HTT := Lib.hid hTt
      clear h1 h2 h5 h6 hPx hTt HPT HBO
      obtain ⟨xA, xc, xl⟩ := x
      simp only at HX hx1 hx2
      have CBX := Lib.hid (fun V' hb => CB.out V' xA xl xc (HTV.out.below hb) (HX.out.below hb))
      have HPL : Hid ((Z :: (pre ++ [(⟨xA, xc, xl⟩ : Bd)]).map fun (x : Bd) => Sector.sealOf x.l) = (Z :: pre.map fun (x : Bd) => Sector.sealOf x.l) ++ [Sector.sealOf xl]) := Lib.hid (by simp)
      have HLN : Hid ((Z :: pre.map fun (x : Bd) => Sector.sealOf x.l).length = pre.length + 1) := Lib.hid (by simp)
      generalize (Z :: pre.map fun (x : Bd) => Sector.sealOf x.l) = rows at *
      generalize Sector.sealOf xl = sl at *
      generalize xl.length = xn at *
      gi_wp2_with fail
      --FLOW2--
      refine Drawn.wpIn_region_flowT 5 [Drawn.SP.is (.slice X (pre.length + 1) d), Drawn.SP.is (.pointer (some ⟨t, 0, none⟩)), Drawn.SP.is (.slice xA xn xc), SP.bytesN V.heap.size sl, SP.litN V.heap.size sl] (by kernel_rfl) (by kernel_rfl) ?_ ?_
      · intro i hi a w4 hb hev hdep
        rcases (show i = 0 ∨ i = 1 ∨ i = 2 ∨ i = 3 ∨ i = 4 by omega) with rfl | rfl | rfl | rfl | rfl
        · have e8 : a.tmps[8]?.getD undef = .pointer (some ⟨gvq6, 0, none⟩) := hev 8 rfl
          refine Drawn.wpOpIn_flow 30 rfl rfl rfl ?_
          have k1 := (hb.cell (p := ⟨p, 0, none⟩) (cell_lt HCPV.out)).trans HCPV.out
          have k2 := (hb.cell (p := ⟨gvq6, 0, none⟩) (cell_lt HCG.out)).trans HCG.out
          clear hev hdep hb
          go_simp
          exact ⟨_, rfl, rfl, Below.refl _ _⟩
        · have e2 : a.tmps[2]?.getD undef = .pointer (some ⟨p, 0, none⟩) := hev 2 rfl
          refine Drawn.wpOpIn_flow 31 rfl rfl rfl ?_
          have k1 := (hb.cell (p := ⟨p, 0, none⟩) (cell_lt HCPV.out)).trans HCPV.out
          have k2 := (hb.cell (p := ⟨gvq6, 0, none⟩) (cell_lt HCG.out)).trans HCG.out
          clear hev hdep hb
          go_simp
          exact ⟨_, rfl, rfl, Below.refl _ _⟩
        · have e9 : a.tmps[9]?.getD undef = .slice xA xn xc := hev 9 rfl
          refine Drawn.wpOpIn_flow 32 rfl rfl rfl ?_
          clear hev hdep hb
          go_simp
          exact ⟨_, rfl, rfl, Below.refl _ _⟩
        · have d1 : a.tmps[31]?.getD undef = .pointer (some ⟨t, 0, none⟩) := hdep 1 rfl
          have d2 : a.tmps[32]?.getD undef = .slice xA xn xc := hdep 2 rfl
          refine Drawn.wpOpIn_flow 33 rfl rfl rfl ?_
          clear hev hdep
          have C := CBX.out w4 hb
          have hz := hb.size
          clear hb
          go_simp
          refine ⟨trivial, ?_⟩
          refine (CallsIn.inRound q (callsIn_wide.2 C)).mono ?_
          rintro e w' ⟨Y, f, rfl, q1, q2, q3, hb', hn'⟩
          exact ⟨_, rfl, ⟨Y, f, rfl, q1, q2, q3, fun a e => Nat.le_trans hz (hn' a e)⟩, hb'⟩
        · obtain ⟨Yd3, fd3, d3, hd3, kd3, qd3, nd3⟩ : (SP.bytesN V.heap.size sl).p (a.tmps[33]?.getD undef) w4 := hdep 3 rfl
          refine Drawn.wpOpIn_flow 34 rfl rfl rfl ?_
          clear hev hdep
          have hz := hb.size
          clear hb
          go_simp
          exact ⟨_, rfl, ⟨_, Yd3, fd3, rfl, lit1_cell _ _ _, hd3, kd3, qd3.alloc _, nd3⟩, balloc _ _⟩
      · intro xq w4 hb hxq
        have vq0 : xq 0 = .slice X (pre.length + 1) d := hxq 0 (by omega)
        have vq1 : xq 1 = .pointer (some ⟨t, 0, none⟩) := hxq 1 (by omega)
        have vq2 : xq 2 = .slice xA xn xc := hxq 2 (by omega)
        obtain ⟨gvq4, Yvq4, fvq4, vq4, cvq4, hvq4, kvq4, qvq4, nvq4⟩ : (SP.litN V.heap.size sl).p (xq 4) w4 := hxq 4 (by omega)
        show wpListIn _ _ _ _ _ _ (Drawn.acts _ [(34, some (xq 4)), (33, some (xq 3)), (32, some (xq 2)), (31, some (xq 1)), (30, some (xq 0))]) _
        rw [vq0, vq1, vq2, vq4]
        clear hxq vq0 vq1 vq2 vq4
        generalize xq 3 = yq3
        clear xq
        simp only [Drawn.acts, List.drop_succ_cons, List.drop_zero]
        go_simp
      --END--
        have hgl := cell_lt HCG.out
        simp only at hgl
        have hbs4 := hb.size
        have HO4 := Lib.hid (HOV.out.below hb)
        have hown := HOV.out.ownM.ownlt
        have HNE : Hid (0 < sl.length → ∀ a, Yvq4 = some a → (Value.slice X (pre.length + 1) d).ownBlock ≠ some a.block ∧ ¬ (Tt a.block ∨ (a.block = tb ∨ a.block < w2.heap.size))) := Lib.hid fun _ a e => by
          have h1 := nvq4 a e
          have h3 := HH5.out.size
          exact ⟨fun e2 => by have := (hown _ e2).2; omega, fun h2 => by
            rcases h2 with h2 | h2 | h2
            · have := (HTT.out _ h2).2; omega
            · omega
            · omega⟩
        have HTL : Hid (∀ k, (Tt k ∨ (k = tb ∨ k < w2.heap.size)) → k < w4.heap.size) := Lib.hid fun k hk => by
          have h3 := HH5.out.size
          rcases hk with hk | hk | hk
          · have := (HTT.out k hk).2; omega
          · omega
          · omega
        have HWB : Hid (w2.heap.size ≤ w4.heap.size) := Lib.hid (by have := HH5.out.size; omega)
        have HQV := Lib.hid qvq4
        have HCV := Lib.hid cvq4
        have HBV := Lib.hid hb
        have HPX : Hid (pre.length < bodies T) := Lib.hid hlt
        have HKV : Hid (Boxed w4 gvq6 44 (.slice X (pre.length + 1) d)) := Lib.hid (boxed_below HBXV.out hb)
        clear qvq4 cvq4 hown nvq4 hb
        refine wpListIn_append_rowT rfl (.tmp 30) (.tmp 34) rfl w2.heap.size (fun k => Tt k ∨ (k = tb ∨ k < w2.heap.size)) (.slice X (pre.length + 1) d) rows rfl HO4.out gvq4 1 sl Yvq4 fvq4 rfl HCV.out hvq4 kvq4 HQV.out HNE.out HTL.out (by rw [HLN.out]; omega) HWB.out ?_
        intro v' w5 hown' hgrow' hplace'
        have hrn : (rows ++ [sl]).length = pre.length + 1 + 1 := by rw [List.length_append, HLN.out]; rfl
        obtain ⟨X', c', hv', hc1', hc2', -, -⟩ := hown'.ownM.rows
        rw [hrn] at hv' hc1'
        subst hv'
        have hgne : (Value.slice X (pre.length + 1) d).ownBlock ≠ some gvq6 := fun e => by
          obtain ⟨g', cap', e1, _, _, hnt⟩ := HO4.out.form (by rw [HLN.out]; omega)
          obtain ⟨vs, ⟨_, hr⟩, _, _⟩ := HO4.out
          rcases hr with ⟨e2, _⟩ | ⟨g2, cap2, cur2, e2, _, hh, _⟩
          · rw [e2] at e1; cases e1
          · rw [e2] at e
            injection e with e
            simp only at e
            subst e
            rw [show w4.heap[_]? = _ from HKV.out] at hh
            injection hh with hh
            injection hh with _ hh
            cases hh
        have bx5 : Boxed w5 gvq6 44 (.slice X (pre.length + 1) d) := HKV.out.kept hgrow' (fun e => hgne e.symm)
        have e5 := bx5.cell
        have f5 := bx5.frozen
        have q5 : Keeps (fun k => (Value.slice X (pre.length + 1) d).ownBlock = some k) w4 w5 := ⟨hgrow'.os, hgrow'.tape, hgrow'.output, hgrow'.size, fun k hk hn => hgrow'.block k hk (fun e => hn e.symm)⟩
        have hown4 := HO4.out.ownM.ownlt
        have hfv := HFV.out
        have hX'g : (Value.slice X' (pre.length + 1 + 1) c').ownBlock ≠ some gvq6 := fun e => by
          rcases hplace' with h | h
          · rw [h] at e; exact hgne e
          · rw [h] at e; injection e with e; omega
        have qs : Keeps (fun k => k = gvq6) w5 (w5.setCell ⟨gvq6, 0, none⟩ (.slice X' (pre.length + 1 + 1) c')) := .set _ _ _ _ rfl
        have hkk : Keeps (fun k => k = gvq6 ∨ (Value.slice X (pre.length + 1) d).ownBlock = some k) w4 (w5.setCell ⟨gvq6, 0, none⟩ (.slice X' (pre.length + 1 + 1) c')) :=
          (q5.mono fun k _ h => .inr h).trans (qs.mono fun k _ h => .inl h)
        have hgT : ∀ k, Tt k → W0.heap.size ≤ k := fun k hk => (HTT.out k hk).1
        obtain ⟨_, _, hnT, _⟩ := HO4.out
        have FIN : Hid (KeepsFrom W0.heap.size V (w5.setCell ⟨gvq6, 0, none⟩ (.slice X' (pre.length + 1 + 1) c')) ∧ Keeps (fun k => ¬ Tt k ∧ ¬ Txt tb XT T k) V (w5.setCell ⟨gvq6, 0, none⟩ (.slice X' (pre.length + 1 + 1) c')) ∧ Pt w2 gvq6 tb Z (pre ++ [(⟨xA, xc, xl⟩ : Bd)]) Tt (w5.setCell ⟨gvq6, 0, none⟩ (.slice X' (pre.length + 1 + 1) c'))) := Lib.hid (by
          refine ⟨(keepsFrom_below HBV.out).trans (((KeepsOthers.of_grownBy hgrow' fun j o hj ho => HO4.out.cells j hj o ho).trans (KeepsOthers.setCell _ _ _)).from _), (Keeps.of_below _ HBV.out).trans (hkk.mono fun k _ hk => ?_), ⟨⟨X', c', ?_, ?_, hc2', ?_⟩, below_keeps (bstep HH5.out HBV.out) hkk (fun k hk => ?_) HWB.out, hfv, ?_⟩⟩
          · rcases hk with hk | hk
            · subst hk
              exact ⟨fun h => by have := hgT _ h; omega, fun h => by rcases HTXL.out _ h with h | h <;> omega⟩
            · exact ⟨fun h => hnT k hk (.inl h), fun h => by
                rcases HTXL.out _ h with h | h
                · exact hnT k hk (.inr (.inl h))
                · have := (hown4 k hk).1; omega⟩
          · rw [List.length_append, List.length_singleton]; exact bx5.set _
          · rw [HPL.out, List.length_append, List.length_singleton]; exact hown'.setBox bx5 hX'g _
          · rw [List.length_append, List.length_singleton]; exact hc1'
          · rcases hk with hk | hk
            · omega
            · exact (hown4 k hk).1
          · have := hkk.size; omega)
        clear hown' hgrow' hplace' hgne bx5 q5 hown4 hX'g qs hkk hgT hnT hc1' hc2' hrn
        gi_wp2
        have hfin := FIN.out
        rw [hz0] at hfin
        exact hfin
    case done =>
      rintro D xs Tt V hD hS hP hK
      obtain ⟨⟨X, d, h1, h2, h3, h4⟩, h5, -, -⟩ := hP
      have cg := h1.cell
      have HO := Lib.hid h2
      have HB5 := Lib.hid h5
      have hD3 : gvq6 ≠ D := by omega
      clear h1 h2 h5 HBO HPT
      have hRl : R = Z :: xs.map fun x => Sector.sealOf x.l := by
        rw [HPV.out, ← hS, List.map_map]
        refine congrArg _ (List.map_congr_left fun x hx => ?_)
        have hx2 : x.l ∈ bodiesL T (bodies T) := by rw [← hS]; exact List.mem_map.2 ⟨x, hx, rfl⟩
        unfold bodiesL at hx2
        obtain ⟨k, _, hk⟩ := List.mem_map.1 hx2
        show SecM.sec x.l = Sector.sealOf x.l
        rw [← hk]
        exact (if_pos (body_len T k)).symm
      have HRL := Lib.hid hRl
      have hRn : R.length = xs.length + 1 := by rw [hRl]; simp
      have HRN := Lib.hid hRn
      clear hRl hRn hS
      have kB := (bstep HB2W.out HB5.out).trans (belowK_b (w := w) (Nat.le_refl _) _ D _ (.deferred none) (by have := HB2W.out.size; omega) hK rfl rfl)
      have hgr := grownBy_putObj' V D (.deferred none)
      have hrows := HO.out.rowsP (P := fun k => w.heap.size ≤ k) fun k hk => by
        have h3 := HB2W.out.size
        exact Nat.le_of_not_lt fun h => hk (.inr (.inr (by omega)))
      obtain ⟨X2, c2, hv2, q1, q2, q3, -⟩ := hrows
      have hlen : (Z :: xs.map fun x => Sector.sealOf x.l).length = xs.length + 1 := by simp
      rw [hlen] at hv2 q1
      injection hv2 with hv1 _ hv3
      subst hv1
      subst hv3
      have hRW : RowsP (fun k => w.heap.size ≤ k) (V.putObj D (.deferred none)) X (Z :: xs.map fun x => Sector.sealOf x.l) := fun i hi => by
        have hr2 : ∀ r, some D = some r → ∃ o : Obj, V.heap[r]? = some o ∧ o.isCells = false := fun r e => by cases e; exact ⟨_, hK, rfl⟩
        obtain ⟨b2, o2, m1, B2, c3, m3, m4, m5, m6, m7⟩ := q3 i hi
        exact ⟨b2, o2, m1, B2, c3, cell_kept m3 hgr hr2, m4, m5, fun j hj => by
          obtain ⟨x2, y2, e2, hc2⟩ := m6 j hj
          exact ⟨x2, y2, e2, cell_kept hc2 hgr hr2⟩, m7⟩
      have HRW := Lib.hid hRW
      have HKB := Lib.hid kB
      clear kB hgr q3 hRW hlen
      gi_wp2
      refine ⟨by simp, .inl ⟨_, _, rfl, run_takeDeferred hK, ?_⟩⟩
      exact ⟨_, results_tmp2 rfl _ _ _, X, d, by rw [HRN.out]; rfl, by rw [HRN.out]; exact h4, h3, by rw [HRL.out]; exact HRW.out, HKB.out⟩
theorem put_new (t : Nat) (A : Option Addr) (l : List Ch) (c : Nat) (w : World) (ht : Crc.Tab w t) (h : ChsAt w A l) (hl : l.length ≤ 15000) :
    Calls Try.prog 29 #[.pointer (some ⟨t, 0, none⟩), .slice A l.length c] w (RetPutN w (putV l) (checkV l)) := by
  by_cases hv : checkV l = 0
  · rw [hv]; exact put_may t A l c w ht h hl hv
  · exact put_not t A l c w h hl hv
theorem put_any (t : Nat) (A : Option Addr) (l : List Ch) (c : Nat) (w : World) (ht : Crc.Tab w t) (h : ChsAt w A l) (hl : l.length ≤ 15000) :
    Calls Try.prog 29 #[.pointer (some ⟨t, 0, none⟩), .slice A l.length c] w (RetPut w (putV l) (checkV l)) := by
  refine (put_new t A l c w ht h hl).mono ?_
  rintro e w' ⟨X, d, h1, h2, h3, h4, h5⟩
  exact ⟨X, d, h1, h2, h3, h4.rows, h5⟩
end Go.Proofs.Ytapgpibindhlfaa.Entry

/- package entry: Get -/
set_option maxRecDepth 100000
namespace Go.Proofs.Ytapgpibindhlfaa.EntM
open SecM PackM CrcM SupM
theorem rawS_good {b : List UInt8} {s : St} {n : Int} (h : (rawS b s n).bad = false) : s.bad = false ∧ (rawS b s n).at_ = s.at_ + n.toNat ∧ (s.at_ : Int) + n ≤ b.length := by
  unfold rawS at h ⊢
  by_cases hc : (s.bad || decide ((b.length : Int) - s.at_ < n)) = true
  · rw [if_pos hc] at h; cases h
  · rw [if_neg hc]
    simp at hc
    exact ⟨hc.1, rfl, by omega⟩
theorem stp_good {b : List UInt8} {x : List Ch × St} (h : (stp b x).2.bad = false) : x.2.bad = false ∧ x.2.at_ + 3 ≤ (stp b x).2.at_ ∧ ((stp b x).2.at_ : Int) ≤ b.length := by
  have w2 : wid 2 = 2 := rfl
  have w1 : wid 1 = 1 := rfl
  unfold stp at h ⊢
  by_cases hc : numV b (numS b x.2 2) 1 = 1
  · rw [if_pos hc] at h ⊢
    obtain ⟨h1, h2, h3⟩ := rawS_good h
    obtain ⟨h4, h5, h6⟩ := rawS_good (s := numS b x.2 2) (n := wid 1) h1
    obtain ⟨h7, h8, h9⟩ := rawS_good (s := x.2) (n := wid 2) h4
    have e1 : (numS b (numS b x.2 2) 1).at_ = (numS b x.2 2).at_ + ((wid 1 : Nat) : Int).toNat := h5
    have e2 : (numS b x.2 2).at_ = x.2.at_ + ((wid 2 : Nat) : Int).toNat := h8
    rw [w1] at e1; rw [w2] at e2
    refine ⟨h7, ?_, ?_⟩
    · show x.2.at_ + 3 ≤ (rawS b (numS b (numS b x.2 2) 1) 64).at_
      rw [h2, e1, e2]; omega
    · show (((rawS b (numS b (numS b x.2 2) 1) 64).at_ : Nat) : Int) ≤ b.length
      rw [h2]; omega
  · rw [if_neg hc] at h ⊢
    obtain ⟨h4, h5, h6⟩ := rawS_good (s := numS b x.2 2) (n := wid 1) h
    obtain ⟨h7, h8, h9⟩ := rawS_good (s := x.2) (n := wid 2) h4
    have e1 : (numS b (numS b x.2 2) 1).at_ = (numS b x.2 2).at_ + ((wid 1 : Nat) : Int).toNat := h5
    have e2 : (numS b x.2 2).at_ = x.2.at_ + ((wid 2 : Nat) : Int).toNat := h8
    rw [w1] at e1 h6; rw [w2] at e2
    refine ⟨h7, ?_, ?_⟩
    · show x.2.at_ + 3 ≤ (numS b (numS b x.2 2) 1).at_
      rw [e1, e2]; omega
    · show (((numS b (numS b x.2 2) 1).at_ : Nat) : Int) ≤ b.length
      rw [e1]; omega
theorem saidTo_good (b : List UInt8) : ∀ k, (saidTo b k).2.bad = false → 3 * k ≤ b.length
  | 0, _ => by omega
  | k + 1, h => by
    have key : ∀ j, (saidTo b j).2.bad = false → 3 * j ≤ (saidTo b j).2.at_ := by
      intro j
      induction j with
      | zero => intro _; omega
      | succ j ih =>
        intro hj
        obtain ⟨h1, h2, _⟩ := stp_good (b := b) (x := saidTo b j) hj
        have h3 := ih h1
        show 3 * (j + 1) ≤ (stp b (saidTo b j)).2.at_
        omega
    obtain ⟨_, _, h3⟩ := stp_good (b := b) (x := saidTo b k) h
    have h4 := key (k + 1) h
    have h5 : (saidTo b (k + 1)).2.at_ = (stp b (saidTo b k)).2.at_ := rfl
    omega
theorem Said.len {b : List UInt8} {l : List Ch} {bad : Bool} (h : Said b l bad) : 3 * l.length ≤ b.length + 3 := by
  obtain ⟨k, h1, _, _, h4, _⟩ := h
  have h5 := saidTo_len b k
  rw [h1] at h5
  rcases k with _ | k
  · omega
  · have := saidTo_good b k (h4 k (by omega))
    omega
end Go.Proofs.Ytapgpibindhlfaa.EntM
namespace Go.Proofs.Ytapgpibindhlfaa.Entry
open Go.RowKit EntM SupM
theorem textIn_len (ss : List (List UInt8)) : (textIn ss).length ≤ 14790 := by
  rcases ss with _ | ⟨s, rest⟩
  · simp [textIn]
  · rw [← flatTo_all]
    have h1 := flatTo_len rest (min (hnum s) rest.length)
    have h2 := hnum_lt s
    omega
/-- what Get tells of sectors -/
def RetGot (w : World) (ss : List (List UInt8)) (e : Ending) (w' : World) : Prop :=
  ∃ l ok X d, e = .returned (.tuple #[.slice X l.length d, .bool ok]) ∧ l.length ≤ d ∧ d ≤ maxLen ∧ ChsAt w' X l ∧ Got ss l ok ∧ Below w.heap.size w w'
/-- the same, and that the changes' bytes are new -/
def RetGotN (w : World) (ss : List (List UInt8)) (e : Ending) (w' : World) : Prop :=
  ∃ l ok X d, e = .returned (.tuple #[.slice X l.length d, .bool ok]) ∧ l.length ≤ d ∧ d ≤ maxLen ∧ ChsP (fun k => w.heap.size ≤ k) w' X l ∧ Got ss l ok ∧ Below w.heap.size w w'
theorem got_no {ss : List (List UInt8)} {l : List Ch} {bad : Bool} (h : Said (textIn ss) l bad) (hn : ¬ checkV l = 0) : Got ss [] false :=
  .inr ⟨rfl, rfl, fun m hm => hn (by rw [hm.said h]; exact (checkV_may m).2 hm.1)⟩
theorem got_first {ss : List (List UInt8)} {l : List Ch} {bad : Bool} (h : Said (textIn ss) l bad) (hv : checkV l = 0) : (firstB (putV l) ss = true → Got ss l true) ∧ (firstB (putV l) ss = false → Got ss [] false) := by
  have hm := (checkV_may l).1 hv
  refine ⟨fun hf => .inl ⟨rfl, hm, ?_⟩, fun hf => .inr ⟨rfl, rfl, fun m hm2 => ?_⟩⟩
  · unfold firstB at hf
    have := (of_decide_eq_true hf).2
    rw [putV_may hm] at this
    exact this
  · have e := hm2.said h
    subst e
    unfold firstB at hf
    have := of_decide_eq_false hf
    rw [putV_may hm] at this
    exact this ⟨by rw [put_length]; omega, hm2.2⟩
set_option maxHeartbeats 1000000 in
theorem get_new (t : Nat) (A : Option Addr) (ss : List (List UInt8)) (c : Nat) (w : World) (ht : Crc.Tab w t) (h : RowsAt w A ss) (hc : ss.length ≤ c) (hc2 : c ≤ maxLen) (hl : ss.length ≤ 1048576) (hf : Fit ss) :
    Calls Try.prog 35 #[.pointer (some ⟨t, 0, none⟩), .slice A ss.length c] w (RetGotN w ss) := by
  have CT := Lib.hid (textIn_any A ss c w h hc hc2 hl hf)
  have htl := textIn_len ss
  have CR := Lib.hid (fun X d W h => Pack.read_any X (textIn ss) d W h (by omega))
  have CS := Lib.hid (fun g X W h => said_new g X (textIn ss) W h (by omega))
  have HSL : Hid (∀ l bad, Said (textIn ss) l bad → l.length ≤ 15000) := Lib.hid fun l bad h => by have := h.len; omega
  have HG1 : Hid (∀ l bad, Said (textIn ss) l bad → ¬ checkV l = 0 → Got ss [] false) := Lib.hid fun l bad h => got_no h
  have HG2 : Hid (∀ l bad, Said (textIn ss) l bad → checkV l = 0 → (firstB (putV l) ss = true → Got ss l true) ∧ (firstB (putV l) ss = false → Got ss [] false)) := Lib.hid fun l bad h => got_first h
  have CF := Lib.hid (fun X p d W h1 h2 hp => areFirst_any X A p ss d c W h1 h2 hp hl hc hc2)
  have H := Lib.hid h; have HT := Lib.hid ht
  clear h ht hf
  generalize textIn ss = T at *
  obtain ⟨sn, hsn⟩ : ∃ sn, sn = ss.length := ⟨_, rfl⟩
  rw [← hsn] at CT CF hc hl ⊢
  clear hsn
  go_enter Try.func35, Try.ntmps35
  go_wp2_with fail
  refine CT.out.mono ?_
  rintro e w1 ⟨X, d, rfl, -, -, hX, hb1, -⟩
  have HX := Lib.hid hX; have HB1 := Lib.hid hb1
  clear hX hb1 CT
  generalize T.length = tn at *
  go_wp2_with fail
  refine (CR.out X d w1 HX.out).mono ?_
  rintro e w2 ⟨g, Y, rfl, hr, hb2, hg, hY⟩
  have HR := Lib.hid hr; have HB2 := Lib.hid (bstep HB1.out hb2)
  have hgw : w.heap.size ≤ g := by have := HB1.out.size; omega
  have HYW : Hid (∀ a, Y = some a → w.heap.size ≤ a.block) := Lib.hid fun a e => by have := HB1.out.size; have := hY a e; omega
  clear hr hb2 hg hY CR HB1
  go_wp2_with fail
  refine (CS.out g Y w2 HR.out).mono ?_
  rintro e w3 ⟨l, bad, L, dl, rfl, l1, l2, l3, l4, l5, l6⟩
  have HB3 := Lib.hid (below_keeps HB2.out l5 (fun j e => by subst e; exact hgw) HB2.out.size)
  have l7 : ChsP (fun k => w.heap.size ≤ k) w3 L l := by
    obtain ⟨X', c', hv, _, _, h3, _⟩ := l6.chsP (P := fun k => w.heap.size ≤ k) fun k hk => by
      have := HB2.out.size
      refine Nat.le_of_not_lt fun h => hk (.inr ⟨by omega, fun a e e2 => ?_⟩)
      have := HYW.out a e
      omega
    injection hv with e1 e2 e3
    subst e1
    exact h3
  have HL := Lib.hid l7; have HS := Lib.hid l4
  have hll := HSL.out l bad l4
  have CP := Lib.hid (put_any t L l dl w3 (HT.out.below HB3.out) l3 hll)
  have G1 := Lib.hid (HG1.out l bad l4); have G2 := Lib.hid (HG2.out l bad l4)
  have HPL : Hid (checkV l = 0 → (putV l).length ≤ 1048576) := Lib.hid fun hv => by
    have hm := (checkV_may l).1 hv
    rw [putV_may hm, put_length]
    have := hm.bodies
    omega
  clear l3 l4 l5 l6 l7 HYW HSL HG1 HG2 HR HB2 CS
  obtain ⟨ln, hln⟩ : ∃ ln, ln = l.length := ⟨_, rfl⟩
  have HLN := Lib.hid hln
  rw [← hln] at CP l1 ⊢
  clear hln hll
  generalize checkV l = v at *
  generalize putV l = P at *
  go_wp2_with fail
  refine CP.out.mono ?_
  rintro e w4 ⟨Z, dz, rfl, z1, z2, z3, hb4⟩
  have HZ := Lib.hid z3
  have HB4 := Lib.hid (bstep HB3.out hb4)
  have HL4 := Lib.hid (HL.out.below hb4)
  clear z3 hb4 CP HL HB3
  by_cases hv : v = 0
  · subst hv
    have hpl := HPL.out rfl
    obtain ⟨g1, g2⟩ := G2.out rfl
    have GT := Lib.hid g1; have GF := Lib.hid g2
    have C := Lib.hid (CF.out Z P dz w4 HZ.out (H.out.below HB4.out) hpl)
    clear g1 g2 G1 G2 HPL CF HZ hpl
    generalize firstB P ss = q at *
    generalize P.length = pn at *
    go_wp2_with fail
    refine C.out.mono ?_
    rintro e w5 ⟨rfl, rfl⟩
    cases q
    · have HGG := Lib.hid (GF.out rfl)
      clear GT GF
      go_wp2
      go_ret2
      exact ⟨[], false, none, 0, rfl, Nat.le_refl _, Nat.zero_le _, ChsP.nil _ _ _, HGG.out, HB4.out⟩
    · have HGG := Lib.hid (GT.out rfl)
      clear GT GF
      go_wp2
      go_ret2
      exact ⟨l, true, L, dl, by first | rfl | (rw [HLN.out]; rfl), by rw [← HLN.out]; exact l1, l2, HL4.out, HGG.out, HB4.out⟩
  · have hq : (v != 0) = true := by rw [bne_iff_ne]; exact hv
    have HGG := Lib.hid (G1.out hv)
    clear G1 G2 HPL CF HZ hv
    generalize P.length = pn at *
    go_wp2
    go_ret2
    exact ⟨[], false, none, 0, rfl, Nat.le_refl _, Nat.zero_le _, ChsP.nil _ _ _, HGG.out, HB4.out⟩
theorem get_any (t : Nat) (A : Option Addr) (ss : List (List UInt8)) (c : Nat) (w : World) (ht : Crc.Tab w t) (h : RowsAt w A ss) (hc : ss.length ≤ c) (hc2 : c ≤ maxLen) (hl : ss.length ≤ 1048576) (hf : Fit ss) :
    Calls Try.prog 35 #[.pointer (some ⟨t, 0, none⟩), .slice A ss.length c] w (RetGot w ss) := by
  refine (get_new t A ss c w ht h hc hc2 hl hf).mono ?_
  rintro e w' ⟨l, ok, X, d, h1, h2, h3, h4, h5, h6⟩
  exact ⟨l, ok, X, d, h1, h2, h3, h4.chs, h5, h6⟩
end Go.Proofs.Ytapgpibindhlfaa.Entry
