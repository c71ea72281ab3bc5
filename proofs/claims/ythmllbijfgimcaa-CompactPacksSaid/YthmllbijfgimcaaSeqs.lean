/- a range over a function whose iterator keeps blocks of its own (boxes that it writes): the loop's body leaves those alone, the iterator leaves the body's -/
import Derived.Test.YthmllbijfgimcaaFoot
import Derived.RangeFuncNested
import Derived.RangeFuncBound
import Derived.RangeFuncCalls
import Derived.RangeFuncLeaves
import Derived.Shelf.Abstract
import Derived.Shelf.RegionOpen
import Derived.OwnWalkIn
import Derived.TacticsInMore
import Derived.LoopNIn
import Derived.LoopIn
set_option maxRecDepth 100000
namespace Go.Proofs.Ythmllbijfgimcaa.Seqs
open Go.RowKit

/-- the iterator's blocks, and what a step of its has made -/
def plus (T : Nat → Prop) (V V' : World) (k : Nat) : Prop := T k ∨ (V.heap.size ≤ k ∧ k < V'.heap.size)
theorem room_of {F : Fence} (hd : F.depth = none) (k : Nat) : Fence.room F k := fun d h => by rw [hd] at h; cases h
theorem yield_any {F : Fence} (hd : F.depth = none) {m : Nat} (m' : Nat) {P : Program} {l : Nat} {args : Array Value} {W : World} {R : Ending → World → Prop} (h : YieldAt F m P l args W R) : YieldAt F m' P l args W R := by
  obtain ⟨fn, tmps, assign, body, hy, hF, hR⟩ := h
  exact ⟨fn, tmps, assign, body, hy, hF, fun c cs _ => hR c cs (room_of hd _)⟩
theorem yield_in {F : Fence} {m : Nat} (q : Nat) {P : Program} {l : Nat} {args : Array Value} {W : World} {R : Ending → World → Prop} (h : YieldAt F m P l args W R) : YieldAt (F.inRound q) m P l args W R := h
/-- a round, at whatever depth, within whatever loop's round -/
theorem yield_all {F : Fence} (hd : F.depth = none) {m : Nat} {P : Program} {l : Nat} {args : Array Value} {W : World} {R : Ending → World → Prop} (h : YieldAt F m P l args W R) :
    ∃ fn tmps assign body, (Instr.yield l args).run P W = .ok (.round l fn tmps assign body) W ∧ ∀ q m', RoundIn (F.inRound q) m' P l fn tmps assign body W R := by
  obtain ⟨fn, tmps, assign, body, hy, hF, hR⟩ := h
  exact ⟨fn, tmps, assign, body, hy, fun q m' => ⟨hF, fun c cs _ => hR c cs (room_of hd _)⟩⟩
/-- the iterator's word: whatever J says of what has come, of the iterator's blocks and of the world, if it lasts while other blocks are made and while the iterator's are written, and if each round of the loop leaves the iterator's blocks and G's as they are -/
def SeqOwn {α : Type} (F : Fence) (n : Nat) (P : Program) (g : Nat) (lb : Array Value) (encs : α → Array Value) (Px : α → World → Prop) (G : Nat → Prop) (S : List α → Prop) (N : Nat) (w : World) : Prop :=
  ∀ (l : Nat) (J : List α → (Nat → Prop) → World → Prop) (W : World), Below w.heap.size w W →
    (∀ T, OwnFrom W.heap.size (fun s V => J s T V)) →
    (∀ s T V V', J s T V → Keeps T V V' → J s (plus T V V') V') →
    (∀ pre x T V, J pre T V → Px x V → pre.length < N → YieldAt F (n - 1) P l (encs x) V fun e V' => e = .returned (.bool true) ∧ J (pre ++ [x]) T V' ∧ Keeps (fun k => ¬ T k ∧ ¬ G k) V V' ∧ KeepsFrom W.heap.size V V') →
    J [] (fun _ => False) W →
    CallsIn F n P g (#[.func (.yield l) #[] #[]] ++ lb) W fun e V' => (∃ v, e = .returned v) ∧ ∃ xs T, S xs ∧ J xs T V'
/-- what the body of a round owes: it is never left -/
def seqPost {α : Type} (B : Nat) (G : Nat → Prop) (I : List α → (Nat → Prop) → World → Prop) (xs : List α) (T : Nat → Prop) (V : World) : Exit → Act → World → Prop
  | .normal, _, V' => KeepsFrom B V V' ∧ Keeps (fun k => ¬ T k ∧ ¬ G k) V V' ∧ I xs T V'
  | _, _, _ => False
theorem keeps_put (K : Nat → Prop) (w : World) (l : Nat) (o : Obj) (h : K l) : Keeps K w (w.putObj l o) :=
  ⟨rfl, rfl, rfl, by simp, fun k _ hn => World.putObj_heap_other (fun e => hn (by rw [e]; exact h))⟩
theorem wpIn_rangeFunc_seq {F : Fence} {n : Nat} {P : Program} {α : Type} {g : Operand} {ps : Array Tmp} {assign body : Code} {Q : Exit → Act → World → Prop} {a : Act} {w : World}
    (hro : F.round = none) (h1 : 1 ≤ n) {gf : Nat} {lb : Array Value} (hg : a.eval g = .func (.func gf) #[] lb) (hFg : F.fn gf) (eg : ∀ args w, (callFunc gf args).run P w = .ok (.enter gf args) w)
    {encs : α → Array Value} {Px : α → World → Prop} {G : Nat → Prop} {S : List α → Prop} {N : Nat} {w0 : World} (hseq : SeqOwn F (n - 1) P gf lb encs Px G S N w0) (hb0 : Below w0.heap.size w0 w) (hps : ∀ x, (encs x).size = ps.size)
    (hG : ∀ k, G k → k < w.heap.size) (I : List α → (Nat → Prop) → World → Prop) (hI : ∀ T, OwnFrom w.heap.size (fun s V => I s T V))
    (hI2 : ∀ s T V V', (∀ k, T k → w.heap.size ≤ k ∧ k < V.heap.size) → I s T V → Keeps T V V' → I s (plus T V V') V')
    (hPx : ∀ x, OwnFrom w.heap.size (fun (_ : Unit) V => Px x V)) (h0 : I [] (fun _ => False) w) (a₁ : α → Act)
    (hassign : ∀ (l : Nat) (x : α) (V : World) (K : Act → World → Prop), K (a₁ x) V →
      assign.wpIn (F.inRound l) (n - 1 - 1) P (Exit.then K (fun _ _ _ => False)) { tmps := (ps.zip (encs x)).foldl (fun t (p, v) => t.setIfInBounds p v) a.tmps, defers := [] } V)
    (hbody : ∀ (l : Nat) (pre : List α) (x : α) (T : Nat → Prop) (V : World), (∀ k, T k → w.heap.size ≤ k ∧ k < V.heap.size) → I pre T V → Px x V → pre.length < N → body.wpIn (F.inRound l) (n - 1 - 1) P (seqPost w.heap.size G I (pre ++ [x]) T V) (a₁ x) V)
    (hdone : ∀ (D : Nat) (xs : List α) (T : Nat → Prop) (V : World), w.heap.size ≤ D → S xs → I xs T V → V.heap[D]? = some (.deferred (some [])) → Q .normal { a with defers := { target := .collected D, args := #[] } :: a.defers } V) :
    (Code.rangeFunc g ps assign body).wpIn F n P Q a w := by
  refine wpIn_rangeFunc fun fn hfn => ?_
  rw [hro]
  obtain ⟨L, hL⟩ : ∃ L : LoopState → Loop, L = fun st => { state := st, pending := none, fn, tmps := a.tmps, params := ps, assign, body, defers := w.heap.size } := ⟨_, rfl⟩
  have sz1 : (w.alloc (.deferred (some []))).heap.size = w.heap.size + 1 := by simp
  have sz2 : ((w.alloc (.deferred (some []))).alloc (.loop (L .ready))).heap.size = w.heap.size + 2 := by simp
  have lL : ((w.alloc (.deferred (some []))).alloc (.loop (L .ready))).heap[w.heap.size + 1]? = some (.loop (L .ready)) := by
    have := World.alloc_heap_new (w.alloc (.deferred (some []))) (.loop (L .ready)); rw [sz1] at this; exact this
  have lD : ((w.alloc (.deferred (some []))).alloc (.loop (L .ready))).heap[w.heap.size]? = some (.deferred (some [])) :=
    (Below.heap_alloc _ _ _ (by omega)).trans (World.alloc_heap_new w _)
  have hent := run_enterLoop_outer (P := P) (w := w) fn a.tmps ps assign body
  have hI0 : I [] (fun _ => False) ((w.alloc (.deferred (some []))).alloc (.loop (L .ready))) := (hI _).alloc _ ((hI _).alloc _ h0)
  have hbw : Below w0.heap.size w0 ((w.alloc (.deferred (some []))).alloc (.loop (L .ready))) := bstep hb0 (bstep (balloc w _) (balloc _ _))
  have hent' : (Instr.enterLoop fn a.tmps ps assign body none).run P w = .ok (w.heap.size + 1, [{ target := .collected w.heap.size, args := #[] }]) ((w.alloc (.deferred (some []))).alloc (.loop (L .ready))) := by rw [hL]; exact hent
  clear hent
  generalize (w.alloc (.deferred (some []))).alloc (.loop (L .ready)) = W1 at *
  refine ⟨w.heap.size + 1, [{ target := .collected w.heap.size, args := #[] }], W1, { target := .fn (.func gf) lb, args := #[.func (.yield (w.heap.size + 1)) #[] #[]] }, W1, gf,
    #[.func (.yield (w.heap.size + 1)) #[] #[]] ++ lb, W1, hent', ?_, ?_, ?_, fun _ => h1, ?_⟩
  · simp only [resolve, hg]
    simp [go_sem]
  · intro f' hf'
    simp [Target.leads] at hf'
    subst hf'
    exact hFg
  · simp [invoke, go_sem, eg]
  have far : ∀ {X Y : World} {row : Option Nat} {k : Nat}, X.grownBy Y row → (∀ r, row = some r → W1.heap.size ≤ r ∧ ∃ o : Obj, X.heap[r]? = some o ∧ o.isCells = false) → k < w.heap.size + 2 → k < X.heap.size → Y.heap[k]? = X.heap[k]? := fun hg hr hk hX =>
    hg.block _ hX fun e => by have := (hr _ e.symm).1; omega
  have lt_of : ∀ {X : World} {k : Nat} {o : Obj}, X.heap[k]? = some o → k < X.heap.size := fun h => (Array.getElem?_eq_some_iff.1 h).1
  refine (hseq (w.heap.size + 1) (fun pre T V => I pre T V ∧ (∀ k, T k → w.heap.size + 2 ≤ k ∧ k < V.heap.size) ∧ V.heap[w.heap.size + 1]? = some (.loop (L .ready)) ∧ V.heap[w.heap.size]? = some (.deferred (some [])))
    W1 hbw ?_ ?_ ?_ ⟨hI0, fun _ h => h.elim, lL, lD⟩).mono ?_
  · rintro T s X Y row ⟨i1, i2, i3, i4⟩ hgr hr
    exact ⟨hI T s X Y row i1 hgr (fun r e => ⟨by have := (hr r e).1; omega, (hr r e).2⟩), fun k hk => ⟨(i2 k hk).1, Nat.lt_of_lt_of_le (i2 k hk).2 hgr.size⟩,
      (far hgr hr (by omega) (lt_of i3)).trans i3, (far hgr hr (by omega) (lt_of i4)).trans i4⟩
  · rintro s T V V' ⟨i1, i2, i3, i4⟩ hk
    have hlt := lt_of i3
    refine ⟨hI2 s T V V' (fun k h => ⟨by have := (i2 k h).1; omega, (i2 k h).2⟩) i1 hk, fun k h => ?_, (hk.block _ hlt fun h => by have := (i2 _ h).1; omega).trans i3, (hk.block _ (by omega) fun h => by have := (i2 _ h).1; omega).trans i4⟩
    rcases h with h | h
    · exact ⟨(i2 k h).1, Nat.lt_of_lt_of_le (i2 k h).2 hk.size⟩
    · omega
  · rintro pre x T V ⟨i1, i2, i3, i4⟩ hpx hlen
    have hlt := lt_of i3
    have hy := run_yield (P := P) (args := encs x) i3 (by rw [hL]; exact hps x)
    rw [hL] at hy
    refine ⟨fn, _, assign, body, hy, roundIn_of_wpIn hfn (hassign _ x V _ ⟨_, run_beginRound i3 (by rw [hL]), ?_⟩)⟩
    clear hy
    have b1 : (V.putObj (w.heap.size + 1) (.loop { L .ready with state := .busy })).heap[w.heap.size + 1]? = some (.loop { L .ready with state := .busy }) := World.putObj_heap_same hlt
    have b2 : (V.putObj (w.heap.size + 1) (.loop { L .ready with state := .busy })).heap[w.heap.size]? = some (.deferred (some [])) := (World.putObj_heap_other (by omega)).trans i4
    have hK : ∀ (X : World) (o : Obj), Keeps (fun k => ¬ T k ∧ ¬ G k) X (X.putObj (w.heap.size + 1) o) := fun X o => keeps_put _ _ _ _ ⟨fun h => by have := (i2 _ h).1; omega, fun h => by have := hG _ h; omega⟩
    refine wpIn_mono (hbody _ pre x T _ (fun k h => ⟨by have := (i2 k h).1; omega, by have := (i2 k h).2; simpa using this⟩) ((hI T).putObj _ i1 (by omega) i3 rfl) ((hPx x).putObj (s := ()) _ hpx (by omega) i3 rfl) hlen) ?_
    rintro e a3 V3 hp
    cases e with
    | normal =>
      obtain ⟨k1, k2, k3⟩ := hp
      have c1 := k1.same _ _ (by omega) b1 rfl
      have c2 := k1.same _ _ (Nat.le_refl _) b2 rfl
      have hend := run_endRound (P := P) none c1
      have e1 : (V3.putObj (w.heap.size + 1) (.loop (L .ready))).heap[w.heap.size + 1]? = some (.loop (L .ready)) := World.putObj_heap_same (lt_of c1)
      have e2 : (V3.putObj (w.heap.size + 1) (.loop (L .ready))).heap[w.heap.size]? = some (.deferred (some [])) := (World.putObj_heap_other (by omega)).trans c2
      have kk := ((hK V (.loop { L .ready with state := .busy })).trans k2).trans (hK V3 (.loop (L .ready)))
      refine ⟨.bool true, V3.putObj (w.heap.size + 1) (.loop (L .ready)), ?_, rfl, ⟨(hI T).putObj _ k3 (by omega) c1 rfl, fun k h => ⟨(i2 k h).1, Nat.lt_of_lt_of_le (i2 k h).2 kk.size⟩, e1, e2⟩, kk, ⟨kk.size, fun k o hk ho hc => ?_⟩⟩
      · rw [hL] at hend ⊢
        exact hend
      · have hne : k ≠ w.heap.size + 1 := by have := hbw.size; omega
        have := k1.same k o (by omega) ((World.putObj_heap_other hne).trans ho) hc
        exact (World.putObj_heap_other hne).trans this
    | ret => exact hp.elim
    | exit id => exact hp.elim
    | goto t => exact hp.elim
    | panic ch => exact hp.elim
    | outgrown => exact hp.elim
  · rintro e V2 ⟨⟨v, rfl⟩, xs, T, hS, i1, i2, i3, i4⟩
    refine ⟨none, _, run_endLoop (P := P) i3 (by rw [hL]; simp) |>.trans (by rw [hL]), hdone _ xs T _ (Nat.le_refl _) hS ((hI T).putObj _ i1 (by omega) i3 rfl) ((World.putObj_heap_other (by omega)).trans i4)⟩
end Go.Proofs.Ythmllbijfgimcaa.Seqs
