/- a range over a function whose assignment makes memory (each round's variable is boxed): as XSeqs' law, with a middle state between the assignment and the body -/
import Derived.Test.YthmllbijfgimcaaSeqs
set_option maxRecDepth 100000
namespace Go.Proofs.Ythmllbijfgimcaa.Seqs
open Go.RowKit

theorem wpIn_rangeFunc_seqA {F : Fence} {n : Nat} {P : Program} {α : Type} {g : Operand} {ps : Array Tmp} {assign body : Code} {Q : Exit → Act → World → Prop} {a : Act} {w : World}
    (hro : F.round = none) (h1 : 1 ≤ n) {gf : Nat} {lb : Array Value} (hg : a.eval g = .func (.func gf) #[] lb) (hFg : F.fn gf) (eg : ∀ args w, (callFunc gf args).run P w = .ok (.enter gf args) w)
    {encs : α → Array Value} {Px : α → World → Prop} {G : Nat → Prop} {S : List α → Prop} {N : Nat} {w0 : World} (hseq : SeqOwn F (n - 1) P gf lb encs Px G S N w0) (hb0 : Below w0.heap.size w0 w) (hps : ∀ x, (encs x).size = ps.size)
    (hG : ∀ k, G k → k < w.heap.size) (I : List α → (Nat → Prop) → World → Prop) (hI : ∀ T, OwnFrom w.heap.size (fun s V => I s T V))
    (hI2 : ∀ s T V V', (∀ k, T k → w.heap.size ≤ k ∧ k < V.heap.size) → I s T V → Keeps T V V' → I s (plus T V V') V')
    (h0 : I [] (fun _ => False) w)
    (M : List α → α → (Nat → Prop) → Act → World → Prop) (hM : ∀ x T a₁, OwnFrom w.heap.size (fun s V => M s x T a₁ V))
    (hassign : ∀ (l : Nat) (pre : List α) (x : α) (T : Nat → Prop) (V : World) (K : Act → World → Prop), (∀ k, T k → w.heap.size ≤ k ∧ k < V.heap.size) → I pre T V → Px x V → pre.length < N →
      (∀ a₁ V₁, M pre x T a₁ V₁ → Keeps (fun k => ¬ T k ∧ ¬ G k) V V₁ → KeepsFrom w.heap.size V V₁ → K a₁ V₁) →
      assign.wpIn (F.inRound l) (n - 1 - 1) P (Exit.then K (fun _ _ _ => False)) { tmps := (ps.zip (encs x)).foldl (fun t (p, v) => t.setIfInBounds p v) a.tmps, defers := [] } V)
    (hbody : ∀ (l : Nat) (pre : List α) (x : α) (T : Nat → Prop) (a₁ : Act) (V : World), (∀ k, T k → w.heap.size ≤ k ∧ k < V.heap.size) → M pre x T a₁ V → pre.length < N → body.wpIn (F.inRound l) (n - 1 - 1) P (seqPost w.heap.size G I (pre ++ [x]) T V) a₁ V)
    (hdone : ∀ (D : Nat) (xs : List α) (T : Nat → Prop) (V : World), w.heap.size ≤ D → S xs → I xs T V → V.heap[D]? = some (.deferred (some [])) → Q .normal { a with defers := { target := .collected D, args := #[] } :: a.defers } V) :
    (Code.rangeFunc g ps assign body).wpIn F n P Q a w := by
  refine wpIn_rangeFunc fun fn hfn => ?_
  rw [hro]
  obtain ⟨L, hL⟩ : ∃ L : LoopState → Loop, L = fun st => { state := st, pending := none, fn, tmps := a.tmps, params := ps, assign, body, defers := w.heap.size } := ⟨_, rfl⟩
  have sz1 : (w.alloc (.deferred (some []))).heap.size = w.heap.size + 1 := by simp
  have sz2 : ((w.alloc (.deferred (some []))).alloc (.loop (L .ready))).heap.size = w.heap.size + 2 := by simp
  have lL : ((w.alloc (.deferred (some []))).alloc (.loop (L .ready))).heap[w.heap.size + 1]? = some (.loop (L .ready)) := by
    have := World.alloc_heap_new (w.alloc (.deferred (some []))) (.loop (L .ready)); rw [sz1] at this; exact this
  have lD : ((w.alloc (.deferred (some []))).alloc (.loop (L .ready))).heap[w.heap.size]? = some (.deferred (some [])) :=
    (Below.heap_alloc _ _ _ (by omega)).trans (World.alloc_heap_new w _)
  have hent := run_enterLoop_outer (P := P) (w := w) fn a.tmps ps assign body
  have hI0 : I [] (fun _ => False) ((w.alloc (.deferred (some []))).alloc (.loop (L .ready))) := (hI _).alloc _ ((hI _).alloc _ h0)
  have hbw : Below w0.heap.size w0 ((w.alloc (.deferred (some []))).alloc (.loop (L .ready))) := bstep hb0 (bstep (balloc w _) (balloc _ _))
  have hent' : (Instr.enterLoop fn a.tmps ps assign body none).run P w = .ok (w.heap.size + 1, [{ target := .collected w.heap.size, args := #[] }]) ((w.alloc (.deferred (some []))).alloc (.loop (L .ready))) := by rw [hL]; exact hent
  clear hent
  generalize (w.alloc (.deferred (some []))).alloc (.loop (L .ready)) = W1 at *
  refine ⟨w.heap.size + 1, [{ target := .collected w.heap.size, args := #[] }], W1, { target := .fn (.func gf) lb, args := #[.func (.yield (w.heap.size + 1)) #[] #[]] }, W1, gf,
    #[.func (.yield (w.heap.size + 1)) #[] #[]] ++ lb, W1, hent', ?_, ?_, ?_, fun _ => h1, ?_⟩
  · simp only [resolve, hg]
    simp [go_sem]
  · intro f' hf'
    simp [Target.leads] at hf'
    subst hf'
    exact hFg
  · simp [invoke, go_sem, eg]
  have far : ∀ {X Y : World} {row : Option Nat} {k : Nat}, X.grownBy Y row → (∀ r, row = some r → W1.heap.size ≤ r ∧ ∃ o : Obj, X.heap[r]? = some o ∧ o.isCells = false) → k < w.heap.size + 2 → k < X.heap.size → Y.heap[k]? = X.heap[k]? := fun hg hr hk hX =>
    hg.block _ hX fun e => by have := (hr _ e.symm).1; omega
  have lt_of : ∀ {X : World} {k : Nat} {o : Obj}, X.heap[k]? = some o → k < X.heap.size := fun h => (Array.getElem?_eq_some_iff.1 h).1
  refine (hseq (w.heap.size + 1) (fun pre T V => I pre T V ∧ (∀ k, T k → w.heap.size + 2 ≤ k ∧ k < V.heap.size) ∧ V.heap[w.heap.size + 1]? = some (.loop (L .ready)) ∧ V.heap[w.heap.size]? = some (.deferred (some [])))
    W1 hbw ?_ ?_ ?_ ⟨hI0, fun _ h => h.elim, lL, lD⟩).mono ?_
  · rintro T s X Y row ⟨i1, i2, i3, i4⟩ hgr hr
    exact ⟨hI T s X Y row i1 hgr (fun r e => ⟨by have := (hr r e).1; omega, (hr r e).2⟩), fun k hk => ⟨(i2 k hk).1, Nat.lt_of_lt_of_le (i2 k hk).2 hgr.size⟩,
      (far hgr hr (by omega) (lt_of i3)).trans i3, (far hgr hr (by omega) (lt_of i4)).trans i4⟩
  · rintro s T V V' ⟨i1, i2, i3, i4⟩ hk
    have hlt := lt_of i3
    refine ⟨hI2 s T V V' (fun k h => ⟨by have := (i2 k h).1; omega, (i2 k h).2⟩) i1 hk, fun k h => ?_, (hk.block _ hlt fun h => by have := (i2 _ h).1; omega).trans i3, (hk.block _ (by omega) fun h => by have := (i2 _ h).1; omega).trans i4⟩
    rcases h with h | h
    · exact ⟨(i2 k h).1, Nat.lt_of_lt_of_le (i2 k h).2 hk.size⟩
    · omega
  · rintro pre x T V ⟨i1, i2, i3, i4⟩ hpx hlen
    have hlt := lt_of i3
    have hy := run_yield (P := P) (args := encs x) i3 (by rw [hL]; exact hps x)
    rw [hL] at hy
    refine ⟨fn, _, assign, body, hy, roundIn_of_wpIn hfn (hassign _ pre x T V _ (fun k h => ⟨by have := (i2 k h).1; omega, (i2 k h).2⟩) i1 hpx hlen fun a₁ V₁ hm q1 q2 => ?_)⟩
    clear hy
    have j3 := q2.same _ _ (by omega) i3 rfl
    have j4 := q2.same _ _ (Nat.le_refl _) i4 rfl
    refine ⟨_, run_beginRound j3 (by rw [hL]), ?_⟩
    have hlt1 := lt_of j3
    have b1 : (V₁.putObj (w.heap.size + 1) (.loop { L .ready with state := .busy })).heap[w.heap.size + 1]? = some (.loop { L .ready with state := .busy }) := World.putObj_heap_same hlt1
    have b2 : (V₁.putObj (w.heap.size + 1) (.loop { L .ready with state := .busy })).heap[w.heap.size]? = some (.deferred (some [])) := (World.putObj_heap_other (by omega)).trans j4
    have hK : ∀ (X : World) (o : Obj), Keeps (fun k => ¬ T k ∧ ¬ G k) X (X.putObj (w.heap.size + 1) o) := fun X o => keeps_put _ _ _ _ ⟨fun h => by have := (i2 _ h).1; omega, fun h => by have := hG _ h; omega⟩
    refine wpIn_mono (hbody _ pre x T a₁ _ (fun k h => ⟨by have := (i2 k h).1; omega, by have := (i2 k h).2; have := q1.size; simp; omega⟩) ((hM x T a₁).putObj _ hm (by omega) j3 rfl) hlen) ?_
    rintro e a3 V3 hp
    cases e with
    | normal =>
      obtain ⟨k1, k2, k3⟩ := hp
      have c1 := k1.same _ _ (by omega) b1 rfl
      have c2 := k1.same _ _ (Nat.le_refl _) b2 rfl
      have hend := run_endRound (P := P) none c1
      have e1 : (V3.putObj (w.heap.size + 1) (.loop (L .ready))).heap[w.heap.size + 1]? = some (.loop (L .ready)) := World.putObj_heap_same (lt_of c1)
      have e2 : (V3.putObj (w.heap.size + 1) (.loop (L .ready))).heap[w.heap.size]? = some (.deferred (some [])) := (World.putObj_heap_other (by omega)).trans c2
      have kk := ((q1.trans (hK V₁ (.loop { L .ready with state := .busy }))).trans k2).trans (hK V3 (.loop (L .ready)))
      refine ⟨.bool true, V3.putObj (w.heap.size + 1) (.loop (L .ready)), ?_, rfl, ⟨(hI T).putObj _ k3 (by omega) c1 rfl, fun k h => ⟨(i2 k h).1, Nat.lt_of_lt_of_le (i2 k h).2 kk.size⟩, e1, e2⟩, kk, ⟨kk.size, fun k o hk ho hc => ?_⟩⟩
      · rw [hL] at hend ⊢
        exact hend
      · have hne : k ≠ w.heap.size + 1 := by have := hbw.size; omega
        have h2 := q2.same k o (by omega) ho hc
        have := k1.same k o (by omega) ((World.putObj_heap_other hne).trans h2) hc
        exact (World.putObj_heap_other hne).trans this
    | ret => exact hp.elim
    | exit id => exact hp.elim
    | goto t => exact hp.elim
    | panic ch => exact hp.elim
    | outgrown => exact hp.elim
  · rintro e V2 ⟨⟨v, rfl⟩, xs, T, hS, i1, i2, i3, i4⟩
    refine ⟨none, _, run_endLoop (P := P) i3 (by rw [hL]; simp) |>.trans (by rw [hL]), hdone _ xs T _ (Nat.le_refl _) hS ((hI T).putObj _ i1 (by omega) i3 rfl) ((World.putObj_heap_other (by omega)).trans i4)⟩
end Go.Proofs.Ythmllbijfgimcaa.Seqs
