/- a drawn region whose operations may write: by a relation of worlds that each of them keeps -/
import Derived.Test.YtnjdioghjjaegaaDrawn
set_option maxRecDepth 100000
namespace Go.Proofs.Ytnjdioghjjaegaa.Drawn
open Go Go.RowKit

/-- a fact about a value that such steps keep -/
structure SQ (T : World → World → Prop) where
  p : Value → World → Prop
  st : ∀ v w w', p v w → T w w' → p v w'
def SQ.is (T : World → World → Prop) (u : Value) : SQ T := ⟨fun v _ => v = u, fun _ _ _ h _ => h⟩
def SQ.any (T : World → World → Prop) : SQ T := ⟨fun _ _ => True, fun _ _ _ _ _ => trivial⟩
theorem wpOp_flowS (T : World → World → Prop) {P : Program} {ops : Array Oper} {Q : Exit → Act → World → Prop} {i : Nat} {R : Value → World → Prop} {a : Act} {w : World} {o : Oper} (d : Nat) (ho : ops[i]? = some o) (hw : Region.wanted o (yielded ops a.tmps) = true) (hd : o.dst = some d)
    (h : o.wp P a w (fun a' w' => ∃ v, a' = a.put (some d) v ∧ R v w' ∧ T w w') Q) : wpOp P ops Q i (fun a' w' => ∃ v, a' = a.put (some (dstOf ops i)) v ∧ R v w' ∧ T w w') a w := by
  have e : dstOf ops i = d := by unfold dstOf; rw [ho]; simp [hd]
  rw [e]
  exact wpOp_of ho hw h
theorem wp_region_flowS (T : World → World → Prop) (tr : ∀ a b c, T a b → T b c → T a c) {P : Program} {ops : Array Oper} {Q : Exit → Act → World → Prop} {id : Nat} {a0 : Act} {w0 : World} (n : Nat) (L : List (SQ T))
    (h0 : T w0 w0.drew) (hm : P.follows .mixedOrders = true) (hB : flowTB ops n a0.tmps.size = true)
    (hstep : ∀ i, i < n → ∀ (a : Act) (w : World), T w0 w → (∀ t : Nat, freeB ops n t = true → a.tmps[t]?.getD undef = a0.tmps[t]?.getD undef) →
      (∀ j, depB ops i j = true → (L.getD j (SQ.any T)).p (a.tmps[dstOf ops j]?.getD undef) w) →
      wpOp P ops Q i (fun a' w' => ∃ v, a' = a.put (some (dstOf ops i)) v ∧ (L.getD i (SQ.any T)).p v w' ∧ T w w') a w)
    (hfin : ∀ (x : Nat → Value) (w : World), T w0 w → (∀ i, i < n → (L.getD i (SQ.any T)).p (x i) w) → wpList P ops Q (ops.toList.drop n) (acts a0 ((List.range n).reverse.map fun i => (dstOf ops i, some (x i)))) w) : (Code.region id ops true).wp P Q a0 w0 := by
  unfold flowTB at hB
  simp only [Bool.and_eq_true, List.all_eq_true, List.mem_range, Nat.blt_eq] at hB
  obtain ⟨⟨⟨⟨⟨⟨h1, h2⟩, h3⟩, h4⟩, h5⟩, h6⟩, h7⟩ := hB
  have hnd := unlikeB_nodup _ h3
  have hlt : ∀ (i : Nat) (o : Oper), ops[i]? = some o → ∀ e ∈ o.after, Region.binds .any e = true → e.on < i := fun i o ho e he hbind => by
    have hi : i < ops.size := (Array.getElem?_eq_some_iff.1 ho).1
    have := h4 i hi
    rw [ho] at this
    simp only [Option.map_some, Option.getD_some, List.all_eq_true] at this
    have := this e (Array.mem_toList_iff.mpr he)
    rw [hbind] at this
    simpa using this
  have main : ∀ (c : Nat) (listed : Array Bool) (a : Act) (w : World), HeadInv .any ops n listed → cntN listed n = c → T w0 w →
      (∃ x : Nat → Value, a = acts a0 ((List.range n).reverse.map fun i => (dstOf ops i, if listed.getD i true = true then some (x i) else none)) ∧ ∀ i, i < n → listed.getD i true = true → (L.getD i (SQ.any T)).p (x i) w) →
      wpAny P .any ops Q (c + (ops.size - n)) listed a w := by
    intro c
    induction c with
    | zero =>
      intro listed a w inv hc hb ⟨x, ha, hx⟩
      have hall := cntN_zero n hc
      have he : listed = listedN ops.size n := by
        refine Array.ext (by rw [inv.size]; simp [listedN]) fun i h1 h2 => ?_
        have hsz : i < ops.size := by rw [← inv.size]; exact h1
        by_cases hi : i < n
        · have := hall i hi
          simp [h1] at this
          simp [listedN, this, hi]
        · have := inv.tail i (by omega) hsz
          simp [h1] at this
          have hbl : Nat.blt i n = false := by rw [← Bool.not_eq_true, Nat.blt_eq]; exact hi
          simp [listedN, this, hbl]
      have e : (List.range n).reverse.map (fun i => (dstOf ops i, if listed.getD i true = true then some (x i) else none)) = (List.range n).reverse.map fun i => (dstOf ops i, some (x i)) := List.map_congr_left fun i hi => by
        rw [if_pos (hall i (by simpa using hi))]
      have hw := hfin x w hb fun i hi => hx i hi (hall i hi)
      rw [← e, ← ha] at hw
      rw [he, Nat.zero_add]
      have hlen : (ops.toList.drop n).length = ops.size - n := by simp
      rw [← hlen]
      rw [← hlen] at h7
      exact wpAny_of_seq (ops.toList.drop n) n _ a w (fun j => by simp) h7 hw
    | succ c ih =>
      intro listed a w inv hc hb ⟨x, ha, hx⟩
      obtain ⟨i0, hi0, hl0, hmin⟩ := cntN_pos (listed := listed) n (by omega)
      rw [Nat.succ_add]
      refine ⟨fun hr => ?_, fun i hi => ?_⟩
      · exfalso
        have hsz : i0 < ops.size := by omega
        have : i0 ∈ Region.ready .any ops listed := mem_ready.2 ⟨hl0, ops[i0], by simp [hsz], fun e he hbind => by
          have h1 := hlt i0 ops[i0] (by simp [hsz]) e he hbind
          have h2 := hmin e.on h1
          have h3 : e.on < listed.size := by rw [inv.size]; omega
          simp [h3] at h2 ⊢; exact h2⟩
        rw [hr] at this; cases this
      have hin : i < n := by
        rcases Nat.lt_or_ge i n with h | h
        · exact h
        · exact absurd hi (tail_waits h5 h6 h1 inv (n - i0) i0 rfl hi0 hl0 i h)
      obtain ⟨h0, o, ho, haft⟩ := mem_ready.1 hi
      have hev : ∀ t : Nat, freeB ops n t = true → a.tmps[t]?.getD undef = a0.tmps[t]?.getD undef := fun t ht => by
        rw [← eval_tmp, ← eval_tmp, ha]
        refine acts_other a0 t _ fun e he => ?_
        simp only [List.mem_map, List.mem_reverse, List.mem_range] at he
        obtain ⟨j, hj, rfl⟩ := he
        unfold freeB at ht
        rw [List.all_eq_true] at ht
        have := ht j (List.mem_range.mpr hj)
        intro e2
        have e3 : dstOf ops j = t := e2
        simp [e3] at this
      have hdep : ∀ j, depB ops i j = true → (L.getD j (SQ.any T)).p (a.tmps[dstOf ops j]?.getD undef) w := fun j hj => by
        unfold depB at hj
        rw [ho] at hj
        simp only [Option.map_some, Option.getD_some, List.any_eq_true, Bool.and_eq_true] at hj
        obtain ⟨e, he, hbind, hon⟩ := hj
        have e2 : e.on = j := by simpa using hon
        subst e2
        have he' := Array.mem_toList_iff.mp he
        have hl := haft e he' hbind
        have hen : e.on < n := by have := hlt i o ho e he' hbind; omega
        have hl2 : listed.getD e.on true = true := by
          have : e.on < listed.size := by rw [inv.size]; omega
          simp [this] at hl ⊢; exact hl
        have : a.tmps[dstOf ops e.on]?.getD undef = x e.on := by
          rw [← eval_tmp, ha]
          refine acts_here a0 _ (x e.on) (h2 _ hen) _ ?_ ?_
          · rw [List.map_map]; exact hnd
          · simp only [List.mem_map, List.mem_reverse, List.mem_range]
            exact ⟨e.on, hen, by rw [if_pos hl2]⟩
        rw [this]
        exact hx _ hen hl2
      refine wpOp_mono ?_ (hstep i hin a w hb hev hdep)
      rintro a' w' ⟨v, rfl, hv, hb'⟩
      have hcs := cntN_set h0 n hin
      refine ih _ _ _ (inv.set hi hin) (by omega) (tr _ _ _ hb hb') ⟨fun j => if j = i then v else x j, ?_, fun j hj hl => ?_⟩
      · rw [ha]
        refine acts_map a0 (dstOf ops) (f := fun j => if listed.getD j true = true then some (x j) else none) (g := fun j => if (listed.setIfInBounds i true).getD j true = true then some (if j = i then v else x j) else none) ?_ ?_ _ hnd (by simpa using hin) fun j hj hne => ?_
        · show (if listed.getD i true = true then some (x i) else none) = none
          rw [h0]; rfl
        · show (if (listed.setIfInBounds i true).getD i true = true then some (if i = i then v else x i) else none) = some v
          rw [getD_set_self h0, if_pos rfl, if_pos rfl]
        · show (if listed.getD j true = true then some (x j) else none) = (if (listed.setIfInBounds i true).getD j true = true then some (if j = i then v else x j) else none)
          rw [getD_set_ne true (fun e => hne e.symm), if_neg hne]
      · by_cases e : j = i
        · subst e; show (L.getD j (SQ.any T)).p (if j = j then v else x j) w'; rw [if_pos rfl]; exact hv
        · show (L.getD j (SQ.any T)).p (if j = i then v else x j) w'
          rw [if_neg e]
          rw [getD_set_ne true (fun e2 => e e2.symm)] at hl
          exact (L.getD j (SQ.any T)).st _ _ _ (hx j hj hl) hb'
  refine wp_region_any hm ?_
  have hc : cntN (Array.replicate ops.size false) n = n := by
    have : ∀ m, m ≤ ops.size → cntN (Array.replicate ops.size false) m = m := by
      intro m
      induction m with
      | zero => intro _; rfl
      | succ m ih =>
        intro h
        unfold cntN
        rw [ih (by omega)]
        simp [show m < ops.size by omega]
    exact this n (by omega)
  have inv : HeadInv .any ops n (Array.replicate ops.size false) := ⟨by simp, fun j oj _ hl e _ _ => (by rw [getD_replicate_false] at hl; cases hl), fun t _ ht => (by simp [ht])⟩
  have := main n _ a0 { w0 with drawn := w0.drawn + 1 } inv hc h0 ⟨fun _ => undef, ?_, fun i hi hl => ?_⟩
  · rw [show ops.size = n + (ops.size - n) by omega]
    rw [show n + (ops.size - n) = ops.size by omega]
    rw [show n + (ops.size - n) = ops.size by omega] at this
    exact this
  · have : ∀ is : List Nat, (∀ i ∈ is, i < n) → acts a0 (is.map fun i => (dstOf ops i, if (Array.replicate ops.size false).getD i true = true then some undef else none)) = a0 := by
      intro is
      induction is with
      | nil => intro _; rfl
      | cons i is ih =>
        intro h
        have hi : i < ops.size := by have := h i List.mem_cons_self; omega
        show acts a0 ((dstOf ops i, if (Array.replicate ops.size false).getD i true = true then some undef else none) :: _) = a0
        rw [if_neg (by simp [hi])]
        exact ih fun j hj => h j (List.mem_cons_of_mem _ hj)
    exact (this _ fun i hi => by simpa using hi).symm
  · exfalso
    simp [show i < ops.size by omega] at hl
end Go.Proofs.Ytnjdioghjjaegaa.Drawn
