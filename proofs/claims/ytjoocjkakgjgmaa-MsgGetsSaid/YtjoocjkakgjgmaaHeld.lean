/- a drawn region by an invariant over what has come up, and what it gave: operations may write, and give what nobody knows beforehand -/
import Derived.Test.YtjoocjkakgjgmaaKnown
set_option maxRecDepth 100000
namespace Go.Proofs.Ytjoocjkakgjgmaa.Drawn
open Go Go.RowKit

def updV (x : Nat → Value) (i : Nat) (v : Value) : Nat → Value := fun j => if j = i then v else x j
theorem updV_self {x : Nat → Value} {i : Nat} {v : Value} : updV x i v i = v := if_pos rfl
theorem updV_ne {x : Nat → Value} {i j : Nat} {v : Value} (h : j ≠ i) : updV x i v j = x j := if_neg h
theorem upd_self {f : Nat → Bool} {i : Nat} : upd f i i = true := by unfold upd; simp
theorem upd_ne {f : Nat → Bool} {i j : Nat} (h : j ≠ i) : upd f i j = f j := by
  unfold upd
  have : Nat.beq j i = false := by
    rw [← Bool.not_eq_true, Nat.beq_eq]; exact h
  rw [this, Bool.or_false]
theorem wpOp_held {J : Value → World → Prop} {P : Program} {ops : Array Oper} {Q : Exit → Act → World → Prop} {i : Nat} {a : Act} {w : World} {o : Oper} (d : Nat) (ho : ops[i]? = some o) (hw : Region.wanted o (yielded ops a.tmps) = true) (hd : o.dst = some d)
    (h : o.wp P a w (fun a' w' => ∃ v, a' = a.put (some d) v ∧ J v w') Q) : wpOp P ops Q i (fun a' w' => ∃ v, a' = a.put (some (dstOf ops i)) v ∧ J v w') a w := by
  have e : dstOf ops i = d := by unfold dstOf; rw [ho]; simp [hd]
  rw [e]
  exact wpOp_of ho hw h
/-- a drawn region, by an invariant over which operations have come up, what they gave, and the world; with a tail that comes in the text's order behind all others (a store) -/
theorem wp_region_heldT {P : Program} {ops : Array Oper} {Q : Exit → Act → World → Prop} {id : Nat} {a0 : Act} {w0 : World} (n : Nat) (I : (Nat → Bool) → (Nat → Value) → World → Prop)
    (hm : P.follows .mixedOrders = true) (hB : flowTB ops n a0.tmps.size = true)
    (hz : ∀ (f : Nat → Bool) (x : Nat → Value), (∀ i, i < n → f i = false) → I f x w0.drew)
    (hstep : ∀ i, i < n → ∀ (f : Nat → Bool) (x : Nat → Value) (a : Act) (w : World), f i = false → I f x w → (∀ t : Nat, freeB ops n t = true → a.tmps[t]?.getD undef = a0.tmps[t]?.getD undef) →
      (∀ j, depB ops i j = true → f j = true ∧ a.tmps[dstOf ops j]?.getD undef = x j) →
      wpOp P ops Q i (fun a' w' => ∃ v, a' = a.put (some (dstOf ops i)) v ∧ I (upd f i) (updV x i v) w') a w)
    (hfin : ∀ (f : Nat → Bool) (x : Nat → Value) (w : World), (∀ i, i < n → f i = true) → I f x w → wpList P ops Q (ops.toList.drop n) (acts a0 ((List.range n).reverse.map fun i => (dstOf ops i, some (x i)))) w) : (Code.region id ops true).wp P Q a0 w0 := by
  unfold flowTB at hB
  simp only [Bool.and_eq_true, List.all_eq_true, List.mem_range, Nat.blt_eq] at hB
  obtain ⟨⟨⟨⟨⟨⟨h1, h2⟩, h3⟩, h4⟩, h5⟩, h6⟩, h7⟩ := hB
  have hnd := unlikeB_nodup _ h3
  have hlt : ∀ (i : Nat) (o : Oper), ops[i]? = some o → ∀ e ∈ o.after, Region.binds .any e = true → e.on < i := fun i o ho e he hbind => by
    have hi : i < ops.size := (Array.getElem?_eq_some_iff.1 ho).1
    have := h4 i hi
    rw [ho] at this
    simp only [Option.map_some, Option.getD_some, List.all_eq_true] at this
    have := this e (Array.mem_toList_iff.mpr he)
    rw [hbind] at this
    simpa using this
  have main : ∀ (c : Nat) (listed : Array Bool) (x : Nat → Value) (a : Act) (w : World), HeadInv .any ops n listed → cntN listed n = c → I (fun j => listed.getD j true) x w →
      a = acts a0 ((List.range n).reverse.map fun i => (dstOf ops i, if listed.getD i true = true then some (x i) else none)) →
      wpAny P .any ops Q (c + (ops.size - n)) listed a w := by
    intro c
    induction c with
    | zero =>
      intro listed x a w inv hc hb ha
      have hall := cntN_zero n hc
      have he : listed = listedN ops.size n := by
        refine Array.ext (by rw [inv.size]; simp [listedN]) fun i h1 h2 => ?_
        have hsz : i < ops.size := by rw [← inv.size]; exact h1
        by_cases hi : i < n
        · have := hall i hi
          simp [h1] at this
          simp [listedN, this, hi]
        · have := inv.tail i (by omega) hsz
          simp [h1] at this
          have hbl : Nat.blt i n = false := by rw [← Bool.not_eq_true, Nat.blt_eq]; exact hi
          simp [listedN, this, hbl]
      have e : (List.range n).reverse.map (fun i => (dstOf ops i, if listed.getD i true = true then some (x i) else none)) = (List.range n).reverse.map fun i => (dstOf ops i, some (x i)) := List.map_congr_left fun i hi => by
        rw [if_pos (hall i (by simpa using hi))]
      have hw := hfin (fun j => listed.getD j true) x w (fun i hi => hall i hi) hb
      rw [← e, ← ha] at hw
      rw [he, Nat.zero_add]
      have hlen : (ops.toList.drop n).length = ops.size - n := by simp
      rw [← hlen]
      rw [← hlen] at h7
      exact wpAny_of_seq (ops.toList.drop n) n _ a w (fun j => by simp) h7 hw
    | succ c ih =>
      intro listed x a w inv hc hb ha
      obtain ⟨i0, hi0, hl0, hmin⟩ := cntN_pos (listed := listed) n (by omega)
      rw [Nat.succ_add]
      refine ⟨fun hr => ?_, fun i hi => ?_⟩
      · exfalso
        have hsz : i0 < ops.size := by omega
        have : i0 ∈ Region.ready .any ops listed := mem_ready.2 ⟨hl0, ops[i0], by simp [hsz], fun e he hbind => by
          have h1 := hlt i0 ops[i0] (by simp [hsz]) e he hbind
          have h2 := hmin e.on h1
          have h3 : e.on < listed.size := by rw [inv.size]; omega
          simp [h3] at h2 ⊢; exact h2⟩
        rw [hr] at this; cases this
      have hin : i < n := by
        rcases Nat.lt_or_ge i n with h | h
        · exact h
        · exact absurd hi (tail_waits h5 h6 h1 inv (n - i0) i0 rfl hi0 hl0 i h)
      obtain ⟨h0, o, ho, haft⟩ := mem_ready.1 hi
      have hev : ∀ t : Nat, freeB ops n t = true → a.tmps[t]?.getD undef = a0.tmps[t]?.getD undef := fun t ht => by
        rw [← eval_tmp, ← eval_tmp, ha]
        refine acts_other a0 t _ fun e he => ?_
        simp only [List.mem_map, List.mem_reverse, List.mem_range] at he
        obtain ⟨j, hj, rfl⟩ := he
        unfold freeB at ht
        rw [List.all_eq_true] at ht
        have := ht j (List.mem_range.mpr hj)
        intro e2
        have e3 : dstOf ops j = t := e2
        simp [e3] at this
      have hdep : ∀ j, depB ops i j = true → listed.getD j true = true ∧ a.tmps[dstOf ops j]?.getD undef = x j := fun j hj => by
        unfold depB at hj
        rw [ho] at hj
        simp only [Option.map_some, Option.getD_some, List.any_eq_true, Bool.and_eq_true] at hj
        obtain ⟨e, he, hbind, hon⟩ := hj
        have e2 : e.on = j := by simpa using hon
        subst e2
        have he' := Array.mem_toList_iff.mp he
        have hl := haft e he' hbind
        have hen : e.on < n := by have := hlt i o ho e he' hbind; omega
        have hl2 : listed.getD e.on true = true := by
          have : e.on < listed.size := by rw [inv.size]; omega
          simp [this] at hl ⊢; exact hl
        refine ⟨hl2, ?_⟩
        rw [← eval_tmp, ha]
        refine acts_here a0 _ _ (h2 _ hen) _ ?_ ?_
        · rw [List.map_map]; exact hnd
        · simp only [List.mem_map, List.mem_reverse, List.mem_range]
          exact ⟨e.on, hen, by rw [if_pos hl2]⟩
      refine wpOp_mono ?_ (hstep i hin (fun j => listed.getD j true) x a w h0 hb hev hdep)
      rintro a' w' ⟨v, rfl, hI'⟩
      have hcs := cntN_set h0 n hin
      have hsz : i < listed.size := by rw [inv.size]; omega
      refine ih _ (updV x i v) _ _ (inv.set hi hin) (by omega) (by rw [getD_setT listed i hsz]; exact hI') ?_
      rw [ha]
      refine acts_map a0 (dstOf ops) (f := fun j => if listed.getD j true = true then some (x j) else none) (g := fun j => if (listed.setIfInBounds i true).getD j true = true then some (updV x i v j) else none) ?_ ?_ _ hnd (by simpa using hin) fun j hj hne => ?_
      · show (if listed.getD i true = true then some (x i) else none) = none
        rw [h0]; rfl
      · show (if (listed.setIfInBounds i true).getD i true = true then some (updV x i v i) else none) = some v
        rw [getD_set_self h0, if_pos rfl, updV_self]
      · show (if listed.getD j true = true then some (x j) else none) = (if (listed.setIfInBounds i true).getD j true = true then some (updV x i v j) else none)
        rw [getD_set_ne true (fun e => hne e.symm), updV_ne hne]
  refine wp_region_any hm ?_
  have hc : cntN (Array.replicate ops.size false) n = n := by
    have : ∀ m, m ≤ ops.size → cntN (Array.replicate ops.size false) m = m := by
      intro m
      induction m with
      | zero => intro _; rfl
      | succ m ih =>
        intro h
        unfold cntN
        rw [ih (by omega)]
        simp [show m < ops.size by omega]
    exact this n (by omega)
  have inv : HeadInv .any ops n (Array.replicate ops.size false) := ⟨by simp, fun j oj _ hl e _ _ => (by rw [getD_replicate_false] at hl; cases hl), fun t _ ht => (by simp [ht])⟩
  have := main n _ (fun _ => undef) a0 { w0 with drawn := w0.drawn + 1 } inv hc (hz _ _ fun i hi => by simp [show i < ops.size by omega]) ?_
  · rw [show ops.size = n + (ops.size - n) by omega]
    rw [show n + (ops.size - n) = ops.size by omega]
    rw [show n + (ops.size - n) = ops.size by omega] at this
    exact this
  · have : ∀ is : List Nat, (∀ i ∈ is, i < n) → acts a0 (is.map fun i => (dstOf ops i, if (Array.replicate ops.size false).getD i true = true then some (undef) else none)) = a0 := by
      intro is
      induction is with
      | nil => intro _; rfl
      | cons i is ih =>
        intro h
        have hi : i < ops.size := by have := h i List.mem_cons_self; omega
        show acts a0 ((dstOf ops i, if (Array.replicate ops.size false).getD i true = true then some (undef) else none) :: _) = a0
        rw [if_neg (by simp [hi])]
        exact ih fun j hj => h j (List.mem_cons_of_mem _ hj)
    exact (this _ fun i hi => by simpa using hi).symm
end Go.Proofs.Ytjoocjkakgjgmaa.Drawn
