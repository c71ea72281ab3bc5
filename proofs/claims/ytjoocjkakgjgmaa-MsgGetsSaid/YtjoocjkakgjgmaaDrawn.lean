/- a region whose order is drawn, by an invariant over what has come up -/
import Derived.Orders
import Derived.StillTail
import Derived.WalkKit
import Derived.Below
set_option maxRecDepth 100000
namespace Go.Proofs.Ytjoocjkakgjgmaa.Drawn
open Go Go.RowKit

section
variable {P : Program} {md : Region.Mode} {ops : Array Oper} {Q : Exit → Act → World → Prop}
/-- how many have not come up -/
def left (ops : Array Oper) (listed : Array Bool) : Nat := ((List.range ops.size).filter fun i => !(listed.getD i true)).length
theorem filter_lt {α : Type} {p q : α → Bool} {l : List α} (h : ∀ x ∈ l, q x = true → p x = true) {y : α} (hy : y ∈ l) (h1 : p y = true) (h2 : q y = false) : (l.filter q).length < (l.filter p).length := by
  induction l with
  | nil => cases hy
  | cons x l ih =>
    have hm : (l.filter q).length ≤ (l.filter p).length := by
      have hs : ∀ l' : List α, (∀ x ∈ l', q x = true → p x = true) → (l'.filter q).length ≤ (l'.filter p).length := by
        intro l'
        induction l' with
        | nil => intro _; exact Nat.le_refl _
        | cons z l' ih' =>
          intro hz
          have h3 := ih' fun x hx => hz x (List.mem_cons_of_mem _ hx)
          rw [List.filter_cons, List.filter_cons]
          by_cases hq : q z = true
          · rw [if_pos hq, if_pos (hz z List.mem_cons_self hq)]; simp; exact h3
          · rw [if_neg hq]; split
            · simp; omega
            · exact h3
      exact hs l fun x hx => h x (List.mem_cons_of_mem _ hx)
    rw [List.filter_cons, List.filter_cons]
    rcases List.mem_cons.mp hy with rfl | hy'
    · rw [if_neg (by rw [h2]; simp), if_pos h1]; simp; omega
    · have h3 := ih (fun x hx => h x (List.mem_cons_of_mem _ hx)) hy'
      by_cases hq : q x = true
      · rw [if_pos hq, if_pos (h x List.mem_cons_self hq)]; simp; exact h3
      · rw [if_neg hq]; split
        · simp; omega
        · exact h3
theorem getD_set_self {listed : Array Bool} {i : Nat} (h : listed.getD i true = false) : (listed.setIfInBounds i true).getD i true = true := by
  have hlt : i < listed.size := by
    rcases Nat.lt_or_ge i listed.size with h' | h'
    · exact h'
    · simp [Array.getElem?_eq_none h'] at h
  simp [hlt]
theorem left_step {listed : Array Bool} {i : Nat} (hi : i ∈ Region.ready md ops listed) : left ops (listed.setIfInBounds i true) < left ops listed := by
  obtain ⟨h0, o, ho, _⟩ := mem_ready.1 hi
  have hlt : i < ops.size := (Array.getElem?_eq_some_iff.1 ho).1
  unfold left
  refine filter_lt (fun x _ hx => ?_) (List.mem_range.mpr hlt) (by rw [h0]; rfl) (by rw [getD_set_self h0]; rfl)
  by_cases e : i = x
  · subst e; rw [h0]; rfl
  · rw [getD_set_ne true e] at hx; exact hx
/-- whatever comes up next keeps the invariant, and where nothing is left the post holds: in every order -/
theorem wpAny_inv {Inv : Array Bool → Act → World → Prop}
    (hstep : ∀ listed a w, Inv listed a w → ∀ i ∈ Region.ready md ops listed, wpOp P ops Q i (fun a' w' => Inv (listed.setIfInBounds i true) a' w') a w)
    (hdone : ∀ listed a w, Inv listed a w → Region.ready md ops listed = [] → Q .normal a w) :
    ∀ (fuel : Nat) (listed : Array Bool) (a : Act) (w : World), left ops listed ≤ fuel → Inv listed a w → wpAny P md ops Q fuel listed a w
  | 0, listed, a, w, hf, hI => by
    have hr : Region.ready md ops listed = [] := by
      rcases h : Region.ready md ops listed with _ | ⟨i, l⟩
      · rfl
      · have hi : i ∈ Region.ready md ops listed := by rw [h]; exact List.mem_cons_self
        have := left_step hi
        omega
    exact ⟨hr, hdone listed a w hI hr⟩
  | fuel + 1, listed, a, w, hf, hI =>
    ⟨hdone listed a w hI, fun i hi => wpOp_mono (fun a' w' h => wpAny_inv hstep hdone fuel _ a' w' (by have := left_step hi; omega) h) (hstep listed a w hI i hi)⟩
theorem left_le (listed : Array Bool) : left ops listed ≤ ops.size := by
  unfold left
  exact Nat.le_trans (List.length_filter_le _ _) (by simp)
/-- a region that draws, by such an invariant -/
theorem wp_region_inv {Inv : Array Bool → Act → World → Prop} {id : Nat} {a : Act} {w : World} (hm : P.follows .mixedOrders = true)
    (h0 : Inv (Array.replicate ops.size false) a w.drew)
    (hstep : ∀ listed a w, Inv listed a w → ∀ i ∈ Region.ready .any ops listed, wpOp P ops Q i (fun a' w' => Inv (listed.setIfInBounds i true) a' w') a w)
    (hdone : ∀ listed a w, Inv listed a w → Region.ready .any ops listed = [] → Q .normal a w) : (Code.region id ops true).wp P Q a w :=
  wp_region_any hm (wpAny_inv hstep hdone ops.size _ a _ (left_le _) h0)
end
/-! what has come up, as puts in the text's order -/
def acts (a : Act) : List (Nat × Option Value) → Act
  | [] => a
  | (_, none) :: l => acts a l
  | (d, some v) :: l => (acts a l).put (some d) v
theorem acts_size (a : Act) : ∀ l, (acts a l).tmps.size = a.tmps.size
  | [] => rfl
  | (_, none) :: l => acts_size a l
  | (d, some v) :: l => by show ((acts a l).tmps.setIfInBounds d v).size = _; rw [Array.size_setIfInBounds]; exact acts_size a l
theorem acts_other (a : Act) (t : Nat) : ∀ l : List (Nat × Option Value), (∀ e ∈ l, e.1 ≠ t) → (acts a l).eval (.tmp t) = a.eval (.tmp t)
  | [], _ => rfl
  | (_, none) :: l, h => acts_other a t l fun e he => h e (List.mem_cons_of_mem _ he)
  | (d, some v) :: l, h => by
    show ((acts a l).put (some d) v).eval (.tmp t) = _
    have hne : d ≠ t := h (d, some v) List.mem_cons_self
    have : ((acts a l).put (some d) v).eval (.tmp t) = (acts a l).eval (.tmp t) := by
      simp only [Act.put, Act.eval, Array.getD_eq_getD_getElem?]
      rw [Array.getElem?_setIfInBounds_ne hne]
    rw [this]; exact acts_other a t l fun e he => h e (List.mem_cons_of_mem _ he)
theorem acts_here (a : Act) (d : Nat) (v : Value) (hd : d < a.tmps.size) : ∀ l : List (Nat × Option Value), (l.map (·.1)).Nodup → (d, some v) ∈ l → (acts a l).eval (.tmp d) = v
  | [], _, h => by cases h
  | (e, none) :: l, hn, h => by
    rcases List.mem_cons.mp h with h | h
    · cases h
    · exact acts_here a d v hd l (List.nodup_cons.mp hn).2 h
  | (e, some u) :: l, hn, h => by
    show ((acts a l).put (some e) u).eval (.tmp d) = v
    rcases List.mem_cons.mp h with h | h
    · injection h with h1 h2; injection h2 with h2; subst h1; subst h2
      simp only [Act.put, Act.eval, Array.getD_eq_getD_getElem?]
      rw [Array.getElem?_setIfInBounds_self_of_lt (by rw [acts_size]; exact hd)]; rfl
    · have hne : e ≠ d := fun e1 => (List.nodup_cons.mp hn).1 (by rw [e1]; exact List.mem_map.mpr ⟨_, h, rfl⟩)
      have : ((acts a l).put (some e) u).eval (.tmp d) = (acts a l).eval (.tmp d) := by
        simp only [Act.put, Act.eval, Array.getD_eq_getD_getElem?]
        rw [Array.getElem?_setIfInBounds_ne hne]
      rw [this]; exact acts_here a d v hd l (List.nodup_cons.mp hn).2 h
/-- one more has come up -/
theorem acts_put (a : Act) (d : Nat) (v : Value) : ∀ (l m : List (Nat × Option Value)), ((l ++ (d, none) :: m).map (·.1)).Nodup → (acts a (l ++ (d, none) :: m)).put (some d) v = acts a (l ++ (d, some v) :: m)
  | [], _, _ => rfl
  | (_, none) :: l, m, hn => acts_put a d v l m (List.nodup_cons.mp hn).2
  | (e, some u) :: l, m, hn => by
    show ((acts a (l ++ (d, none) :: m)).put (some e) u).put (some d) v = (acts a (l ++ (d, some v) :: m)).put (some e) u
    have hne : e ≠ d := fun e1 => (List.nodup_cons.mp hn).1 (by rw [e1]; simp)
    rw [← acts_put a d v l m (List.nodup_cons.mp hn).2]
    exact Act.put_comm _ _ _ (fun x hx => by injection hx with hx; subst hx; intro h; injection h with h; exact hne h.symm)
theorem acts_map (a : Act) (D : Nat → Nat) {f g : Nat → Option Value} {i : Nat} {v : Value} (hf : f i = none) (hg : g i = some v) : ∀ is : List Nat, (is.map D).Nodup → i ∈ is → (∀ j ∈ is, j ≠ i → f j = g j) → (acts a (is.map fun j => (D j, f j))).put (some (D i)) v = acts a (is.map fun j => (D j, g j))
  | [], _, h, _ => by cases h
  | k :: is, hn, h, hfg => by
    have hn1 := List.nodup_cons.mp hn
    by_cases e : k = i
    · subst e
      have hs : (is.map fun j => (D j, f j)) = is.map fun j => (D j, g j) := List.map_congr_left fun j hj => by
        rw [hfg j (List.mem_cons_of_mem _ hj) fun e => hn1.1 (by rw [← e]; exact List.mem_map.mpr ⟨j, hj, rfl⟩)]
      show (acts a ((D k, f k) :: is.map fun j => (D j, f j))).put _ _ = acts a ((D k, g k) :: is.map fun j => (D j, g j))
      rw [hf, hg, hs]; rfl
    · have hi : i ∈ is := by
        rcases List.mem_cons.mp h with h | h
        · exact absurd h.symm e
        · exact h
      have ih := acts_map a D hf hg is hn1.2 hi fun j hj => hfg j (List.mem_cons_of_mem _ hj)
      show (acts a ((D k, f k) :: is.map fun j => (D j, f j))).put _ _ = acts a ((D k, g k) :: is.map fun j => (D j, g j))
      rw [hfg k List.mem_cons_self e]
      rcases hk : g k with _ | u
      · exact ih
      · show ((acts a (is.map fun j => (D j, f j))).put (some (D k)) u).put (some (D i)) v = (acts a (is.map fun j => (D j, g j))).put (some (D k)) u
        rw [← ih]
        refine Act.put_comm _ _ _ fun d hd e2 => ?_
        injection hd with hd; injection e2 with e2
        exact hn1.1 (by rw [hd, ← e2]; exact List.mem_map.mpr ⟨i, hi, rfl⟩)
/-- a region whose order is drawn: each operation, whenever it comes up, gives a value of its kind (and makes memory at most); behind all of them each slot has a value of its kind -/
theorem wp_region_flow {P : Program} {ops : Array Oper} {Q : Exit → Act → World → Prop} {id : Nat} {a0 : Act} {w0 : World} (n : Nat) (D : Nat → Nat) (R : Nat → Value → World → Prop)
    (hm : P.follows .mixedOrders = true) (hn : ops.size = n) (hD : ∀ i, i < n → D i < a0.tmps.size) (hnd : ((List.range n).reverse.map D).Nodup)
    (hlt : ∀ (i : Nat) (o : Oper), ops[i]? = some o → ∀ e ∈ o.after, Region.binds .any e = true → e.on < i)
    (hR : ∀ i v w w', R i v w → Below w.heap.size w w' → R i v w')
    (hstep : ∀ i, i < n → ∀ (a : Act) (w : World), Below w0.heap.size w0 w → (∀ t, (∀ j, j < n → D j ≠ t) → a.eval (.tmp t) = a0.eval (.tmp t)) →
      (∀ (o : Oper), ops[i]? = some o → ∀ e ∈ o.after, Region.binds .any e = true → R e.on (a.eval (.tmp (D e.on))) w) →
      wpOp P ops Q i (fun a' w' => ∃ v, a' = a.put (some (D i)) v ∧ R i v w' ∧ Below w.heap.size w w') a w)
    (hfin : ∀ (x : Nat → Value) (w : World), Below w0.heap.size w0 w → (∀ i, i < n → R i (x i) w) → Q .normal (acts a0 ((List.range n).reverse.map fun i => (D i, some (x i)))) w) : (Code.region id ops true).wp P Q a0 w0 := by
  refine wp_region_inv (Inv := fun listed a w => listed.size = n ∧ Below w0.heap.size w0 w ∧ ∃ x : Nat → Value, a = acts a0 ((List.range n).reverse.map fun i => (D i, if listed.getD i true = true then some (x i) else none)) ∧ ∀ i, i < n → listed.getD i true = true → R i (x i) w) hm ?_ ?_ ?_
  · refine ⟨by simp [hn], ⟨rfl, rfl, rfl, Nat.le_refl _, fun _ _ => rfl⟩, fun _ => undef, ?_, fun i hi h => ?_⟩
    · have : ∀ is : List Nat, (∀ i ∈ is, i < n) → acts a0 (is.map fun i => (D i, if (Array.replicate ops.size false).getD i true = true then some undef else none)) = a0 := by
        intro is
        induction is with
        | nil => intro _; rfl
        | cons i is ih =>
          intro h
          have hi : i < ops.size := by have := h i List.mem_cons_self; omega
          show acts a0 ((D i, if (Array.replicate ops.size false).getD i true = true then some undef else none) :: _) = a0
          rw [if_neg (by simp [hi])]
          exact ih fun j hj => h j (List.mem_cons_of_mem _ hj)
      exact (this _ fun i hi => by simpa using hi).symm
    · simp [hn, hi] at h
  · rintro listed a w ⟨hs, hb, x, ha, hx⟩ i hi
    obtain ⟨h0, o, ho, haft⟩ := mem_ready.1 hi
    have hin : i < n := by
      have := (Array.getElem?_eq_some_iff.1 ho).1; omega
    have hev : ∀ t, (∀ j, j < n → D j ≠ t) → a.eval (.tmp t) = a0.eval (.tmp t) := fun t ht => by
      rw [ha]
      refine acts_other a0 t _ fun e he => ?_
      simp only [List.mem_map, List.mem_reverse, List.mem_range] at he
      obtain ⟨j, hj, rfl⟩ := he
      exact ht j hj
    have hdep : ∀ o, ops[i]? = some o → ∀ e ∈ o.after, Region.binds .any e = true → R e.on (a.eval (.tmp (D e.on))) w := fun o' ho' e he hbind => by
      rw [ho] at ho'; injection ho' with ho'; subst ho'
      have hl := haft e he hbind
      have hen : e.on < n := by have := hlt i o ho e he hbind; omega
      have hl2 : listed.getD e.on true = true := by
        have : e.on < listed.size := by omega
        simp [this] at hl ⊢; exact hl
      have : a.eval (.tmp (D e.on)) = x e.on := by
        rw [ha]
        refine acts_here a0 (D e.on) (x e.on) (hD _ hen) _ ?_ ?_
        · rw [List.map_map]; exact hnd
        · simp only [List.mem_map, List.mem_reverse, List.mem_range]
          exact ⟨e.on, hen, by rw [if_pos hl2]⟩
      rw [this]
      exact hx _ hen hl2
    refine wpOp_mono ?_ (hstep i hin a w hb hev hdep)
    rintro a' w' ⟨v, rfl, hv, hb'⟩
    refine ⟨by rw [Array.size_setIfInBounds]; exact hs, hb.trans (hb'.mono hb.size), fun j => if j = i then v else x j, ?_, fun j hj hl => ?_⟩
    · rw [ha]
      refine acts_map a0 D (f := fun j => if listed.getD j true = true then some (x j) else none) (g := fun j => if (listed.setIfInBounds i true).getD j true = true then some (if j = i then v else x j) else none) ?_ ?_ _ hnd (by simpa using hin) fun j hj hne => ?_
      · show (if listed.getD i true = true then some (x i) else none) = none
        rw [h0]; rfl
      · show (if (listed.setIfInBounds i true).getD i true = true then some (if i = i then v else x i) else none) = some v
        rw [getD_set_self h0, if_pos rfl, if_pos rfl]
      · show (if listed.getD j true = true then some (x j) else none) = (if (listed.setIfInBounds i true).getD j true = true then some (if j = i then v else x j) else none)
        rw [getD_set_ne true (fun e => hne e.symm), if_neg hne]
    · by_cases e : j = i
      · subst e; show R j (if j = j then v else x j) w'; rw [if_pos rfl]; exact hv
      · show R j (if j = i then v else x j) w'
        rw [if_neg e]
        rw [getD_set_ne true (fun e2 => e e2.symm)] at hl
        exact hR _ _ _ _ (hx j hj hl) hb'
  · rintro listed a w ⟨hs, hb, x, ha, hx⟩ hr
    have hall : ∀ m i, i ≤ m → i < n → listed.getD i true = true := by
      intro m
      induction m with
      | zero =>
        intro i hi hin
        obtain rfl : i = 0 := by omega
        rcases hl : listed.getD 0 true with _ | _
        · exfalso
          have hlt0 : 0 < ops.size := by omega
          have : 0 ∈ Region.ready .any ops listed := mem_ready.2 ⟨hl, ops[0], by simp [hlt0], fun e he hbind => by have := hlt 0 ops[0] (by simp [hlt0]) e he hbind; omega⟩
          rw [hr] at this; cases this
        · rfl
      | succ m ih =>
        intro i hi hin
        by_cases e : i ≤ m
        · exact ih i e hin
        · rcases hl : listed.getD i true with _ | _
          · exfalso
            have hlt0 : i < ops.size := by omega
            have : i ∈ Region.ready .any ops listed := mem_ready.2 ⟨hl, ops[i], by simp [hlt0], fun e he hbind => by
              have h1 := hlt i ops[i] (by simp [hlt0]) e he hbind
              have h2 := ih e.on (by omega) (by omega)
              have h3 : e.on < listed.size := by omega
              simp [h3] at h2 ⊢; exact h2⟩
            rw [hr] at this; cases this
          · rfl
    have := hfin x w hb fun i hi => hx i hi (hall i i (Nat.le_refl _) hi)
    have e : (List.range n).reverse.map (fun i => (D i, if listed.getD i true = true then some (x i) else none)) = (List.range n).reverse.map fun i => (D i, some (x i)) := List.map_congr_left fun i hi => by
      rw [if_pos (hall i i (Nat.le_refl _) (by simpa using hi))]
    rw [ha, e]
    exact this
/-- where operation i's value goes -/
def dstOf (ops : Array Oper) (i : Nat) : Nat := ((ops[i]?).bind (·.dst)).getD (100000 + i)
def unlikeB : List Nat → Bool
  | [] => true
  | x :: l => (l.all fun y => !Nat.beq x y) && unlikeB l
theorem unlikeB_nodup : ∀ l : List Nat, unlikeB l = true → l.Nodup
  | [], _ => List.nodup_nil
  | x :: l, h => by
    unfold unlikeB at h
    rw [Bool.and_eq_true, List.all_eq_true] at h
    refine List.nodup_cons.mpr ⟨fun hx => ?_, unlikeB_nodup l h.2⟩
    have := h.1 x hx
    simp at this
/-- each operation has a slot of its own, and hangs on earlier ones alone -/
def flowB (ops : Array Oper) (n size : Nat) : Bool :=
  ops.size == n && (List.range n).all (fun i => Nat.blt (dstOf ops i) size) && unlikeB ((List.range n).reverse.map (dstOf ops)) && (List.range n).all fun i => ((ops[i]?).map fun o => o.after.toList.all fun e => !Region.binds .any e || Nat.blt e.on i).getD true
/-- operation i waits on what j gives -/
def depB (ops : Array Oper) (i j : Nat) : Bool := ((ops[i]?).map fun o => o.after.toList.any fun e => Region.binds .any e && Nat.beq e.on j).getD false
/-- no operation writes this slot -/
def freeB (ops : Array Oper) (n t : Nat) : Bool := (List.range n).all fun j => !Nat.beq (dstOf ops j) t
theorem eval_tmp (a : Act) (t : Nat) : a.eval (.tmp t) = a.tmps[t]?.getD undef := by simp only [Act.eval, Array.getD_eq_getD_getElem?]
theorem wp_region_flow' {P : Program} {ops : Array Oper} {Q : Exit → Act → World → Prop} {id : Nat} {a0 : Act} {w0 : World} (n : Nat) (R : Nat → Value → World → Prop)
    (hm : P.follows .mixedOrders = true) (hB : flowB ops n a0.tmps.size = true)
    (hR : ∀ i v w w', R i v w → Below w.heap.size w w' → R i v w')
    (hstep : ∀ i, i < n → ∀ (a : Act) (w : World), Below w0.heap.size w0 w → (∀ t : Nat, freeB ops n t = true → a.tmps[t]?.getD undef = a0.tmps[t]?.getD undef) →
      (∀ j, depB ops i j = true → R j (a.tmps[dstOf ops j]?.getD undef) w) →
      wpOp P ops Q i (fun a' w' => ∃ v, a' = a.put (some (dstOf ops i)) v ∧ R i v w' ∧ Below w.heap.size w w') a w)
    (hfin : ∀ (x : Nat → Value) (w : World), Below w0.heap.size w0 w → (∀ i, i < n → R i (x i) w) → Q .normal (acts a0 ((List.range n).reverse.map fun i => (dstOf ops i, some (x i)))) w) : (Code.region id ops true).wp P Q a0 w0 := by
  unfold flowB at hB
  simp only [Bool.and_eq_true, beq_iff_eq, List.all_eq_true, List.mem_range, Nat.blt_eq] at hB
  obtain ⟨⟨⟨h1, h2⟩, h3⟩, h4⟩ := hB
  refine wp_region_flow n (dstOf ops) R hm h1 h2 (unlikeB_nodup _ h3) (fun i o ho e he hbind => ?_) hR (fun i hi a w hb hev hdep => hstep i hi a w hb (fun t ht => (eval_tmp a t).symm.trans ((hev t fun j hj e => ?_).trans (eval_tmp a0 t))) fun j hj => ?_) hfin
  · have hi : i < n := by have := (Array.getElem?_eq_some_iff.1 ho).1; omega
    have := h4 i hi
    rw [ho] at this
    simp only [Option.map_some, Option.getD_some, List.all_eq_true] at this
    have := this e (Array.mem_toList_iff.mpr he)
    rw [hbind] at this
    simpa using this
  · unfold freeB at ht
    rw [List.all_eq_true] at ht
    have := ht j (List.mem_range.mpr hj)
    simp [e] at this
  · unfold depB at hj
    rcases ho : ops[i]? with _ | o
    · rw [ho] at hj; simp at hj
    · rw [ho] at hj
      simp only [Option.map_some, Option.getD_some, List.any_eq_true, Bool.and_eq_true] at hj
      obtain ⟨e, he, hbind, hon⟩ := hj
      have e2 : e.on = j := by simpa using hon
      rw [← e2, ← eval_tmp]
      exact hdep o ho e (Array.mem_toList_iff.mp he) hbind
theorem wpOp_of {P : Program} {ops : Array Oper} {Q : Exit → Act → World → Prop} {i : Nat} {K : Act → World → Prop} {a : Act} {w : World} {o : Oper} (ho : ops[i]? = some o) (hw : Region.wanted o (yielded ops a.tmps) = true) (h : o.wp P a w K Q) : wpOp P ops Q i K a w := by
  unfold wpOp
  rw [ho]
  simp only [hw, if_true]
  exact .inl h
theorem wpOp_flow {P : Program} {ops : Array Oper} {Q : Exit → Act → World → Prop} {i : Nat} {R : Value → World → Prop} {a : Act} {w : World} {o : Oper} (d : Nat) (ho : ops[i]? = some o) (hw : Region.wanted o (yielded ops a.tmps) = true) (hd : o.dst = some d)
    (h : o.wp P a w (fun a' w' => ∃ v, a' = a.put (some d) v ∧ R v w' ∧ Below w.heap.size w w') Q) : wpOp P ops Q i (fun a' w' => ∃ v, a' = a.put (some (dstOf ops i)) v ∧ R v w' ∧ Below w.heap.size w w') a w := by
  have e : dstOf ops i = d := by unfold dstOf; rw [ho]; simp [hd]
  rw [e]
  exact wpOp_of ho hw h
/-- what a guarded operation waits on was told -/
theorem wanted_of {ops : Array Oper} {a : Act} {o : Oper} {j : Nat} {b : Bool} (hg : o.guard = some (j, b)) {oj : Oper} {d : Nat} (hj : ops[j]? = some oj) (hd : oj.dst = some d) (hv : a.tmps[d]?.getD undef = .bool b) : Region.wanted o (yielded ops a.tmps) = true := by
  unfold Region.wanted yielded
  rw [hg]
  simp only [hj, Option.bind_some, hd]
  rcases h : a.tmps[d]? with _ | v
  · rw [h] at hv; exact absurd hv (by simp [undef])
  · rw [h] at hv
    simp only [Option.getD_some] at hv
    subst hv
    simp
/-- an operation that gives a value at once -/
theorem flow_val {P : Program} {o : Oper} {Q : Exit → Act → World → Prop} {a : Act} {w w' : World} {d : Nat} {v : Value} {R : Value → World → Prop} (hd : o.dst = some d) (hr : (execOp a.eval o).run P w = .ok (.value v) w') (hv : R v w') (hb : Below w.heap.size w w') :
    o.wp P a w (fun a' w' => ∃ v, a' = a.put (some d) v ∧ R v w' ∧ Below w.heap.size w w') Q := by
  unfold Oper.wp
  rw [hr]
  exact ⟨v, by rw [hd], hv, hb⟩
/-- a call -/
theorem flow_call {P : Program} {o : Oper} {Q : Exit → Act → World → Prop} {a : Act} {w w' : World} {d f : Nat} {args : Array Value} {R : Value → World → Prop} (hd : o.dst = some d) (hr : (execOp a.eval o).run P w = .ok (.enter f args) w')
    (hb : Below w.heap.size w w') (C : Calls P f args w' fun e w'' => ∃ v, e = .returned v ∧ R v w'' ∧ Below w'.heap.size w' w'') :
    o.wp P a w (fun a' w' => ∃ v, a' = a.put (some d) v ∧ R v w' ∧ Below w.heap.size w w') Q := by
  unfold Oper.wp
  rw [hr]
  show Calls _ _ _ _ _
  refine C.mono ?_
  rintro e w'' ⟨v, rfl, hv, hb2⟩
  exact ⟨v, by rw [hd], hv, hb.trans (hb2.mono hb.size)⟩
/-- a fact about a value that memory's growth keeps -/
structure SP where
  p : Value → World → Prop
  st : ∀ v w w', p v w → Below w.heap.size w w' → p v w'
def SP.is (u : Value) : SP := ⟨fun v _ => v = u, fun _ _ _ h _ => h⟩
def SP.any : SP := ⟨fun _ _ => True, fun _ _ _ _ _ => trivial⟩
theorem wp_region_flowL {P : Program} {ops : Array Oper} {Q : Exit → Act → World → Prop} {id : Nat} {a0 : Act} {w0 : World} (n : Nat) (L : List SP)
    (hm : P.follows .mixedOrders = true) (hB : flowB ops n a0.tmps.size = true)
    (hstep : ∀ i, i < n → ∀ (a : Act) (w : World), Below w0.heap.size w0 w → (∀ t : Nat, freeB ops n t = true → a.tmps[t]?.getD undef = a0.tmps[t]?.getD undef) →
      (∀ j, depB ops i j = true → (L.getD j SP.any).p (a.tmps[dstOf ops j]?.getD undef) w) →
      wpOp P ops Q i (fun a' w' => ∃ v, a' = a.put (some (dstOf ops i)) v ∧ (L.getD i SP.any).p v w' ∧ Below w.heap.size w w') a w)
    (hfin : ∀ (x : Nat → Value) (w : World), Below w0.heap.size w0 w → (∀ i, i < n → (L.getD i SP.any).p (x i) w) → Q .normal (acts a0 ((List.range n).reverse.map fun i => (dstOf ops i, some (x i)))) w) : (Code.region id ops true).wp P Q a0 w0 :=
  wp_region_flow' n (fun i => (L.getD i SP.any).p) hm hB (fun i => (L.getD i SP.any).st) hstep hfin
/-! a drawn region whose last operations come in the text's order, behind all others -/
def cntN (listed : Array Bool) : Nat → Nat
  | 0 => 0
  | m + 1 => cntN listed m + (if listed.getD m true = true then 0 else 1)
theorem cntN_far (listed : Array Bool) (i : Nat) : ∀ m, m ≤ i → cntN (listed.setIfInBounds i true) m = cntN listed m
  | 0, _ => rfl
  | m + 1, h => by unfold cntN; rw [cntN_far listed i m (by omega), getD_set_ne true (by omega)]
theorem cntN_set {listed : Array Bool} {i : Nat} (h : listed.getD i true = false) : ∀ m, i < m → cntN (listed.setIfInBounds i true) m + 1 = cntN listed m
  | 0, h => by omega
  | m + 1, hi => by
    unfold cntN
    by_cases e : i = m
    · subst e
      rw [cntN_far listed i i (Nat.le_refl _), getD_set_self h, h]; simp
    · have ih := cntN_set h m (by omega)
      rw [getD_set_ne true e]; omega
theorem cntN_zero {listed : Array Bool} : ∀ m, cntN listed m = 0 → ∀ i, i < m → listed.getD i true = true
  | 0, _, i, hi => by omega
  | m + 1, h, i, hi => by
    unfold cntN at h
    by_cases e : i = m
    · subst e
      rcases hl : listed.getD i true with _ | _
      · rw [hl] at h; simp at h
      · rfl
    · exact cntN_zero m (by omega) i (by omega)
theorem cntN_pos {listed : Array Bool} : ∀ m, 0 < cntN listed m → ∃ i, i < m ∧ listed.getD i true = false ∧ ∀ j, j < i → listed.getD j true = true
  | 0, h => by unfold cntN at h; omega
  | m + 1, h => by
    by_cases h0 : 0 < cntN listed m
    · obtain ⟨i, h1, h2⟩ := cntN_pos m h0; exact ⟨i, by omega, h2⟩
    · have hz : cntN listed m = 0 := by omega
      unfold cntN at h
      refine ⟨m, by omega, ?_, fun j hj => cntN_zero m hz j hj⟩
      rcases hl : listed.getD m true with _ | _
      · rfl
      · rw [hl, hz] at h; simp at h
def listedN (size n : Nat) : Array Bool := ((List.range size).map fun i => Nat.blt i n).toArray
def flowTB (ops : Array Oper) (n size : Nat) : Bool :=
  Nat.blt n ops.size && (List.range n).all (fun i => Nat.blt (dstOf ops i) size) && unlikeB ((List.range n).reverse.map (dstOf ops)) && (List.range ops.size).all (fun i => ((ops[i]?).map fun o => o.after.toList.all fun e => !Region.binds .any e || Nat.blt e.on i).getD true)
    && Region.sinkB .any ops n && Region.chainB .any ops n && Region.seqB .any ops (ops.size - n) n (listedN ops.size n)
theorem wp_region_flowT {P : Program} {ops : Array Oper} {Q : Exit → Act → World → Prop} {id : Nat} {a0 : Act} {w0 : World} (n : Nat) (L : List SP)
    (hm : P.follows .mixedOrders = true) (hB : flowTB ops n a0.tmps.size = true)
    (hstep : ∀ i, i < n → ∀ (a : Act) (w : World), Below w0.heap.size w0 w → (∀ t : Nat, freeB ops n t = true → a.tmps[t]?.getD undef = a0.tmps[t]?.getD undef) →
      (∀ j, depB ops i j = true → (L.getD j SP.any).p (a.tmps[dstOf ops j]?.getD undef) w) →
      wpOp P ops Q i (fun a' w' => ∃ v, a' = a.put (some (dstOf ops i)) v ∧ (L.getD i SP.any).p v w' ∧ Below w.heap.size w w') a w)
    (hfin : ∀ (x : Nat → Value) (w : World), Below w0.heap.size w0 w → (∀ i, i < n → (L.getD i SP.any).p (x i) w) → wpList P ops Q (ops.toList.drop n) (acts a0 ((List.range n).reverse.map fun i => (dstOf ops i, some (x i)))) w) : (Code.region id ops true).wp P Q a0 w0 := by
  unfold flowTB at hB
  simp only [Bool.and_eq_true, List.all_eq_true, List.mem_range, Nat.blt_eq] at hB
  obtain ⟨⟨⟨⟨⟨⟨h1, h2⟩, h3⟩, h4⟩, h5⟩, h6⟩, h7⟩ := hB
  have hnd := unlikeB_nodup _ h3
  have hlt : ∀ (i : Nat) (o : Oper), ops[i]? = some o → ∀ e ∈ o.after, Region.binds .any e = true → e.on < i := fun i o ho e he hbind => by
    have hi : i < ops.size := (Array.getElem?_eq_some_iff.1 ho).1
    have := h4 i hi
    rw [ho] at this
    simp only [Option.map_some, Option.getD_some, List.all_eq_true] at this
    have := this e (Array.mem_toList_iff.mpr he)
    rw [hbind] at this
    simpa using this
  have main : ∀ (c : Nat) (listed : Array Bool) (a : Act) (w : World), HeadInv .any ops n listed → cntN listed n = c → Below w0.heap.size w0 w →
      (∃ x : Nat → Value, a = acts a0 ((List.range n).reverse.map fun i => (dstOf ops i, if listed.getD i true = true then some (x i) else none)) ∧ ∀ i, i < n → listed.getD i true = true → (L.getD i SP.any).p (x i) w) →
      wpAny P .any ops Q (c + (ops.size - n)) listed a w := by
    intro c
    induction c with
    | zero =>
      intro listed a w inv hc hb ⟨x, ha, hx⟩
      have hall := cntN_zero n hc
      have he : listed = listedN ops.size n := by
        refine Array.ext (by rw [inv.size]; simp [listedN]) fun i h1 h2 => ?_
        have hsz : i < ops.size := by rw [← inv.size]; exact h1
        by_cases hi : i < n
        · have := hall i hi
          simp [h1] at this
          simp [listedN, this, hi]
        · have := inv.tail i (by omega) hsz
          simp [h1] at this
          have hbl : Nat.blt i n = false := by rw [← Bool.not_eq_true, Nat.blt_eq]; exact hi
          simp [listedN, this, hbl]
      have e : (List.range n).reverse.map (fun i => (dstOf ops i, if listed.getD i true = true then some (x i) else none)) = (List.range n).reverse.map fun i => (dstOf ops i, some (x i)) := List.map_congr_left fun i hi => by
        rw [if_pos (hall i (by simpa using hi))]
      have hw := hfin x w hb fun i hi => hx i hi (hall i hi)
      rw [← e, ← ha] at hw
      rw [he, Nat.zero_add]
      have hlen : (ops.toList.drop n).length = ops.size - n := by simp
      rw [← hlen]
      rw [← hlen] at h7
      exact wpAny_of_seq (ops.toList.drop n) n _ a w (fun j => by simp) h7 hw
    | succ c ih =>
      intro listed a w inv hc hb ⟨x, ha, hx⟩
      obtain ⟨i0, hi0, hl0, hmin⟩ := cntN_pos (listed := listed) n (by omega)
      rw [Nat.succ_add]
      refine ⟨fun hr => ?_, fun i hi => ?_⟩
      · exfalso
        have hsz : i0 < ops.size := by omega
        have : i0 ∈ Region.ready .any ops listed := mem_ready.2 ⟨hl0, ops[i0], by simp [hsz], fun e he hbind => by
          have h1 := hlt i0 ops[i0] (by simp [hsz]) e he hbind
          have h2 := hmin e.on h1
          have h3 : e.on < listed.size := by rw [inv.size]; omega
          simp [h3] at h2 ⊢; exact h2⟩
        rw [hr] at this; cases this
      have hin : i < n := by
        rcases Nat.lt_or_ge i n with h | h
        · exact h
        · exact absurd hi (tail_waits h5 h6 h1 inv (n - i0) i0 rfl hi0 hl0 i h)
      obtain ⟨h0, o, ho, haft⟩ := mem_ready.1 hi
      have hev : ∀ t : Nat, freeB ops n t = true → a.tmps[t]?.getD undef = a0.tmps[t]?.getD undef := fun t ht => by
        rw [← eval_tmp, ← eval_tmp, ha]
        refine acts_other a0 t _ fun e he => ?_
        simp only [List.mem_map, List.mem_reverse, List.mem_range] at he
        obtain ⟨j, hj, rfl⟩ := he
        unfold freeB at ht
        rw [List.all_eq_true] at ht
        have := ht j (List.mem_range.mpr hj)
        intro e2
        have e3 : dstOf ops j = t := e2
        simp [e3] at this
      have hdep : ∀ j, depB ops i j = true → (L.getD j SP.any).p (a.tmps[dstOf ops j]?.getD undef) w := fun j hj => by
        unfold depB at hj
        rw [ho] at hj
        simp only [Option.map_some, Option.getD_some, List.any_eq_true, Bool.and_eq_true] at hj
        obtain ⟨e, he, hbind, hon⟩ := hj
        have e2 : e.on = j := by simpa using hon
        subst e2
        have he' := Array.mem_toList_iff.mp he
        have hl := haft e he' hbind
        have hen : e.on < n := by have := hlt i o ho e he' hbind; omega
        have hl2 : listed.getD e.on true = true := by
          have : e.on < listed.size := by rw [inv.size]; omega
          simp [this] at hl ⊢; exact hl
        have : a.tmps[dstOf ops e.on]?.getD undef = x e.on := by
          rw [← eval_tmp, ha]
          refine acts_here a0 _ (x e.on) (h2 _ hen) _ ?_ ?_
          · rw [List.map_map]; exact hnd
          · simp only [List.mem_map, List.mem_reverse, List.mem_range]
            exact ⟨e.on, hen, by rw [if_pos hl2]⟩
        rw [this]
        exact hx _ hen hl2
      refine wpOp_mono ?_ (hstep i hin a w hb hev hdep)
      rintro a' w' ⟨v, rfl, hv, hb'⟩
      have hcs := cntN_set h0 n hin
      refine ih _ _ _ (inv.set hi hin) (by omega) (hb.trans (hb'.mono hb.size)) ⟨fun j => if j = i then v else x j, ?_, fun j hj hl => ?_⟩
      · rw [ha]
        refine acts_map a0 (dstOf ops) (f := fun j => if listed.getD j true = true then some (x j) else none) (g := fun j => if (listed.setIfInBounds i true).getD j true = true then some (if j = i then v else x j) else none) ?_ ?_ _ hnd (by simpa using hin) fun j hj hne => ?_
        · show (if listed.getD i true = true then some (x i) else none) = none
          rw [h0]; rfl
        · show (if (listed.setIfInBounds i true).getD i true = true then some (if i = i then v else x i) else none) = some v
          rw [getD_set_self h0, if_pos rfl, if_pos rfl]
        · show (if listed.getD j true = true then some (x j) else none) = (if (listed.setIfInBounds i true).getD j true = true then some (if j = i then v else x j) else none)
          rw [getD_set_ne true (fun e => hne e.symm), if_neg hne]
      · by_cases e : j = i
        · subst e; show (L.getD j SP.any).p (if j = j then v else x j) w'; rw [if_pos rfl]; exact hv
        · show (L.getD j SP.any).p (if j = i then v else x j) w'
          rw [if_neg e]
          rw [getD_set_ne true (fun e2 => e e2.symm)] at hl
          exact (L.getD j SP.any).st _ _ _ (hx j hj hl) hb'
  refine wp_region_any hm ?_
  have hc : cntN (Array.replicate ops.size false) n = n := by
    have : ∀ m, m ≤ ops.size → cntN (Array.replicate ops.size false) m = m := by
      intro m
      induction m with
      | zero => intro _; rfl
      | succ m ih =>
        intro h
        unfold cntN
        rw [ih (by omega)]
        simp [show m < ops.size by omega]
    exact this n (by omega)
  have inv : HeadInv .any ops n (Array.replicate ops.size false) := ⟨by simp, fun j oj _ hl e _ _ => (by rw [getD_replicate_false] at hl; cases hl), fun t _ ht => (by simp [ht])⟩
  have := main n _ a0 { w0 with drawn := w0.drawn + 1 } inv hc ⟨rfl, rfl, rfl, Nat.le_refl _, fun _ _ => rfl⟩ ⟨fun _ => undef, ?_, fun i hi hl => ?_⟩
  · rw [show ops.size = n + (ops.size - n) by omega]
    rw [show n + (ops.size - n) = ops.size by omega]
    rw [show n + (ops.size - n) = ops.size by omega] at this
    exact this
  · have : ∀ is : List Nat, (∀ i ∈ is, i < n) → acts a0 (is.map fun i => (dstOf ops i, if (Array.replicate ops.size false).getD i true = true then some undef else none)) = a0 := by
      intro is
      induction is with
      | nil => intro _; rfl
      | cons i is ih =>
        intro h
        have hi : i < ops.size := by have := h i List.mem_cons_self; omega
        show acts a0 ((dstOf ops i, if (Array.replicate ops.size false).getD i true = true then some undef else none) :: _) = a0
        rw [if_neg (by simp [hi])]
        exact ih fun j hj => h j (List.mem_cons_of_mem _ hj)
    exact (this _ fun i hi => by simpa using hi).symm
  · exfalso
    simp [show i < ops.size by omega] at hl
end Go.Proofs.Ytjoocjkakgjgmaa.Drawn
