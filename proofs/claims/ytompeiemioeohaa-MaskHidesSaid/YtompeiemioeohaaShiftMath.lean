/- layer 14, plain: how the program finds shifts and masks, and that they are the document's -/
import Derived.Test.YtompeiemioeohaaMB
set_option maxRecDepth 100000
namespace Go.Proofs.Ytompeiemioeohaa.MaskM
open PolyM PlanM StripeM LagrM GfM DealM RebM ZeroM

/-! some custodians, and behind them all others -/
def others (z : List Int) (n : Nat) : List Int := (all n).filter fun i => !(z.contains i)
def withO (p : P) (z : List Int) : List Int := z ++ others z p.N.toNat
theorem others_succ (z : List Int) (k : Nat) : others z (k + 1) = others z k ++ (if z.contains ((k : Int) + 1) then [] else [(k : Int) + 1]) := by
  unfold others
  rw [all_succ, List.filter_append]
  rcases Bool.eq_false_or_eq_true (z.contains ((k : Int) + 1)) with h | h
  · rw [h, if_pos rfl]
    congr 1
    rw [List.filter_cons, h]; rfl
  · rw [h, if_neg (by simp)]
    congr 1
    rw [List.filter_cons, h]; rfl
theorem mem_others {z : List Int} {n : Nat} {x : Int} : x ∈ others z n ↔ (1 ≤ x ∧ x ≤ n) ∧ x ∉ z := by
  unfold others
  rw [List.mem_filter, mem_all]
  constructor
  · rintro ⟨h1, h2⟩
    refine ⟨h1, fun h => ?_⟩
    rw [List.contains_iff_mem.mpr h] at h2; cases h2
  · rintro ⟨h1, h2⟩
    refine ⟨h1, ?_⟩
    rcases Bool.eq_false_or_eq_true (z.contains x) with h | h
    · exact absurd (List.contains_iff_mem.mp h) h2
    · rw [h]; rfl
theorem zerosTo_take {T : Nat} {z : List Int} (hl : z.length ≤ T) : ∀ k, zerosTo T z k = (z ++ others z k).take T := by
  intro k
  induction k with
  | zero =>
    rw [zerosTo_zero]
    have : others z 0 = [] := rfl
    rw [this, List.append_nil, List.take_of_length_le hl]
  | succ k ih =>
    rw [zerosTo_succ, ih, others_succ]
    rcases Bool.eq_false_or_eq_true (z.contains ((k : Int) + 1)) with h | h
    · rw [h, if_pos rfl, List.append_nil]
      unfold zstep
      split
      · rw [if_pos]
        rw [List.take_append]
        refine List.mem_append_left _ ?_
        rw [List.take_of_length_le hl]
        exact List.contains_iff_mem.mp h
      · rfl
    · rw [h, if_neg (by simp)]
      rcases Nat.lt_or_ge (z ++ others z k).length T with h1 | h1
      · rw [List.take_of_length_le (Nat.le_of_lt h1)]
        unfold zstep
        rw [if_pos h1, if_neg, ← List.append_assoc, List.take_of_length_le (by rw [List.length_append]; exact h1)]
        intro hm
        rcases List.mem_append.mp hm with hm | hm
        · rw [List.contains_iff_mem.mpr hm] at h; cases h
        · have := mem_others.mp hm; omega
      · unfold zstep
        rw [if_neg (by rw [List.length_take]; omega), ← List.append_assoc, List.take_append_of_le_length h1]
theorem zeros_take {p : P} {z : List Int} (hl : z.length ≤ p.T.toNat) : zeros p z = (withO p z).take p.T.toNat := zerosTo_take hl _
theorem dup_more : ∀ m : List Int, ¬ m.Nodup → ∃ m' : List Int, m'.length + 1 = m.length ∧ ∀ x ∈ m, x ∈ m'
  | [], h => absurd List.nodup_nil h
  | a :: l, h => by
    by_cases ha : a ∈ l
    · exact ⟨l, rfl, fun x hx => by
        rcases List.mem_cons.mp hx with rfl | hx
        · exact ha
        · exact hx⟩
    · obtain ⟨m', h1, h2⟩ := dup_more l fun hl => h (List.nodup_cons.mpr ⟨ha, hl⟩)
      refine ⟨a :: m', by rw [List.length_cons, List.length_cons]; omega, fun x hx => ?_⟩
      rcases List.mem_cons.mp hx with rfl | hx
      · exact List.mem_cons_self
      · exact List.mem_cons_of_mem _ (h2 x hx)
theorem withO_more {p : P} {z : List Int} (hp : p.May) (hi : ∀ x ∈ z, p.is x = true) : p.N < ((withO p z).length : Int) ↔ ¬ z.Nodup := by
  have hN : (p.N.toNat : Int) = p.N := by unfold P.May at hp; omega
  constructor
  · intro h hz
    have h1 : (withO p z).Nodup := by
      unfold withO
      rw [List.nodup_append]
      refine ⟨hz, ?_, fun a ha b hb e => (mem_others.mp hb).2 (by rw [← e]; exact ha)⟩
      unfold others
      exact (all_nodup _).sublist List.filter_sublist
    have h2 := len_of_subset _ (all p.N.toNat) h1 fun x hx => by
      unfold withO at hx
      rcases List.mem_append.mp hx with hx | hx
      · have := of_decide_eq_true (hi x hx)
        exact mem_all.mpr ⟨this.1, by omega⟩
      · exact mem_all.mpr (mem_others.mp hx).1
    rw [all_len] at h2
    omega
  · intro hz
    obtain ⟨m', h1, h2⟩ := dup_more (withO p z) fun h => hz (h.sublist (List.sublist_append_left _ _))
    have h3 := len_of_subset (all p.N.toNat) m' (all_nodup _) fun x hx => h2 x (by
      unfold withO
      by_cases hm : x ∈ z
      · exact List.mem_append_left _ hm
      · exact List.mem_append_right _ (mem_others.mpr ⟨mem_all.mp hx, hm⟩))
    rw [all_len] at h3
    omega
/-- what the program tells is wrong -/
def pcheck (p : P) (delta : List UInt8) (z : List Int) : Int :=
  if p.right then (if (delta.length : Int) ≠ p.L then 3 else if p.T < z.length then 2 else if isAll p z then (if p.N < (withO p z).length then 5 else 0) else 2) else 1
theorem pcheck_eq (p : P) (delta : List UInt8) (z : List Int) : pcheck p delta z = mcheck p delta z := by
  unfold pcheck mcheck
  split
  · rename_i hr
    have hp : p.May := of_decide_eq_true hr
    split
    · rfl
    · split
      · rfl
      · split
        · rename_i hi
          have hi' : ∀ x ∈ z, p.is x = true := by unfold isAll at hi; rw [List.all_eq_true] at hi; exact hi
          by_cases hz : z.Nodup
          · rw [if_neg fun h => (withO_more hp hi').mp h hz, if_pos ((unl_iff _).mpr (points_nodup hp hz hi'))]
          · rw [if_pos ((withO_more hp hi').mpr hz), if_neg fun h => hz (nodup_of_points ((unl_iff _).mp h))]
        · rfl
  · rfl
theorem sized_more (b : List UInt8) (n m : Nat) (h : n = b.length + m) : sized b n = b ++ List.replicate m 0 := by
  subst h
  refine list_ext (by rw [sized_len, List.length_append, List.length_replicate]) fun k => ?_
  unfold sized
  rw [co_tab]
  by_cases hk : k < b.length
  · rw [if_pos (by omega), co_left _ _ hk]
  · obtain ⟨j, rfl⟩ : ∃ j, k = b.length + j := ⟨k - b.length, by omega⟩
    rw [co_right, co_ge b _ (by omega)]
    have : co (List.replicate m (0 : UInt8)) j = 0 := by
      unfold co; rw [List.getD_eq_getElem?_getD, List.getElem?_replicate]; split <;> rfl
    rw [this]; split <;> rfl
/-- the program's shift -/
def pshift (p : P) (delta : List UInt8) (z : List Int) : List UInt8 := thr (p.secrets ++ points ((withO p z).take p.T.toNat)) (sized delta (p.secrets ++ points ((withO p z).take p.T.toNat)).length)
theorem pshift_eq {p : P} {delta : List UInt8} {z : List Int} (h : MOk p delta z) : pshift p delta z = shift p delta z := by
  unfold pshift shift
  rw [← zeros_take h.few, sized_more delta _ (points (zeros p z)).length (by rw [List.length_append, secrets_len, h.len])]
theorem withO_len {p : P} {delta : List UInt8} {z : List Int} (h : MOk p delta z) : p.T.toNat ≤ (withO p z).length := by
  have h1 := (zeros_inv h.may h.nd h.is h.few).2
  rw [zeros_take h.few, List.length_take] at h1
  omega
theorem pshift_nodup {p : P} {delta : List UInt8} {z : List Int} (h : MOk p delta z) : (p.secrets ++ points ((withO p z).take p.T.toNat)).Nodup := by
  rw [← zeros_take h.few]
  have hi := zeros_inv h.may h.nd h.is h.few
  exact both_nodup h.may hi.1.nd hi.1.is
theorem withO_is {p : P} {delta : List UInt8} {z : List Int} (h : MOk p delta z) : ∀ x ∈ withO p z, p.is x = true := fun x hx => by
  unfold withO at hx
  have hm := h.may
  unfold P.May at hm
  rcases List.mem_append.mp hx with hx | hx
  · exact h.is x hx
  · have := (mem_others.mp hx).1
    exact decide_eq_true ⟨by omega, by omega⟩
theorem withO_most (p : P) (z : List Int) : (withO p z).length ≤ z.length + p.N.toNat := by
  unfold withO others
  rw [List.length_append]
  have := List.length_filter_le (fun i => !(z.contains i)) (all p.N.toNat)
  rw [all_len] at this
  omega
/-! quotients, one behind the other -/
def overs (w cs : List UInt8) : List UInt8 := cs.foldl quo w
theorem overs_snoc (w cs : List UInt8) (c : UInt8) : overs w (cs ++ [c]) = quo (overs w cs) c := by unfold overs; rw [List.foldl_append]; rfl
theorem overs_take_succ (w cs : List UInt8) (k : Nat) (h : k < cs.length) : overs w (cs.take (k + 1)) = quo (overs w (cs.take k)) cs[k] := by rw [take_snoc cs k h, overs_snoc]
theorem overs_len (w cs : List UInt8) : (overs w cs).length = w.length - cs.length := by
  induction cs using snoc_ind with
  | h0 => rfl
  | h1 l c ih => rw [overs_snoc, quo_len, ih, List.length_append, List.length_singleton]; omega
theorem overs_ev (w cs : List UInt8) : ∃ r : List UInt8, r.length ≤ cs.length ∧ ∀ x, ev w x = add (mul (ev (overs w cs) x) (ev (proot cs) x)) (ev r x) := by
  induction cs using snoc_ind with
  | h0 => exact ⟨[], Nat.le_refl _, fun x => by
      have e1 : proot [] = [1] := rfl
      have e2 : overs w [] = w := rfl
      rw [e1, e2, ev_one, mul1]; exact (add0 _).symm⟩
  | h1 l c ih =>
    obtain ⟨r, hr, hx⟩ := ih
    refine ⟨padd (scale (ev (overs w l) c) (proot l)) r, ?_, fun x => ?_⟩
    · rw [padd_len, scale_len, proot_len, List.length_append, List.length_singleton]; omega
    · rw [hx x, overs_snoc, proot_snoc, ev_pmul, ev_lin, ev_padd, ev_scale]
      conv => lhs; rw [ev_over (overs w l) c x]
      rw [addmul, mula, mulc (add c x) (ev (proot l) x), adda]
theorem over_ev {p xs : List UInt8} (hl : xs.length ≤ p.length) : ∃ r : List UInt8, r.length ≤ xs.length ∧ ∀ x, ev p x = add (mul (ev (over p (proot xs)) x) (ev (proot xs) x)) (ev r x) := by
  obtain ⟨n, hn⟩ : ∃ n, n = p.length + 1 - (proot xs).length := ⟨_, rfl⟩
  have hql := proot_len xs
  have hn2 : n + (proot xs).length = p.length + 1 := by omega
  have htop := orest_top p (proot xs) n hn2 (by omega) (by rw [hql]; exact proot_last xs) n (Nat.le_refl _)
  refine ⟨(orest p (proot xs) n n).take xs.length, by rw [List.length_take]; omega, fun y => ?_⟩
  have := orest_ev p (proot xs) n hn2 y n (Nat.le_refl _)
  rw [this, addc]
  congr 1
  · congr 1
    unfold over
    rw [ev_tab, ← hn]
    exact xsum_congr _ fun i _ => by rw [if_pos (by omega)]
  · refine ev_ext (fun k => ?_) y
    rw [co_take]
    split
    · rfl
    · exact htop k (by omega)
theorem len_of_subset8 : ∀ (l m : List UInt8), l.Nodup → (∀ x ∈ l, x ∈ m) → l.length ≤ m.length
  | [], _, _, _ => Nat.zero_le _
  | x :: l, m, hn, h => by
    have hx := h x List.mem_cons_self
    have h1 := List.nodup_cons.mp hn
    have h2 := len_of_subset8 l (m.erase x) h1.2 fun y hy => (List.mem_erase_of_ne (fun e => h1.1 (by rw [← e]; exact hy))).mpr (h y (List.mem_cons_of_mem _ hy))
    have h3 := List.length_erase_of_mem hx
    have h4 : 0 < m.length := List.length_pos_of_mem hx
    simp only [List.length_cons]
    omega
theorem rest_len (xs : List UInt8) : 256 ≤ ((from_ 0 256).filter fun y => !(xs.contains y)).length + xs.length := by
  have h1 : (from_ 0 256).length = ((from_ 0 256).filter fun y => xs.contains y).length + ((from_ 0 256).filter fun y => !(xs.contains y)).length := by
    generalize from_ 0 256 = l
    induction l with
    | nil => rfl
    | cons a l ih =>
      rw [List.filter_cons, List.filter_cons, List.length_cons, ih]
      rcases Bool.eq_false_or_eq_true (xs.contains a) with h | h
      · rw [h, if_pos rfl, if_neg (by decide), List.length_cons]; omega
      · rw [h, if_neg (by decide), if_pos (by rfl), List.length_cons]; omega
  have h2 := len_of_subset8 ((from_ 0 256).filter fun y => xs.contains y) xs ((from_nodup 0 256 (by omega)).sublist List.filter_sublist) fun x hx => List.contains_iff_mem.mp (List.mem_filter.mp hx).2
  rw [from_len] at h1
  omega
/-- quotients by (x + c), one behind the other, are the quotient by the product -/
theorem overs_over {p xs : List UInt8} (hx : xs.Nodup) (hp : p.length ≤ 256) : overs p xs = over p (proot xs) := by
  have hl1 := overs_len p xs
  have hl2 : (over p (proot xs)).length = p.length - xs.length := by rw [over_len, proot_len]; omega
  rcases Nat.lt_or_ge p.length xs.length with h | h
  · have e1 : (overs p xs).length = 0 := by omega
    have e2 : (over p (proot xs)).length = 0 := by omega
    rw [List.eq_nil_of_length_eq_zero e1, List.eq_nil_of_length_eq_zero e2]
  · obtain ⟨r1, hr1, h1⟩ := overs_ev p xs
    obtain ⟨r2, hr2, h2⟩ := over_ev h
    have hD : ∀ x, mul (ev (padd (overs p xs) (over p (proot xs))) x) (ev (proot xs) x) = ev (padd r1 r2) x := fun x => by
      have e := (h1 x).symm.trans (h2 x)
      rw [ev_padd, ev_padd, addmul]
      refine add_eq_zero.mp ?_
      rw [add4, add_eq_zero.mpr e]
    have h0 : ∀ k, co (padd r1 r2) k = 0 := zero_of_roots xs.length _ xs (by rw [padd_len]; omega) hx (Nat.le_refl _) fun x hxx => by
      rw [← hD x, (ev_proot xs x).mpr hxx, mul0]
    have h3 : ∀ k, co (padd (overs p xs) (over p (proot xs))) k = 0 := by
      have hr := rest_len xs
      refine zero_of_roots ((from_ 0 256).filter fun y => !(xs.contains y)).length _ ((from_ 0 256).filter fun y => !(xs.contains y)) (by rw [padd_len]; omega) ((from_nodup 0 256 (by omega)).sublist List.filter_sublist) (Nat.le_refl _) fun x hxx => ?_
      have hx2 : x ∉ xs := fun hm => by
        have := (List.mem_filter.mp hxx).2
        rw [List.contains_iff_mem.mpr hm] at this; cases this
      have e := hD x
      rw [ev_ext (p := padd r1 r2) (q := []) (fun k => by rw [h0 k, co_nil]) x, show ev [] x = 0 from rfl] at e
      rcases mul_eq_zero.mp e with e | e
      · exact e
      · exact absurd ((ev_proot xs x).mp e) hx2
    refine list_ext (by omega) fun k => ?_
    have := h3 k
    rw [co_padd] at this
    exact add_eq_zero.mp this
theorem overs_one (p : List UInt8) (c : UInt8) (hp : p.length ≤ 256) : overs p [c] = over p [c, 1] := by
  rw [overs_over (by simp) hp, proot_one]
/-! a tape to which a mask is added -/
def put_ (n : Nat) (a : Int) (m : List UInt8) : List UInt8 := tab n fun k => if 0 ≤ a ∧ a ≤ k ∧ (k : Int) < a + m.length then co m ((k : Int) - a).toNat else 0
theorem put_len (n : Nat) (a : Int) (m : List UInt8) : (put_ n a m).length = n := tab_len _ _
theorem apply_put (tape : List UInt8) (a : Int) (m : List UInt8) : padd tape (put_ tape.length a m) = apply tape a m := by
  refine list_ext (by rw [padd_len, put_len, apply_len]; omega) fun k => ?_
  rw [co_padd]
  unfold put_ apply
  rw [co_tab, co_tab]
  by_cases hk : k < tape.length
  · rw [if_pos hk, if_pos hk]
    by_cases h : 0 ≤ a ∧ a ≤ k ∧ (k : Int) < a + m.length
    · rw [if_pos h, if_pos ⟨h.2.1, h.2.2, h.1⟩]
    · rw [if_neg h, if_neg fun h' => h ⟨h'.2.2, h'.1, h'.2.1⟩, add0]
  · rw [if_neg hk, if_neg hk, add0, co_ge tape k (by omega)]
theorem put_out (n : Nat) (a : Int) (m : List UInt8) (h : ¬ (0 ≤ a ∧ a < n)) : put_ n a m = List.replicate n 0 := by
  unfold put_
  rw [← tab_rep]
  exact tab_congr fun i hi => by rw [if_neg (by omega)]
/-- what the law adds, place by place -/
theorem apply_zero (tape : List UInt8) (a : Int) (m : List UInt8) : apply tape a (m.take 0) = tape := by
  unfold apply
  rw [List.take_zero]
  refine (tab_congr fun k _ => ?_).trans (tab_of tape)
  rw [if_neg (by simp only [List.length_nil]; omega)]
theorem apply_step (tape m : List UInt8) (a i : Nat) (hi : i < m.length) (ha : a + i < tape.length) : (apply tape (a : Int) (m.take i)).set (a + i) (add (co (apply tape (a : Int) (m.take i)) (a + i)) m[i]) = apply tape (a : Int) (m.take (i + 1)) := by
  refine list_ext (by rw [List.length_set, apply_len, apply_len]) fun k => ?_
  have l1 : (m.take i).length = i := by rw [List.length_take]; omega
  have l2 : (m.take (i + 1)).length = i + 1 := by rw [List.length_take]; omega
  by_cases hk : k < tape.length
  · rw [co_get _ _ (by rw [List.length_set, apply_len]; exact hk), List.getElem_set]
    by_cases e : a + i = k
    · subst e
      rw [if_pos rfl, co_apply _ _ _ _ ha, co_apply _ _ _ _ ha, l1, l2, if_neg (by omega), if_pos (by omega), Nat.add_sub_cancel_left, co_take, if_pos (by omega), co_get m i hi]
    · rw [if_neg e, ← co_get _ _ (by rw [apply_len]; exact hk), co_apply _ _ _ _ hk, co_apply _ _ _ _ hk, l1, l2]
      by_cases h1 : a ≤ k ∧ k < a + i
      · rw [if_pos h1, if_pos (by omega), co_take, co_take, if_pos (by omega), if_pos (by omega)]
      · rw [if_neg h1, if_neg (by omega)]
  · rw [co_ge _ _ (by rw [List.length_set, apply_len]; omega), co_ge _ _ (by rw [apply_len]; omega)]
theorem apply_same (tape m : List UInt8) (a : Int) (i : Nat) (hi : i < m.length) (ha : ¬ (0 ≤ a ∧ a + i < tape.length)) : apply tape a (m.take i) = apply tape a (m.take (i + 1)) := by
  unfold apply
  refine tab_congr fun k hk => ?_
  have l1 : (m.take i).length = i := by rw [List.length_take]; omega
  have l2 : (m.take (i + 1)).length = i + 1 := by rw [List.length_take]; omega
  rw [l1, l2]
  by_cases h : a ≤ k ∧ (k : Int) < a + (i : Nat) ∧ 0 ≤ a
  · rw [if_pos h, if_pos (by omega), co_take, co_take, if_pos (by omega), if_pos (by omega)]
  · rw [if_neg h, if_neg (by omega)]
/-! the other order -/
theorem MOk.turn {p : P} {delta : List UInt8} {z : List Int} (h : MOk p delta z) : MOk p delta z.reverse :=
  ⟨h.may, h.len, by rw [List.length_reverse]; exact h.few, fun x hx => h.is x (List.mem_reverse.mp hx), by
    have := h.nd
    unfold List.Nodup at this ⊢
    rw [List.pairwise_reverse]; exact this.imp fun h e => h e.symm⟩
theorem mcheck_of {p : P} {delta : List UInt8} {z : List Int} (h : MOk p delta z) : mcheck p delta z = 0 := by
  have hm := h.may
  unfold P.May at hm
  have h1 := h.len; have h2 := h.few
  unfold mcheck
  rw [P.right_yes h.may, if_pos rfl, if_neg (by omega), if_neg (by omega), if_pos (by unfold isAll; rw [List.all_eq_true]; exact h.is), if_pos ((unl_iff _).mpr (points_nodup h.may h.nd h.is))]
theorem shift_reverse {p : P} {delta : List UInt8} {z : List Int} (h : MOk p delta z) : shift p delta z.reverse = shift p delta z :=
  (shift_turn h h.turn (by simp) fun x => by simp).symm
/-! what the document's long division holds inside a step -/
def orow (q r : List UInt8) (k i : Nat) : List UInt8 := tab r.length fun j => if k ≤ j ∧ j < k + i then add (co r j) (mul (co r (k + q.length - 1)) (co q (j - k))) else co r j
theorem orow_len (q r : List UInt8) (k i : Nat) : (orow q r k i).length = r.length := tab_len _ _
theorem orow_zero (q r : List UInt8) (k : Nat) : orow q r k 0 = r := by
  unfold orow
  refine (tab_congr fun j _ => ?_).trans (tab_of r)
  rw [if_neg (by omega)]
theorem orow_all (q r : List UInt8) (k : Nat) : orow q r k q.length = ostep q k r := rfl
theorem orow_get (q r : List UInt8) (k i : Nat) (h : k + i < (orow q r k i).length) : (orow q r k i)[k + i] = co r (k + i) := by
  refine (tab_get _ _ _ h).trans ?_
  rw [if_neg (by omega)]
theorem orow_succ (q r : List UInt8) (k i : Nat) (h : k + i < r.length) (hi : i < q.length) : (orow q r k i).set (k + i) (add (co r (k + i)) (mul (co r (k + q.length - 1)) q[i])) = orow q r k (i + 1) := by
  unfold orow
  rw [tab_set _ _ _ _ h]
  refine tab_congr fun j _ => ?_
  by_cases e : j = k + i
  · subst e; rw [if_pos rfl, if_pos (by omega), Nat.add_sub_cancel_left, co_get q i hi]
  · rw [if_neg e]
    have : (k ≤ j ∧ j < k + (i + 1)) ↔ (k ≤ j ∧ j < k + i) := by omega
    simp only [this]
/-- what stands in the document's quotient when the places from k on are done -/
def ovTo (p q : List UInt8) (n k : Nat) : List UInt8 := tab n fun i => if k ≤ i then oc p q n i else 0
theorem ovTo_start (p q : List UInt8) (n : Nat) : ovTo p q n n = List.replicate n 0 := by
  unfold ovTo; rw [← tab_rep]; exact tab_congr fun i hi => by rw [if_neg (by omega)]
theorem ovTo_step (p q : List UInt8) (n k : Nat) (h : k < n) : (ovTo p q n (k + 1)).set k (oc p q n k) = ovTo p q n k := by
  unfold ovTo
  rw [tab_set _ _ _ _ h]
  refine tab_congr fun i _ => ?_
  by_cases e : i = k
  · subst e; rw [if_pos rfl, if_pos (Nat.le_refl _)]
  · rw [if_neg e]
    have : (k + 1 ≤ i) ↔ k ≤ i := by omega
    simp only [this]
theorem ovTo_done (p q : List UInt8) (n : Nat) : ovTo p q n 0 = tab n (oc p q n) := by
  unfold ovTo; exact tab_congr fun i _ => by rw [if_pos (Nat.zero_le _)]
theorem ovTo_len (p q : List UInt8) (n k : Nat) : (ovTo p q n k).length = n := tab_len _ _
end Go.Proofs.Ytompeiemioeohaa.MaskM
