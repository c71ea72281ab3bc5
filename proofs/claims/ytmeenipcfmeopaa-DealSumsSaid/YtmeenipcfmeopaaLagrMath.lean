/- plain mathematics of polynomials through points -/
import Derived.Test.YtmeenipcfmeopaaPolyMath
set_option maxRecDepth 100000
namespace Go.Proofs.Ytmeenipcfmeopaa.LagrM
open GfM PolyM

theorem ev_ext {p q : List UInt8} (h : ∀ k, co p k = co q k) (x : UInt8) : ev p x = ev q x := by
  rw [← ev_sum p x (Nat.le_max_left p.length q.length), ← ev_sum q x (Nat.le_max_right p.length q.length)]
  exact xsum_congr _ fun i _ => by rw [h i]
theorem ev_one (a x : UInt8) : ev [a] x = a := by simp only [ev]; rw [zmul, add0]
theorem ev_scale (c : UInt8) (p : List UInt8) (x : UInt8) : ev (scale c p) x = mul c (ev p x) := by
  unfold scale
  rw [ev_tab, ← ev_sum p x (Nat.le_refl _), ← xsum_mul]
  exact xsum_congr _ fun i _ => mula _ _ _
theorem co_scale (c : UInt8) (p : List UInt8) (k : Nat) : co (scale c p) k = mul c (co p k) := by
  unfold scale
  rw [co_tab]
  by_cases h : k < p.length
  · rw [if_pos h]
  · rw [if_neg h, co_ge p k (by omega), mul0]
theorem scale_len (c : UInt8) (p : List UInt8) : (scale c p).length = p.length := by simp [scale]
theorem padd_len (p q : List UInt8) : (padd p q).length = max p.length q.length := by simp [padd]
theorem ev_over (p : List UInt8) (c y : UInt8) : ev p y = add (mul (ev (quo p c) y) (add c y)) (ev p c) := by
  rw [← ev_ext (over_back p c) y, ev_padd, ev_pmul, ev_lin, ev_one]

theorem zero_of_roots : ∀ (n : Nat) (p xs : List UInt8), p.length ≤ n → xs.Nodup → n ≤ xs.length → (∀ x ∈ xs, ev p x = 0) → ∀ k, co p k = 0 := by
  intro n
  induction n with
  | zero =>
    intro p xs hp _ _ _ k
    rw [List.eq_nil_of_length_eq_zero (by omega : p.length = 0), co_nil]
  | succ n ih =>
    intro p xs hp hx hn h k
    cases xs with
    | nil => simp at hn
    | cons c xs =>
      have hc : ev p c = 0 := h c (by simp)
      have hq := ih (quo p c) xs (by rw [quo_len]; omega) (List.nodup_cons.1 hx).2 (by simpa using hn) (fun y hy => by
        have h1 := h y (by simp [hy])
        rw [ev_over p c y, hc, add0] at h1
        rcases mul_eq_zero.1 h1 with h2 | h2
        · exact h2
        · exact absurd (add_eq_zero.1 h2 ▸ hy) (List.nodup_cons.1 hx).1)
      rw [← over_back p c k, co_padd, co_pmul, conv_lin, hc, hq k, zmul]
      have e1 : co [(0 : UInt8)] k = 0 := by
        rcases k with _ | k
        · rw [co_zero]
        · rw [co_succ, co_nil]
      rw [e1, add0, zadd]
      split
      · rfl
      · exact hq _
theorem unique {n : Nat} {p q xs : List UInt8} (hp : p.length ≤ n) (hq : q.length ≤ n) (hx : xs.Nodup) (hn : n ≤ xs.length) (h : ∀ x ∈ xs, ev p x = ev q x) (k : Nat) : co p k = co q k := by
  have := zero_of_roots n (padd p q) xs (by rw [padd_len]; omega) hx hn (fun x hx => by rw [ev_padd, h x hx, adds]) k
  rw [co_padd] at this
  exact add_eq_zero.1 this

/-! points that are unlike -/
def unl (xs : List UInt8) : Bool := decide xs.Nodup
theorem unl_iff (xs : List UInt8) : unl xs = true ↔ xs.Nodup := by simp [unl]
theorem nodup_at {xs : List UInt8} (h : xs.Nodup) {i j : Nat} (hi : i < xs.length) (hj : j < xs.length) (hne : i ≠ j) : co xs i ≠ co xs j := by
  rw [co_get _ _ hi, co_get _ _ hj]
  intro e
  have := (List.getElem_inj (h₀ := hi) (h₁ := hj) h).1 e
  exact hne this
theorem not_unl {xs : List UInt8} {i j : Nat} (hi : i < xs.length) (hj : j < xs.length) (hne : i ≠ j) (e : co xs i = co xs j) : unl xs = false := by
  rcases hu : unl xs with _ | _
  · rfl
  · exact absurd e (nodup_at ((unl_iff _).1 hu) hi hj hne)
theorem unl_of {xs : List UInt8} (h : ∀ i k, k < i → i < xs.length → co xs i ≠ co xs k) : unl xs = true := by
  rw [unl_iff]
  rw [List.nodup_iff_pairwise_ne, List.pairwise_iff_getElem]
  intro i j hi hj hij e
  exact h j i hij hj (by rw [co_get _ _ hi, co_get _ _ hj, e])
theorem nodup_take {xs : List UInt8} (h : xs.Nodup) (k : Nat) : (xs.take k).Nodup := h.sublist (List.take_sublist _ _)
theorem mem_take_co {xs : List UInt8} {k : Nat} (hk : k ≤ xs.length) {x : UInt8} : x ∈ xs.take k ↔ ∃ j, j < k ∧ x = co xs j := by
  rw [List.mem_iff_getElem]
  constructor
  · rintro ⟨j, hj, e⟩
    have hj' : j < k := by simp at hj; omega
    refine ⟨j, hj', ?_⟩
    rw [← e, List.getElem_take, co_get]
  · rintro ⟨j, hj, rfl⟩
    exact ⟨j, by simp; omega, by rw [List.getElem_take, co_get _ _ (by omega)]⟩
theorem root_ne {xs : List UInt8} (h : xs.Nodup) {k : Nat} (hk : k < xs.length) : ev (proot (xs.take k)) (co xs k) ≠ 0 := by
  rw [Ne, ev_proot, mem_take_co (by omega)]
  rintro ⟨j, hj, e⟩
  exact nodup_at h hk (by omega) (by omega) e

/-! Newton's way -/
def newt (xs ys : List UInt8) : Nat → List UInt8
  | 0 => []
  | i + 1 => padd (newt xs ys i) (scale (mul (add (co ys i) (ev (newt xs ys i) (co xs i))) (inv (ev (proot (xs.take i)) (co xs i)))) (proot (xs.take i)))
theorem newt_len (xs ys : List UInt8) (i : Nat) (hi : i ≤ xs.length) : (newt xs ys i).length = i := by
  induction i with
  | zero => rfl
  | succ i ih => unfold newt; rw [padd_len, ih (by omega), scale_len, proot_len, List.length_take]; omega
theorem newt_ev {xs : List UInt8} (h : xs.Nodup) (ys : List UInt8) (i : Nat) (hi : i ≤ xs.length) (j : Nat) (hj : j < i) : ev (newt xs ys i) (co xs j) = co ys j := by
  induction i with
  | zero => omega
  | succ i ih =>
    unfold newt
    rw [ev_padd, ev_scale]
    by_cases e : j = i
    · subst e
      have hne := root_ne h (k := j) (by omega)
      rw [mula, mulc (inv _), mul_inv_cancel hne, mul1, ← adda, addc (ev _ _), adda, adds, add0]
    · rw [ih (by omega) (by omega)]
      have : ev (proot (xs.take i)) (co xs j) = 0 := by rw [ev_proot, mem_take_co (by omega)]; exact ⟨j, by omega, rfl⟩
      rw [this, mul0, add0]
def thr (xs ys : List UInt8) : List UInt8 := newt xs ys xs.length
theorem thr_len (xs ys : List UInt8) : (thr xs ys).length = xs.length := newt_len xs ys _ (Nat.le_refl _)
theorem thr_ev {xs : List UInt8} (h : xs.Nodup) (ys : List UInt8) (j : Nat) (hj : j < xs.length) : ev (thr xs ys) (co xs j) = co ys j := newt_ev h ys _ (Nat.le_refl _) j hj
/-- who has the values and no more places is it -/
theorem thr_eq {xs : List UInt8} (h : xs.Nodup) (ys p : List UInt8) (hp : p.length ≤ xs.length) (hv : ∀ j, j < xs.length → ev p (co xs j) = co ys j) (k : Nat) : co p k = co (thr xs ys) k := by
  refine unique (n := xs.length) hp (by rw [thr_len]; exact Nat.le_refl _) h (Nat.le_refl _) (fun x hx => ?_) k
  have hx' : x ∈ xs.take xs.length := by rw [List.take_length]; exact hx
  obtain ⟨j, hj, rfl⟩ := (mem_take_co (Nat.le_refl _)).1 hx'
  rw [hv j hj, thr_ev h ys j hj]
theorem thr_is {xs : List UInt8} (h : xs.Nodup) (ys p : List UInt8) (hp : p.length = xs.length) (hv : ∀ j, j < xs.length → ev p (co xs j) = co ys j) : p = thr xs ys :=
  list_ext (by rw [hp, thr_len]) (thr_eq h ys p (by omega) hv)

/-! weights -/
def fac (xs : List UInt8) (i : Nat) (x : UInt8) (k : Nat) : UInt8 := mul (add x (co xs k)) (inv (add (co xs i) (co xs k)))
def wgtTo (xs : List UInt8) (i : Nat) (x : UInt8) : Nat → UInt8
  | 0 => 1
  | k + 1 => if k = i then wgtTo xs i x k else mul (wgtTo xs i x k) (fac xs i x k)
def wgt (xs : List UInt8) (i : Nat) (x : UInt8) : UInt8 := wgtTo xs i x xs.length
def wgts (xs : List UInt8) (x : UInt8) : List UInt8 := tab xs.length fun i => wgt xs i x
theorem wgts_len (xs : List UInt8) (x : UInt8) : (wgts xs x).length = xs.length := by simp [wgts]
theorem co_wgts (xs : List UInt8) (x : UInt8) (i : Nat) (h : i < xs.length) : co (wgts xs x) i = wgt xs i x := by
  unfold wgts; rw [co_tab, if_pos h]
/-- the weight as a polynomial -/
def wpol (xs : List UInt8) (i : Nat) : Nat → List UInt8
  | 0 => [1]
  | k + 1 => if k = i then wpol xs i k else scale (inv (add (co xs i) (co xs k))) (pmul (wpol xs i k) [co xs k, 1])
theorem wpol_ev (xs : List UInt8) (i : Nat) (x : UInt8) (k : Nat) : ev (wpol xs i k) x = wgtTo xs i x k := by
  induction k with
  | zero => exact ev_one 1 x
  | succ k ih =>
    unfold wpol wgtTo
    split
    · exact ih
    · rw [ev_scale, ev_pmul, ev_lin, ih, fac, mulc (inv _), mula, addc x]
theorem wpol_len (xs : List UInt8) (i : Nat) (k : Nat) : (wpol xs i k).length = if i < k then k else k + 1 := by
  induction k with
  | zero => rfl
  | succ k ih =>
    unfold wpol
    split
    · rename_i h; subst h; rw [ih, if_neg (by omega), if_pos (by omega)]
    · rename_i h
      rw [scale_len, pmul_len, ih]
      have : ¬ ((if i < k then k else k + 1) = 0 ∨ ([co xs k, 1] : List UInt8).length = 0) := by
        simp only [List.length_cons, List.length_nil]
        split <;> omega
      rw [if_neg this]
      simp only [List.length_cons, List.length_nil]
      by_cases e : i < k
      · rw [if_pos e, if_pos (by omega)]; omega
      · rw [if_neg e, if_neg (by omega)]; omega
theorem wgtTo_own (xs : List UInt8) (h : xs.Nodup) (i : Nat) (hi : i < xs.length) (k : Nat) (hk : k ≤ xs.length) : wgtTo xs i (co xs i) k = 1 := by
  induction k with
  | zero => rfl
  | succ k ih =>
    unfold wgtTo
    split
    · exact ih (by omega)
    · rename_i hne
      have h0 : add (co xs i) (co xs k) ≠ 0 := by
        rw [Ne, add_eq_zero]; exact nodup_at h hi (by omega) (fun e => hne e.symm)
      rw [ih (by omega), one_mul, fac, mul_inv_cancel h0]
theorem wgtTo_other (xs : List UInt8) (i j : Nat) (hne : j ≠ i) (k : Nat) (hk : j < k) : wgtTo xs i (co xs j) k = 0 := by
  induction k with
  | zero => omega
  | succ k ih =>
    unfold wgtTo
    by_cases e : j = k
    · subst e
      rw [if_neg hne, fac, adds, zmul, mul0]
    · split
      · exact ih (by omega)
      · rw [ih (by omega), zmul]
/-- the sum of the weights' polynomials, each times a value -/
def wsum (xs : List UInt8) (g : Nat → UInt8) : Nat → List UInt8
  | 0 => []
  | i + 1 => padd (wsum xs g i) (scale (g i) (wpol xs i xs.length))
theorem wsum_len (xs : List UInt8) (g : Nat → UInt8) (i : Nat) (hi : i ≤ xs.length) : (wsum xs g i).length ≤ xs.length := by
  induction i with
  | zero => simp [wsum]
  | succ i ih => unfold wsum; rw [padd_len, scale_len, wpol_len, if_pos (by omega)]; have := ih (by omega); omega
theorem wsum_ev (xs : List UInt8) (g : Nat → UInt8) (x : UInt8) (i : Nat) : ev (wsum xs g i) x = xsum (fun i => mul (g i) (wgt xs i x)) i := by
  induction i with
  | zero => rfl
  | succ i ih => unfold wsum xsum; rw [ev_padd, ev_scale, ih, wpol_ev]; rfl
theorem xsum_one (f : Nat → UInt8) (n j : Nat) (hj : j < n) (h : ∀ i, i < n → i ≠ j → f i = 0) : xsum f n = f j := by
  induction n with
  | zero => omega
  | succ n ih =>
    unfold xsum
    by_cases e : j = n
    · subst e; rw [xsum_zero _ _ (fun i hi => h i (by omega) (by omega)), zadd]
    · rw [ih (by omega) (fun i h1 h2 => h i (by omega) h2), h n (by omega) (fun e' => e e'.symm), add0]
theorem wsum_at {xs : List UInt8} (h : xs.Nodup) (g : Nat → UInt8) (j : Nat) (hj : j < xs.length) : ev (wsum xs g xs.length) (co xs j) = g j := by
  rw [wsum_ev, xsum_one _ _ j hj (fun i hi hne => by unfold wgt; rw [wgtTo_other xs i j (fun e => hne e.symm) _ hj, mul0])]
  unfold wgt; rw [wgtTo_own xs h j hj _ (Nat.le_refl _), mul1]
theorem weigh {xs : List UInt8} (h : xs.Nodup) (p : List UInt8) (hp : p.length ≤ xs.length) (x : UInt8) : xsum (fun i => mul (ev p (co xs i)) (wgt xs i x)) xs.length = ev p x := by
  rw [← wsum_ev xs (fun i => ev p (co xs i)) x xs.length]
  refine ev_ext (unique (n := xs.length) (wsum_len _ _ _ (Nat.le_refl _)) hp h (Nat.le_refl _) fun y hy => ?_) x
  have hy' : y ∈ xs.take xs.length := by rw [List.take_length]; exact hy
  obtain ⟨j, hj, rfl⟩ := (mem_take_co (Nat.le_refl _)).1 hy'
  exact wsum_at h _ j hj
/-- sums of products, as sums -/
theorem dot_sum (a b : List UInt8) : dot a b = xsum (fun i => mul (co a i) (co b i)) (min a.length b.length) := by
  induction a generalizing b with
  | nil => simp [dot, xsum]
  | cons x a ih =>
    cases b with
    | nil => simp [dot, xsum]
    | cons y b =>
      simp only [List.length_cons, show min (a.length + 1) (b.length + 1) = min a.length b.length + 1 from by omega, dot]
      rw [xsum_head, ih b]
      simp only [co_zero, co_succ]
      rfl

/-! the program's way: for each point the polynomial that is 1 at it, and 0 at the others -/
def qbas (xs : List UInt8) (k : Nat) : List UInt8 := quo (proot xs) (co xs k)
def bas (xs : List UInt8) (k : Nat) : List UInt8 := scale (inv (ev (qbas xs k) (co xs k))) (qbas xs k)
theorem qbas_len (xs : List UInt8) (k : Nat) : (qbas xs k).length = xs.length := by unfold qbas; rw [quo_len, proot_len]; omega
theorem bas_len (xs : List UInt8) (k : Nat) : (bas xs k).length = xs.length := by unfold bas; rw [scale_len, qbas_len]
theorem co_mem {xs : List UInt8} {k : Nat} (hk : k < xs.length) : co xs k ∈ xs := by rw [co_get _ _ hk]; exact List.getElem_mem _
theorem root_at {xs : List UInt8} {k : Nat} (hk : k < xs.length) : ev (proot xs) (co xs k) = 0 := by rw [ev_proot]; exact co_mem hk
theorem qbas_other {xs : List UInt8} (h : xs.Nodup) {j k : Nat} (hj : j < xs.length) (hk : k < xs.length) (hne : j ≠ k) : ev (qbas xs k) (co xs j) = 0 := by
  have h1 := ev_over (proot xs) (co xs k) (co xs j)
  rw [root_at hj, root_at hk, add0] at h1
  rcases mul_eq_zero.1 h1.symm with h2 | h2
  · exact h2
  · exact absurd (add_eq_zero.1 h2) (nodup_at h hk hj (fun e => hne e.symm))
theorem qbas_own {xs : List UInt8} (h : xs.Nodup) {k : Nat} (hk : k < xs.length) : ev (qbas xs k) (co xs k) ≠ 0 := by
  intro h0
  have hz := zero_of_roots xs.length (qbas xs k) xs (by rw [qbas_len]; exact Nat.le_refl _) h (Nat.le_refl _) (fun x hx => by
    have hx' : x ∈ xs.take xs.length := by rw [List.take_length]; exact hx
    obtain ⟨j, hj, rfl⟩ := (mem_take_co (Nat.le_refl _)).1 hx'
    by_cases e : j = k
    · subst e; exact h0
    · exact qbas_other h hj hk e)
  have hl := over_back (proot xs) (co xs k) xs.length
  rw [co_padd, co_pmul, conv_lin, root_at hk, proot_last, if_neg (by omega)] at hl
  change add (add (mul (co (qbas xs k) xs.length) (co xs k)) (co (qbas xs k) (xs.length - 1))) (co [0] xs.length) = 1 at hl
  rw [hz, hz, zmul, add0, zadd] at hl
  have : co [(0 : UInt8)] xs.length = 0 := by
    rcases xs.length with _ | n
    · rw [co_zero]
    · rw [co_succ, co_nil]
  rw [this] at hl
  exact absurd hl (by decide)
theorem bas_own {xs : List UInt8} (h : xs.Nodup) {k : Nat} (hk : k < xs.length) : ev (bas xs k) (co xs k) = 1 := by
  unfold bas; rw [ev_scale, mulc, mul_inv_cancel (qbas_own h hk)]
theorem bas_other {xs : List UInt8} (h : xs.Nodup) {j k : Nat} (hj : j < xs.length) (hk : k < xs.length) (hne : j ≠ k) : ev (bas xs k) (co xs j) = 0 := by
  unfold bas; rw [ev_scale, qbas_other h hj hk hne, mul0]
theorem bas_wgt {xs : List UInt8} (h : xs.Nodup) {k : Nat} (hk : k < xs.length) (x : UInt8) : ev (bas xs k) x = wgt xs k x := by
  unfold wgt
  rw [← wpol_ev]
  refine ev_ext (unique (n := xs.length) (by rw [bas_len]; exact Nat.le_refl _) (by rw [wpol_len, if_pos hk]; exact Nat.le_refl _) h (Nat.le_refl _) fun y hy => ?_) x
  have hy' : y ∈ xs.take xs.length := by rw [List.take_length]; exact hy
  obtain ⟨j, hj, rfl⟩ := (mem_take_co (Nat.le_refl _)).1 hy'
  rw [wpol_ev]
  by_cases e : j = k
  · subst e; rw [bas_own h hk, wgtTo_own xs h j hk _ (Nat.le_refl _)]
  · rw [bas_other h hj hk e, wgtTo_other xs k j e _ hj]
/-- what stands in the program's polynomial behind k points -/
def psum (xs ys : List UInt8) : Nat → List UInt8
  | 0 => List.replicate xs.length 0
  | k + 1 => padd (psum xs ys k) (scale (co ys k) (bas xs k))
theorem psum_len (xs ys : List UInt8) (k : Nat) : (psum xs ys k).length = xs.length := by
  induction k with
  | zero => simp [psum]
  | succ k ih => unfold psum; rw [padd_len, scale_len, bas_len, ih]; exact Nat.max_self _
theorem ev_rep (n : Nat) (x : UInt8) : ev (List.replicate n 0) x = 0 := by
  induction n with
  | zero => rfl
  | succ n ih => rw [List.replicate_succ, ev, ih, zmul, add0]
theorem psum_ev {xs : List UInt8} (h : xs.Nodup) (ys : List UInt8) {j : Nat} (hj : j < xs.length) (k : Nat) (hk : k ≤ xs.length) : ev (psum xs ys k) (co xs j) = if j < k then co ys j else 0 := by
  induction k with
  | zero => unfold psum; rw [ev_rep, if_neg (by omega)]
  | succ k ih =>
    unfold psum
    rw [ev_padd, ev_scale, ih (by omega)]
    by_cases e : j = k
    · subst e; rw [if_neg (by omega), if_pos (by omega), bas_own h hj, mul1, zadd]
    · rw [bas_other h hj (by omega) e, mul0, add0]
      by_cases e2 : j < k
      · rw [if_pos e2, if_pos (by omega)]
      · rw [if_neg e2, if_neg (by omega)]
theorem psum_done {xs : List UInt8} (h : xs.Nodup) (ys : List UInt8) : psum xs ys xs.length = thr xs ys :=
  thr_is h ys _ (psum_len _ _ _) fun j hj => by rw [psum_ev h ys hj _ (Nat.le_refl _), if_pos hj]
/-- what stands in the program's weights behind k points -/
def wTo (xs : List UInt8) (x : UInt8) (k : Nat) : List UInt8 := tab xs.length fun i => if i < k then wgt xs i x else 0
theorem wTo_len (xs : List UInt8) (x : UInt8) (k : Nat) : (wTo xs x k).length = xs.length := by simp [wTo]
theorem wTo_zero (xs : List UInt8) (x : UInt8) : wTo xs x 0 = List.replicate xs.length 0 := by
  unfold wTo; rw [← tab_rep]; exact tab_congr fun i _ => by simp
theorem wTo_succ (xs : List UInt8) (x : UInt8) (k : Nat) (h : k < xs.length) : (wTo xs x k).set k (wgt xs k x) = wTo xs x (k + 1) := by
  unfold wTo
  rw [tab_set _ _ _ _ h]
  refine tab_congr fun i _ => ?_
  by_cases e : i = k
  · subst e; simp
  · rw [if_neg e]
    have : (i < k + 1) ↔ i < k := by omega
    simp only [this]
theorem wTo_done (xs : List UInt8) (x : UInt8) : wTo xs x xs.length = wgts xs x := by
  unfold wTo wgts; exact tab_congr fun i hi => by rw [if_pos hi]
/-- values weighed are the polynomial's -/
theorem dot_wgts {xs : List UInt8} (h : xs.Nodup) (ys : List UInt8) (hl : xs.length = ys.length) (x : UInt8) : dot (wgts xs x) ys = ev (thr xs ys) x := by
  rw [dot_sum, wgts_len, ← hl, Nat.min_self, ← weigh h (thr xs ys) (by rw [thr_len]; exact Nat.le_refl _) x]
  exact xsum_congr _ fun i hi => by rw [co_wgts _ _ _ hi, thr_ev h ys i hi, mulc]

/-! whether a point was seen -/
def seen (l : List UInt8) (j : Nat) : Bool := decide (UInt8.ofNat j ∈ l)
theorem seen_nil (j : Nat) : seen [] j = false := by simp [seen]
theorem seen_at (l : List UInt8) (a : UInt8) : seen l a.toNat = decide (a ∈ l) := by simp [seen]
theorem seen_succ (xs : List UInt8) (k : Nat) (hk : k < xs.length) (j : Nat) (hj : j < 256) : seen (xs.take (k + 1)) j = if xs[k].toNat = j then true else seen (xs.take k) j := by
  unfold seen
  rw [take_snoc _ _ hk]
  simp only [List.mem_append, List.mem_singleton]
  by_cases e : xs[k].toNat = j
  · subst e; rw [if_pos rfl, UInt8.ofNat_toNat]; simp
  · rw [if_neg e]
    have : UInt8.ofNat j ≠ xs[k] := fun h => e (by rw [← h, UInt8.toNat_ofNat_of_lt' (by simp only [UInt8.size]; omega)])
    simp only [this, or_false]
theorem unl_seen {xs : List UInt8} {k : Nat} (hk : k < xs.length) (h : seen (xs.take k) xs[k].toNat = true) : unl xs = false := by
  rw [seen_at, decide_eq_true_eq, mem_take_co (by omega)] at h
  obtain ⟨j, hj, e⟩ := h
  exact not_unl (i := k) (j := j) hk (by omega) (by omega) (by rw [co_get _ _ hk, e])
theorem nodup_step {xs : List UInt8} {k : Nat} (hk : k < xs.length) (hn : (xs.take k).Nodup) (h : seen (xs.take k) xs[k].toNat = false) : (xs.take (k + 1)).Nodup := by
  rw [seen_at, decide_eq_false_iff_not] at h
  rw [take_snoc _ _ hk, List.nodup_append]
  refine ⟨hn, by simp, ?_⟩
  intro a ha b hb e
  simp only [List.mem_singleton] at hb
  subst hb; subst e; exact h ha
/-- the document's way: the points ahead of i are unlike, and so are the one at i and those ahead of k -/
def Un (xs : List UInt8) (i : Nat) : Prop := ∀ a b, b < a → a < i → co xs a ≠ co xs b
def Ui (xs : List UInt8) (i k : Nat) : Prop := ∀ b, b < k → co xs i ≠ co xs b
theorem Un.zero (xs : List UInt8) : Un xs 0 := fun a b _ h => by omega
theorem Ui.zero (xs : List UInt8) (i : Nat) : Ui xs i 0 := fun b h => by omega
theorem Ui.succ {xs : List UInt8} {i k : Nat} (h : Ui xs i k) (hk : co xs i ≠ co xs k) : Ui xs i (k + 1) := fun b hb => by
  by_cases e : b = k
  · subst e; exact hk
  · exact h b (by omega)
theorem Un.succ {xs : List UInt8} {i : Nat} (h : Un xs i) (hi : Ui xs i i) : Un xs (i + 1) := fun a b hb ha => by
  by_cases e : a = i
  · subst e; exact hi b hb
  · exact h a b hb (by omega)
theorem Un.unl {xs : List UInt8} (h : Un xs xs.length) : unl xs = true := unl_of fun i k hk hi => h i k hk hi
/-- the document's polynomial, a point more -/
theorem newt_succ (xs ys : List UInt8) (i : Nat) : newt xs ys (i + 1) = padd (newt xs ys i) (scale (mul (add (co ys i) (ev (newt xs ys i) (co xs i))) (inv (ev (proot (xs.take i)) (co xs i)))) (proot (xs.take i))) := rfl
theorem wgtTo_same (xs : List UInt8) (i : Nat) (x : UInt8) : wgtTo xs i x (i + 1) = wgtTo xs i x i := by conv => lhs; unfold wgtTo; rw [if_pos rfl]
theorem wgtTo_more (xs : List UInt8) (i : Nat) (x : UInt8) {k : Nat} (h : k ≠ i) : wgtTo xs i x (k + 1) = mul (wgtTo xs i x k) (mul (add x (co xs k)) (inv (add (co xs i) (co xs k)))) := by
  conv => lhs; unfold wgtTo; rw [if_neg h]
  rfl
/-- values at the first points, one by one -/
def vals (p xs : List UInt8) (k : Nat) : List UInt8 := tab k fun i => ev p (co xs i)
theorem vals_len (p xs : List UInt8) (k : Nat) : (vals p xs k).length = k := by simp [vals]
theorem vals_zero (p xs : List UInt8) : vals p xs 0 = [] := rfl
theorem vals_succ (p xs : List UInt8) (k : Nat) (hk : k < xs.length) : vals p xs (k + 1) = vals p xs k ++ [ev p xs[k]] := by
  unfold vals; rw [tab_succ, co_get _ _ hk]
theorem co_vals (p xs : List UInt8) {k i : Nat} (h : i < k) : co (vals p xs k) i = ev p (co xs i) := by
  unfold vals; rw [co_tab, if_pos h]
theorem dot_vals {xs : List UInt8} (h : xs.Nodup) (p : List UInt8) (hp : p.length ≤ xs.length) (x : UInt8) : dot (wgts xs x) (vals p xs xs.length) = ev p x := by
  rw [dot_sum, wgts_len, vals_len, Nat.min_self, ← weigh h p hp x]
  exact xsum_congr _ fun i hi => by rw [co_wgts _ _ _ hi, co_vals _ _ hi, mulc]
theorem thr_vals {xs : List UInt8} (h : xs.Nodup) (p : List UInt8) (hp : p.length ≤ xs.length) (k : Nat) : co (thr xs (vals p xs xs.length)) k = co p k :=
  (thr_eq h _ p hp (fun _ hj => (co_vals _ _ hj).symm) k).symm
end Go.Proofs.Ytmeenipcfmeopaa.LagrM
