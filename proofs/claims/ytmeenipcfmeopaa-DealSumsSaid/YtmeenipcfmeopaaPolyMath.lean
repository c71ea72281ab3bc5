/- plain mathematics of polynomials over bytes -/
import Derived.Test.YtmeenipcfmeopaaGfMath
set_option maxRecDepth 100000
namespace Go.Proofs.Ytmeenipcfmeopaa.PolyM
open GfM

theorem addc (a b : UInt8) : add a b = add b a := by unfold add; exact UInt8.xor_comm a b
theorem adda (a b c : UInt8) : add (add a b) c = add a (add b c) := by unfold add; exact UInt8.xor_assoc a b c
theorem add0 (a : UInt8) : add a 0 = a := by unfold add; exact UInt8.xor_zero
theorem zadd (a : UInt8) : add 0 a = a := by rw [addc, add0]
theorem adds (a : UInt8) : add a a = 0 := by unfold add; exact UInt8.xor_self
theorem add_eq_zero {a b : UInt8} : add a b = 0 ↔ a = b := by
  constructor
  · intro h
    have : add (add a b) b = add 0 b := by rw [h]
    rw [adda, adds, add0, zadd] at this; exact this
  · rintro rfl; exact adds _
theorem muladd (a b c : UInt8) : mul a (add b c) = add (mul a b) (mul a c) := muld a b c
theorem addmul (a b c : UInt8) : mul (add a b) c = add (mul a c) (mul b c) := dmul a b c
theorem add4 (a b c d : UInt8) : add (add a b) (add c d) = add (add a c) (add b d) := by
  rw [adda, adda, ← adda b c d, addc b c, adda c b d]

/-! sums -/
def xsum (f : Nat → UInt8) : Nat → UInt8
  | 0 => 0
  | n + 1 => add (xsum f n) (f n)
theorem xsum_congr {f g : Nat → UInt8} (n : Nat) (h : ∀ i, i < n → f i = g i) : xsum f n = xsum g n := by
  induction n with
  | zero => rfl
  | succ n ih => unfold xsum; rw [ih (fun i hi => h i (by omega)), h n (by omega)]
theorem xsum_add (f g : Nat → UInt8) (n : Nat) : xsum (fun i => add (f i) (g i)) n = add (xsum f n) (xsum g n) := by
  induction n with
  | zero => exact (add0 0).symm
  | succ n ih => simp only [xsum]; rw [ih, add4]
theorem xsum_mul (f : Nat → UInt8) (c : UInt8) (n : Nat) : xsum (fun i => mul c (f i)) n = mul c (xsum f n) := by
  induction n with
  | zero => exact (mul0 c).symm
  | succ n ih => simp only [xsum]; rw [ih, muladd]
theorem xsum_zero (f : Nat → UInt8) (n : Nat) (h : ∀ i, i < n → f i = 0) : xsum f n = 0 := by
  induction n with
  | zero => rfl
  | succ n ih => unfold xsum; rw [ih (fun i hi => h i (by omega)), h n (by omega), add0]
theorem xsum_more (f : Nat → UInt8) {m n : Nat} (hm : n ≤ m) (h : ∀ i, n ≤ i → i < m → f i = 0) : xsum f m = xsum f n := by
  induction m with
  | zero => obtain rfl : n = 0 := by omega
            rfl
  | succ m ih =>
    by_cases e : n = m + 1
    · rw [e]
    · show add (xsum f m) (f m) = _
      rw [ih (by omega) (fun i h1 h2 => h i h1 (by omega)), h m (by omega) (by omega), add0]
theorem xsum_head (f : Nat → UInt8) (n : Nat) : xsum f (n + 1) = add (f 0) (xsum (fun i => f (i + 1)) n) := by
  induction n with
  | zero => simp only [xsum]; rw [addc]
  | succ n ih => rw [xsum, ih, adda]; rfl

/-! tables -/
def co (l : List UInt8) (k : Nat) : UInt8 := l.getD k 0
theorem co_nil (k : Nat) : co [] k = 0 := by simp [co]
theorem co_zero (a : UInt8) (l : List UInt8) : co (a :: l) 0 = a := by simp [co]
theorem co_succ (a : UInt8) (l : List UInt8) (k : Nat) : co (a :: l) (k + 1) = co l k := by simp [co]
theorem co_get (l : List UInt8) (k : Nat) (h : k < l.length) : co l k = l[k] := by simp [co, List.getD, h]
theorem co_ge (l : List UInt8) (k : Nat) (h : l.length ≤ k) : co l k = 0 := by simp [co, List.getD, List.getElem?_eq_none h]
def tab (n : Nat) (f : Nat → UInt8) : List UInt8 := (List.range n).map f
@[simp] theorem tab_len (n : Nat) (f : Nat → UInt8) : (tab n f).length = n := by simp [tab]
theorem tab_get (n : Nat) (f : Nat → UInt8) (k : Nat) (h : k < (tab n f).length) : (tab n f)[k] = f k := by simp [tab]
theorem tab_zero (f : Nat → UInt8) : tab 0 f = [] := rfl
theorem tab_succ (n : Nat) (f : Nat → UInt8) : tab (n + 1) f = tab n f ++ [f n] := by simp [tab, List.range_succ]
theorem tab_congr {n : Nat} {f g : Nat → UInt8} (h : ∀ i, i < n → f i = g i) : tab n f = tab n g := by
  unfold tab; exact List.map_congr_left fun i hi => h i (by simpa using hi)
theorem tab_of (l : List UInt8) : tab l.length (co l) = l := by
  apply List.ext_getElem (by simp)
  intro i h1 h2
  rw [tab_get, co_get l i h2]
theorem co_tab (n : Nat) (f : Nat → UInt8) (k : Nat) : co (tab n f) k = if k < n then f k else 0 := by
  by_cases h : k < n
  · rw [if_pos h, co_get _ _ (by simpa using h), tab_get]
  · rw [if_neg h, co_ge _ _ (by simpa using h)]
theorem tab_set (n : Nat) (f : Nat → UInt8) (k : Nat) (v : UInt8) (_h : k < n) : (tab n f).set k v = tab n (fun i => if i = k then v else f i) := by
  apply List.ext_getElem (by simp)
  intro i h1 h2
  rw [List.getElem_set, tab_get, tab_get]
  by_cases e : k = i
  · subst e; simp
  · rw [if_neg e, if_neg (fun h => e h.symm)]
theorem tab_take (n k : Nat) (f : Nat → UInt8) (h : k ≤ n) : (tab n f).take k = tab k f := by
  apply List.ext_getElem (by simp; omega)
  intro i h1 h2
  rw [List.getElem_take, tab_get, tab_get]
theorem tab_rep (n : Nat) : tab n (fun _ => 0) = List.replicate n 0 := by
  apply List.ext_getElem (by simp)
  intro i h1 h2
  rw [tab_get]; simp
theorem list_ext {l m : List UInt8} (hl : l.length = m.length) (h : ∀ k, co l k = co m k) : l = m := by
  rw [← tab_of l, ← tab_of m, hl]; exact tab_congr fun i _ => h i

/-! values -/
def ev : List UInt8 → UInt8 → UInt8
  | [], _ => 0
  | a :: l, x => add a (mul (ev l x) x)
theorem ev_append (l : List UInt8) (a x : UInt8) : ev (l ++ [a]) x = add (ev l x) (mul a (npow x l.length)) := by
  induction l with
  | nil => simp only [List.nil_append, ev, List.length_nil, npow]; rw [zmul, add0, mul1, zadd]
  | cons b l ih =>
    simp only [List.cons_append, ev, List.length_cons, npow]
    rw [ih, addmul, adda, mula]
theorem take_snoc (l : List UInt8) (k : Nat) (h : k < l.length) : l.take (k + 1) = l.take k ++ [l[k]] := by
  rw [List.take_succ_eq_append_getElem h]
theorem ev_take_succ (l : List UInt8) (x : UInt8) (k : Nat) (h : k < l.length) : ev (l.take (k + 1)) x = add (ev (l.take k) x) (mul l[k] (npow x k)) := by
  rw [take_snoc l k h, ev_append, List.length_take, Nat.min_eq_left (by omega)]
theorem ev_drop (l : List UInt8) (x : UInt8) (k : Nat) (h : k < l.length) : ev (l.drop k) x = add l[k] (mul (ev (l.drop (k + 1)) x) x) := by
  rw [List.drop_eq_getElem_cons h]; rfl
theorem ev_tab (n : Nat) (f : Nat → UInt8) (x : UInt8) : ev (tab n f) x = xsum (fun k => mul (f k) (npow x k)) n := by
  induction n with
  | zero => rfl
  | succ n ih => rw [tab_succ, ev_append, ih, tab_len]; rfl
theorem ev_sum (l : List UInt8) (x : UInt8) {n : Nat} (h : l.length ≤ n) : xsum (fun k => mul (co l k) (npow x k)) n = ev l x := by
  rw [xsum_more _ h (fun i h1 _ => by rw [co_ge l i h1, zmul]), ← ev_tab, tab_of]

/-! degree -/
def degTo (l : List UInt8) : Nat → Int
  | 0 => -1
  | k + 1 => if co l k = 0 then degTo l k else k
def deg (l : List UInt8) : Int := degTo l l.length
theorem degTo_range (l : List UInt8) (k : Nat) : -1 ≤ degTo l k ∧ degTo l k < k := by
  induction k with
  | zero => exact ⟨by simp [degTo], by simp [degTo]⟩
  | succ k ih => unfold degTo; split <;> omega
theorem deg_last (l : List UInt8) (n : Nat) (hl : l.length = n + 1) (h : co l n ≠ 0) : deg l = n := by
  unfold deg; rw [hl, degTo, if_neg h]

/-! sums -/
def padd (p q : List UInt8) : List UInt8 := tab (max p.length q.length) fun k => add (co p k) (co q k)
theorem padd_comm (p q : List UInt8) : padd p q = padd q p := by
  unfold padd; rw [Nat.max_comm]; exact tab_congr fun i _ => addc _ _
theorem co_padd (p q : List UInt8) (k : Nat) : co (padd p q) k = add (co p k) (co q k) := by
  unfold padd; rw [co_tab]; split
  · rfl
  · rw [co_ge p k (by omega), co_ge q k (by omega), add0]
theorem ev_padd (p q : List UInt8) (x : UInt8) : ev (padd p q) x = add (ev p x) (ev q x) := by
  unfold padd
  rw [ev_tab, ← ev_sum p x (Nat.le_max_left p.length q.length), ← ev_sum q x (Nat.le_max_right p.length q.length), ← xsum_add]
  exact xsum_congr _ fun i _ => addmul _ _ _
/-- what stands in the program's sum after k rounds -/
def addTo (p q : List UInt8) (k : Nat) : List UInt8 := tab p.length fun i => if i < k then add (co p i) (co q i) else co p i
theorem addTo_zero (p q : List UInt8) : addTo p q 0 = p := by
  unfold addTo
  rw [tab_congr (g := co p) (fun i _ => by simp), tab_of]
theorem addTo_get (p q : List UInt8) (k : Nat) (h : k < p.length) (h' : k < (addTo p q k).length) : (addTo p q k)[k] = p[k] := by
  refine (tab_get _ _ k h').trans ?_
  simp [co_get p k h]
theorem addTo_succ (p q : List UInt8) (k : Nat) (h : k < p.length) (hq : k < q.length) : (addTo p q k).set k (add p[k] q[k]) = addTo p q (k + 1) := by
  unfold addTo
  rw [tab_set _ _ _ _ h]
  refine tab_congr fun i _ => ?_
  by_cases e : i = k
  · subst e; simp [co_get p i h, co_get q i hq]
  · rw [if_neg e]
    have : (i < k + 1) ↔ i < k := by omega
    simp only [this]
theorem addTo_done (p q : List UInt8) (h : q.length ≤ p.length) : addTo p q q.length = padd p q := by
  unfold addTo padd
  rw [Nat.max_eq_left h]
  refine tab_congr fun i _ => ?_
  by_cases e : i < q.length
  · rw [if_pos e]
  · rw [if_neg e, co_ge q i (by omega), add0]
theorem addTo_len (p q : List UInt8) (k : Nat) : (addTo p q k).length = p.length := by simp [addTo]

/-! multiples -/
def scale (c : UInt8) (p : List UInt8) : List UInt8 := tab p.length fun k => mul c (co p k)
def scTo (c : UInt8) (p : List UInt8) (k : Nat) : List UInt8 := tab p.length fun i => if i < k then mul c (co p i) else 0
theorem scTo_zero (c : UInt8) (p : List UInt8) : scTo c p 0 = List.replicate p.length 0 := by
  unfold scTo; rw [← tab_rep]; exact tab_congr fun i _ => by simp
theorem scTo_succ (c : UInt8) (p : List UInt8) (k : Nat) (h : k < p.length) : (scTo c p k).set k (mul p[k] c) = scTo c p (k + 1) := by
  unfold scTo
  rw [tab_set _ _ _ _ h]
  refine tab_congr fun i _ => ?_
  by_cases e : i = k
  · subst e; simp [co_get p i h, mulc c]
  · rw [if_neg e]
    have : (i < k + 1) ↔ i < k := by omega
    simp only [this]
theorem scTo_done (c : UInt8) (p : List UInt8) : scTo c p p.length = scale c p := by
  unfold scTo scale; exact tab_congr fun i hi => by rw [if_pos hi]
theorem scTo_len (c : UInt8) (p : List UInt8) (k : Nat) : (scTo c p k).length = p.length := by simp [scTo]

/-! products -/
def conv (p q : List UInt8) (k : Nat) : UInt8 := xsum (fun i => mul (co p i) (co q (k - i))) (k + 1)
def pmul (p q : List UInt8) : List UInt8 := if p.length = 0 ∨ q.length = 0 then [] else tab (p.length + q.length - 1) (conv p q)
theorem pmul_len (p q : List UInt8) : (pmul p q).length = if p.length = 0 ∨ q.length = 0 then 0 else p.length + q.length - 1 := by
  unfold pmul; split <;> simp
theorem conv_ge (p q : List UInt8) (k : Nat) (h : p.length + q.length ≤ k + 1) : conv p q k = 0 := by
  refine xsum_zero _ _ fun i hi => ?_
  by_cases e : i < p.length
  · rw [co_ge q _ (by omega), mul0]
  · rw [co_ge p _ (by omega), zmul]
theorem conv_nil (q : List UInt8) (k : Nat) : conv [] q k = 0 := xsum_zero _ _ fun i _ => by rw [co_nil, zmul]
theorem conv_nil2 (q : List UInt8) (k : Nat) : conv q [] k = 0 := xsum_zero _ _ fun i _ => by rw [co_nil, mul0]
theorem co_pmul (p q : List UInt8) (k : Nat) : co (pmul p q) k = conv p q k := by
  unfold pmul
  split
  · rename_i h
    rw [co_nil]
    rcases h with h | h
    · rw [List.eq_nil_of_length_eq_zero h, conv_nil]
    · rw [List.eq_nil_of_length_eq_zero h, conv_nil2]
  · rw [co_tab]; split
    · rfl
    · rw [conv_ge p q k (by omega)]
theorem conv_cons (a : UInt8) (p q : List UInt8) (k : Nat) : conv (a :: p) q (k + 1) = add (mul a (co q (k + 1))) (conv p q k) := by
  unfold conv
  rw [xsum_head]
  simp only [co_zero, co_succ, Nat.sub_zero, Nat.add_sub_add_right]
theorem conv_cons0 (a : UInt8) (p q : List UInt8) : conv (a :: p) q 0 = mul a (co q 0) := by
  unfold conv; simp only [xsum]; rw [zadd, co_zero]
theorem sum_conv (q : List UInt8) (x : UInt8) : ∀ (p : List UInt8) (n : Nat), p.length + q.length ≤ n → xsum (fun k => mul (conv p q k) (npow x k)) n = mul (ev p x) (ev q x) := by
  intro p
  induction p with
  | nil => intro n _; rw [ev, zmul]; exact xsum_zero _ _ fun i _ => by rw [conv_nil, zmul]
  | cons a p ih =>
    intro n hn
    obtain ⟨m, rfl⟩ : ∃ m, n = m + 1 := ⟨n - 1, by simp only [List.length_cons] at hn; omega⟩
    simp only [List.length_cons] at hn
    rw [xsum_head]
    have e1 : xsum (fun i => mul (conv (a :: p) q (i + 1)) (npow x (i + 1))) m
        = add (mul a (xsum (fun i => mul (co q (i + 1)) (npow x (i + 1))) m)) (mul x (xsum (fun i => mul (conv p q i) (npow x i)) m)) := by
      rw [← xsum_mul, ← xsum_mul, ← xsum_add]
      refine xsum_congr _ fun i _ => ?_
      rw [conv_cons, addmul, mula, npow]
      congr 1
      rw [← mula, mulc _ x]
    rw [e1, ih m (by omega), conv_cons0, ev, ← ev_sum q x (n := m + 1) (by omega), xsum_head (fun k => mul (co q k) (npow x k))]
    simp only [npow]
    rw [addmul, ← adda]
    congr 1
    · rw [muladd, mula]
    · rw [mulc (ev p x) x, mula]
theorem ev_pmul (p q : List UInt8) (x : UInt8) : ev (pmul p q) x = mul (ev p x) (ev q x) := by
  rw [← ev_sum (pmul p q) x (n := p.length + q.length) (by rw [pmul_len]; split <;> omega), ← sum_conv q x p _ (Nat.le_refl _)]
  exact xsum_congr _ fun i _ => by rw [co_pmul]

/-- what stands at place j of the program's product after i whole rows and k places of the next -/
def rows (p q : List UInt8) (i j : Nat) : UInt8 := xsum (fun t => if t ≤ j then mul (co p t) (co q (j - t)) else 0) i
def rowF (p q : List UInt8) (i k j : Nat) : UInt8 := if i ≤ j ∧ j - i < k then add (rows p q i j) (mul (co p i) (co q (j - i))) else rows p q i j
def mulTo (p q : List UInt8) (i k : Nat) : List UInt8 := tab (p.length + q.length - 1) (rowF p q i k)
theorem mulTo_len (p q : List UInt8) (i k : Nat) : (mulTo p q i k).length = p.length + q.length - 1 := by simp [mulTo]
theorem mulTo_zero (p q : List UInt8) : mulTo p q 0 0 = List.replicate (p.length + q.length - 1) 0 := by
  unfold mulTo; rw [← tab_rep]; exact tab_congr fun i _ => by simp [rowF, rows, xsum]
theorem mulTo_get (p q : List UInt8) (i k : Nat) (h : i + k < (mulTo p q i k).length) : (mulTo p q i k)[i + k] = rows p q i (i + k) := by
  refine (tab_get _ _ _ h).trans ?_
  unfold rowF; rw [if_neg (by omega)]
theorem mulTo_succ (p q : List UInt8) (i k : Nat) (h1 : i < p.length) (h2 : k < q.length) :
    (mulTo p q i k).set (i + k) (add (rows p q i (i + k)) (mul p[i] q[k])) = mulTo p q i (k + 1) := by
  unfold mulTo
  rw [tab_set _ _ _ _ (by omega)]
  refine tab_congr fun j _ => ?_
  unfold rowF
  by_cases e : j = i + k
  · subst e; rw [if_pos rfl, if_pos (by omega), Nat.add_sub_cancel_left, co_get p i h1, co_get q k h2]
  · rw [if_neg e]
    have : (i ≤ j ∧ j - i < k + 1) ↔ (i ≤ j ∧ j - i < k) := by omega
    simp only [this]
theorem mulTo_next (p q : List UInt8) (i : Nat) : mulTo p q i q.length = mulTo p q (i + 1) 0 := by
  unfold mulTo
  refine tab_congr fun j _ => ?_
  unfold rowF
  rw [if_neg (show ¬ (i + 1 ≤ j ∧ j - (i + 1) < 0) by omega)]
  have e : rows p q (i + 1) j = add (rows p q i j) (if i ≤ j then mul (co p i) (co q (j - i)) else 0) := rfl
  rw [e]
  by_cases h : i ≤ j
  · rw [if_pos h]
    by_cases h2 : j - i < q.length
    · rw [if_pos ⟨h, h2⟩]
    · rw [if_neg (by omega), co_ge q _ (by omega), mul0, add0]
  · rw [if_neg h, if_neg (by omega), add0]
theorem rows_conv (p q : List UInt8) (j : Nat) : rows p q p.length j = conv p q j := by
  unfold rows conv
  have h1 : xsum (fun t => if t ≤ j then mul (co p t) (co q (j - t)) else 0) (p.length + (j + 1)) = xsum (fun t => if t ≤ j then mul (co p t) (co q (j - t)) else 0) p.length :=
    xsum_more _ (by omega) fun i hi _ => by rw [co_ge p i hi, zmul]; simp
  have h2 : xsum (fun t => if t ≤ j then mul (co p t) (co q (j - t)) else 0) (p.length + (j + 1)) = xsum (fun t => if t ≤ j then mul (co p t) (co q (j - t)) else 0) (j + 1) :=
    xsum_more _ (by omega) fun i hi _ => by rw [if_neg (by omega)]
  rw [← h1, h2]
  exact xsum_congr _ fun i hi => by rw [if_pos (by omega)]
theorem mulTo_done (p q : List UInt8) (h1 : p.length ≠ 0) (h2 : q.length ≠ 0) : mulTo p q p.length 0 = pmul p q := by
  unfold mulTo pmul
  rw [if_neg (by omega)]
  refine tab_congr fun j _ => ?_
  unfold rowF
  rw [if_neg (by omega), rows_conv]

/-! the polynomial of some bytes -/
theorem conv_lin (p : List UInt8) (c : UInt8) (k : Nat) : conv p [c, 1] k = add (mul (co p k) c) (if k = 0 then 0 else co p (k - 1)) := by
  rcases k with _ | k
  · unfold conv; simp only [xsum]; rw [if_pos trivial, zadd, co_zero, add0]
  · unfold conv
    simp only [xsum]
    rw [Nat.sub_self, co_zero, if_neg (by omega), Nat.add_sub_cancel, show k + 1 - k = 0 + 1 from by omega, co_succ, co_zero, mul1, addc]
    rw [xsum_zero _ _ fun i hi => ?_, zadd]
    rw [show k + 1 - i = (k - 1 - i) + 1 + 1 from by omega, co_succ, co_succ, co_nil, mul0]
def proot (xs : List UInt8) : List UInt8 := xs.foldl (fun r c => pmul r [c, 1]) [1]
theorem proot_snoc (l : List UInt8) (c : UInt8) : proot (l ++ [c]) = pmul (proot l) [c, 1] := by simp [proot]
theorem proot_take_succ (l : List UInt8) (k : Nat) (h : k < l.length) : proot (l.take (k + 1)) = pmul (proot (l.take k)) [l[k], 1] := by
  rw [take_snoc l k h, proot_snoc]
theorem snoc_ind {p : List UInt8 → Prop} (h0 : p []) (h1 : ∀ l c, p l → p (l ++ [c])) (l : List UInt8) : p l := by
  have : ∀ n (l : List UInt8), l.length = n → p l := by
    intro n
    induction n with
    | zero => intro l hl; rw [List.eq_nil_of_length_eq_zero hl]; exact h0
    | succ n ih =>
      intro l hl
      have hne : l ≠ [] := by intro e; rw [e] at hl; simp at hl
      rw [← List.dropLast_concat_getLast hne]
      exact h1 _ _ (ih _ (by rw [List.length_dropLast, hl]; rfl))
  exact this _ l rfl
theorem proot_len (l : List UInt8) : (proot l).length = l.length + 1 := by
  induction l using snoc_ind with
  | h0 => rfl
  | h1 l c ih => rw [proot_snoc, pmul_len, ih, if_neg (by simp)]; simp
theorem proot_ne (l : List UInt8) : (proot l).length ≠ 0 := by rw [proot_len]; omega
theorem ev_lin (c x : UInt8) : ev [c, 1] x = add c x := by simp only [ev]; rw [zmul, add0, one_mul]
theorem ev_proot (l : List UInt8) (x : UInt8) : ev (proot l) x = 0 ↔ x ∈ l := by
  induction l using snoc_ind with
  | h0 => simp only [proot, List.foldl_nil, ev]; rw [zmul, add0]; simp
  | h1 l c ih => rw [proot_snoc, ev_pmul, mul_eq_zero, ih, ev_lin, add_eq_zero]; simp [eq_comm]
theorem proot_last (l : List UInt8) : co (proot l) l.length = 1 := by
  induction l using snoc_ind with
  | h0 => rfl
  | h1 l c ih =>
    rw [proot_snoc, co_pmul, conv_lin, List.length_append, List.length_singleton, if_neg (by omega), Nat.add_sub_cancel, ih, co_ge _ _ (by rw [proot_len]; omega), zmul, zadd]
theorem deg_proot (l : List UInt8) : deg (proot l) = l.length := deg_last _ _ (proot_len l) (by rw [proot_last]; decide)

/-! division -/
def quo (p : List UInt8) (c : UInt8) : List UInt8 := tab (p.length - 1) fun k => ev (p.drop (k + 1)) c
theorem quo_len (p : List UInt8) (c : UInt8) : (quo p c).length = p.length - 1 := by simp [quo]
theorem co_quo (p : List UInt8) (c : UInt8) (k : Nat) : co (quo p c) k = ev (p.drop (k + 1)) c := by
  unfold quo
  rw [co_tab]; split
  · rfl
  · rw [List.drop_eq_nil_of_le (by omega)]; rfl
theorem ev_drop_co (l : List UInt8) (x : UInt8) (k : Nat) : ev (l.drop k) x = add (co l k) (mul (ev (l.drop (k + 1)) x) x) := by
  by_cases h : k < l.length
  · rw [ev_drop l x k h, co_get l k h]
  · rw [List.drop_eq_nil_of_le (by omega), List.drop_eq_nil_of_le (by omega), co_ge l k (by omega), ev, zmul, add0]
theorem over_back (p : List UInt8) (c : UInt8) (k : Nat) : co (padd (pmul (quo p c) [c, 1]) [ev p c]) k = co p k := by
  rw [co_padd, co_pmul, conv_lin, co_quo]
  rcases k with _ | k
  · rw [if_pos rfl, add0, co_zero, Nat.zero_add]
    have := ev_drop_co p c 0
    rw [List.drop_zero, Nat.zero_add] at this
    rw [this, addc (co p 0), ← adda, adds, zadd]
  · rw [if_neg (by omega), co_succ, co_nil, add0, Nat.add_sub_cancel, co_quo, ev_drop_co p c (k + 1), addc (co p (k + 1)), ← adda, adds, zadd]
/-- what stands in the program's quotient when the places from k on are done -/
def quoTo (p : List UInt8) (c : UInt8) (k : Nat) : List UInt8 := tab (p.length - 1) fun i => if k ≤ i then ev (p.drop (i + 1)) c else 0
theorem quoTo_len (p : List UInt8) (c : UInt8) (k : Nat) : (quoTo p c k).length = p.length - 1 := by simp [quoTo]
theorem quoTo_start (p : List UInt8) (c : UInt8) : quoTo p c (p.length - 1) = List.replicate (p.length - 1) 0 := by
  unfold quoTo; rw [← tab_rep]; exact tab_congr fun i hi => by rw [if_neg (by omega)]
theorem quoTo_step (p : List UInt8) (c : UInt8) (k : Nat) (h : k < p.length - 1) : (quoTo p c (k + 1)).set k (ev (p.drop (k + 1)) c) = quoTo p c k := by
  unfold quoTo
  rw [tab_set _ _ _ _ h]
  refine tab_congr fun i _ => ?_
  by_cases e : i = k
  · subst e; rw [if_pos rfl, if_pos (Nat.le_refl _)]
  · rw [if_neg e]
    have : (k + 1 ≤ i) ↔ k ≤ i := by omega
    simp only [this]
theorem quoTo_done (p : List UInt8) (c : UInt8) : quoTo p c 0 = quo p c := by
  unfold quoTo quo; exact tab_congr fun i _ => by rw [if_pos (Nat.zero_le _)]
end Go.Proofs.Ytmeenipcfmeopaa.PolyM
