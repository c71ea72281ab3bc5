/- plain mathematics of bytes as a field: no program is named here -/
set_option maxRecDepth 100000
namespace Go.Proofs.Ytmeenipcfmeopaa.GfM

def xt (a : Nat) : Nat := if a < 128 then 2 * a else (2 * a) ^^^ 283
def xpow : Nat → Nat → Nat
  | 0, a => a
  | k + 1, a => xt (xpow k a)
def mulTo : Nat → Nat → Nat → Nat
  | 0, _, _ => 0
  | k + 1, a, b => mulTo k a b ^^^ (if b.testBit k then xpow k a else 0)
def mulN (a b : Nat) : Nat := mulTo 8 a b

/-- all bytes, checked one by one by the kernel -/
theorem all_bytes (p : Nat → Bool) (h : (List.range 256).all p = true) (a : Nat) (ha : a < 256) : p a = true :=
  List.all_eq_true.1 h a (List.mem_range.2 ha)

theorem xt_lt (a : Nat) (ha : a < 256) : xt a < 256 := by
  simpa using all_bytes (fun a => decide (xt a < 256)) (by decide +kernel) a ha
theorem xpow_lt (k a : Nat) (ha : a < 256) : xpow k a < 256 := by
  induction k with
  | zero => exact ha
  | succ k ih => exact xt_lt _ ih
theorem xor_lt {a b : Nat} (ha : a < 256) (hb : b < 256) : a ^^^ b < 256 := Nat.xor_lt_two_pow (n := 8) ha hb
theorem mulTo_lt (k a b : Nat) (ha : a < 256) : mulTo k a b < 256 := by
  induction k with
  | zero => simp [mulTo]
  | succ k ih => simp only [mulTo]; split; exact xor_lt ih (xpow_lt _ _ ha); simpa using ih
theorem mulN_lt (a b : Nat) (ha : a < 256) : mulN a b < 256 := mulTo_lt 8 a b ha

/-! a function that takes sums apart -/
def Lin (f : Nat → Nat) : Prop := ∀ a b, a < 256 → b < 256 → f (a ^^^ b) = f a ^^^ f b

theorem xt_eq (a : Nat) (ha : a < 256) : xt a = (2 * a) ^^^ (if a.testBit 7 then 283 else 0) := by
  have := all_bytes (fun a => decide (xt a = (2 * a) ^^^ (if a.testBit 7 then 283 else 0))) (by decide +kernel) a ha
  simpa using this

theorem two_xor (a b : Nat) : 2 * (a ^^^ b) = (2 * a) ^^^ (2 * b) := by
  apply Nat.eq_of_testBit_eq
  intro i
  cases i with
  | zero => simp [Nat.testBit_zero]
  | succ i =>
    rw [Nat.testBit_xor, Nat.testBit_succ, Nat.testBit_succ, Nat.testBit_succ]
    simp

theorem xor4 (a b c d : Nat) : (a ^^^ b) ^^^ (c ^^^ d) = (a ^^^ c) ^^^ (b ^^^ d) := by
  rw [Nat.xor_assoc, Nat.xor_assoc]; congr 1; rw [← Nat.xor_assoc, ← Nat.xor_assoc, Nat.xor_comm b c]

theorem xt_lin : Lin xt := by
  intro a b ha hb
  rw [xt_eq _ (xor_lt ha hb), xt_eq a ha, xt_eq b hb, two_xor, Nat.testBit_xor, xor4]
  congr 1
  cases a.testBit 7 <;> cases b.testBit 7 <;> simp

theorem xpow_lin (k : Nat) : Lin (xpow k) := by
  induction k with
  | zero => intro a b _ _; rfl
  | succ k ih => intro a b ha hb; simp only [xpow]; rw [ih a b ha hb, xt_lin _ _ (xpow_lt _ _ ha) (xpow_lt _ _ hb)]

theorem mulTo_left (k c : Nat) : Lin (fun a => mulTo k a c) := by
  induction k with
  | zero => intro a b _ _; simp [mulTo]
  | succ k ih =>
    intro a b ha hb
    have ih' := ih a b ha hb
    simp only [mulTo] at ih' ⊢
    rw [ih']
    split
    · rw [xpow_lin k a b ha hb, xor4]
    · simp
theorem mulTo_right (k a : Nat) : Lin (fun b => mulTo k a b) := by
  induction k with
  | zero => intro b c _ _; simp [mulTo]
  | succ k ih =>
    intro b c hb hc
    have ih' := ih b c hb hc
    simp only [mulTo] at ih' ⊢
    rw [ih', Nat.testBit_xor]
    cases b.testBit k <;> cases c.testBit k <;> simp [Nat.xor_assoc]
    · rw [Nat.xor_comm (xpow k a)]
    · rw [← Nat.xor_assoc (xpow k a), Nat.xor_comm (xpow k a), Nat.xor_assoc, Nat.xor_self, Nat.xor_zero]
theorem mul_left (c : Nat) : Lin (fun a => mulN a c) := mulTo_left 8 c
theorem mul_right (a : Nat) : Lin (fun b => mulN a b) := mulTo_right 8 a

theorem lin_zero {f : Nat → Nat} (h : Lin f) : f 0 = 0 := by
  have := h 0 0 (by omega) (by omega)
  simpa using this

/-- every byte is a sum of powers of two -/
theorem split_bit (n x : Nat) (h1 : 2 ^ n ≤ x) (h2 : x < 2 ^ (n + 1)) : x = 2 ^ n ^^^ (x - 2 ^ n) := by
  have hlt : x - 2 ^ n < 2 ^ n := by rw [Nat.pow_succ] at h2; omega
  have e : 2 ^ n ^^^ (x - 2 ^ n) = 2 ^ n + (x - 2 ^ n) := by
    apply Nat.eq_of_testBit_eq
    intro i
    have := Nat.two_pow_add_eq_or_of_lt hlt 1
    rw [Nat.mul_one] at this
    rw [this, Nat.testBit_xor, Nat.testBit_or]
    by_cases hi : n = i
    · subst hi
      have := Nat.testBit_lt_two_pow hlt
      simp [this]
    · simp [hi]
  rw [e]; omega

theorem lin_ext {f g : Nat → Nat} (hf : Lin f) (hg : Lin g) (h : ∀ i, i < 8 → f (2 ^ i) = g (2 ^ i)) (x : Nat) (hx : x < 256) : f x = g x := by
  have key : ∀ n, n ≤ 8 → ∀ x, x < 2 ^ n → f x = g x := by
    intro n
    induction n with
    | zero => intro _ x hx; have : x = 0 := by simpa using hx
              subst this; rw [lin_zero hf, lin_zero hg]
    | succ n ih =>
      intro hn x hx
      by_cases hlt : x < 2 ^ n
      · exact ih (by omega) x hlt
      · have hs := split_bit n x (by omega) hx
        have h256 : (2 : Nat) ^ (n + 1) ≤ 256 := Nat.pow_le_pow_right (by omega) hn
        have hp : (2 : Nat) ^ n < 256 := by rw [Nat.pow_succ] at h256; have : 0 < 2 ^ n := Nat.two_pow_pos n; omega
        have hr : x - 2 ^ n < 2 ^ n := by rw [Nat.pow_succ] at hx; omega
        rw [hs, hf _ _ hp (by omega), hg _ _ hp (by omega), h n (by omega), ih (by omega) _ hr]
  exact key 8 (by omega) x hx

theorem all8 (p : Nat → Bool) (h : (List.range 8).all p = true) (a : Nat) (ha : a < 8) : p a = true :=
  List.all_eq_true.1 h a (List.mem_range.2 ha)

theorem pow8 (i : Nat) (hi : i < 8) : 2 ^ i < 256 := by
  have : (2 : Nat) ^ i < 2 ^ 8 := Nat.pow_lt_pow_right (by omega) hi
  omega

theorem mul_comm (a b : Nat) (ha : a < 256) (hb : b < 256) : mulN a b = mulN b a := by
  refine lin_ext (f := fun a => mulN a b) (g := fun a => mulN b a) (mul_left b) (mul_right b) (fun i hi => ?_) a ha
  refine lin_ext (f := fun b => mulN (2 ^ i) b) (g := fun b => mulN b (2 ^ i)) (mul_right _) (mul_left _) (fun j hj => ?_) b hb
  have := all8 (fun i => (List.range 8).all fun j => decide (mulN (2 ^ i) (2 ^ j) = mulN (2 ^ j) (2 ^ i))) (by decide +kernel) i hi
  simpa using all8 _ this j hj

theorem lin_comp {f g : Nat → Nat} (hf : Lin f) (hg : Lin g) (hb : ∀ a, a < 256 → g a < 256) : Lin (fun a => f (g a)) := by
  intro a b ha hb'
  show f (g (a ^^^ b)) = _
  rw [hg a b ha hb', hf _ _ (hb a ha) (hb b hb')]

theorem mul_assoc (a b c : Nat) (ha : a < 256) (hb : b < 256) (hc : c < 256) : mulN (mulN a b) c = mulN a (mulN b c) := by
  refine lin_ext (f := fun a => mulN (mulN a b) c) (g := fun a => mulN a (mulN b c))
    (lin_comp (f := fun x => mulN x c) (g := fun a => mulN a b) (mul_left c) (mul_left b) (fun x hx => mulN_lt _ _ hx)) (mul_left _) (fun i hi => ?_) a ha
  have hi' := pow8 i hi
  refine lin_ext (f := fun b => mulN (mulN (2 ^ i) b) c) (g := fun b => mulN (2 ^ i) (mulN b c))
    (lin_comp (f := fun x => mulN x c) (g := fun b => mulN (2 ^ i) b) (mul_left c) (mul_right _) (fun x hx => mulN_lt _ _ hi'))
    (lin_comp (f := fun x => mulN (2 ^ i) x) (g := fun b => mulN b c) (mul_right _) (mul_left c) (fun x hx => mulN_lt _ _ hx)) (fun j hj => ?_) b hb
  have hj' := pow8 j hj
  refine lin_ext (f := fun c => mulN (mulN (2 ^ i) (2 ^ j)) c) (g := fun c => mulN (2 ^ i) (mulN (2 ^ j) c))
    (mul_right _)
    (lin_comp (f := fun x => mulN (2 ^ i) x) (g := fun c => mulN (2 ^ j) c) (mul_right _) (mul_right _) (fun x hx => mulN_lt _ _ hj')) (fun k hk => ?_) c hc
  have := all8 (fun i => (List.range 8).all fun j => (List.range 8).all fun k => decide (mulN (mulN (2 ^ i) (2 ^ j)) (2 ^ k) = mulN (2 ^ i) (mulN (2 ^ j) (2 ^ k)))) (by decide +kernel) i hi
  simpa using all8 _ (all8 _ this j hj) k hk

theorem mul_one (a : Nat) (ha : a < 256) : mulN a 1 = a := by
  simpa using all_bytes (fun a => decide (mulN a 1 = a)) (by decide +kernel) a ha
theorem mul_zero (a : Nat) (ha : a < 256) : mulN a 0 = 0 := by
  simpa using all_bytes (fun a => decide (mulN a 0 = 0)) (by decide +kernel) a ha
theorem zero_mul (b : Nat) : mulN 0 b = 0 := by
  have h : ∀ k, xpow k 0 = 0 := by intro k; induction k with | zero => rfl | succ k ih => simp [xpow, ih, xt]
  have : ∀ k, mulTo k 0 b = 0 := by intro k; induction k with | zero => rfl | succ k ih => simp [mulTo, ih, h]
  exact this 8
theorem mul_add (a b c : Nat) (hb : b < 256) (hc : c < 256) : mulN a (b ^^^ c) = mulN a b ^^^ mulN a c := mul_right a b c hb hc

/-! the powers of 3 -/
def gpow : Nat → Nat
  | 0 => 1
  | k + 1 => gpow k ^^^ xt (gpow k)
theorem gpow_lt (k : Nat) : gpow k < 256 := by
  induction k with
  | zero => simp [gpow]
  | succ k ih => exact xor_lt ih (xt_lt _ ih)
def powsFrom : Nat → Nat → List Nat
  | 0, _ => []
  | n + 1, p => p :: powsFrom n (p ^^^ xt p)
theorem powsFrom_get (n j i : Nat) (h : i < n) : (powsFrom n (gpow j))[i]? = some (gpow (j + i)) := by
  induction n generalizing j i with
  | zero => omega
  | succ n ih =>
    cases i with
    | zero => simp [powsFrom]
    | succ i => simp only [powsFrom, List.getElem?_cons_succ]; rw [show gpow j ^^^ xt (gpow j) = gpow (j + 1) from rfl, ih (j + 1) i (by omega)]; congr 2; omega
/-- the table of logarithms, found by looking -/
def logIn (l : List Nat) (a : Nat) : Nat := (l.findIdx? (· == a)).getD 0
def logN (a : Nat) : Nat := logIn (powsFrom 255 1) a

theorem log_facts : ((List.range 256).all fun a => a == 0 || ((powsFrom 255 1)[logIn (powsFrom 255 1) a]? == some a && decide (logIn (powsFrom 255 1) a < 255))) = true := by decide +kernel
theorem log_lt (a : Nat) (ha : a < 256) : logN a < 255 := by
  have := all_bytes _ log_facts a ha
  simp at this
  rcases this with rfl | h
  · decide +kernel
  · exact h.2
theorem gpow_log (a : Nat) (ha : a < 256) (h0 : a ≠ 0) : gpow (logN a) = a := by
  have h := all_bytes _ log_facts a ha
  simp [h0] at h
  have hl := log_lt a ha
  have := powsFrom_get 255 0 (logN a) hl
  rw [show gpow 0 = 1 from rfl] at this
  have e : (powsFrom 255 1)[logN a]? = some a := h.1
  rw [this] at e
  simpa using e
theorem log_gpow_fact : ((List.range 255).all fun k => logIn (powsFrom 255 1) ((powsFrom 255 1)[k]?.getD 0) == k) = true := by decide +kernel
theorem log_gpow (k : Nat) (hk : k < 255) : logN (gpow k) = k := by
  have h := List.all_eq_true.1 log_gpow_fact k (List.mem_range.2 hk)
  have := powsFrom_get 255 0 k hk
  rw [show gpow 0 = 1 from rfl] at this
  rw [this] at h
  simpa [logN] using h
theorem gpow_ne (k : Nat) (hk : k < 255) : gpow k ≠ 0 := by
  have h : ((List.range 255).all fun k => (powsFrom 255 1)[k]?.getD 0 != 0) = true := by decide +kernel
  have h := List.all_eq_true.1 h k (List.mem_range.2 hk)
  have := powsFrom_get 255 0 k hk
  rw [show gpow 0 = 1 from rfl] at this
  rw [this] at h
  simpa using h
theorem gpow_255 : gpow 255 = 1 := by
  have h : (powsFrom 256 1)[255]? = some 1 := by decide +kernel
  have := powsFrom_get 256 0 255 (by omega)
  rw [show gpow 0 = 1 from rfl, h] at this
  simpa using this.symm
theorem gpow_add255 (k : Nat) : gpow (k + 255) = gpow k := by
  induction k with
  | zero => exact gpow_255
  | succ k ih => rw [show k + 1 + 255 = (k + 255) + 1 from by omega]; show gpow (k + 255) ^^^ xt (gpow (k + 255)) = _; rw [ih]; rfl
theorem gpow_succ (k : Nat) : gpow (k + 1) = mulN (gpow k) 3 := by
  have := all_bytes (fun a => decide (a ^^^ xt a = mulN a 3)) (by decide +kernel) (gpow k) (gpow_lt k)
  show gpow k ^^^ xt (gpow k) = _
  simpa using this
theorem gpow_add (i j : Nat) : mulN (gpow i) (gpow j) = gpow (i + j) := by
  induction j with
  | zero => exact mul_one _ (gpow_lt i)
  | succ j ih =>
    rw [gpow_succ j, ← mul_assoc _ _ _ (gpow_lt i) (gpow_lt j) (by omega), ih]; exact (gpow_succ (i + j)).symm
theorem mul_logs (a b : Nat) (ha : a < 256) (hb : b < 256) (a0 : a ≠ 0) (b0 : b ≠ 0) : gpow (logN a + logN b) = mulN a b := by
  rw [← gpow_add, gpow_log a ha a0, gpow_log b hb b0]

/-! inverses -/
def invN (a : Nat) : Nat := if a = 0 then 0 else gpow (255 - logN a)
theorem invN_lt (a : Nat) : invN a < 256 := by unfold invN; split; omega; exact gpow_lt _
theorem mul_inv (a : Nat) (ha : a < 256) (a0 : a ≠ 0) : mulN a (invN a) = 1 := by
  have hl := log_lt a ha
  unfold invN
  rw [if_neg a0]
  conv => lhs; arg 1; rw [← gpow_log a ha a0]
  rw [gpow_add, show logN a + (255 - logN a) = 255 from by omega, gpow_255]
theorem no_div (a b : Nat) (ha : a < 256) (hb : b < 256) : mulN a b = 0 ↔ a = 0 ∨ b = 0 := by
  constructor
  · intro h
    by_cases a0 : a = 0
    · exact .inl a0
    · right
      have := mul_assoc (invN a) a b (invN_lt a) ha hb
      rw [mul_comm (invN a) a (invN_lt a) ha, mul_inv a ha a0, h, mul_zero _ (invN_lt a), mul_comm 1 b (by omega) hb, mul_one b hb] at this
      exact this
  · rintro (rfl | rfl)
    · exact zero_mul b
    · exact mul_zero a ha
theorem inv_unique (a b : Nat) (ha : a < 256) (hb : b < 256) (h : mulN a b = 1) : b = invN a := by
  have a0 : a ≠ 0 := by rintro rfl; rw [zero_mul] at h; omega
  have := mul_assoc (invN a) a b (invN_lt a) ha hb
  rw [mul_comm (invN a) a (invN_lt a) ha, mul_inv a ha a0, h, mul_one _ (invN_lt a), mul_comm 1 b (by omega) hb, mul_one b hb] at this
  exact this


/-! bytes as a field -/
def mul (a b : UInt8) : UInt8 := UInt8.ofNat (mulN a.toNat b.toNat)
def inv (a : UInt8) : UInt8 := UInt8.ofNat (invN a.toNat)
theorem lt (a : UInt8) : a.toNat < 256 := a.toNat_lt
theorem mul_toNat (a b : UInt8) : (mul a b).toNat = mulN a.toNat b.toNat := UInt8.toNat_ofNat_of_lt (mulN_lt _ _ (lt a))
theorem inv_toNat (a : UInt8) : (inv a).toNat = invN a.toNat := UInt8.toNat_ofNat_of_lt (invN_lt _)
theorem xor_toNat (a b : UInt8) : (a ^^^ b).toNat = a.toNat ^^^ b.toNat := UInt8.toNat_xor a b
theorem ext {a b : UInt8} (h : a.toNat = b.toNat) : a = b := UInt8.toNat_inj.1 h
theorem ne_zero {a : UInt8} (h : a ≠ 0) : a.toNat ≠ 0 := fun e => h (ext e)

theorem mulc (a b : UInt8) : mul a b = mul b a := ext (by rw [mul_toNat, mul_toNat, mul_comm _ _ (lt a) (lt b)])
theorem mula (a b c : UInt8) : mul (mul a b) c = mul a (mul b c) := ext (by simp only [mul_toNat]; exact mul_assoc _ _ _ (lt a) (lt b) (lt c))
theorem mul1 (a : UInt8) : mul a 1 = a := ext (by rw [mul_toNat]; exact mul_one _ (lt a))
theorem one_mul (a : UInt8) : mul 1 a = a := by rw [mulc, mul1]
theorem mul0 (a : UInt8) : mul a 0 = 0 := ext (by rw [mul_toNat]; exact mul_zero _ (lt a))
theorem zmul (a : UInt8) : mul 0 a = 0 := by rw [mulc, mul0]
theorem muld (a b c : UInt8) : mul a (b ^^^ c) = mul a b ^^^ mul a c := ext (by simp only [mul_toNat, xor_toNat]; exact mul_add _ _ _ (lt b) (lt c))
theorem dmul (a b c : UInt8) : mul (a ^^^ b) c = mul a c ^^^ mul b c := by rw [mulc, muld, mulc c a, mulc c b]
theorem mul_inv_cancel {a : UInt8} (h : a ≠ 0) : mul a (inv a) = 1 := ext (by rw [mul_toNat, inv_toNat]; exact mul_inv _ (lt a) (ne_zero h))
theorem inv_zero : inv 0 = 0 := by decide
theorem mul_eq_zero {a b : UInt8} : mul a b = 0 ↔ a = 0 ∨ b = 0 := by
  constructor
  · intro h
    have h' : (mul a b).toNat = 0 := by rw [h]; rfl
    rw [mul_toNat, no_div _ _ (lt a) (lt b)] at h'
    exact h'.imp (fun e => ext e) (fun e => ext e)
  · rintro (rfl | rfl)
    · exact zmul b
    · exact mul0 a
theorem inv_eq {a b : UInt8} (h : mul a b = 1) : b = inv a := by
  refine ext ?_
  rw [inv_toNat]
  refine inv_unique _ _ (lt a) (lt b) ?_
  rw [← mul_toNat, h]; rfl
theorem inv_ne {a : UInt8} (h : a ≠ 0) : inv a ≠ 0 := by
  intro e
  have := mul_inv_cancel h
  rw [e, mul0] at this
  exact absurd this (by decide)

/-- the sum of two bytes (a name of its own, so that simp leaves it) -/
def add (a b : UInt8) : UInt8 := a ^^^ b

/-! powers -/
def npow (a : UInt8) : Nat → UInt8
  | 0 => 1
  | n + 1 => mul (npow a n) a
def powI (a : UInt8) (n : Int) : UInt8 := if 0 ≤ n then npow a n.toNat else npow (inv a) (-n).toNat
theorem npow_add (a : UInt8) (m n : Nat) : npow a (m + n) = mul (npow a m) (npow a n) := by
  induction n with
  | zero => rw [npow, mul1]; rfl
  | succ n ih => show mul (npow a (m + n)) a = _; rw [ih, npow, mula]
theorem npow_zero (n : Nat) (h : n ≠ 0) : npow 0 n = 0 := by
  cases n with
  | zero => exact absurd rfl h
  | succ n => exact mul0 _
theorem ofNat_gp (k : Nat) : (UInt8.ofNat (gpow k)).toNat = gpow k := UInt8.toNat_ofNat_of_lt' (gpow_lt k)
theorem npow_gpow (l n : Nat) : npow (UInt8.ofNat (gpow l)) n = UInt8.ofNat (gpow (l * n)) := by
  induction n with
  | zero => rfl
  | succ n ih =>
    rw [npow, ih]
    refine ext ?_
    rw [mul_toNat, ofNat_gp, ofNat_gp, ofNat_gp, gpow_add]
    congr 1
theorem gpow_mod (k : Nat) : gpow (k % 255) = gpow k := by
  have h : ∀ q r, gpow (r + 255 * q) = gpow r := by
    intro q r
    induction q with
    | zero => rfl
    | succ q ih => rw [show r + 255 * (q + 1) = (r + 255 * q) + 255 from by omega, gpow_add255, ih]
  have := h (k / 255) (k % 255)
  rw [show k % 255 + 255 * (k / 255) = k from by omega] at this
  exact this.symm
/-- a byte that is not 0 is a power of 3 -/
theorem of_log {a : UInt8} (h : a ≠ 0) : a = UInt8.ofNat (gpow (logN a.toNat)) := ext (by rw [ofNat_gp, gpow_log _ (lt a) (ne_zero h)])
theorem npow_log {a : UInt8} (h : a ≠ 0) (n : Nat) : (npow a n).toNat = gpow (logN a.toNat * n % 255) := by
  conv => lhs; rw [of_log h]
  rw [npow_gpow, ofNat_gp, gpow_mod]
theorem inv_log {a : UInt8} (h : a ≠ 0) : inv a = UInt8.ofNat (gpow (255 - logN a.toNat)) := by
  unfold inv invN; rw [if_neg (ne_zero h)]
theorem npow_inv_log {a : UInt8} (h : a ≠ 0) (n : Nat) : (npow (inv a) n).toNat = gpow ((255 - logN a.toNat) * n % 255) := by
  rw [inv_log h, npow_gpow, ofNat_gp, gpow_mod]
/-- the exponent as the program reckons it -/
def expo (l : Nat) (n : Int) : Int := if ((l : Int) * (n.tmod 255)).tmod 255 < 0 then ((l : Int) * (n.tmod 255)).tmod 255 + 255 else ((l : Int) * (n.tmod 255)).tmod 255
theorem expo_range (l : Nat) (n : Int) : 0 ≤ expo l n ∧ expo l n < 255 := by
  have h1 := Int.tmod_lt_of_pos ((l : Int) * (n.tmod 255)) (b := 255) (by omega)
  have h2 := Int.tmod_lt_of_pos (-((l : Int) * (n.tmod 255))) (b := 255) (by omega)
  rw [Int.neg_tmod] at h2
  unfold expo; split <;> omega
theorem expo_nat (l m : Nat) : expo l (m : Int) = ((l * m % 255 : Nat) : Int) := by
  unfold expo
  have e : ((l : Int) * ((m : Int).tmod 255)).tmod 255 = ((l * m % 255 : Nat) : Int) := by
    rw [Int.tmod_eq_emod_of_nonneg (Int.natCast_nonneg m), show ((l : Int) * ((m : Int) % 255)) = ((l * (m % 255) : Nat) : Int) from by simp]
    rw [Int.tmod_eq_emod_of_nonneg (Int.natCast_nonneg _)]
    rw [show (((l * (m % 255) : Nat) : Int) % 255) = ((l * (m % 255) % 255 : Nat) : Int) from rfl]
    congr 1
    rw [Nat.mul_mod, Nat.mod_mod, ← Nat.mul_mod]
  rw [e, if_neg (by omega)]
theorem expo_neg (l m : Nat) (hl : l < 255) : expo l (-(m : Int)) = (((255 - l) * m % 255 : Nat) : Int) := by
  unfold expo
  have e : ((l : Int) * ((-(m : Int)).tmod 255)).tmod 255 = -((l * m % 255 : Nat) : Int) := by
    rw [Int.neg_tmod, Int.mul_neg, Int.neg_tmod]
    congr 1
    have := expo_nat l m
    rw [Int.tmod_eq_emod_of_nonneg (Int.natCast_nonneg m), show ((l : Int) * ((m : Int) % 255)) = ((l * (m % 255) : Nat) : Int) from by simp]
    rw [Int.tmod_eq_emod_of_nonneg (Int.natCast_nonneg _)]
    rw [show (((l * (m % 255) : Nat) : Int) % 255) = ((l * (m % 255) % 255 : Nat) : Int) from rfl]
    congr 1
    rw [Nat.mul_mod, Nat.mod_mod, ← Nat.mul_mod]
  rw [e]
  have hsum : ((255 - l) * m + l * m) = 255 * m := by rw [← Nat.add_mul]; congr 1; omega
  generalize (255 - l) * m = x at *
  generalize l * m = y at *
  split <;> omega
theorem pow_expo {a : UInt8} (h : a ≠ 0) (n : Int) : ((powI a n).toNat : Int) = (gpow (expo (logN a.toNat) n).toNat : Int) := by
  have hl := log_lt a.toNat (lt a)
  unfold powI
  split
  · rename_i hn
    obtain ⟨m, rfl⟩ := Int.eq_ofNat_of_zero_le hn
    rw [expo_nat, Int.toNat_natCast, Int.toNat_natCast, npow_log h]
  · rename_i hn
    obtain ⟨m, hm⟩ := Int.eq_ofNat_of_zero_le (a := -n) (by omega)
    obtain rfl : n = -(m : Int) := by omega
    rw [expo_neg _ _ hl, Int.toNat_natCast, show (-(-(m : Int))).toNat = m from by omega, npow_inv_log h]
theorem powI_zero (n : Int) (h : n ≠ 0) : powI 0 n = 0 := by
  unfold powI; rw [inv_zero]; split <;> exact npow_zero _ (by omega)
theorem powI_add {a : UInt8} (h : a ≠ 0) (m n : Int) : mul (powI a m) (powI a n) = powI a (m + n) := by
  have key : ∀ n : Int, powI a (n + 1) = mul (powI a n) a := by
    intro n
    unfold powI
    by_cases hn : 0 ≤ n
    · rw [if_pos hn, if_pos (by omega), show (n + 1).toNat = n.toNat + 1 from by omega]; rfl
    · rw [if_neg hn]
      have e1 : (-n).toNat = (-(n + 1)).toNat + 1 := by omega
      rw [e1, npow, mula, mulc (inv a) a, mul_inv_cancel h, mul1]
      split
      · rw [show n = -1 from by omega]; rfl
      · rfl
  have nat : ∀ (k : Nat) (m : Int), powI a (m + k) = mul (powI a m) (npow a k) := by
    intro k
    induction k with
    | zero => intro m; rw [npow, mul1]; congr 1; omega
    | succ k ih => intro m; rw [show m + ((k + 1 : Nat) : Int) = (m + k) + 1 from by omega, key, ih, npow, mula]
  by_cases hn : 0 ≤ n
  · obtain ⟨k, rfl⟩ := Int.eq_ofNat_of_zero_le hn
    rw [nat k m]; congr 1
  · obtain ⟨k, hk⟩ := Int.eq_ofNat_of_zero_le (a := -n) (by omega)
    obtain rfl : n = -(k : Int) := by omega
    have e1 := nat k (m + -(k : Int))
    have e2 := nat k (-(k : Int))
    rw [show -(k : Int) + k = 0 from by omega, show powI a 0 = 1 from rfl] at e2
    rw [show m + -(k : Int) + k = m from by omega] at e1
    rw [e1, mula, mulc (npow a k), ← e2, mul1]
/-- powers by halves -/
theorem npow_half (a : UInt8) (n : Nat) (_h : n ≠ 0) : npow a n = if n % 2 = 0 then mul (npow a (n / 2)) (npow a (n / 2)) else mul (mul (npow a (n / 2)) (npow a (n / 2))) a := by
  rw [← npow_add]
  split
  · congr 1; omega
  · rw [show n = (n / 2 + n / 2) + 1 from by omega]; show mul _ a = _; congr 2; omega

theorem prod_bound (l : Nat) (t : Int) (hl : l < 255) (h1 : -255 < t) (h2 : t < 255) : -64516 ≤ (l : Int) * t ∧ (l : Int) * t ≤ 64516 := by
  have h := Nat.mul_le_mul (show l ≤ 254 by omega) (show t.natAbs ≤ 254 by omega)
  have e : ((l : Int) * t).natAbs = l * t.natAbs := by rw [Int.natAbs_mul]; rfl
  rw [← e] at h
  omega

/-! sums of products -/
def dot : List UInt8 → List UInt8 → UInt8
  | a :: as, b :: bs => mul a b ^^^ dot as bs
  | _, _ => 0
theorem dot_take_succ (as bs : List UInt8) (k : Nat) (ha : k < as.length) (hb : k < bs.length) :
    dot (as.take (k + 1)) (bs.take (k + 1)) = dot (as.take k) (bs.take k) ^^^ mul as[k] bs[k] := by
  induction as generalizing bs k with
  | nil => simp at ha
  | cons a as ih =>
    cases bs with
    | nil => simp at hb
    | cons b bs =>
      cases k with
      | zero => simp [dot]
      | succ k =>
        simp only [List.take_succ_cons, dot, List.getElem_cons_succ]
        rw [ih bs k (by simpa using ha) (by simpa using hb), UInt8.xor_assoc]
theorem dot_take_min (as bs : List UInt8) : dot (as.take (min as.length bs.length)) (bs.take (min as.length bs.length)) = dot as bs := by
  induction as generalizing bs with
  | nil => simp [dot]
  | cons a as ih =>
    cases bs with
    | nil => simp [dot]
    | cons b bs =>
      simp only [List.length_cons, show min (as.length + 1) (bs.length + 1) = min as.length bs.length + 1 from by omega, List.take_succ_cons, dot]
      rw [ih bs]

end Go.Proofs.Ytmeenipcfmeopaa.GfM
