/- merged: GfMath, PolyMath, LagrMath, MatMath, MatList -/


/- plain mathematics of bytes as a field: no program is named here -/
set_option maxRecDepth 100000
namespace Go.Proofs.Ytjoocjkakgjgmaa.GfM

def xt (a : Nat) : Nat := if a < 128 then 2 * a else (2 * a) ^^^ 283
def xpow : Nat → Nat → Nat
  | 0, a => a
  | k + 1, a => xt (xpow k a)
def mulTo : Nat → Nat → Nat → Nat
  | 0, _, _ => 0
  | k + 1, a, b => mulTo k a b ^^^ (if b.testBit k then xpow k a else 0)
def mulN (a b : Nat) : Nat := mulTo 8 a b

/-- all bytes, checked one by one by the kernel -/
theorem all_bytes (p : Nat → Bool) (h : (List.range 256).all p = true) (a : Nat) (ha : a < 256) : p a = true :=
  List.all_eq_true.1 h a (List.mem_range.2 ha)

theorem xt_lt (a : Nat) (ha : a < 256) : xt a < 256 := by
  simpa using all_bytes (fun a => decide (xt a < 256)) (by decide +kernel) a ha
theorem xpow_lt (k a : Nat) (ha : a < 256) : xpow k a < 256 := by
  induction k with
  | zero => exact ha
  | succ k ih => exact xt_lt _ ih
theorem xor_lt {a b : Nat} (ha : a < 256) (hb : b < 256) : a ^^^ b < 256 := Nat.xor_lt_two_pow (n := 8) ha hb
theorem mulTo_lt (k a b : Nat) (ha : a < 256) : mulTo k a b < 256 := by
  induction k with
  | zero => simp [mulTo]
  | succ k ih => simp only [mulTo]; split; exact xor_lt ih (xpow_lt _ _ ha); simpa using ih
theorem mulN_lt (a b : Nat) (ha : a < 256) : mulN a b < 256 := mulTo_lt 8 a b ha

/-! a function that takes sums apart -/
def Lin (f : Nat → Nat) : Prop := ∀ a b, a < 256 → b < 256 → f (a ^^^ b) = f a ^^^ f b

theorem xt_eq (a : Nat) (ha : a < 256) : xt a = (2 * a) ^^^ (if a.testBit 7 then 283 else 0) := by
  have := all_bytes (fun a => decide (xt a = (2 * a) ^^^ (if a.testBit 7 then 283 else 0))) (by decide +kernel) a ha
  simpa using this

theorem two_xor (a b : Nat) : 2 * (a ^^^ b) = (2 * a) ^^^ (2 * b) := by
  apply Nat.eq_of_testBit_eq
  intro i
  cases i with
  | zero => simp [Nat.testBit_zero]
  | succ i =>
    rw [Nat.testBit_xor, Nat.testBit_succ, Nat.testBit_succ, Nat.testBit_succ]
    simp

theorem xor4 (a b c d : Nat) : (a ^^^ b) ^^^ (c ^^^ d) = (a ^^^ c) ^^^ (b ^^^ d) := by
  rw [Nat.xor_assoc, Nat.xor_assoc]; congr 1; rw [← Nat.xor_assoc, ← Nat.xor_assoc, Nat.xor_comm b c]

theorem xt_lin : Lin xt := by
  intro a b ha hb
  rw [xt_eq _ (xor_lt ha hb), xt_eq a ha, xt_eq b hb, two_xor, Nat.testBit_xor, xor4]
  congr 1
  cases a.testBit 7 <;> cases b.testBit 7 <;> simp

theorem xpow_lin (k : Nat) : Lin (xpow k) := by
  induction k with
  | zero => intro a b _ _; rfl
  | succ k ih => intro a b ha hb; simp only [xpow]; rw [ih a b ha hb, xt_lin _ _ (xpow_lt _ _ ha) (xpow_lt _ _ hb)]

theorem mulTo_left (k c : Nat) : Lin (fun a => mulTo k a c) := by
  induction k with
  | zero => intro a b _ _; simp [mulTo]
  | succ k ih =>
    intro a b ha hb
    have ih' := ih a b ha hb
    simp only [mulTo] at ih' ⊢
    rw [ih']
    split
    · rw [xpow_lin k a b ha hb, xor4]
    · simp
theorem mulTo_right (k a : Nat) : Lin (fun b => mulTo k a b) := by
  induction k with
  | zero => intro b c _ _; simp [mulTo]
  | succ k ih =>
    intro b c hb hc
    have ih' := ih b c hb hc
    simp only [mulTo] at ih' ⊢
    rw [ih', Nat.testBit_xor]
    cases b.testBit k <;> cases c.testBit k <;> simp [Nat.xor_assoc]
    · rw [Nat.xor_comm (xpow k a)]
    · rw [← Nat.xor_assoc (xpow k a), Nat.xor_comm (xpow k a), Nat.xor_assoc, Nat.xor_self, Nat.xor_zero]
theorem mul_left (c : Nat) : Lin (fun a => mulN a c) := mulTo_left 8 c
theorem mul_right (a : Nat) : Lin (fun b => mulN a b) := mulTo_right 8 a

theorem lin_zero {f : Nat → Nat} (h : Lin f) : f 0 = 0 := by
  have := h 0 0 (by omega) (by omega)
  simpa using this

/-- every byte is a sum of powers of two -/
theorem split_bit (n x : Nat) (h1 : 2 ^ n ≤ x) (h2 : x < 2 ^ (n + 1)) : x = 2 ^ n ^^^ (x - 2 ^ n) := by
  have hlt : x - 2 ^ n < 2 ^ n := by rw [Nat.pow_succ] at h2; omega
  have e : 2 ^ n ^^^ (x - 2 ^ n) = 2 ^ n + (x - 2 ^ n) := by
    apply Nat.eq_of_testBit_eq
    intro i
    have := Nat.two_pow_add_eq_or_of_lt hlt 1
    rw [Nat.mul_one] at this
    rw [this, Nat.testBit_xor, Nat.testBit_or]
    by_cases hi : n = i
    · subst hi
      have := Nat.testBit_lt_two_pow hlt
      simp [this]
    · simp [hi]
  rw [e]; omega

theorem lin_ext {f g : Nat → Nat} (hf : Lin f) (hg : Lin g) (h : ∀ i, i < 8 → f (2 ^ i) = g (2 ^ i)) (x : Nat) (hx : x < 256) : f x = g x := by
  have key : ∀ n, n ≤ 8 → ∀ x, x < 2 ^ n → f x = g x := by
    intro n
    induction n with
    | zero => intro _ x hx; have : x = 0 := by simpa using hx
              subst this; rw [lin_zero hf, lin_zero hg]
    | succ n ih =>
      intro hn x hx
      by_cases hlt : x < 2 ^ n
      · exact ih (by omega) x hlt
      · have hs := split_bit n x (by omega) hx
        have h256 : (2 : Nat) ^ (n + 1) ≤ 256 := Nat.pow_le_pow_right (by omega) hn
        have hp : (2 : Nat) ^ n < 256 := by rw [Nat.pow_succ] at h256; have : 0 < 2 ^ n := Nat.two_pow_pos n; omega
        have hr : x - 2 ^ n < 2 ^ n := by rw [Nat.pow_succ] at hx; omega
        rw [hs, hf _ _ hp (by omega), hg _ _ hp (by omega), h n (by omega), ih (by omega) _ hr]
  exact key 8 (by omega) x hx

theorem all8 (p : Nat → Bool) (h : (List.range 8).all p = true) (a : Nat) (ha : a < 8) : p a = true :=
  List.all_eq_true.1 h a (List.mem_range.2 ha)

theorem pow8 (i : Nat) (hi : i < 8) : 2 ^ i < 256 := by
  have : (2 : Nat) ^ i < 2 ^ 8 := Nat.pow_lt_pow_right (by omega) hi
  omega

theorem mul_comm (a b : Nat) (ha : a < 256) (hb : b < 256) : mulN a b = mulN b a := by
  refine lin_ext (f := fun a => mulN a b) (g := fun a => mulN b a) (mul_left b) (mul_right b) (fun i hi => ?_) a ha
  refine lin_ext (f := fun b => mulN (2 ^ i) b) (g := fun b => mulN b (2 ^ i)) (mul_right _) (mul_left _) (fun j hj => ?_) b hb
  have := all8 (fun i => (List.range 8).all fun j => decide (mulN (2 ^ i) (2 ^ j) = mulN (2 ^ j) (2 ^ i))) (by decide +kernel) i hi
  simpa using all8 _ this j hj

theorem lin_comp {f g : Nat → Nat} (hf : Lin f) (hg : Lin g) (hb : ∀ a, a < 256 → g a < 256) : Lin (fun a => f (g a)) := by
  intro a b ha hb'
  show f (g (a ^^^ b)) = _
  rw [hg a b ha hb', hf _ _ (hb a ha) (hb b hb')]

theorem mul_assoc (a b c : Nat) (ha : a < 256) (hb : b < 256) (hc : c < 256) : mulN (mulN a b) c = mulN a (mulN b c) := by
  refine lin_ext (f := fun a => mulN (mulN a b) c) (g := fun a => mulN a (mulN b c))
    (lin_comp (f := fun x => mulN x c) (g := fun a => mulN a b) (mul_left c) (mul_left b) (fun x hx => mulN_lt _ _ hx)) (mul_left _) (fun i hi => ?_) a ha
  have hi' := pow8 i hi
  refine lin_ext (f := fun b => mulN (mulN (2 ^ i) b) c) (g := fun b => mulN (2 ^ i) (mulN b c))
    (lin_comp (f := fun x => mulN x c) (g := fun b => mulN (2 ^ i) b) (mul_left c) (mul_right _) (fun x hx => mulN_lt _ _ hi'))
    (lin_comp (f := fun x => mulN (2 ^ i) x) (g := fun b => mulN b c) (mul_right _) (mul_left c) (fun x hx => mulN_lt _ _ hx)) (fun j hj => ?_) b hb
  have hj' := pow8 j hj
  refine lin_ext (f := fun c => mulN (mulN (2 ^ i) (2 ^ j)) c) (g := fun c => mulN (2 ^ i) (mulN (2 ^ j) c))
    (mul_right _)
    (lin_comp (f := fun x => mulN (2 ^ i) x) (g := fun c => mulN (2 ^ j) c) (mul_right _) (mul_right _) (fun x hx => mulN_lt _ _ hj')) (fun k hk => ?_) c hc
  have := all8 (fun i => (List.range 8).all fun j => (List.range 8).all fun k => decide (mulN (mulN (2 ^ i) (2 ^ j)) (2 ^ k) = mulN (2 ^ i) (mulN (2 ^ j) (2 ^ k)))) (by decide +kernel) i hi
  simpa using all8 _ (all8 _ this j hj) k hk

theorem mul_one (a : Nat) (ha : a < 256) : mulN a 1 = a := by
  simpa using all_bytes (fun a => decide (mulN a 1 = a)) (by decide +kernel) a ha
theorem mul_zero (a : Nat) (ha : a < 256) : mulN a 0 = 0 := by
  simpa using all_bytes (fun a => decide (mulN a 0 = 0)) (by decide +kernel) a ha
theorem zero_mul (b : Nat) : mulN 0 b = 0 := by
  have h : ∀ k, xpow k 0 = 0 := by intro k; induction k with | zero => rfl | succ k ih => simp [xpow, ih, xt]
  have : ∀ k, mulTo k 0 b = 0 := by intro k; induction k with | zero => rfl | succ k ih => simp [mulTo, ih, h]
  exact this 8
theorem mul_add (a b c : Nat) (hb : b < 256) (hc : c < 256) : mulN a (b ^^^ c) = mulN a b ^^^ mulN a c := mul_right a b c hb hc

/-! the powers of 3 -/
def gpow : Nat → Nat
  | 0 => 1
  | k + 1 => gpow k ^^^ xt (gpow k)
theorem gpow_lt (k : Nat) : gpow k < 256 := by
  induction k with
  | zero => simp [gpow]
  | succ k ih => exact xor_lt ih (xt_lt _ ih)
def powsFrom : Nat → Nat → List Nat
  | 0, _ => []
  | n + 1, p => p :: powsFrom n (p ^^^ xt p)
theorem powsFrom_get (n j i : Nat) (h : i < n) : (powsFrom n (gpow j))[i]? = some (gpow (j + i)) := by
  induction n generalizing j i with
  | zero => omega
  | succ n ih =>
    cases i with
    | zero => simp [powsFrom]
    | succ i => simp only [powsFrom, List.getElem?_cons_succ]; rw [show gpow j ^^^ xt (gpow j) = gpow (j + 1) from rfl, ih (j + 1) i (by omega)]; congr 2; omega
/-- the table of logarithms, found by looking -/
def logIn (l : List Nat) (a : Nat) : Nat := (l.findIdx? (· == a)).getD 0
def logN (a : Nat) : Nat := logIn (powsFrom 255 1) a

theorem log_facts : ((List.range 256).all fun a => a == 0 || ((powsFrom 255 1)[logIn (powsFrom 255 1) a]? == some a && decide (logIn (powsFrom 255 1) a < 255))) = true := by decide +kernel
theorem log_lt (a : Nat) (ha : a < 256) : logN a < 255 := by
  have := all_bytes _ log_facts a ha
  simp at this
  rcases this with rfl | h
  · decide +kernel
  · exact h.2
theorem gpow_log (a : Nat) (ha : a < 256) (h0 : a ≠ 0) : gpow (logN a) = a := by
  have h := all_bytes _ log_facts a ha
  simp [h0] at h
  have hl := log_lt a ha
  have := powsFrom_get 255 0 (logN a) hl
  rw [show gpow 0 = 1 from rfl] at this
  have e : (powsFrom 255 1)[logN a]? = some a := h.1
  rw [this] at e
  simpa using e
theorem log_gpow_fact : ((List.range 255).all fun k => logIn (powsFrom 255 1) ((powsFrom 255 1)[k]?.getD 0) == k) = true := by decide +kernel
theorem log_gpow (k : Nat) (hk : k < 255) : logN (gpow k) = k := by
  have h := List.all_eq_true.1 log_gpow_fact k (List.mem_range.2 hk)
  have := powsFrom_get 255 0 k hk
  rw [show gpow 0 = 1 from rfl] at this
  rw [this] at h
  simpa [logN] using h
theorem gpow_ne (k : Nat) (hk : k < 255) : gpow k ≠ 0 := by
  have h : ((List.range 255).all fun k => (powsFrom 255 1)[k]?.getD 0 != 0) = true := by decide +kernel
  have h := List.all_eq_true.1 h k (List.mem_range.2 hk)
  have := powsFrom_get 255 0 k hk
  rw [show gpow 0 = 1 from rfl] at this
  rw [this] at h
  simpa using h
theorem gpow_255 : gpow 255 = 1 := by
  have h : (powsFrom 256 1)[255]? = some 1 := by decide +kernel
  have := powsFrom_get 256 0 255 (by omega)
  rw [show gpow 0 = 1 from rfl, h] at this
  simpa using this.symm
theorem gpow_add255 (k : Nat) : gpow (k + 255) = gpow k := by
  induction k with
  | zero => exact gpow_255
  | succ k ih => rw [show k + 1 + 255 = (k + 255) + 1 from by omega]; show gpow (k + 255) ^^^ xt (gpow (k + 255)) = _; rw [ih]; rfl
theorem gpow_succ (k : Nat) : gpow (k + 1) = mulN (gpow k) 3 := by
  have := all_bytes (fun a => decide (a ^^^ xt a = mulN a 3)) (by decide +kernel) (gpow k) (gpow_lt k)
  show gpow k ^^^ xt (gpow k) = _
  simpa using this
theorem gpow_add (i j : Nat) : mulN (gpow i) (gpow j) = gpow (i + j) := by
  induction j with
  | zero => exact mul_one _ (gpow_lt i)
  | succ j ih =>
    rw [gpow_succ j, ← mul_assoc _ _ _ (gpow_lt i) (gpow_lt j) (by omega), ih]; exact (gpow_succ (i + j)).symm
theorem mul_logs (a b : Nat) (ha : a < 256) (hb : b < 256) (a0 : a ≠ 0) (b0 : b ≠ 0) : gpow (logN a + logN b) = mulN a b := by
  rw [← gpow_add, gpow_log a ha a0, gpow_log b hb b0]

/-! inverses -/
def invN (a : Nat) : Nat := if a = 0 then 0 else gpow (255 - logN a)
theorem invN_lt (a : Nat) : invN a < 256 := by unfold invN; split; omega; exact gpow_lt _
theorem mul_inv (a : Nat) (ha : a < 256) (a0 : a ≠ 0) : mulN a (invN a) = 1 := by
  have hl := log_lt a ha
  unfold invN
  rw [if_neg a0]
  conv => lhs; arg 1; rw [← gpow_log a ha a0]
  rw [gpow_add, show logN a + (255 - logN a) = 255 from by omega, gpow_255]
theorem no_div (a b : Nat) (ha : a < 256) (hb : b < 256) : mulN a b = 0 ↔ a = 0 ∨ b = 0 := by
  constructor
  · intro h
    by_cases a0 : a = 0
    · exact .inl a0
    · right
      have := mul_assoc (invN a) a b (invN_lt a) ha hb
      rw [mul_comm (invN a) a (invN_lt a) ha, mul_inv a ha a0, h, mul_zero _ (invN_lt a), mul_comm 1 b (by omega) hb, mul_one b hb] at this
      exact this
  · rintro (rfl | rfl)
    · exact zero_mul b
    · exact mul_zero a ha
theorem inv_unique (a b : Nat) (ha : a < 256) (hb : b < 256) (h : mulN a b = 1) : b = invN a := by
  have a0 : a ≠ 0 := by rintro rfl; rw [zero_mul] at h; omega
  have := mul_assoc (invN a) a b (invN_lt a) ha hb
  rw [mul_comm (invN a) a (invN_lt a) ha, mul_inv a ha a0, h, mul_one _ (invN_lt a), mul_comm 1 b (by omega) hb, mul_one b hb] at this
  exact this


/-! bytes as a field -/
def mul (a b : UInt8) : UInt8 := UInt8.ofNat (mulN a.toNat b.toNat)
def inv (a : UInt8) : UInt8 := UInt8.ofNat (invN a.toNat)
theorem lt (a : UInt8) : a.toNat < 256 := a.toNat_lt
theorem mul_toNat (a b : UInt8) : (mul a b).toNat = mulN a.toNat b.toNat := UInt8.toNat_ofNat_of_lt (mulN_lt _ _ (lt a))
theorem inv_toNat (a : UInt8) : (inv a).toNat = invN a.toNat := UInt8.toNat_ofNat_of_lt (invN_lt _)
theorem xor_toNat (a b : UInt8) : (a ^^^ b).toNat = a.toNat ^^^ b.toNat := UInt8.toNat_xor a b
theorem ext {a b : UInt8} (h : a.toNat = b.toNat) : a = b := UInt8.toNat_inj.1 h
theorem ne_zero {a : UInt8} (h : a ≠ 0) : a.toNat ≠ 0 := fun e => h (ext e)

theorem mulc (a b : UInt8) : mul a b = mul b a := ext (by rw [mul_toNat, mul_toNat, mul_comm _ _ (lt a) (lt b)])
theorem mula (a b c : UInt8) : mul (mul a b) c = mul a (mul b c) := ext (by simp only [mul_toNat]; exact mul_assoc _ _ _ (lt a) (lt b) (lt c))
theorem mul1 (a : UInt8) : mul a 1 = a := ext (by rw [mul_toNat]; exact mul_one _ (lt a))
theorem one_mul (a : UInt8) : mul 1 a = a := by rw [mulc, mul1]
theorem mul0 (a : UInt8) : mul a 0 = 0 := ext (by rw [mul_toNat]; exact mul_zero _ (lt a))
theorem zmul (a : UInt8) : mul 0 a = 0 := by rw [mulc, mul0]
theorem muld (a b c : UInt8) : mul a (b ^^^ c) = mul a b ^^^ mul a c := ext (by simp only [mul_toNat, xor_toNat]; exact mul_add _ _ _ (lt b) (lt c))
theorem dmul (a b c : UInt8) : mul (a ^^^ b) c = mul a c ^^^ mul b c := by rw [mulc, muld, mulc c a, mulc c b]
theorem mul_inv_cancel {a : UInt8} (h : a ≠ 0) : mul a (inv a) = 1 := ext (by rw [mul_toNat, inv_toNat]; exact mul_inv _ (lt a) (ne_zero h))
theorem inv_zero : inv 0 = 0 := by decide
theorem mul_eq_zero {a b : UInt8} : mul a b = 0 ↔ a = 0 ∨ b = 0 := by
  constructor
  · intro h
    have h' : (mul a b).toNat = 0 := by rw [h]; rfl
    rw [mul_toNat, no_div _ _ (lt a) (lt b)] at h'
    exact h'.imp (fun e => ext e) (fun e => ext e)
  · rintro (rfl | rfl)
    · exact zmul b
    · exact mul0 a
theorem inv_eq {a b : UInt8} (h : mul a b = 1) : b = inv a := by
  refine ext ?_
  rw [inv_toNat]
  refine inv_unique _ _ (lt a) (lt b) ?_
  rw [← mul_toNat, h]; rfl
theorem inv_ne {a : UInt8} (h : a ≠ 0) : inv a ≠ 0 := by
  intro e
  have := mul_inv_cancel h
  rw [e, mul0] at this
  exact absurd this (by decide)

/-- the sum of two bytes (a name of its own, so that simp leaves it) -/
def add (a b : UInt8) : UInt8 := a ^^^ b

/-! powers -/
def npow (a : UInt8) : Nat → UInt8
  | 0 => 1
  | n + 1 => mul (npow a n) a
def powI (a : UInt8) (n : Int) : UInt8 := if 0 ≤ n then npow a n.toNat else npow (inv a) (-n).toNat
theorem npow_add (a : UInt8) (m n : Nat) : npow a (m + n) = mul (npow a m) (npow a n) := by
  induction n with
  | zero => rw [npow, mul1]; rfl
  | succ n ih => show mul (npow a (m + n)) a = _; rw [ih, npow, mula]
theorem npow_zero (n : Nat) (h : n ≠ 0) : npow 0 n = 0 := by
  cases n with
  | zero => exact absurd rfl h
  | succ n => exact mul0 _
theorem ofNat_gp (k : Nat) : (UInt8.ofNat (gpow k)).toNat = gpow k := UInt8.toNat_ofNat_of_lt' (gpow_lt k)
theorem npow_gpow (l n : Nat) : npow (UInt8.ofNat (gpow l)) n = UInt8.ofNat (gpow (l * n)) := by
  induction n with
  | zero => rfl
  | succ n ih =>
    rw [npow, ih]
    refine ext ?_
    rw [mul_toNat, ofNat_gp, ofNat_gp, ofNat_gp, gpow_add]
    congr 1
theorem gpow_mod (k : Nat) : gpow (k % 255) = gpow k := by
  have h : ∀ q r, gpow (r + 255 * q) = gpow r := by
    intro q r
    induction q with
    | zero => rfl
    | succ q ih => rw [show r + 255 * (q + 1) = (r + 255 * q) + 255 from by omega, gpow_add255, ih]
  have := h (k / 255) (k % 255)
  rw [show k % 255 + 255 * (k / 255) = k from by omega] at this
  exact this.symm
/-- a byte that is not 0 is a power of 3 -/
theorem of_log {a : UInt8} (h : a ≠ 0) : a = UInt8.ofNat (gpow (logN a.toNat)) := ext (by rw [ofNat_gp, gpow_log _ (lt a) (ne_zero h)])
theorem npow_log {a : UInt8} (h : a ≠ 0) (n : Nat) : (npow a n).toNat = gpow (logN a.toNat * n % 255) := by
  conv => lhs; rw [of_log h]
  rw [npow_gpow, ofNat_gp, gpow_mod]
theorem inv_log {a : UInt8} (h : a ≠ 0) : inv a = UInt8.ofNat (gpow (255 - logN a.toNat)) := by
  unfold inv invN; rw [if_neg (ne_zero h)]
theorem npow_inv_log {a : UInt8} (h : a ≠ 0) (n : Nat) : (npow (inv a) n).toNat = gpow ((255 - logN a.toNat) * n % 255) := by
  rw [inv_log h, npow_gpow, ofNat_gp, gpow_mod]
/-- the exponent as the program reckons it -/
def expo (l : Nat) (n : Int) : Int := if ((l : Int) * (n.tmod 255)).tmod 255 < 0 then ((l : Int) * (n.tmod 255)).tmod 255 + 255 else ((l : Int) * (n.tmod 255)).tmod 255
theorem expo_range (l : Nat) (n : Int) : 0 ≤ expo l n ∧ expo l n < 255 := by
  have h1 := Int.tmod_lt_of_pos ((l : Int) * (n.tmod 255)) (b := 255) (by omega)
  have h2 := Int.tmod_lt_of_pos (-((l : Int) * (n.tmod 255))) (b := 255) (by omega)
  rw [Int.neg_tmod] at h2
  unfold expo; split <;> omega
theorem expo_nat (l m : Nat) : expo l (m : Int) = ((l * m % 255 : Nat) : Int) := by
  unfold expo
  have e : ((l : Int) * ((m : Int).tmod 255)).tmod 255 = ((l * m % 255 : Nat) : Int) := by
    rw [Int.tmod_eq_emod_of_nonneg (Int.natCast_nonneg m), show ((l : Int) * ((m : Int) % 255)) = ((l * (m % 255) : Nat) : Int) from by simp]
    rw [Int.tmod_eq_emod_of_nonneg (Int.natCast_nonneg _)]
    rw [show (((l * (m % 255) : Nat) : Int) % 255) = ((l * (m % 255) % 255 : Nat) : Int) from rfl]
    congr 1
    rw [Nat.mul_mod, Nat.mod_mod, ← Nat.mul_mod]
  rw [e, if_neg (by omega)]
theorem expo_neg (l m : Nat) (hl : l < 255) : expo l (-(m : Int)) = (((255 - l) * m % 255 : Nat) : Int) := by
  unfold expo
  have e : ((l : Int) * ((-(m : Int)).tmod 255)).tmod 255 = -((l * m % 255 : Nat) : Int) := by
    rw [Int.neg_tmod, Int.mul_neg, Int.neg_tmod]
    congr 1
    have := expo_nat l m
    rw [Int.tmod_eq_emod_of_nonneg (Int.natCast_nonneg m), show ((l : Int) * ((m : Int) % 255)) = ((l * (m % 255) : Nat) : Int) from by simp]
    rw [Int.tmod_eq_emod_of_nonneg (Int.natCast_nonneg _)]
    rw [show (((l * (m % 255) : Nat) : Int) % 255) = ((l * (m % 255) % 255 : Nat) : Int) from rfl]
    congr 1
    rw [Nat.mul_mod, Nat.mod_mod, ← Nat.mul_mod]
  rw [e]
  have hsum : ((255 - l) * m + l * m) = 255 * m := by rw [← Nat.add_mul]; congr 1; omega
  generalize (255 - l) * m = x at *
  generalize l * m = y at *
  split <;> omega
theorem pow_expo {a : UInt8} (h : a ≠ 0) (n : Int) : ((powI a n).toNat : Int) = (gpow (expo (logN a.toNat) n).toNat : Int) := by
  have hl := log_lt a.toNat (lt a)
  unfold powI
  split
  · rename_i hn
    obtain ⟨m, rfl⟩ := Int.eq_ofNat_of_zero_le hn
    rw [expo_nat, Int.toNat_natCast, Int.toNat_natCast, npow_log h]
  · rename_i hn
    obtain ⟨m, hm⟩ := Int.eq_ofNat_of_zero_le (a := -n) (by omega)
    obtain rfl : n = -(m : Int) := by omega
    rw [expo_neg _ _ hl, Int.toNat_natCast, show (-(-(m : Int))).toNat = m from by omega, npow_inv_log h]
theorem powI_zero (n : Int) (h : n ≠ 0) : powI 0 n = 0 := by
  unfold powI; rw [inv_zero]; split <;> exact npow_zero _ (by omega)
theorem powI_add {a : UInt8} (h : a ≠ 0) (m n : Int) : mul (powI a m) (powI a n) = powI a (m + n) := by
  have key : ∀ n : Int, powI a (n + 1) = mul (powI a n) a := by
    intro n
    unfold powI
    by_cases hn : 0 ≤ n
    · rw [if_pos hn, if_pos (by omega), show (n + 1).toNat = n.toNat + 1 from by omega]; rfl
    · rw [if_neg hn]
      have e1 : (-n).toNat = (-(n + 1)).toNat + 1 := by omega
      rw [e1, npow, mula, mulc (inv a) a, mul_inv_cancel h, mul1]
      split
      · rw [show n = -1 from by omega]; rfl
      · rfl
  have nat : ∀ (k : Nat) (m : Int), powI a (m + k) = mul (powI a m) (npow a k) := by
    intro k
    induction k with
    | zero => intro m; rw [npow, mul1]; congr 1; omega
    | succ k ih => intro m; rw [show m + ((k + 1 : Nat) : Int) = (m + k) + 1 from by omega, key, ih, npow, mula]
  by_cases hn : 0 ≤ n
  · obtain ⟨k, rfl⟩ := Int.eq_ofNat_of_zero_le hn
    rw [nat k m]; congr 1
  · obtain ⟨k, hk⟩ := Int.eq_ofNat_of_zero_le (a := -n) (by omega)
    obtain rfl : n = -(k : Int) := by omega
    have e1 := nat k (m + -(k : Int))
    have e2 := nat k (-(k : Int))
    rw [show -(k : Int) + k = 0 from by omega, show powI a 0 = 1 from rfl] at e2
    rw [show m + -(k : Int) + k = m from by omega] at e1
    rw [e1, mula, mulc (npow a k), ← e2, mul1]
/-- powers by halves -/
theorem npow_half (a : UInt8) (n : Nat) (_h : n ≠ 0) : npow a n = if n % 2 = 0 then mul (npow a (n / 2)) (npow a (n / 2)) else mul (mul (npow a (n / 2)) (npow a (n / 2))) a := by
  rw [← npow_add]
  split
  · congr 1; omega
  · rw [show n = (n / 2 + n / 2) + 1 from by omega]; show mul _ a = _; congr 2; omega

theorem prod_bound (l : Nat) (t : Int) (hl : l < 255) (h1 : -255 < t) (h2 : t < 255) : -64516 ≤ (l : Int) * t ∧ (l : Int) * t ≤ 64516 := by
  have h := Nat.mul_le_mul (show l ≤ 254 by omega) (show t.natAbs ≤ 254 by omega)
  have e : ((l : Int) * t).natAbs = l * t.natAbs := by rw [Int.natAbs_mul]; rfl
  rw [← e] at h
  omega

/-! sums of products -/
def dot : List UInt8 → List UInt8 → UInt8
  | a :: as, b :: bs => mul a b ^^^ dot as bs
  | _, _ => 0
theorem dot_take_succ (as bs : List UInt8) (k : Nat) (ha : k < as.length) (hb : k < bs.length) :
    dot (as.take (k + 1)) (bs.take (k + 1)) = dot (as.take k) (bs.take k) ^^^ mul as[k] bs[k] := by
  induction as generalizing bs k with
  | nil => simp at ha
  | cons a as ih =>
    cases bs with
    | nil => simp at hb
    | cons b bs =>
      cases k with
      | zero => simp [dot]
      | succ k =>
        simp only [List.take_succ_cons, dot, List.getElem_cons_succ]
        rw [ih bs k (by simpa using ha) (by simpa using hb), UInt8.xor_assoc]
theorem dot_take_min (as bs : List UInt8) : dot (as.take (min as.length bs.length)) (bs.take (min as.length bs.length)) = dot as bs := by
  induction as generalizing bs with
  | nil => simp [dot]
  | cons a as ih =>
    cases bs with
    | nil => simp [dot]
    | cons b bs =>
      simp only [List.length_cons, show min (as.length + 1) (bs.length + 1) = min as.length bs.length + 1 from by omega, List.take_succ_cons, dot]
      rw [ih bs]

end Go.Proofs.Ytjoocjkakgjgmaa.GfM

/- plain mathematics of polynomials over bytes -/
set_option maxRecDepth 100000
namespace Go.Proofs.Ytjoocjkakgjgmaa.PolyM
open GfM

theorem addc (a b : UInt8) : add a b = add b a := by unfold add; exact UInt8.xor_comm a b
theorem adda (a b c : UInt8) : add (add a b) c = add a (add b c) := by unfold add; exact UInt8.xor_assoc a b c
theorem add0 (a : UInt8) : add a 0 = a := by unfold add; exact UInt8.xor_zero
theorem zadd (a : UInt8) : add 0 a = a := by rw [addc, add0]
theorem adds (a : UInt8) : add a a = 0 := by unfold add; exact UInt8.xor_self
theorem add_eq_zero {a b : UInt8} : add a b = 0 ↔ a = b := by
  constructor
  · intro h
    have : add (add a b) b = add 0 b := by rw [h]
    rw [adda, adds, add0, zadd] at this; exact this
  · rintro rfl; exact adds _
theorem muladd (a b c : UInt8) : mul a (add b c) = add (mul a b) (mul a c) := muld a b c
theorem addmul (a b c : UInt8) : mul (add a b) c = add (mul a c) (mul b c) := dmul a b c
theorem add4 (a b c d : UInt8) : add (add a b) (add c d) = add (add a c) (add b d) := by
  rw [adda, adda, ← adda b c d, addc b c, adda c b d]

/-! sums -/
def xsum (f : Nat → UInt8) : Nat → UInt8
  | 0 => 0
  | n + 1 => add (xsum f n) (f n)
theorem xsum_congr {f g : Nat → UInt8} (n : Nat) (h : ∀ i, i < n → f i = g i) : xsum f n = xsum g n := by
  induction n with
  | zero => rfl
  | succ n ih => unfold xsum; rw [ih (fun i hi => h i (by omega)), h n (by omega)]
theorem xsum_add (f g : Nat → UInt8) (n : Nat) : xsum (fun i => add (f i) (g i)) n = add (xsum f n) (xsum g n) := by
  induction n with
  | zero => exact (add0 0).symm
  | succ n ih => simp only [xsum]; rw [ih, add4]
theorem xsum_mul (f : Nat → UInt8) (c : UInt8) (n : Nat) : xsum (fun i => mul c (f i)) n = mul c (xsum f n) := by
  induction n with
  | zero => exact (mul0 c).symm
  | succ n ih => simp only [xsum]; rw [ih, muladd]
theorem xsum_zero (f : Nat → UInt8) (n : Nat) (h : ∀ i, i < n → f i = 0) : xsum f n = 0 := by
  induction n with
  | zero => rfl
  | succ n ih => unfold xsum; rw [ih (fun i hi => h i (by omega)), h n (by omega), add0]
theorem xsum_more (f : Nat → UInt8) {m n : Nat} (hm : n ≤ m) (h : ∀ i, n ≤ i → i < m → f i = 0) : xsum f m = xsum f n := by
  induction m with
  | zero => obtain rfl : n = 0 := by omega
            rfl
  | succ m ih =>
    by_cases e : n = m + 1
    · rw [e]
    · show add (xsum f m) (f m) = _
      rw [ih (by omega) (fun i h1 h2 => h i h1 (by omega)), h m (by omega) (by omega), add0]
theorem xsum_head (f : Nat → UInt8) (n : Nat) : xsum f (n + 1) = add (f 0) (xsum (fun i => f (i + 1)) n) := by
  induction n with
  | zero => simp only [xsum]; rw [addc]
  | succ n ih => rw [xsum, ih, adda]; rfl

/-! tables -/
def co (l : List UInt8) (k : Nat) : UInt8 := l.getD k 0
theorem co_nil (k : Nat) : co [] k = 0 := by simp [co]
theorem co_zero (a : UInt8) (l : List UInt8) : co (a :: l) 0 = a := by simp [co]
theorem co_succ (a : UInt8) (l : List UInt8) (k : Nat) : co (a :: l) (k + 1) = co l k := by simp [co]
theorem co_get (l : List UInt8) (k : Nat) (h : k < l.length) : co l k = l[k] := by simp [co, List.getD, h]
theorem co_ge (l : List UInt8) (k : Nat) (h : l.length ≤ k) : co l k = 0 := by simp [co, List.getD, List.getElem?_eq_none h]
def tab (n : Nat) (f : Nat → UInt8) : List UInt8 := (List.range n).map f
@[simp] theorem tab_len (n : Nat) (f : Nat → UInt8) : (tab n f).length = n := by simp [tab]
theorem tab_get (n : Nat) (f : Nat → UInt8) (k : Nat) (h : k < (tab n f).length) : (tab n f)[k] = f k := by simp [tab]
theorem tab_zero (f : Nat → UInt8) : tab 0 f = [] := rfl
theorem tab_succ (n : Nat) (f : Nat → UInt8) : tab (n + 1) f = tab n f ++ [f n] := by simp [tab, List.range_succ]
theorem tab_congr {n : Nat} {f g : Nat → UInt8} (h : ∀ i, i < n → f i = g i) : tab n f = tab n g := by
  unfold tab; exact List.map_congr_left fun i hi => h i (by simpa using hi)
theorem tab_of (l : List UInt8) : tab l.length (co l) = l := by
  apply List.ext_getElem (by simp)
  intro i h1 h2
  rw [tab_get, co_get l i h2]
theorem co_tab (n : Nat) (f : Nat → UInt8) (k : Nat) : co (tab n f) k = if k < n then f k else 0 := by
  by_cases h : k < n
  · rw [if_pos h, co_get _ _ (by simpa using h), tab_get]
  · rw [if_neg h, co_ge _ _ (by simpa using h)]
theorem tab_set (n : Nat) (f : Nat → UInt8) (k : Nat) (v : UInt8) (_h : k < n) : (tab n f).set k v = tab n (fun i => if i = k then v else f i) := by
  apply List.ext_getElem (by simp)
  intro i h1 h2
  rw [List.getElem_set, tab_get, tab_get]
  by_cases e : k = i
  · subst e; simp
  · rw [if_neg e, if_neg (fun h => e h.symm)]
theorem tab_take (n k : Nat) (f : Nat → UInt8) (h : k ≤ n) : (tab n f).take k = tab k f := by
  apply List.ext_getElem (by simp; omega)
  intro i h1 h2
  rw [List.getElem_take, tab_get, tab_get]
theorem tab_rep (n : Nat) : tab n (fun _ => 0) = List.replicate n 0 := by
  apply List.ext_getElem (by simp)
  intro i h1 h2
  rw [tab_get]; simp
theorem list_ext {l m : List UInt8} (hl : l.length = m.length) (h : ∀ k, co l k = co m k) : l = m := by
  rw [← tab_of l, ← tab_of m, hl]; exact tab_congr fun i _ => h i

/-! values -/
def ev : List UInt8 → UInt8 → UInt8
  | [], _ => 0
  | a :: l, x => add a (mul (ev l x) x)
theorem ev_append (l : List UInt8) (a x : UInt8) : ev (l ++ [a]) x = add (ev l x) (mul a (npow x l.length)) := by
  induction l with
  | nil => simp only [List.nil_append, ev, List.length_nil, npow]; rw [zmul, add0, mul1, zadd]
  | cons b l ih =>
    simp only [List.cons_append, ev, List.length_cons, npow]
    rw [ih, addmul, adda, mula]
theorem take_snoc (l : List UInt8) (k : Nat) (h : k < l.length) : l.take (k + 1) = l.take k ++ [l[k]] := by
  rw [List.take_succ_eq_append_getElem h]
theorem ev_take_succ (l : List UInt8) (x : UInt8) (k : Nat) (h : k < l.length) : ev (l.take (k + 1)) x = add (ev (l.take k) x) (mul l[k] (npow x k)) := by
  rw [take_snoc l k h, ev_append, List.length_take, Nat.min_eq_left (by omega)]
theorem ev_drop (l : List UInt8) (x : UInt8) (k : Nat) (h : k < l.length) : ev (l.drop k) x = add l[k] (mul (ev (l.drop (k + 1)) x) x) := by
  rw [List.drop_eq_getElem_cons h]; rfl
theorem ev_tab (n : Nat) (f : Nat → UInt8) (x : UInt8) : ev (tab n f) x = xsum (fun k => mul (f k) (npow x k)) n := by
  induction n with
  | zero => rfl
  | succ n ih => rw [tab_succ, ev_append, ih, tab_len]; rfl
theorem ev_sum (l : List UInt8) (x : UInt8) {n : Nat} (h : l.length ≤ n) : xsum (fun k => mul (co l k) (npow x k)) n = ev l x := by
  rw [xsum_more _ h (fun i h1 _ => by rw [co_ge l i h1, zmul]), ← ev_tab, tab_of]

/-! degree -/
def degTo (l : List UInt8) : Nat → Int
  | 0 => -1
  | k + 1 => if co l k = 0 then degTo l k else k
def deg (l : List UInt8) : Int := degTo l l.length
theorem degTo_range (l : List UInt8) (k : Nat) : -1 ≤ degTo l k ∧ degTo l k < k := by
  induction k with
  | zero => exact ⟨by simp [degTo], by simp [degTo]⟩
  | succ k ih => unfold degTo; split <;> omega
theorem deg_last (l : List UInt8) (n : Nat) (hl : l.length = n + 1) (h : co l n ≠ 0) : deg l = n := by
  unfold deg; rw [hl, degTo, if_neg h]

/-! sums -/
def padd (p q : List UInt8) : List UInt8 := tab (max p.length q.length) fun k => add (co p k) (co q k)
theorem padd_comm (p q : List UInt8) : padd p q = padd q p := by
  unfold padd; rw [Nat.max_comm]; exact tab_congr fun i _ => addc _ _
theorem co_padd (p q : List UInt8) (k : Nat) : co (padd p q) k = add (co p k) (co q k) := by
  unfold padd; rw [co_tab]; split
  · rfl
  · rw [co_ge p k (by omega), co_ge q k (by omega), add0]
theorem ev_padd (p q : List UInt8) (x : UInt8) : ev (padd p q) x = add (ev p x) (ev q x) := by
  unfold padd
  rw [ev_tab, ← ev_sum p x (Nat.le_max_left p.length q.length), ← ev_sum q x (Nat.le_max_right p.length q.length), ← xsum_add]
  exact xsum_congr _ fun i _ => addmul _ _ _
/-- what stands in the program's sum after k rounds -/
def addTo (p q : List UInt8) (k : Nat) : List UInt8 := tab p.length fun i => if i < k then add (co p i) (co q i) else co p i
theorem addTo_zero (p q : List UInt8) : addTo p q 0 = p := by
  unfold addTo
  rw [tab_congr (g := co p) (fun i _ => by simp), tab_of]
theorem addTo_get (p q : List UInt8) (k : Nat) (h : k < p.length) (h' : k < (addTo p q k).length) : (addTo p q k)[k] = p[k] := by
  refine (tab_get _ _ k h').trans ?_
  simp [co_get p k h]
theorem addTo_succ (p q : List UInt8) (k : Nat) (h : k < p.length) (hq : k < q.length) : (addTo p q k).set k (add p[k] q[k]) = addTo p q (k + 1) := by
  unfold addTo
  rw [tab_set _ _ _ _ h]
  refine tab_congr fun i _ => ?_
  by_cases e : i = k
  · subst e; simp [co_get p i h, co_get q i hq]
  · rw [if_neg e]
    have : (i < k + 1) ↔ i < k := by omega
    simp only [this]
theorem addTo_done (p q : List UInt8) (h : q.length ≤ p.length) : addTo p q q.length = padd p q := by
  unfold addTo padd
  rw [Nat.max_eq_left h]
  refine tab_congr fun i _ => ?_
  by_cases e : i < q.length
  · rw [if_pos e]
  · rw [if_neg e, co_ge q i (by omega), add0]
theorem addTo_len (p q : List UInt8) (k : Nat) : (addTo p q k).length = p.length := by simp [addTo]

/-! multiples -/
def scale (c : UInt8) (p : List UInt8) : List UInt8 := tab p.length fun k => mul c (co p k)
def scTo (c : UInt8) (p : List UInt8) (k : Nat) : List UInt8 := tab p.length fun i => if i < k then mul c (co p i) else 0
theorem scTo_zero (c : UInt8) (p : List UInt8) : scTo c p 0 = List.replicate p.length 0 := by
  unfold scTo; rw [← tab_rep]; exact tab_congr fun i _ => by simp
theorem scTo_succ (c : UInt8) (p : List UInt8) (k : Nat) (h : k < p.length) : (scTo c p k).set k (mul p[k] c) = scTo c p (k + 1) := by
  unfold scTo
  rw [tab_set _ _ _ _ h]
  refine tab_congr fun i _ => ?_
  by_cases e : i = k
  · subst e; simp [co_get p i h, mulc c]
  · rw [if_neg e]
    have : (i < k + 1) ↔ i < k := by omega
    simp only [this]
theorem scTo_done (c : UInt8) (p : List UInt8) : scTo c p p.length = scale c p := by
  unfold scTo scale; exact tab_congr fun i hi => by rw [if_pos hi]
theorem scTo_len (c : UInt8) (p : List UInt8) (k : Nat) : (scTo c p k).length = p.length := by simp [scTo]

/-! products -/
def conv (p q : List UInt8) (k : Nat) : UInt8 := xsum (fun i => mul (co p i) (co q (k - i))) (k + 1)
def pmul (p q : List UInt8) : List UInt8 := if p.length = 0 ∨ q.length = 0 then [] else tab (p.length + q.length - 1) (conv p q)
theorem pmul_len (p q : List UInt8) : (pmul p q).length = if p.length = 0 ∨ q.length = 0 then 0 else p.length + q.length - 1 := by
  unfold pmul; split <;> simp
theorem conv_ge (p q : List UInt8) (k : Nat) (h : p.length + q.length ≤ k + 1) : conv p q k = 0 := by
  refine xsum_zero _ _ fun i hi => ?_
  by_cases e : i < p.length
  · rw [co_ge q _ (by omega), mul0]
  · rw [co_ge p _ (by omega), zmul]
theorem conv_nil (q : List UInt8) (k : Nat) : conv [] q k = 0 := xsum_zero _ _ fun i _ => by rw [co_nil, zmul]
theorem conv_nil2 (q : List UInt8) (k : Nat) : conv q [] k = 0 := xsum_zero _ _ fun i _ => by rw [co_nil, mul0]
theorem co_pmul (p q : List UInt8) (k : Nat) : co (pmul p q) k = conv p q k := by
  unfold pmul
  split
  · rename_i h
    rw [co_nil]
    rcases h with h | h
    · rw [List.eq_nil_of_length_eq_zero h, conv_nil]
    · rw [List.eq_nil_of_length_eq_zero h, conv_nil2]
  · rw [co_tab]; split
    · rfl
    · rw [conv_ge p q k (by omega)]
theorem conv_cons (a : UInt8) (p q : List UInt8) (k : Nat) : conv (a :: p) q (k + 1) = add (mul a (co q (k + 1))) (conv p q k) := by
  unfold conv
  rw [xsum_head]
  simp only [co_zero, co_succ, Nat.sub_zero, Nat.add_sub_add_right]
theorem conv_cons0 (a : UInt8) (p q : List UInt8) : conv (a :: p) q 0 = mul a (co q 0) := by
  unfold conv; simp only [xsum]; rw [zadd, co_zero]
theorem sum_conv (q : List UInt8) (x : UInt8) : ∀ (p : List UInt8) (n : Nat), p.length + q.length ≤ n → xsum (fun k => mul (conv p q k) (npow x k)) n = mul (ev p x) (ev q x) := by
  intro p
  induction p with
  | nil => intro n _; rw [ev, zmul]; exact xsum_zero _ _ fun i _ => by rw [conv_nil, zmul]
  | cons a p ih =>
    intro n hn
    obtain ⟨m, rfl⟩ : ∃ m, n = m + 1 := ⟨n - 1, by simp only [List.length_cons] at hn; omega⟩
    simp only [List.length_cons] at hn
    rw [xsum_head]
    have e1 : xsum (fun i => mul (conv (a :: p) q (i + 1)) (npow x (i + 1))) m
        = add (mul a (xsum (fun i => mul (co q (i + 1)) (npow x (i + 1))) m)) (mul x (xsum (fun i => mul (conv p q i) (npow x i)) m)) := by
      rw [← xsum_mul, ← xsum_mul, ← xsum_add]
      refine xsum_congr _ fun i _ => ?_
      rw [conv_cons, addmul, mula, npow]
      congr 1
      rw [← mula, mulc _ x]
    rw [e1, ih m (by omega), conv_cons0, ev, ← ev_sum q x (n := m + 1) (by omega), xsum_head (fun k => mul (co q k) (npow x k))]
    simp only [npow]
    rw [addmul, ← adda]
    congr 1
    · rw [muladd, mula]
    · rw [mulc (ev p x) x, mula]
theorem ev_pmul (p q : List UInt8) (x : UInt8) : ev (pmul p q) x = mul (ev p x) (ev q x) := by
  rw [← ev_sum (pmul p q) x (n := p.length + q.length) (by rw [pmul_len]; split <;> omega), ← sum_conv q x p _ (Nat.le_refl _)]
  exact xsum_congr _ fun i _ => by rw [co_pmul]

/-- what stands at place j of the program's product after i whole rows and k places of the next -/
def rows (p q : List UInt8) (i j : Nat) : UInt8 := xsum (fun t => if t ≤ j then mul (co p t) (co q (j - t)) else 0) i
def rowF (p q : List UInt8) (i k j : Nat) : UInt8 := if i ≤ j ∧ j - i < k then add (rows p q i j) (mul (co p i) (co q (j - i))) else rows p q i j
def mulTo (p q : List UInt8) (i k : Nat) : List UInt8 := tab (p.length + q.length - 1) (rowF p q i k)
theorem mulTo_len (p q : List UInt8) (i k : Nat) : (mulTo p q i k).length = p.length + q.length - 1 := by simp [mulTo]
theorem mulTo_zero (p q : List UInt8) : mulTo p q 0 0 = List.replicate (p.length + q.length - 1) 0 := by
  unfold mulTo; rw [← tab_rep]; exact tab_congr fun i _ => by simp [rowF, rows, xsum]
theorem mulTo_get (p q : List UInt8) (i k : Nat) (h : i + k < (mulTo p q i k).length) : (mulTo p q i k)[i + k] = rows p q i (i + k) := by
  refine (tab_get _ _ _ h).trans ?_
  unfold rowF; rw [if_neg (by omega)]
theorem mulTo_succ (p q : List UInt8) (i k : Nat) (h1 : i < p.length) (h2 : k < q.length) :
    (mulTo p q i k).set (i + k) (add (rows p q i (i + k)) (mul p[i] q[k])) = mulTo p q i (k + 1) := by
  unfold mulTo
  rw [tab_set _ _ _ _ (by omega)]
  refine tab_congr fun j _ => ?_
  unfold rowF
  by_cases e : j = i + k
  · subst e; rw [if_pos rfl, if_pos (by omega), Nat.add_sub_cancel_left, co_get p i h1, co_get q k h2]
  · rw [if_neg e]
    have : (i ≤ j ∧ j - i < k + 1) ↔ (i ≤ j ∧ j - i < k) := by omega
    simp only [this]
theorem mulTo_next (p q : List UInt8) (i : Nat) : mulTo p q i q.length = mulTo p q (i + 1) 0 := by
  unfold mulTo
  refine tab_congr fun j _ => ?_
  unfold rowF
  rw [if_neg (show ¬ (i + 1 ≤ j ∧ j - (i + 1) < 0) by omega)]
  have e : rows p q (i + 1) j = add (rows p q i j) (if i ≤ j then mul (co p i) (co q (j - i)) else 0) := rfl
  rw [e]
  by_cases h : i ≤ j
  · rw [if_pos h]
    by_cases h2 : j - i < q.length
    · rw [if_pos ⟨h, h2⟩]
    · rw [if_neg (by omega), co_ge q _ (by omega), mul0, add0]
  · rw [if_neg h, if_neg (by omega), add0]
theorem rows_conv (p q : List UInt8) (j : Nat) : rows p q p.length j = conv p q j := by
  unfold rows conv
  have h1 : xsum (fun t => if t ≤ j then mul (co p t) (co q (j - t)) else 0) (p.length + (j + 1)) = xsum (fun t => if t ≤ j then mul (co p t) (co q (j - t)) else 0) p.length :=
    xsum_more _ (by omega) fun i hi _ => by rw [co_ge p i hi, zmul]; simp
  have h2 : xsum (fun t => if t ≤ j then mul (co p t) (co q (j - t)) else 0) (p.length + (j + 1)) = xsum (fun t => if t ≤ j then mul (co p t) (co q (j - t)) else 0) (j + 1) :=
    xsum_more _ (by omega) fun i hi _ => by rw [if_neg (by omega)]
  rw [← h1, h2]
  exact xsum_congr _ fun i hi => by rw [if_pos (by omega)]
theorem mulTo_done (p q : List UInt8) (h1 : p.length ≠ 0) (h2 : q.length ≠ 0) : mulTo p q p.length 0 = pmul p q := by
  unfold mulTo pmul
  rw [if_neg (by omega)]
  refine tab_congr fun j _ => ?_
  unfold rowF
  rw [if_neg (by omega), rows_conv]

/-! the polynomial of some bytes -/
theorem conv_lin (p : List UInt8) (c : UInt8) (k : Nat) : conv p [c, 1] k = add (mul (co p k) c) (if k = 0 then 0 else co p (k - 1)) := by
  rcases k with _ | k
  · unfold conv; simp only [xsum]; rw [if_pos trivial, zadd, co_zero, add0]
  · unfold conv
    simp only [xsum]
    rw [Nat.sub_self, co_zero, if_neg (by omega), Nat.add_sub_cancel, show k + 1 - k = 0 + 1 from by omega, co_succ, co_zero, mul1, addc]
    rw [xsum_zero _ _ fun i hi => ?_, zadd]
    rw [show k + 1 - i = (k - 1 - i) + 1 + 1 from by omega, co_succ, co_succ, co_nil, mul0]
def proot (xs : List UInt8) : List UInt8 := xs.foldl (fun r c => pmul r [c, 1]) [1]
theorem proot_snoc (l : List UInt8) (c : UInt8) : proot (l ++ [c]) = pmul (proot l) [c, 1] := by simp [proot]
theorem proot_take_succ (l : List UInt8) (k : Nat) (h : k < l.length) : proot (l.take (k + 1)) = pmul (proot (l.take k)) [l[k], 1] := by
  rw [take_snoc l k h, proot_snoc]
theorem snoc_ind {p : List UInt8 → Prop} (h0 : p []) (h1 : ∀ l c, p l → p (l ++ [c])) (l : List UInt8) : p l := by
  have : ∀ n (l : List UInt8), l.length = n → p l := by
    intro n
    induction n with
    | zero => intro l hl; rw [List.eq_nil_of_length_eq_zero hl]; exact h0
    | succ n ih =>
      intro l hl
      have hne : l ≠ [] := by intro e; rw [e] at hl; simp at hl
      rw [← List.dropLast_concat_getLast hne]
      exact h1 _ _ (ih _ (by rw [List.length_dropLast, hl]; rfl))
  exact this _ l rfl
theorem proot_len (l : List UInt8) : (proot l).length = l.length + 1 := by
  induction l using snoc_ind with
  | h0 => rfl
  | h1 l c ih => rw [proot_snoc, pmul_len, ih, if_neg (by simp)]; simp
theorem proot_ne (l : List UInt8) : (proot l).length ≠ 0 := by rw [proot_len]; omega
theorem ev_lin (c x : UInt8) : ev [c, 1] x = add c x := by simp only [ev]; rw [zmul, add0, one_mul]
theorem ev_proot (l : List UInt8) (x : UInt8) : ev (proot l) x = 0 ↔ x ∈ l := by
  induction l using snoc_ind with
  | h0 => simp only [proot, List.foldl_nil, ev]; rw [zmul, add0]; simp
  | h1 l c ih => rw [proot_snoc, ev_pmul, mul_eq_zero, ih, ev_lin, add_eq_zero]; simp [eq_comm]
theorem proot_last (l : List UInt8) : co (proot l) l.length = 1 := by
  induction l using snoc_ind with
  | h0 => rfl
  | h1 l c ih =>
    rw [proot_snoc, co_pmul, conv_lin, List.length_append, List.length_singleton, if_neg (by omega), Nat.add_sub_cancel, ih, co_ge _ _ (by rw [proot_len]; omega), zmul, zadd]
theorem deg_proot (l : List UInt8) : deg (proot l) = l.length := deg_last _ _ (proot_len l) (by rw [proot_last]; decide)

/-! division -/
def quo (p : List UInt8) (c : UInt8) : List UInt8 := tab (p.length - 1) fun k => ev (p.drop (k + 1)) c
theorem quo_len (p : List UInt8) (c : UInt8) : (quo p c).length = p.length - 1 := by simp [quo]
theorem co_quo (p : List UInt8) (c : UInt8) (k : Nat) : co (quo p c) k = ev (p.drop (k + 1)) c := by
  unfold quo
  rw [co_tab]; split
  · rfl
  · rw [List.drop_eq_nil_of_le (by omega)]; rfl
theorem ev_drop_co (l : List UInt8) (x : UInt8) (k : Nat) : ev (l.drop k) x = add (co l k) (mul (ev (l.drop (k + 1)) x) x) := by
  by_cases h : k < l.length
  · rw [ev_drop l x k h, co_get l k h]
  · rw [List.drop_eq_nil_of_le (by omega), List.drop_eq_nil_of_le (by omega), co_ge l k (by omega), ev, zmul, add0]
theorem over_back (p : List UInt8) (c : UInt8) (k : Nat) : co (padd (pmul (quo p c) [c, 1]) [ev p c]) k = co p k := by
  rw [co_padd, co_pmul, conv_lin, co_quo]
  rcases k with _ | k
  · rw [if_pos rfl, add0, co_zero, Nat.zero_add]
    have := ev_drop_co p c 0
    rw [List.drop_zero, Nat.zero_add] at this
    rw [this, addc (co p 0), ← adda, adds, zadd]
  · rw [if_neg (by omega), co_succ, co_nil, add0, Nat.add_sub_cancel, co_quo, ev_drop_co p c (k + 1), addc (co p (k + 1)), ← adda, adds, zadd]
/-- what stands in the program's quotient when the places from k on are done -/
def quoTo (p : List UInt8) (c : UInt8) (k : Nat) : List UInt8 := tab (p.length - 1) fun i => if k ≤ i then ev (p.drop (i + 1)) c else 0
theorem quoTo_len (p : List UInt8) (c : UInt8) (k : Nat) : (quoTo p c k).length = p.length - 1 := by simp [quoTo]
theorem quoTo_start (p : List UInt8) (c : UInt8) : quoTo p c (p.length - 1) = List.replicate (p.length - 1) 0 := by
  unfold quoTo; rw [← tab_rep]; exact tab_congr fun i hi => by rw [if_neg (by omega)]
theorem quoTo_step (p : List UInt8) (c : UInt8) (k : Nat) (h : k < p.length - 1) : (quoTo p c (k + 1)).set k (ev (p.drop (k + 1)) c) = quoTo p c k := by
  unfold quoTo
  rw [tab_set _ _ _ _ h]
  refine tab_congr fun i _ => ?_
  by_cases e : i = k
  · subst e; rw [if_pos rfl, if_pos (Nat.le_refl _)]
  · rw [if_neg e]
    have : (k + 1 ≤ i) ↔ k ≤ i := by omega
    simp only [this]
theorem quoTo_done (p : List UInt8) (c : UInt8) : quoTo p c 0 = quo p c := by
  unfold quoTo quo; exact tab_congr fun i _ => by rw [if_pos (Nat.zero_le _)]
end Go.Proofs.Ytjoocjkakgjgmaa.PolyM

/- plain mathematics of polynomials through points -/
set_option maxRecDepth 100000
namespace Go.Proofs.Ytjoocjkakgjgmaa.LagrM
open GfM PolyM

theorem ev_ext {p q : List UInt8} (h : ∀ k, co p k = co q k) (x : UInt8) : ev p x = ev q x := by
  rw [← ev_sum p x (Nat.le_max_left p.length q.length), ← ev_sum q x (Nat.le_max_right p.length q.length)]
  exact xsum_congr _ fun i _ => by rw [h i]
theorem ev_one (a x : UInt8) : ev [a] x = a := by simp only [ev]; rw [zmul, add0]
theorem ev_scale (c : UInt8) (p : List UInt8) (x : UInt8) : ev (scale c p) x = mul c (ev p x) := by
  unfold scale
  rw [ev_tab, ← ev_sum p x (Nat.le_refl _), ← xsum_mul]
  exact xsum_congr _ fun i _ => mula _ _ _
theorem co_scale (c : UInt8) (p : List UInt8) (k : Nat) : co (scale c p) k = mul c (co p k) := by
  unfold scale
  rw [co_tab]
  by_cases h : k < p.length
  · rw [if_pos h]
  · rw [if_neg h, co_ge p k (by omega), mul0]
theorem scale_len (c : UInt8) (p : List UInt8) : (scale c p).length = p.length := by simp [scale]
theorem padd_len (p q : List UInt8) : (padd p q).length = max p.length q.length := by simp [padd]
theorem ev_over (p : List UInt8) (c y : UInt8) : ev p y = add (mul (ev (quo p c) y) (add c y)) (ev p c) := by
  rw [← ev_ext (over_back p c) y, ev_padd, ev_pmul, ev_lin, ev_one]

theorem zero_of_roots : ∀ (n : Nat) (p xs : List UInt8), p.length ≤ n → xs.Nodup → n ≤ xs.length → (∀ x ∈ xs, ev p x = 0) → ∀ k, co p k = 0 := by
  intro n
  induction n with
  | zero =>
    intro p xs hp _ _ _ k
    rw [List.eq_nil_of_length_eq_zero (by omega : p.length = 0), co_nil]
  | succ n ih =>
    intro p xs hp hx hn h k
    cases xs with
    | nil => simp at hn
    | cons c xs =>
      have hc : ev p c = 0 := h c (by simp)
      have hq := ih (quo p c) xs (by rw [quo_len]; omega) (List.nodup_cons.1 hx).2 (by simpa using hn) (fun y hy => by
        have h1 := h y (by simp [hy])
        rw [ev_over p c y, hc, add0] at h1
        rcases mul_eq_zero.1 h1 with h2 | h2
        · exact h2
        · exact absurd (add_eq_zero.1 h2 ▸ hy) (List.nodup_cons.1 hx).1)
      rw [← over_back p c k, co_padd, co_pmul, conv_lin, hc, hq k, zmul]
      have e1 : co [(0 : UInt8)] k = 0 := by
        rcases k with _ | k
        · rw [co_zero]
        · rw [co_succ, co_nil]
      rw [e1, add0, zadd]
      split
      · rfl
      · exact hq _
theorem unique {n : Nat} {p q xs : List UInt8} (hp : p.length ≤ n) (hq : q.length ≤ n) (hx : xs.Nodup) (hn : n ≤ xs.length) (h : ∀ x ∈ xs, ev p x = ev q x) (k : Nat) : co p k = co q k := by
  have := zero_of_roots n (padd p q) xs (by rw [padd_len]; omega) hx hn (fun x hx => by rw [ev_padd, h x hx, adds]) k
  rw [co_padd] at this
  exact add_eq_zero.1 this

/-! points that are unlike -/
def unl (xs : List UInt8) : Bool := decide xs.Nodup
theorem unl_iff (xs : List UInt8) : unl xs = true ↔ xs.Nodup := by simp [unl]
theorem nodup_at {xs : List UInt8} (h : xs.Nodup) {i j : Nat} (hi : i < xs.length) (hj : j < xs.length) (hne : i ≠ j) : co xs i ≠ co xs j := by
  rw [co_get _ _ hi, co_get _ _ hj]
  intro e
  have := (List.getElem_inj (h₀ := hi) (h₁ := hj) h).1 e
  exact hne this
theorem not_unl {xs : List UInt8} {i j : Nat} (hi : i < xs.length) (hj : j < xs.length) (hne : i ≠ j) (e : co xs i = co xs j) : unl xs = false := by
  rcases hu : unl xs with _ | _
  · rfl
  · exact absurd e (nodup_at ((unl_iff _).1 hu) hi hj hne)
theorem unl_of {xs : List UInt8} (h : ∀ i k, k < i → i < xs.length → co xs i ≠ co xs k) : unl xs = true := by
  rw [unl_iff]
  rw [List.nodup_iff_pairwise_ne, List.pairwise_iff_getElem]
  intro i j hi hj hij e
  exact h j i hij hj (by rw [co_get _ _ hi, co_get _ _ hj, e])
theorem nodup_take {xs : List UInt8} (h : xs.Nodup) (k : Nat) : (xs.take k).Nodup := h.sublist (List.take_sublist _ _)
theorem mem_take_co {xs : List UInt8} {k : Nat} (hk : k ≤ xs.length) {x : UInt8} : x ∈ xs.take k ↔ ∃ j, j < k ∧ x = co xs j := by
  rw [List.mem_iff_getElem]
  constructor
  · rintro ⟨j, hj, e⟩
    have hj' : j < k := by simp at hj; omega
    refine ⟨j, hj', ?_⟩
    rw [← e, List.getElem_take, co_get]
  · rintro ⟨j, hj, rfl⟩
    exact ⟨j, by simp; omega, by rw [List.getElem_take, co_get _ _ (by omega)]⟩
theorem root_ne {xs : List UInt8} (h : xs.Nodup) {k : Nat} (hk : k < xs.length) : ev (proot (xs.take k)) (co xs k) ≠ 0 := by
  rw [Ne, ev_proot, mem_take_co (by omega)]
  rintro ⟨j, hj, e⟩
  exact nodup_at h hk (by omega) (by omega) e

/-! Newton's way -/
def newt (xs ys : List UInt8) : Nat → List UInt8
  | 0 => []
  | i + 1 => padd (newt xs ys i) (scale (mul (add (co ys i) (ev (newt xs ys i) (co xs i))) (inv (ev (proot (xs.take i)) (co xs i)))) (proot (xs.take i)))
theorem newt_len (xs ys : List UInt8) (i : Nat) (hi : i ≤ xs.length) : (newt xs ys i).length = i := by
  induction i with
  | zero => rfl
  | succ i ih => unfold newt; rw [padd_len, ih (by omega), scale_len, proot_len, List.length_take]; omega
theorem newt_ev {xs : List UInt8} (h : xs.Nodup) (ys : List UInt8) (i : Nat) (hi : i ≤ xs.length) (j : Nat) (hj : j < i) : ev (newt xs ys i) (co xs j) = co ys j := by
  induction i with
  | zero => omega
  | succ i ih =>
    unfold newt
    rw [ev_padd, ev_scale]
    by_cases e : j = i
    · subst e
      have hne := root_ne h (k := j) (by omega)
      rw [mula, mulc (inv _), mul_inv_cancel hne, mul1, ← adda, addc (ev _ _), adda, adds, add0]
    · rw [ih (by omega) (by omega)]
      have : ev (proot (xs.take i)) (co xs j) = 0 := by rw [ev_proot, mem_take_co (by omega)]; exact ⟨j, by omega, rfl⟩
      rw [this, mul0, add0]
def thr (xs ys : List UInt8) : List UInt8 := newt xs ys xs.length
theorem thr_len (xs ys : List UInt8) : (thr xs ys).length = xs.length := newt_len xs ys _ (Nat.le_refl _)
theorem thr_ev {xs : List UInt8} (h : xs.Nodup) (ys : List UInt8) (j : Nat) (hj : j < xs.length) : ev (thr xs ys) (co xs j) = co ys j := newt_ev h ys _ (Nat.le_refl _) j hj
/-- who has the values and no more places is it -/
theorem thr_eq {xs : List UInt8} (h : xs.Nodup) (ys p : List UInt8) (hp : p.length ≤ xs.length) (hv : ∀ j, j < xs.length → ev p (co xs j) = co ys j) (k : Nat) : co p k = co (thr xs ys) k := by
  refine unique (n := xs.length) hp (by rw [thr_len]; exact Nat.le_refl _) h (Nat.le_refl _) (fun x hx => ?_) k
  have hx' : x ∈ xs.take xs.length := by rw [List.take_length]; exact hx
  obtain ⟨j, hj, rfl⟩ := (mem_take_co (Nat.le_refl _)).1 hx'
  rw [hv j hj, thr_ev h ys j hj]
theorem thr_is {xs : List UInt8} (h : xs.Nodup) (ys p : List UInt8) (hp : p.length = xs.length) (hv : ∀ j, j < xs.length → ev p (co xs j) = co ys j) : p = thr xs ys :=
  list_ext (by rw [hp, thr_len]) (thr_eq h ys p (by omega) hv)

/-! weights -/
def fac (xs : List UInt8) (i : Nat) (x : UInt8) (k : Nat) : UInt8 := mul (add x (co xs k)) (inv (add (co xs i) (co xs k)))
def wgtTo (xs : List UInt8) (i : Nat) (x : UInt8) : Nat → UInt8
  | 0 => 1
  | k + 1 => if k = i then wgtTo xs i x k else mul (wgtTo xs i x k) (fac xs i x k)
def wgt (xs : List UInt8) (i : Nat) (x : UInt8) : UInt8 := wgtTo xs i x xs.length
def wgts (xs : List UInt8) (x : UInt8) : List UInt8 := tab xs.length fun i => wgt xs i x
theorem wgts_len (xs : List UInt8) (x : UInt8) : (wgts xs x).length = xs.length := by simp [wgts]
theorem co_wgts (xs : List UInt8) (x : UInt8) (i : Nat) (h : i < xs.length) : co (wgts xs x) i = wgt xs i x := by
  unfold wgts; rw [co_tab, if_pos h]
/-- the weight as a polynomial -/
def wpol (xs : List UInt8) (i : Nat) : Nat → List UInt8
  | 0 => [1]
  | k + 1 => if k = i then wpol xs i k else scale (inv (add (co xs i) (co xs k))) (pmul (wpol xs i k) [co xs k, 1])
theorem wpol_ev (xs : List UInt8) (i : Nat) (x : UInt8) (k : Nat) : ev (wpol xs i k) x = wgtTo xs i x k := by
  induction k with
  | zero => exact ev_one 1 x
  | succ k ih =>
    unfold wpol wgtTo
    split
    · exact ih
    · rw [ev_scale, ev_pmul, ev_lin, ih, fac, mulc (inv _), mula, addc x]
theorem wpol_len (xs : List UInt8) (i : Nat) (k : Nat) : (wpol xs i k).length = if i < k then k else k + 1 := by
  induction k with
  | zero => rfl
  | succ k ih =>
    unfold wpol
    split
    · rename_i h; subst h; rw [ih, if_neg (by omega), if_pos (by omega)]
    · rename_i h
      rw [scale_len, pmul_len, ih]
      have : ¬ ((if i < k then k else k + 1) = 0 ∨ ([co xs k, 1] : List UInt8).length = 0) := by
        simp only [List.length_cons, List.length_nil]
        split <;> omega
      rw [if_neg this]
      simp only [List.length_cons, List.length_nil]
      by_cases e : i < k
      · rw [if_pos e, if_pos (by omega)]; omega
      · rw [if_neg e, if_neg (by omega)]; omega
theorem wgtTo_own (xs : List UInt8) (h : xs.Nodup) (i : Nat) (hi : i < xs.length) (k : Nat) (hk : k ≤ xs.length) : wgtTo xs i (co xs i) k = 1 := by
  induction k with
  | zero => rfl
  | succ k ih =>
    unfold wgtTo
    split
    · exact ih (by omega)
    · rename_i hne
      have h0 : add (co xs i) (co xs k) ≠ 0 := by
        rw [Ne, add_eq_zero]; exact nodup_at h hi (by omega) (fun e => hne e.symm)
      rw [ih (by omega), one_mul, fac, mul_inv_cancel h0]
theorem wgtTo_other (xs : List UInt8) (i j : Nat) (hne : j ≠ i) (k : Nat) (hk : j < k) : wgtTo xs i (co xs j) k = 0 := by
  induction k with
  | zero => omega
  | succ k ih =>
    unfold wgtTo
    by_cases e : j = k
    · subst e
      rw [if_neg hne, fac, adds, zmul, mul0]
    · split
      · exact ih (by omega)
      · rw [ih (by omega), zmul]
/-- the sum of the weights' polynomials, each times a value -/
def wsum (xs : List UInt8) (g : Nat → UInt8) : Nat → List UInt8
  | 0 => []
  | i + 1 => padd (wsum xs g i) (scale (g i) (wpol xs i xs.length))
theorem wsum_len (xs : List UInt8) (g : Nat → UInt8) (i : Nat) (hi : i ≤ xs.length) : (wsum xs g i).length ≤ xs.length := by
  induction i with
  | zero => simp [wsum]
  | succ i ih => unfold wsum; rw [padd_len, scale_len, wpol_len, if_pos (by omega)]; have := ih (by omega); omega
theorem wsum_ev (xs : List UInt8) (g : Nat → UInt8) (x : UInt8) (i : Nat) : ev (wsum xs g i) x = xsum (fun i => mul (g i) (wgt xs i x)) i := by
  induction i with
  | zero => rfl
  | succ i ih => unfold wsum xsum; rw [ev_padd, ev_scale, ih, wpol_ev]; rfl
theorem xsum_one (f : Nat → UInt8) (n j : Nat) (hj : j < n) (h : ∀ i, i < n → i ≠ j → f i = 0) : xsum f n = f j := by
  induction n with
  | zero => omega
  | succ n ih =>
    unfold xsum
    by_cases e : j = n
    · subst e; rw [xsum_zero _ _ (fun i hi => h i (by omega) (by omega)), zadd]
    · rw [ih (by omega) (fun i h1 h2 => h i (by omega) h2), h n (by omega) (fun e' => e e'.symm), add0]
theorem wsum_at {xs : List UInt8} (h : xs.Nodup) (g : Nat → UInt8) (j : Nat) (hj : j < xs.length) : ev (wsum xs g xs.length) (co xs j) = g j := by
  rw [wsum_ev, xsum_one _ _ j hj (fun i hi hne => by unfold wgt; rw [wgtTo_other xs i j (fun e => hne e.symm) _ hj, mul0])]
  unfold wgt; rw [wgtTo_own xs h j hj _ (Nat.le_refl _), mul1]
theorem weigh {xs : List UInt8} (h : xs.Nodup) (p : List UInt8) (hp : p.length ≤ xs.length) (x : UInt8) : xsum (fun i => mul (ev p (co xs i)) (wgt xs i x)) xs.length = ev p x := by
  rw [← wsum_ev xs (fun i => ev p (co xs i)) x xs.length]
  refine ev_ext (unique (n := xs.length) (wsum_len _ _ _ (Nat.le_refl _)) hp h (Nat.le_refl _) fun y hy => ?_) x
  have hy' : y ∈ xs.take xs.length := by rw [List.take_length]; exact hy
  obtain ⟨j, hj, rfl⟩ := (mem_take_co (Nat.le_refl _)).1 hy'
  exact wsum_at h _ j hj
/-- sums of products, as sums -/
theorem dot_sum (a b : List UInt8) : dot a b = xsum (fun i => mul (co a i) (co b i)) (min a.length b.length) := by
  induction a generalizing b with
  | nil => simp [dot, xsum]
  | cons x a ih =>
    cases b with
    | nil => simp [dot, xsum]
    | cons y b =>
      simp only [List.length_cons, show min (a.length + 1) (b.length + 1) = min a.length b.length + 1 from by omega, dot]
      rw [xsum_head, ih b]
      simp only [co_zero, co_succ]
      rfl

/-! the program's way: for each point the polynomial that is 1 at it, and 0 at the others -/
def qbas (xs : List UInt8) (k : Nat) : List UInt8 := quo (proot xs) (co xs k)
def bas (xs : List UInt8) (k : Nat) : List UInt8 := scale (inv (ev (qbas xs k) (co xs k))) (qbas xs k)
theorem qbas_len (xs : List UInt8) (k : Nat) : (qbas xs k).length = xs.length := by unfold qbas; rw [quo_len, proot_len]; omega
theorem bas_len (xs : List UInt8) (k : Nat) : (bas xs k).length = xs.length := by unfold bas; rw [scale_len, qbas_len]
theorem co_mem {xs : List UInt8} {k : Nat} (hk : k < xs.length) : co xs k ∈ xs := by rw [co_get _ _ hk]; exact List.getElem_mem _
theorem root_at {xs : List UInt8} {k : Nat} (hk : k < xs.length) : ev (proot xs) (co xs k) = 0 := by rw [ev_proot]; exact co_mem hk
theorem qbas_other {xs : List UInt8} (h : xs.Nodup) {j k : Nat} (hj : j < xs.length) (hk : k < xs.length) (hne : j ≠ k) : ev (qbas xs k) (co xs j) = 0 := by
  have h1 := ev_over (proot xs) (co xs k) (co xs j)
  rw [root_at hj, root_at hk, add0] at h1
  rcases mul_eq_zero.1 h1.symm with h2 | h2
  · exact h2
  · exact absurd (add_eq_zero.1 h2) (nodup_at h hk hj (fun e => hne e.symm))
theorem qbas_own {xs : List UInt8} (h : xs.Nodup) {k : Nat} (hk : k < xs.length) : ev (qbas xs k) (co xs k) ≠ 0 := by
  intro h0
  have hz := zero_of_roots xs.length (qbas xs k) xs (by rw [qbas_len]; exact Nat.le_refl _) h (Nat.le_refl _) (fun x hx => by
    have hx' : x ∈ xs.take xs.length := by rw [List.take_length]; exact hx
    obtain ⟨j, hj, rfl⟩ := (mem_take_co (Nat.le_refl _)).1 hx'
    by_cases e : j = k
    · subst e; exact h0
    · exact qbas_other h hj hk e)
  have hl := over_back (proot xs) (co xs k) xs.length
  rw [co_padd, co_pmul, conv_lin, root_at hk, proot_last, if_neg (by omega)] at hl
  change add (add (mul (co (qbas xs k) xs.length) (co xs k)) (co (qbas xs k) (xs.length - 1))) (co [0] xs.length) = 1 at hl
  rw [hz, hz, zmul, add0, zadd] at hl
  have : co [(0 : UInt8)] xs.length = 0 := by
    rcases xs.length with _ | n
    · rw [co_zero]
    · rw [co_succ, co_nil]
  rw [this] at hl
  exact absurd hl (by decide)
theorem bas_own {xs : List UInt8} (h : xs.Nodup) {k : Nat} (hk : k < xs.length) : ev (bas xs k) (co xs k) = 1 := by
  unfold bas; rw [ev_scale, mulc, mul_inv_cancel (qbas_own h hk)]
theorem bas_other {xs : List UInt8} (h : xs.Nodup) {j k : Nat} (hj : j < xs.length) (hk : k < xs.length) (hne : j ≠ k) : ev (bas xs k) (co xs j) = 0 := by
  unfold bas; rw [ev_scale, qbas_other h hj hk hne, mul0]
theorem bas_wgt {xs : List UInt8} (h : xs.Nodup) {k : Nat} (hk : k < xs.length) (x : UInt8) : ev (bas xs k) x = wgt xs k x := by
  unfold wgt
  rw [← wpol_ev]
  refine ev_ext (unique (n := xs.length) (by rw [bas_len]; exact Nat.le_refl _) (by rw [wpol_len, if_pos hk]; exact Nat.le_refl _) h (Nat.le_refl _) fun y hy => ?_) x
  have hy' : y ∈ xs.take xs.length := by rw [List.take_length]; exact hy
  obtain ⟨j, hj, rfl⟩ := (mem_take_co (Nat.le_refl _)).1 hy'
  rw [wpol_ev]
  by_cases e : j = k
  · subst e; rw [bas_own h hk, wgtTo_own xs h j hk _ (Nat.le_refl _)]
  · rw [bas_other h hj hk e, wgtTo_other xs k j e _ hj]
/-- what stands in the program's polynomial behind k points -/
def psum (xs ys : List UInt8) : Nat → List UInt8
  | 0 => List.replicate xs.length 0
  | k + 1 => padd (psum xs ys k) (scale (co ys k) (bas xs k))
theorem psum_len (xs ys : List UInt8) (k : Nat) : (psum xs ys k).length = xs.length := by
  induction k with
  | zero => simp [psum]
  | succ k ih => unfold psum; rw [padd_len, scale_len, bas_len, ih]; exact Nat.max_self _
theorem ev_rep (n : Nat) (x : UInt8) : ev (List.replicate n 0) x = 0 := by
  induction n with
  | zero => rfl
  | succ n ih => rw [List.replicate_succ, ev, ih, zmul, add0]
theorem psum_ev {xs : List UInt8} (h : xs.Nodup) (ys : List UInt8) {j : Nat} (hj : j < xs.length) (k : Nat) (hk : k ≤ xs.length) : ev (psum xs ys k) (co xs j) = if j < k then co ys j else 0 := by
  induction k with
  | zero => unfold psum; rw [ev_rep, if_neg (by omega)]
  | succ k ih =>
    unfold psum
    rw [ev_padd, ev_scale, ih (by omega)]
    by_cases e : j = k
    · subst e; rw [if_neg (by omega), if_pos (by omega), bas_own h hj, mul1, zadd]
    · rw [bas_other h hj (by omega) e, mul0, add0]
      by_cases e2 : j < k
      · rw [if_pos e2, if_pos (by omega)]
      · rw [if_neg e2, if_neg (by omega)]
theorem psum_done {xs : List UInt8} (h : xs.Nodup) (ys : List UInt8) : psum xs ys xs.length = thr xs ys :=
  thr_is h ys _ (psum_len _ _ _) fun j hj => by rw [psum_ev h ys hj _ (Nat.le_refl _), if_pos hj]
/-- what stands in the program's weights behind k points -/
def wTo (xs : List UInt8) (x : UInt8) (k : Nat) : List UInt8 := tab xs.length fun i => if i < k then wgt xs i x else 0
theorem wTo_len (xs : List UInt8) (x : UInt8) (k : Nat) : (wTo xs x k).length = xs.length := by simp [wTo]
theorem wTo_zero (xs : List UInt8) (x : UInt8) : wTo xs x 0 = List.replicate xs.length 0 := by
  unfold wTo; rw [← tab_rep]; exact tab_congr fun i _ => by simp
theorem wTo_succ (xs : List UInt8) (x : UInt8) (k : Nat) (h : k < xs.length) : (wTo xs x k).set k (wgt xs k x) = wTo xs x (k + 1) := by
  unfold wTo
  rw [tab_set _ _ _ _ h]
  refine tab_congr fun i _ => ?_
  by_cases e : i = k
  · subst e; simp
  · rw [if_neg e]
    have : (i < k + 1) ↔ i < k := by omega
    simp only [this]
theorem wTo_done (xs : List UInt8) (x : UInt8) : wTo xs x xs.length = wgts xs x := by
  unfold wTo wgts; exact tab_congr fun i hi => by rw [if_pos hi]
/-- values weighed are the polynomial's -/
theorem dot_wgts {xs : List UInt8} (h : xs.Nodup) (ys : List UInt8) (hl : xs.length = ys.length) (x : UInt8) : dot (wgts xs x) ys = ev (thr xs ys) x := by
  rw [dot_sum, wgts_len, ← hl, Nat.min_self, ← weigh h (thr xs ys) (by rw [thr_len]; exact Nat.le_refl _) x]
  exact xsum_congr _ fun i hi => by rw [co_wgts _ _ _ hi, thr_ev h ys i hi, mulc]

/-! whether a point was seen -/
def seen (l : List UInt8) (j : Nat) : Bool := decide (UInt8.ofNat j ∈ l)
theorem seen_nil (j : Nat) : seen [] j = false := by simp [seen]
theorem seen_at (l : List UInt8) (a : UInt8) : seen l a.toNat = decide (a ∈ l) := by simp [seen]
theorem seen_succ (xs : List UInt8) (k : Nat) (hk : k < xs.length) (j : Nat) (hj : j < 256) : seen (xs.take (k + 1)) j = if xs[k].toNat = j then true else seen (xs.take k) j := by
  unfold seen
  rw [take_snoc _ _ hk]
  simp only [List.mem_append, List.mem_singleton]
  by_cases e : xs[k].toNat = j
  · subst e; rw [if_pos rfl, UInt8.ofNat_toNat]; simp
  · rw [if_neg e]
    have : UInt8.ofNat j ≠ xs[k] := fun h => e (by rw [← h, UInt8.toNat_ofNat_of_lt' (by simp only [UInt8.size]; omega)])
    simp only [this, or_false]
theorem unl_seen {xs : List UInt8} {k : Nat} (hk : k < xs.length) (h : seen (xs.take k) xs[k].toNat = true) : unl xs = false := by
  rw [seen_at, decide_eq_true_eq, mem_take_co (by omega)] at h
  obtain ⟨j, hj, e⟩ := h
  exact not_unl (i := k) (j := j) hk (by omega) (by omega) (by rw [co_get _ _ hk, e])
theorem nodup_step {xs : List UInt8} {k : Nat} (hk : k < xs.length) (hn : (xs.take k).Nodup) (h : seen (xs.take k) xs[k].toNat = false) : (xs.take (k + 1)).Nodup := by
  rw [seen_at, decide_eq_false_iff_not] at h
  rw [take_snoc _ _ hk, List.nodup_append]
  refine ⟨hn, by simp, ?_⟩
  intro a ha b hb e
  simp only [List.mem_singleton] at hb
  subst hb; subst e; exact h ha
/-- the document's way: the points ahead of i are unlike, and so are the one at i and those ahead of k -/
def Un (xs : List UInt8) (i : Nat) : Prop := ∀ a b, b < a → a < i → co xs a ≠ co xs b
def Ui (xs : List UInt8) (i k : Nat) : Prop := ∀ b, b < k → co xs i ≠ co xs b
theorem Un.zero (xs : List UInt8) : Un xs 0 := fun a b _ h => by omega
theorem Ui.zero (xs : List UInt8) (i : Nat) : Ui xs i 0 := fun b h => by omega
theorem Ui.succ {xs : List UInt8} {i k : Nat} (h : Ui xs i k) (hk : co xs i ≠ co xs k) : Ui xs i (k + 1) := fun b hb => by
  by_cases e : b = k
  · subst e; exact hk
  · exact h b (by omega)
theorem Un.succ {xs : List UInt8} {i : Nat} (h : Un xs i) (hi : Ui xs i i) : Un xs (i + 1) := fun a b hb ha => by
  by_cases e : a = i
  · subst e; exact hi b hb
  · exact h a b hb (by omega)
theorem Un.unl {xs : List UInt8} (h : Un xs xs.length) : unl xs = true := unl_of fun i k hk hi => h i k hk hi
/-- the document's polynomial, a point more -/
theorem newt_succ (xs ys : List UInt8) (i : Nat) : newt xs ys (i + 1) = padd (newt xs ys i) (scale (mul (add (co ys i) (ev (newt xs ys i) (co xs i))) (inv (ev (proot (xs.take i)) (co xs i)))) (proot (xs.take i))) := rfl
theorem wgtTo_same (xs : List UInt8) (i : Nat) (x : UInt8) : wgtTo xs i x (i + 1) = wgtTo xs i x i := by conv => lhs; unfold wgtTo; rw [if_pos rfl]
theorem wgtTo_more (xs : List UInt8) (i : Nat) (x : UInt8) {k : Nat} (h : k ≠ i) : wgtTo xs i x (k + 1) = mul (wgtTo xs i x k) (mul (add x (co xs k)) (inv (add (co xs i) (co xs k)))) := by
  conv => lhs; unfold wgtTo; rw [if_neg h]
  rfl
/-- values at the first points, one by one -/
def vals (p xs : List UInt8) (k : Nat) : List UInt8 := tab k fun i => ev p (co xs i)
theorem vals_len (p xs : List UInt8) (k : Nat) : (vals p xs k).length = k := by simp [vals]
theorem vals_zero (p xs : List UInt8) : vals p xs 0 = [] := rfl
theorem vals_succ (p xs : List UInt8) (k : Nat) (hk : k < xs.length) : vals p xs (k + 1) = vals p xs k ++ [ev p xs[k]] := by
  unfold vals; rw [tab_succ, co_get _ _ hk]
theorem co_vals (p xs : List UInt8) {k i : Nat} (h : i < k) : co (vals p xs k) i = ev p (co xs i) := by
  unfold vals; rw [co_tab, if_pos h]
theorem dot_vals {xs : List UInt8} (h : xs.Nodup) (p : List UInt8) (hp : p.length ≤ xs.length) (x : UInt8) : dot (wgts xs x) (vals p xs xs.length) = ev p x := by
  rw [dot_sum, wgts_len, vals_len, Nat.min_self, ← weigh h p hp x]
  exact xsum_congr _ fun i hi => by rw [co_wgts _ _ _ hi, co_vals _ _ hi, mulc]
theorem thr_vals {xs : List UInt8} (h : xs.Nodup) (p : List UInt8) (hp : p.length ≤ xs.length) (k : Nat) : co (thr xs (vals p xs xs.length)) k = co p k :=
  (thr_eq h _ p hp (fun _ hj => (co_vals _ _ hj).symm) k).symm
end Go.Proofs.Ytjoocjkakgjgmaa.LagrM

/- plain mathematics of matrices of bytes: determinants by the first row, row operations, inverses -/
set_option maxRecDepth 100000
namespace Go.Proofs.Ytjoocjkakgjgmaa.MatM
open GfM PolyM LagrM

abbrev Mat := Nat → Nat → UInt8
/-- the same at all places of a square of n -/
def EqN (n : Nat) (a b : Mat) : Prop := ∀ i j, i < n → j < n → a i j = b i j
theorem EqN.refl (n : Nat) (a : Mat) : EqN n a a := fun _ _ _ _ => rfl
theorem EqN.symm {n : Nat} {a b : Mat} (h : EqN n a b) : EqN n b a := fun i j hi hj => (h i j hi hj).symm
theorem EqN.trans {n : Nat} {a b c : Mat} (h : EqN n a b) (k : EqN n b c) : EqN n a c := fun i j hi hj => (h i j hi hj).trans (k i j hi hj)

/-! sums of sums -/
theorem xsum_swap (f : Nat → Nat → UInt8) (m n : Nat) : xsum (fun i => xsum (fun j => f i j) n) m = xsum (fun j => xsum (fun i => f i j) m) n := by
  induction m with
  | zero => simp only [xsum]; exact (xsum_zero _ _ fun _ _ => rfl).symm
  | succ m ih => simp only [xsum]; rw [ih, xsum_add]
theorem xsum_mulr (f : Nat → UInt8) (c : UInt8) (n : Nat) : xsum (fun i => mul (f i) c) n = mul (xsum f n) c := by
  rw [mulc, ← xsum_mul]; exact xsum_congr _ fun i _ => mulc _ _
theorem xsum_pair (f : Nat → Nat → UInt8) (n : Nat) (h : ∀ k l, k ≤ l → l < n → f (l + 1) k = f k l) : xsum (fun k => xsum (fun l => f k l) n) (n + 1) = 0 := by
  induction n with
  | zero => simp only [xsum]; rw [add0]
  | succ n ih =>
    have e1 : xsum (fun k => xsum (fun l => f k l) (n + 1)) (n + 1) = add (xsum (fun k => xsum (fun l => f k l) n) (n + 1)) (xsum (fun k => f k n) (n + 1)) := by
      rw [← xsum_add]; rfl
    rw [xsum, e1, ih (fun k l h1 h2 => h k l h1 (by omega)), zadd, xsum_congr (n + 1) (fun k hk => (h k n (by omega) (by omega)).symm), adds]

/-! the determinant, by the first row -/
def skip (k j : Nat) : Nat := if j < k then j else j + 1
def minor (a : Mat) (k : Nat) : Mat := fun i j => a (i + 1) (skip k j)
def det : Nat → Mat → UInt8
  | 0, _ => 1
  | n + 1, a => xsum (fun k => mul (a 0 k) (det n (minor a k))) (n + 1)
theorem skip_lt {k j n : Nat} (hj : j < n) : skip k j < n + 1 := by unfold skip; split <;> omega
theorem minor_eqn {n : Nat} {a b : Mat} (h : EqN (n + 1) a b) (k : Nat) : EqN n (minor a k) (minor b k) :=
  fun i j hi hj => h (i + 1) (skip k j) (by omega) (skip_lt hj)
theorem det_congr {n : Nat} {a b : Mat} (h : EqN n a b) : det n a = det n b := by
  induction n generalizing a b with
  | zero => rfl
  | succ n ih =>
    unfold det
    exact xsum_congr _ fun k hk => by rw [h 0 k (by omega) hk, ih (minor_eqn h k)]
def setRow (a : Mat) (r : Nat) (u : Nat → UInt8) : Mat := fun i j => if i = r then u j else a i j
theorem setRow_same (a : Mat) (r : Nat) : setRow a r (a r) = a := by
  funext i j; unfold setRow; split
  · rename_i h; rw [h]
  · rfl
theorem setRow_at (a : Mat) (r : Nat) (u : Nat → UInt8) : setRow a r u r = u := by funext j; simp [setRow]
theorem setRow_ne (a : Mat) {r i : Nat} (u : Nat → UInt8) (h : i ≠ r) : setRow a r u i = a i := by funext j; simp [setRow, h]
theorem setRow_two (a : Mat) (r : Nat) (u v : Nat → UInt8) : setRow (setRow a r u) r v = setRow a r v := by
  funext i j; unfold setRow; split <;> rfl
theorem setRow_comm (a : Mat) {r s : Nat} (u v : Nat → UInt8) (h : r ≠ s) : setRow (setRow a r u) s v = setRow (setRow a s v) r u := by
  funext i j; unfold setRow; split
  · rename_i e; rw [if_neg (by omega)]
  · rfl
theorem minor_set0 (a : Mat) (u : Nat → UInt8) (k : Nat) : minor (setRow a 0 u) k = minor a k := by
  funext i j; unfold minor setRow; rw [if_neg (by omega)]
theorem minor_setS (a : Mat) (r : Nat) (u : Nat → UInt8) (k : Nat) : minor (setRow a (r + 1) u) k = setRow (minor a k) r (fun j => u (skip k j)) := by
  funext i j; unfold minor setRow
  by_cases h : i = r
  · rw [if_pos (by omega), if_pos h]
  · rw [if_neg (by omega), if_neg h]
theorem det_add (n : Nat) (a : Mat) (r : Nat) (hr : r < n) (u v : Nat → UInt8) : det n (setRow a r fun j => add (u j) (v j)) = add (det n (setRow a r u)) (det n (setRow a r v)) := by
  induction n generalizing a r u v with
  | zero => omega
  | succ n ih =>
    unfold det
    rw [← xsum_add]
    refine xsum_congr _ fun k _ => ?_
    rcases r with _ | r
    · rw [minor_set0, minor_set0, minor_set0, setRow_at, setRow_at, setRow_at, addmul]
    · rw [minor_setS, minor_setS, minor_setS, setRow_ne _ _ (by omega), setRow_ne _ _ (by omega), setRow_ne _ _ (by omega), ih _ r (by omega), muladd]
theorem det_mul (n : Nat) (a : Mat) (r : Nat) (hr : r < n) (c : UInt8) (u : Nat → UInt8) : det n (setRow a r fun j => mul c (u j)) = mul c (det n (setRow a r u)) := by
  induction n generalizing a r u with
  | zero => omega
  | succ n ih =>
    unfold det
    rw [← xsum_mul]
    refine xsum_congr _ fun k _ => ?_
    rcases r with _ | r
    · rw [minor_set0, minor_set0, setRow_at, setRow_at, mula]
    · rw [minor_setS, minor_setS, setRow_ne _ _ (by omega), setRow_ne _ _ (by omega), ih _ r (by omega), ← mula, mulc (a 0 k) c, mula]
theorem skip_skip {k l : Nat} (h : k ≤ l) (j : Nat) : skip (l + 1) (skip k j) = skip k (skip l j) := by
  unfold skip; repeat' split
  all_goals omega
theorem det_eq01 (n : Nat) (a : Mat) (h : ∀ j, j < n + 2 → a 0 j = a 1 j) : det (n + 2) a = 0 := by
  have e : det (n + 2) a = xsum (fun k => xsum (fun l => mul (mul (a 0 k) (a 1 (skip k l))) (det n (minor (minor a k) l))) (n + 1)) (n + 2) := by
    rw [det]
    refine xsum_congr _ fun k _ => ?_
    rw [det, ← xsum_mul]
    exact xsum_congr _ fun l _ => by rw [← mula]; rfl
  rw [e]
  refine xsum_pair _ (n + 1) fun k l hkl hl => ?_
  have e1 : minor (minor a (l + 1)) k = minor (minor a k) l := by
    funext i j; unfold minor; rw [skip_skip hkl]
  have e2 : skip (l + 1) k = k := by unfold skip; rw [if_pos (by omega)]
  have e3 : skip k l = l + 1 := by unfold skip; rw [if_neg (by omega)]
  rw [e1, e2, e3, h (l + 1) (by omega), ← h k (by omega), mulc (a 1 (l + 1))]
theorem det_eq (n : Nat) (a : Mat) (i j : Nat) (hij : i < j) (hj : j < n) (h : ∀ k, k < n → a i k = a j k) : det n a = 0 := by
  induction n generalizing a i j with
  | zero => omega
  | succ n ih =>
    have low : ∀ (b : Mat) (i j : Nat), 1 ≤ i → i < j → j < n + 1 → (∀ k, k < n + 1 → b i k = b j k) → det (n + 1) b = 0 := by
      intro b i j hi hij hj hb
      unfold det
      refine xsum_zero _ _ fun k hk => ?_
      rw [ih (minor b k) (i - 1) (j - 1) (by omega) (by omega) (fun m hm => by
        unfold minor; rw [show i - 1 + 1 = i from by omega, show j - 1 + 1 = j from by omega]; exact hb _ (skip_lt hm)), mul0]
    rcases i with _ | i
    · by_cases e : j = 1
      · subst e
        obtain ⟨m, rfl⟩ : ∃ m, n = m + 1 := ⟨n - 1, by omega⟩
        exact det_eq01 m a h
      · -- rows 1 and j may be exchanged
        have z := low (setRow (setRow a 1 fun k => add (a 1 k) (a j k)) j fun k => add (a 1 k) (a j k)) 1 j (Nat.le_refl _) (by omega) hj (fun k _ => by
          rw [setRow_at, setRow_ne _ _ (by omega), setRow_at])
        rw [det_add _ _ _ hj, setRow_comm _ _ _ (by omega : (1 : Nat) ≠ j), setRow_comm _ _ _ (by omega : (1 : Nat) ≠ j), det_add _ _ _ (by omega), det_add _ _ _ (by omega)] at z
        have z1 := low (setRow (setRow a j fun k => a 1 k) 1 fun k => a 1 k) 1 j (Nat.le_refl _) (by omega) hj (fun k _ => by
          rw [setRow_at, setRow_ne _ _ (by omega), setRow_at])
        have z2 := low (setRow (setRow a j fun k => a j k) 1 fun k => a j k) 1 j (Nat.le_refl _) (by omega) hj (fun k _ => by
          rw [setRow_at, setRow_ne _ _ (by omega), setRow_at])
        have z3 : det (n + 1) (setRow (setRow a j fun k => a 1 k) 1 fun k => a j k) = 0 := by
          obtain ⟨m, rfl⟩ : ∃ m, n = m + 1 := ⟨n - 1, by omega⟩
          refine det_eq01 m _ fun k hk => ?_
          rw [setRow_at, setRow_ne _ _ (by omega), setRow_ne _ _ (by omega)]
          exact h k hk
        have z4 : setRow (setRow a j fun k => a j k) 1 (fun k => a 1 k) = a := by
          rw [show (fun k => a j k) = a j from rfl, setRow_same]; exact setRow_same a 1
        rw [z1, z2, z3, z4, zadd, add0, zadd] at z
        exact z
    · exact low a (i + 1) j (by omega) hij hj h
theorem det_eq' (n : Nat) (a : Mat) (i j : Nat) (hij : i ≠ j) (hi : i < n) (hj : j < n) (h : ∀ k, k < n → a i k = a j k) : det n a = 0 := by
  rcases Nat.lt_or_ge i j with h1 | h1
  · exact det_eq n a i j h1 hj h
  · exact det_eq n a j i (by omega) hi fun k hk => (h k hk).symm

/-! what is done to rows -/
def swapR (a : Mat) (r s : Nat) : Mat := fun i => if i = r then a s else if i = s then a r else a i
def scaleR (a : Mat) (r : Nat) (c : UInt8) : Mat := setRow a r fun j => mul c (a r j)
def addR (a : Mat) (r s : Nat) (c : UInt8) : Mat := setRow a r fun j => add (a r j) (mul c (a s j))
theorem det_scaleR (n : Nat) (a : Mat) (r : Nat) (hr : r < n) (c : UInt8) : det n (scaleR a r c) = mul c (det n a) := by
  unfold scaleR; rw [det_mul _ _ _ hr, setRow_same]
theorem det_addR (n : Nat) (a : Mat) (r s : Nat) (hr : r < n) (hs : s < n) (hne : r ≠ s) (c : UInt8) : det n (addR a r s c) = det n a := by
  unfold addR
  rw [det_add _ _ _ hr, det_mul _ _ _ hr, det_eq' n (setRow a r fun j => a s j) r s hne hr hs (fun k _ => by rw [setRow_at, setRow_ne _ _ (Ne.symm hne)]), mul0, add0, setRow_same]
theorem swapR_self (a : Mat) (r : Nat) : swapR a r r = a := by
  funext i; unfold swapR; split
  · rename_i h; rw [h]
  · rfl
theorem swapR_adds (a : Mat) (r s : Nat) (hne : r ≠ s) : swapR a r s = addR (addR (addR a r s 1) s r 1) r s 1 := by
  funext i j
  unfold swapR addR setRow
  by_cases h1 : i = r
  · subst h1
    simp only [if_true, if_neg hne, if_neg (Ne.symm hne), one_mul]
    rw [addc (a s j), ← adda, adds, zadd]
  · by_cases h2 : i = s
    · subst h2
      simp only [if_true, if_neg h1, if_neg hne, one_mul]
      rw [addc (a r j) (a i j), ← adda, adds, zadd]
    · simp only [if_neg h1, if_neg h2]
theorem det_swapR (n : Nat) (a : Mat) (r s : Nat) (hr : r < n) (hs : s < n) : det n (swapR a r s) = det n a := by
  by_cases h : r = s
  · subst h; rw [swapR_self]
  · rw [swapR_adds a r s h, det_addR _ _ _ _ hr hs h, det_addR _ _ _ _ hs hr (Ne.symm h), det_addR _ _ _ _ hr hs h]

/-! the unit matrix; a block of noughts -/
def one : Mat := fun i j => if i = j then 1 else 0
theorem det_one (n : Nat) : det n one = 1 := by
  induction n with
  | zero => rfl
  | succ n ih =>
    unfold det
    rw [xsum_one _ _ 0 (by omega) (fun i _ h => by unfold one; rw [if_neg (by omega), zmul])]
    have : EqN n (minor one 0) one := fun i j _ _ => by
      unfold minor one skip
      rw [if_neg (by omega : ¬ j < 0)]
      by_cases h : i = j
      · rw [if_pos h, if_pos (by omega)]
      · rw [if_neg h, if_neg (by omega)]
    rw [det_congr this, ih, mul1]; rfl
/-- from row r on the columns ahead of z are noughts, and z is more than r: the determinant is 0 -/
theorem det_block (n : Nat) (a : Mat) (r z : Nat) (hrz : r < z) (hz : z ≤ n) (h : ∀ i j, r ≤ i → i < n → j < z → a i j = 0) : det n a = 0 := by
  induction n generalizing a r z with
  | zero => omega
  | succ n ih =>
    unfold det
    refine xsum_zero _ _ fun k hk => ?_
    rcases r with _ | r
    · by_cases hkz : k < z
      · rw [h 0 k (Nat.le_refl _) (by omega) hkz, zmul]
      · rw [ih (minor a k) 0 z hrz (by omega) (fun i j _ hi hj => by
          unfold minor skip; rw [if_pos (by omega)]; exact h (i + 1) j (by omega) (by omega) hj), mul0]
    · rw [ih (minor a k) r (z - 1) (by omega) (by omega) (fun i j h1 hi hj => by
        unfold minor skip
        split
        · exact h (i + 1) j (by omega) (by omega) (by omega)
        · exact h (i + 1) (j + 1) (by omega) (by omega) (by omega)), mul0]

/-! products -/
def mm (n : Nat) (a b : Mat) : Mat := fun i j => xsum (fun k => mul (a i k) (b k j)) n
theorem mm_assoc (n : Nat) (a b c : Mat) : mm n (mm n a b) c = mm n a (mm n b c) := by
  funext i j
  unfold mm
  rw [xsum_congr (g := fun k => xsum (fun l => mul (mul (a i l) (b l k)) (c k j)) n) n (fun k _ => (xsum_mulr _ _ _).symm), xsum_swap]
  refine xsum_congr _ fun l _ => ?_
  rw [← xsum_mul]
  exact xsum_congr _ fun k _ => mula _ _ _
theorem mm_congr {n : Nat} {a a' b b' : Mat} (h1 : EqN n a a') (h2 : EqN n b b') : EqN n (mm n a b) (mm n a' b') := fun i j hi hj =>
  xsum_congr _ fun k hk => by rw [h1 i k hi hk, h2 k j hk hj]
theorem one_mm (n : Nat) (a : Mat) : EqN n (mm n one a) a := fun i j hi _ => by
  unfold mm
  rw [xsum_one _ _ i hi (fun k _ h => by unfold one; rw [if_neg (Ne.symm h), zmul])]
  unfold one; rw [if_pos rfl, one_mul]
theorem mm_one (n : Nat) (a : Mat) : EqN n (mm n a one) a := fun i j _ hj => by
  unfold mm
  rw [xsum_one _ _ j hj (fun k _ h => by unfold one; rw [if_neg h, mul0])]
  unfold one; rw [if_pos rfl, mul1]
theorem mm_setRow (n : Nat) (a b : Mat) (r : Nat) (u : Nat → UInt8) : mm n (setRow a r u) b = setRow (mm n a b) r fun j => xsum (fun k => mul (u k) (b k j)) n := by
  funext i j; unfold mm setRow
  split <;> rfl
theorem mm_scaleR (n : Nat) (a b : Mat) (r : Nat) (c : UInt8) : mm n (scaleR a r c) b = scaleR (mm n a b) r c := by
  unfold scaleR; rw [mm_setRow]; congr 1; funext j
  show _ = mul c (xsum _ n)
  rw [← xsum_mul]; exact xsum_congr _ fun k _ => mula _ _ _
theorem mm_addR (n : Nat) (a b : Mat) (r s : Nat) (c : UInt8) : mm n (addR a r s c) b = addR (mm n a b) r s c := by
  unfold addR; rw [mm_setRow]; congr 1; funext j
  show _ = add (xsum _ n) (mul c (xsum _ n))
  rw [← xsum_mul, ← xsum_add]
  exact xsum_congr _ fun k _ => by rw [addmul, mula]
theorem mm_swapR (n : Nat) (a b : Mat) (r s : Nat) : mm n (swapR a r s) b = swapR (mm n a b) r s := by
  funext i j; unfold mm swapR; split
  · rfl
  · split <;> rfl
theorem scaleR_back (a : Mat) (r : Nat) {c : UInt8} (hc : c ≠ 0) : scaleR (scaleR a r c) r (inv c) = a := by
  unfold scaleR
  rw [setRow_two, setRow_at]
  have : (fun j => mul (inv c) (mul c (a r j))) = a r := by
    funext j; rw [← mula, mulc (inv c), mul_inv_cancel hc, one_mul]
  rw [this, setRow_same]
theorem addR_back (a : Mat) {r s : Nat} (hne : r ≠ s) (c : UInt8) : addR (addR a r s c) r s c = a := by
  unfold addR
  rw [setRow_two, setRow_at, setRow_ne _ _ (Ne.symm hne)]
  have : (fun j => add (add (a r j) (mul c (a s j))) (mul c (a s j))) = a r := by
    funext j; rw [adda, adds, add0]
  rw [this, setRow_same]
theorem swapR_back (a : Mat) (r s : Nat) : swapR (swapR a r s) r s = a := by
  funext i; unfold swapR
  by_cases h1 : i = r
  · subst h1
    by_cases h2 : s = i
    · rw [if_pos rfl, if_pos h2]; rw [h2]
    · rw [if_pos rfl, if_neg h2, if_pos rfl]
  · by_cases h2 : i = s
    · rw [if_neg h1, if_pos h2, if_pos rfl, h2]
    · rw [if_neg h1, if_neg h2, if_neg h1, if_neg h2]
/-- two matrices undo each other -/
def Undo (n : Nat) (a b : Mat) : Prop := EqN n (mm n a b) one ∧ EqN n (mm n b a) one
theorem Undo.one (n : Nat) : Undo n one one := ⟨one_mm n _, one_mm n _⟩
/-- left is what right makes of a; right can be undone; noughts' determinants stay -/
structure Done (n : Nat) (a left right : Mat) : Prop where
  same : EqN n left (mm n right a)
  undo : ∃ b, Undo n right b
  det : det n left = 0 ↔ det n a = 0
theorem Done.start (n : Nat) (a : Mat) : Done n a a one := ⟨(one_mm n a).symm, ⟨_, Undo.one n⟩, Iff.rfl⟩
/-- a step: left and right by the same operation, which another one takes back -/
theorem Done.step {n : Nat} {a left right : Mat} (h : Done n a left right) (f g : Mat → Mat) (hf : ∀ x y, mm n (f x) y = f (mm n x y)) (hg : ∀ x y, mm n (g x) y = g (mm n x y))
    (hfc : ∀ x y, EqN n x y → EqN n (f x) (f y)) (hgc : ∀ x y, EqN n x y → EqN n (g x) (g y)) (hgf : ∀ x, g (f x) = x) (hfg : ∀ x, f (g x) = x) (hd : MatM.det n (f left) = 0 ↔ MatM.det n left = 0) : Done n a (f left) (f right) := by
  obtain ⟨b, h1, h2⟩ := h.undo
  refine ⟨?_, ⟨mm n b (g MatM.one), ?_, ?_⟩, hd.trans h.det⟩
  · rw [hf]; exact hfc _ _ h.same
  · rw [hf, ← mm_assoc]
    have e1 : EqN n (mm n (mm n right b) (g MatM.one)) (g MatM.one) := (mm_congr h1 (EqN.refl n _)).trans (one_mm n _)
    have := hfc _ _ e1
    rwa [hfg] at this
  · rw [mm_assoc]
    have e1 : EqN n (mm n (g MatM.one) (f right)) right := by
      rw [hg]
      have := hgc _ _ (one_mm n (f right))
      rwa [hgf] at this
    exact (mm_congr (EqN.refl n b) e1).trans h2
theorem setRow_eqn {n : Nat} {x y : Mat} (h : EqN n x y) (r : Nat) {u v : Nat → UInt8} (huv : ∀ j, j < n → u j = v j) : EqN n (setRow x r u) (setRow y r v) := fun i j hi hj => by
  unfold setRow; split
  · exact huv j hj
  · exact h i j hi hj
theorem scaleR_eqn {n : Nat} {x y : Mat} (h : EqN n x y) {r : Nat} (hr : r < n) (c : UInt8) : EqN n (scaleR x r c) (scaleR y r c) := setRow_eqn h r fun j hj => by rw [h r j hr hj]
theorem addR_eqn {n : Nat} {x y : Mat} (h : EqN n x y) {r s : Nat} (hr : r < n) (hs : s < n) (c : UInt8) : EqN n (addR x r s c) (addR y r s c) := setRow_eqn h r fun j hj => by rw [h r j hr hj, h s j hs hj]
theorem swapR_eqn {n : Nat} {x y : Mat} (h : EqN n x y) {r s : Nat} (hr : r < n) (hs : s < n) : EqN n (swapR x r s) (swapR y r s) := fun i j hi hj => by
  unfold swapR; split
  · exact h s j hs hj
  · split
    · exact h r j hr hj
    · exact h i j hi hj
theorem inv_inv {c : UInt8} (hc : c ≠ 0) : inv (inv c) = c := (inv_eq (by rw [mulc]; exact mul_inv_cancel hc)).symm
theorem inv_ne' {c : UInt8} (hc : c ≠ 0) : inv c ≠ 0 := fun h => by
  have := mul_inv_cancel hc; rw [h, mul0] at this; exact absurd this (by decide)
theorem Done.scale {n : Nat} {a left right : Mat} (h : Done n a left right) {r : Nat} (hr : r < n) {c : UInt8} (hc : c ≠ 0) : Done n a (scaleR left r c) (scaleR right r c) :=
  h.step (fun x => scaleR x r c) (fun x => scaleR x r (inv c)) (fun x y => mm_scaleR n x y r c) (fun x y => mm_scaleR n x y r (inv c)) (fun _ _ e => scaleR_eqn e hr c) (fun _ _ e => scaleR_eqn e hr _)
    (fun x => scaleR_back x r hc) (fun x => by have := scaleR_back x r (inv_ne' hc); rwa [inv_inv hc] at this) (by
      rw [det_scaleR _ _ _ hr, mul_eq_zero]; exact ⟨fun h => h.resolve_left hc, .inr⟩)
theorem Done.addR {n : Nat} {a left right : Mat} (h : Done n a left right) {r s : Nat} (hr : r < n) (hs : s < n) (hne : r ≠ s) (c : UInt8) : Done n a (MatM.addR left r s c) (MatM.addR right r s c) :=
  h.step (fun x => MatM.addR x r s c) (fun x => MatM.addR x r s c) (fun x y => mm_addR n x y r s c) (fun x y => mm_addR n x y r s c) (fun _ _ e => addR_eqn e hr hs c) (fun _ _ e => addR_eqn e hr hs c)
    (fun x => addR_back x hne c) (fun x => addR_back x hne c) (by rw [det_addR _ _ _ _ hr hs hne])
theorem Done.swap {n : Nat} {a left right : Mat} (h : Done n a left right) {r s : Nat} (hr : r < n) (hs : s < n) : Done n a (swapR left r s) (swapR right r s) :=
  h.step (fun x => swapR x r s) (fun x => swapR x r s) (fun x y => mm_swapR n x y r s) (fun x y => mm_swapR n x y r s) (fun _ _ e => swapR_eqn e hr hs) (fun _ _ e => swapR_eqn e hr hs)
    (fun x => swapR_back x r s) (fun x => swapR_back x r s) (by rw [det_swapR _ _ _ _ hr hs])
/-- when left is the unit matrix right is the inverse, in both orders -/
theorem Done.end {n : Nat} {a left right : Mat} (h : Done n a left right) (h1 : EqN n left one) : Undo n a right ∧ MatM.det n a ≠ 0 := by
  obtain ⟨b, h2, h3⟩ := h.undo
  have e1 : EqN n (mm n right a) one := h.same.symm.trans h1
  have e2 : EqN n a b := by
    have k1 : EqN n (mm n (mm n b right) a) a := (mm_congr h3 (EqN.refl n a)).trans (one_mm n a)
    rw [mm_assoc] at k1
    exact k1.symm.trans ((mm_congr (EqN.refl n b) e1).trans (mm_one n b))
  refine ⟨⟨(mm_congr e2 (EqN.refl n right)).trans h3, e1⟩, fun h0 => ?_⟩
  have := h.det.2 h0
  rw [det_congr h1, det_one] at this
  exact absurd this (by decide)
/-- the first c columns are done with -/
def Cols (n c : Nat) (a : Mat) : Prop := ∀ i j, i < n → j < c → a i j = one i j
/-- no row from c on has anything in column c: the determinant is 0, and a row of bytes that is not 0 is made 0 -/
theorem Done.stuck {n : Nat} {a left right : Mat} (h : Done n a left right) {c : Nat} (hc : c < n) (hcols : Cols n c left) (hz : ∀ i, c ≤ i → i < n → left i c = 0) : MatM.det n a = 0 :=
  h.det.1 (det_block n left c (c + 1) (by omega) (by omega) fun i j h1 h2 h3 => by
    by_cases e : j = c
    · subst e; exact hz i h1 h2
    · rw [hcols i j h2 (by omega)]; unfold one; rw [if_neg (by omega)])
def mv (n : Nat) (a : Mat) (x : Nat → UInt8) : Nat → UInt8 := fun i => xsum (fun k => mul (a i k) (x k)) n
theorem mv_mm (n : Nat) (a b : Mat) (x : Nat → UInt8) : mv n (mm n a b) x = mv n a (mv n b x) := by
  funext i
  have := congrFun (congrFun (mm_assoc n a b fun k _ => x k) i) 0
  exact this
theorem mv_congr {n : Nat} {a b : Mat} (h : EqN n a b) {x y : Nat → UInt8} (hx : ∀ k, k < n → x k = y k) {i : Nat} (hi : i < n) : mv n a x i = mv n b y i :=
  xsum_congr _ fun k hk => by rw [h i k hi hk, hx k hk]
theorem mv_one (n : Nat) (x : Nat → UInt8) {i : Nat} (hi : i < n) : mv n one x i = x i := one_mm n (fun k _ => x k) i i hi hi
theorem mv_zero (n : Nat) (a : Mat) (i : Nat) : mv n a (fun _ => 0) i = 0 := xsum_zero _ _ fun _ _ => mul0 _
theorem Done.kernel {n : Nat} {a left right : Mat} (h : Done n a left right) {c : Nat} (hc : c < n) (hcols : Cols n c left) (hz : ∀ i, c ≤ i → i < n → left i c = 0) :
    ∃ x : Nat → UInt8, x c = 1 ∧ (∀ i, i < n → mv n a x i = 0) := by
  obtain ⟨b, h2, h3⟩ := h.undo
  refine ⟨fun k => if k < c then left k c else if k = c then 1 else 0, by simp, ?_⟩
  have k1 : ∀ i, i < n → mv n left (fun k => if k < c then left k c else if k = c then 1 else 0) i = 0 := by
    intro i hi
    unfold mv
    have e : xsum (fun k => mul (left i k) (if k < c then left k c else if k = c then 1 else 0)) n
        = GfM.add (xsum (fun k => mul (left i k) (if k < c then left k c else 0)) n) (xsum (fun k => mul (left i k) (if k = c then 1 else 0)) n) := by
      rw [← xsum_add]
      refine xsum_congr _ fun k _ => ?_
      by_cases h1 : k < c
      · rw [if_pos h1, if_pos h1, if_neg (by omega), mul0, add0]
      · rw [if_neg h1, if_neg h1, mul0, zadd]
    have e2 : xsum (fun k => mul (left i k) (if k = c then 1 else 0)) n = left i c := by
      rw [xsum_one _ _ c hc (fun k _ hk => by rw [if_neg hk, mul0]), if_pos rfl, mul1]
    rw [e, e2]
    by_cases hic : i < c
    · have e3 : xsum (fun k => mul (left i k) (if k < c then left k c else 0)) n = left i c := by
        rw [xsum_one _ _ i hi (fun k _ hk => by
          by_cases h1 : k < c
          · rw [if_pos h1, hcols i k hi h1]; unfold MatM.one; rw [if_neg (Ne.symm hk), zmul]
          · rw [if_neg h1, mul0]), if_pos hic, hcols i i hi hic]
        unfold MatM.one; rw [if_pos rfl, one_mul]
      rw [e3, adds]
    · rw [xsum_zero _ _ (fun k hk => by
        by_cases h1 : k < c
        · rw [if_pos h1, hcols i k hi h1]; unfold MatM.one; rw [if_neg (by omega), zmul]
        · rw [if_neg h1, mul0]), hz i (by omega) hi, add0]
  intro i hi
  generalize hx : (fun k => if k < c then left k c else if k = c then (1 : UInt8) else 0) = x at *
  have k2 : ∀ i, i < n → mv n (mm n right a) x i = 0 := fun i hi => (mv_congr h.same.symm (fun _ _ => rfl) hi).trans (k1 i hi)
  have k3 : mv n (mm n b right) (mv n a x) i = 0 := by
    rw [mv_mm, ← mv_mm n right a x]
    rw [mv_congr (EqN.refl n b) k2 hi]; exact mv_zero n b i
  rw [mv_congr h3 (fun _ _ => rfl) hi, mv_one n _ hi] at k3
  exact k3
/-- a column more is done with: its own row has 1 there, the others 0 -/
theorem Cols.succ {n c : Nat} {a : Mat} (h : Cols n c a) (h1 : ∀ i, i < n → a i c = one i c) : Cols n (c + 1) a := fun i j hi hj => by
  by_cases e : j = c
  · subst e; exact h1 i hi
  · exact h i j hi (by omega)
theorem Cols.all {n : Nat} {a : Mat} (h : Cols n n a) : EqN n a one := h
theorem Cols.swapR {n c : Nat} {a : Mat} (h : Cols n c a) {r s : Nat} (hr : c ≤ r) (hs : c ≤ s) (hr2 : r < n) (hs2 : s < n) : Cols n c (swapR a r s) := fun i j hi hj => by
  unfold MatM.swapR
  by_cases e1 : i = r
  · rw [if_pos e1, h s j hs2 hj]; unfold MatM.one; rw [if_neg (by omega), if_neg (by omega)]
  · rw [if_neg e1]
    by_cases e2 : i = s
    · rw [if_pos e2, h r j hr2 hj]; unfold MatM.one; rw [if_neg (by omega), if_neg (by omega)]
    · rw [if_neg e2]; exact h i j hi hj
theorem Cols.scaleR {n c : Nat} {a : Mat} (h : Cols n c a) {r : Nat} (hr : c ≤ r) (hr2 : r < n) (x : UInt8) : Cols n c (scaleR a r x) := fun i j hi hj => by
  unfold MatM.scaleR setRow
  by_cases e1 : i = r
  · rw [if_pos e1]; show mul x (a r j) = _
    rw [h r j hr2 hj]; unfold MatM.one; rw [if_neg (by omega), if_neg (by omega), mul0]
  · rw [if_neg e1]; exact h i j hi hj
theorem Cols.addR {n c : Nat} {a : Mat} (h : Cols n c a) {r s : Nat} (hs : c ≤ s) (hr2 : r < n) (hs2 : s < n) (x : UInt8) : Cols n c (addR a r s x) := fun i j hi hj => by
  unfold MatM.addR setRow
  by_cases e1 : i = r
  · rw [if_pos e1]; show add (a r j) (mul x (a s j)) = _
    rw [h r j hr2 hj, h s j hs2 hj, e1]
    have : MatM.one s j = 0 := by unfold MatM.one; rw [if_neg (by omega)]
    rw [this, mul0, add0]
  · rw [if_neg e1]; exact h i j hi hj

/-! powers of bytes -/
def vand (xs : List UInt8) : Mat := fun i k => npow (co xs i) k
theorem vand_mv (xs p : List UInt8) {n : Nat} (hp : p.length ≤ n) (i : Nat) : mv n (vand xs) (co p) i = ev p (co xs i) := by
  rw [← ev_sum p (co xs i) hp]; exact xsum_congr _ fun k _ => mulc _ _
theorem vand_kernel {xs : List UInt8} (h : xs.Nodup) (x : Nat → UInt8) (hx : ∀ i, i < xs.length → mv xs.length (vand xs) x i = 0) (k : Nat) (hk : k < xs.length) : x k = 0 := by
  have hc : ∀ k, k < xs.length → co (tab xs.length x) k = x k := fun k hk => by rw [co_tab, if_pos hk]
  rw [← hc k hk]
  refine zero_of_roots xs.length (tab xs.length x) xs (by simp) h (Nat.le_refl _) (fun y hy => ?_) k
  have hy' : y ∈ xs.take xs.length := by rw [List.take_length]; exact hy
  obtain ⟨j, hj, rfl⟩ := (mem_take_co (Nat.le_refl _)).1 hy'
  rw [← vand_mv xs _ (n := xs.length) (by simp), ← hx j hj]
  exact mv_congr (EqN.refl _ _) hc hj
theorem vand_det {xs : List UInt8} {i j : Nat} (hi : i < xs.length) (hj : j < xs.length) (hne : i ≠ j) (e : co xs i = co xs j) : det xs.length (vand xs) = 0 :=
  det_eq' _ _ i j hne hi hj fun k _ => by unfold vand; rw [e]
theorem vand_dup {xs : List UInt8} (h : unl xs = false) : det xs.length (vand xs) = 0 := by
  have hn : ¬ ∀ i k, k < i → i < xs.length → co xs i ≠ co xs k := fun h' => by rw [unl_of h'] at h; cases h
  obtain ⟨i, hn⟩ := Classical.not_forall.1 hn
  obtain ⟨k, hn⟩ := Classical.not_forall.1 hn
  obtain ⟨h1, hn⟩ := Classical.not_forall.1 hn
  obtain ⟨h2, hn⟩ := Classical.not_forall.1 hn
  exact vand_det (i := i) (j := k) h2 (by omega) (by omega) (Classical.not_not.1 hn)
/-- the inverse of the powers tells the polynomial -/
theorem vand_back {xs : List UInt8} (h : xs.Nodup) (ys : List UInt8) {b : Mat} (hb : Undo xs.length (vand xs) b) {i : Nat} (hi : i < xs.length) : mv xs.length b (co ys) i = co (thr xs ys) i := by
  have e1 : ∀ j, j < xs.length → mv xs.length (vand xs) (co (thr xs ys)) j = co ys j := fun j hj => by
    rw [vand_mv xs (thr xs ys) (by rw [thr_len]; exact Nat.le_refl _), thr_ev h ys j hj]
  rw [← mv_congr (EqN.refl _ b) e1 hi, ← mv_mm, mv_congr hb.2 (fun _ _ => rfl) hi, mv_one _ _ hi]
end Go.Proofs.Ytjoocjkakgjgmaa.MatM

/- plain mathematics of lists of lists of bytes -/
set_option maxRecDepth 100000
namespace Go.Proofs.Ytjoocjkakgjgmaa.MatM
open GfM PolyM LagrM

def rowAt (m : List (List UInt8)) (i : Nat) : List UInt8 := m.getD i []
theorem rowAt_get (m : List (List UInt8)) (i : Nat) (h : i < m.length) : rowAt m i = m[i] := by simp [rowAt, List.getD, h]
theorem rowAt_ge (m : List (List UInt8)) (i : Nat) (h : m.length ≤ i) : rowAt m i = [] := by simp [rowAt, List.getD, List.getElem?_eq_none h]
def mat (m : List (List UInt8)) : Mat := fun i j => co (rowAt m i) j
def wd (m : List (List UInt8)) : Nat := (rowAt m 0).length
/-- all rows have so many bytes -/
def allW (m : List (List UInt8)) (n : Nat) : Bool := m.all fun r => r.length == n
theorem allW_iff (m : List (List UInt8)) (n : Nat) : allW m n = true ↔ ∀ i, (h : i < m.length) → m[i].length = n := by
  unfold allW
  rw [List.all_eq_true]
  constructor
  · intro h i hi; simpa using h _ (List.getElem_mem hi)
  · intro h r hr
    obtain ⟨i, hi, rfl⟩ := List.mem_iff_getElem.1 hr
    simpa using h i hi
theorem allW_not {m : List (List UInt8)} {n i : Nat} (h : i < m.length) (hn : m[i].length ≠ n) : allW m n = false := by
  rcases hb : allW m n with _ | _
  · rfl
  · exact absurd ((allW_iff m n).1 hb i h) hn
theorem allW_take {m : List (List UInt8)} {n k : Nat} (hk : k < m.length) (h : allW (m.take k) n = true) (h2 : m[k].length = n) : allW (m.take (k + 1)) n = true := by
  unfold allW at h ⊢
  rw [List.take_succ_eq_append_getElem hk, List.all_append, h]
  simpa using h2
def width (m : List (List UInt8)) : Int := if m.length = 0 then 0 else if allW m (wd m) then wd m else -1
theorem width_nil : width [] = 0 := rfl
theorem width_of {m : List (List UInt8)} (h : allW m (wd m) = true) : width m = wd m := by
  unfold width
  split
  · rename_i h0
    have : m = [] := List.eq_nil_of_length_eq_zero h0
    subst this; rfl
  · first | rfl | rw [if_pos h]
theorem width_bad {m : List (List UInt8)} (h : allW m (wd m) = false) : width m = -1 := by
  unfold width
  rw [if_neg (by intro h0; have : m = [] := List.eq_nil_of_length_eq_zero h0; subst this; cases h), if_neg (by rw [h]; simp)]
theorem width_range (m : List (List UInt8)) : -1 ≤ width m ∧ width m ≤ wd m := by
  rcases h : allW m (wd m) with _ | _
  · rw [width_bad h]; omega
  · rw [width_of h]; omega
theorem map_take_succ {α : Type} (f : List UInt8 → α) (m : List (List UInt8)) (k : Nat) (h : k < m.length) : (m.take (k + 1)).map f = (m.take k).map f ++ [f m[k]] := by
  rw [List.take_succ_eq_append_getElem h, List.map_append]; rfl
theorem mat_map {f : List UInt8 → List UInt8} (_hf : f [] = [] ∨ True) (m : List (List UInt8)) (i : Nat) (h : i < m.length) : rowAt (m.map f) i = f (rowAt m i) := by
  rw [rowAt_get _ _ (by simpa using h), rowAt_get _ _ h, List.getElem_map]

/-! products -/
def dotc (r : List UInt8) (b : List (List UInt8)) (k : Nat) : UInt8 := xsum (fun j => mul (co r j) (mat b j k)) b.length
def mulRow (b : List (List UInt8)) (r : List UInt8) : List UInt8 := tab (wd b) (dotc r b)
def mulL (a b : List (List UInt8)) : List (List UInt8) := a.map (mulRow b)
def mulOk (a b : List (List UInt8)) : Bool := allW b (wd b) && allW a b.length
theorem mulL_len (a b : List (List UInt8)) : (mulL a b).length = a.length := by simp [mulL]
theorem mulRow_len (b : List (List UInt8)) (r : List UInt8) : (mulRow b r).length = wd b := by simp [mulRow]

/-! the unit matrix -/
def unitRow (n i : Nat) : List UInt8 := tab n (one i)
def unitTo (n k : Nat) : List (List UInt8) := (List.range k).map (unitRow n)
def unitL (n : Nat) : List (List UInt8) := unitTo n n
theorem unitTo_len (n k : Nat) : (unitTo n k).length = k := by simp [unitTo]
theorem unitTo_succ (n k : Nat) : unitTo n (k + 1) = unitTo n k ++ [unitRow n k] := by simp [unitTo, List.range_succ]
theorem unitRow_len (n i : Nat) : (unitRow n i).length = n := by simp [unitRow]
theorem unitL_len (n : Nat) : (unitL n).length = n := unitTo_len n n
theorem unitL_row (n i : Nat) (h : i < n) : rowAt (unitL n) i = unitRow n i := by
  rw [rowAt_get _ _ (by rw [unitL_len]; exact h)]
  simp [unitL, unitTo]
theorem mat_unit (n : Nat) : EqN n (mat (unitL n)) one := fun i j hi hj => by
  unfold mat; rw [unitL_row n i hi]; unfold unitRow; rw [co_tab, if_pos hj]
theorem unitL_all (n : Nat) : allW (unitL n) n = true := (allW_iff _ _).2 fun i h => by
  have h' : i < n := by rw [unitL_len] at h; exact h
  rw [← rowAt_get _ _ h, unitL_row n i h', unitRow_len]

/-! lists of lists of one size -/
def Sq (m : List (List UInt8)) (n : Nat) : Prop := m.length = n ∧ allW m n = true
theorem Sq.row {m : List (List UInt8)} {n : Nat} (h : Sq m n) {i : Nat} (hi : i < n) : (rowAt m i).length = n := by
  rw [rowAt_get _ _ (by rw [h.1]; exact hi)]; exact (allW_iff _ _).1 h.2 i (by rw [h.1]; exact hi)
theorem Sq.wd {m : List (List UInt8)} {n : Nat} (h : Sq m n) : wd m = n := by
  rcases Nat.eq_zero_or_pos n with h0 | h0
  · have : m = [] := List.eq_nil_of_length_eq_zero (by rw [h.1, h0])
    subst this; rw [h0]; rfl
  · exact h.row h0
theorem Sq.unit (n : Nat) : Sq (unitL n) n := ⟨unitL_len n, unitL_all n⟩
theorem Sq.ext {m m' : List (List UInt8)} {n : Nat} (h : Sq m n) (h' : Sq m' n) (e : EqN n (mat m) (mat m')) : m = m' := by
  refine List.ext_getElem (by rw [h.1, h'.1]) fun i h1 h2 => ?_
  have hi : i < n := by rw [h.1] at h1; exact h1
  rw [← rowAt_get _ _ h1, ← rowAt_get _ _ h2]
  refine list_ext (by rw [h.row hi, h'.row hi]) fun k => ?_
  by_cases hk : k < n
  · exact e i k hi hk
  · rw [co_ge _ _ (by rw [h.row hi]; omega), co_ge _ _ (by rw [h'.row hi]; omega)]
theorem Sq.mulOk {a b : List (List UInt8)} {n : Nat} (ha : Sq a n) (hb : Sq b n) : mulOk a b = true := by
  unfold MatM.mulOk; rw [hb.wd, hb.2, hb.1, ha.2]; rfl
theorem Sq.mul {a b : List (List UInt8)} {n : Nat} (ha : Sq a n) (hb : Sq b n) : Sq (mulL a b) n := by
  refine ⟨by rw [mulL_len, ha.1], (allW_iff _ _).2 fun i h => ?_⟩
  simp only [mulL, List.getElem_map]
  rw [mulRow_len, hb.wd]
theorem Sq.mat_mul {a b : List (List UInt8)} {n : Nat} (ha : Sq a n) (hb : Sq b n) : EqN n (mat (mulL a b)) (mm n (mat a) (mat b)) := fun i j hi hj => by
  unfold mat mulL
  rw [mat_map (.inr trivial) _ _ (by rw [ha.1]; exact hi)]
  unfold mulRow
  rw [co_tab, if_pos (by rw [hb.wd]; exact hj)]
  unfold dotc
  rw [hb.1]; rfl
theorem Sq.undo {a b : List (List UInt8)} {n : Nat} (ha : Sq a n) (hb : Sq b n) (h : Undo n (mat a) (mat b)) : mulL a b = unitL n ∧ mulL b a = unitL n :=
  ⟨(ha.mul hb).ext (Sq.unit n) ((ha.mat_mul hb).trans (h.1.trans (mat_unit n).symm)), (hb.mul ha).ext (Sq.unit n) ((hb.mat_mul ha).trans (h.2.trans (mat_unit n).symm))⟩

/-! without the first row and a column -/
def cutCol (k : Nat) (r : List UInt8) : List UInt8 := r.take k ++ r.drop (k + 1)
def withoutL (a : List (List UInt8)) (k : Nat) : List (List UInt8) := (a.drop 1).map (cutCol k)
theorem cutCol_len (k : Nat) (r : List UInt8) (h : k < r.length) : (cutCol k r).length = r.length - 1 := by simp [cutCol]; omega
theorem co_cutCol (k : Nat) (r : List UInt8) (h : k < r.length) (j : Nat) : co (cutCol k r) j = co r (skip k j) := by
  unfold cutCol skip co
  by_cases hj : j < k
  · rw [if_pos hj]
    simp only [List.getD]
    rw [List.getElem?_append_left (by simp; omega), List.getElem?_take, if_pos hj]
  · rw [if_neg hj]
    simp only [List.getD]
    rw [List.getElem?_append_right (by simp; omega), List.getElem?_drop, List.length_take, Nat.min_eq_left (by omega)]
    congr 2; omega
theorem withoutL_len (a : List (List UInt8)) (k : Nat) : (withoutL a k).length = a.length - 1 := by simp [withoutL]
theorem Sq.without {a : List (List UInt8)} {n : Nat} (h : Sq a (n + 1)) {k : Nat} (hk : k < n + 1) : Sq (withoutL a k) n := by
  refine ⟨by rw [withoutL_len, h.1]; rfl, (allW_iff _ _).2 fun i hi => ?_⟩
  have hi' : i + 1 < a.length := by rw [withoutL_len] at hi; omega
  have hr : a[1 + i].length = n + 1 := (allW_iff _ _).1 h.2 (1 + i) (by omega)
  simp only [withoutL, List.getElem_map, List.getElem_drop]
  rw [cutCol_len _ _ (by rw [hr]; exact hk), hr]; rfl
theorem Sq.mat_without {a : List (List UInt8)} {n : Nat} (h : Sq a (n + 1)) {k : Nat} (hk : k < n + 1) : EqN n (mat (withoutL a k)) (minor (mat a) k) := fun i j hi _ => by
  have hi' : i + 1 < a.length := by rw [h.1]; omega
  unfold mat minor
  rw [rowAt_get _ _ (by rw [withoutL_len, h.1]; exact hi)]
  simp only [withoutL, List.getElem_map, List.getElem_drop]
  have hr : a[1 + i].length = n + 1 := (allW_iff _ _).1 h.2 (1 + i) (by omega)
  rw [co_cutCol _ _ (by rw [hr]; exact hk), rowAt_get _ _ hi']
  simp only [Nat.add_comm 1 i]
theorem det_sq {a : List (List UInt8)} {n : Nat} (h : Sq a (n + 1)) : det (n + 1) (mat a) = xsum (fun k => mul (co (rowAt a 0) k) (det n (mat (withoutL a k)))) (n + 1) := by
  rw [show det (n + 1) (mat a) = xsum (fun k => mul (mat a 0 k) (det n (minor (mat a) k))) (n + 1) from rfl]
  exact xsum_congr _ fun k hk => by rw [det_congr (h.mat_without hk)]; rfl
def withoutTo (a : List (List UInt8)) (k j : Nat) : List (List UInt8) := ((a.drop 1).take (j - 1)).map (cutCol k)
theorem withoutTo_one (a : List (List UInt8)) (k : Nat) : withoutTo a k 1 = [] := by simp [withoutTo]
theorem withoutTo_succ (a : List (List UInt8)) (k j : Nat) (h0 : 1 ≤ j) (h : j < a.length) : withoutTo a k (j + 1) = withoutTo a k j ++ [cutCol k a[j]] := by
  obtain ⟨i, rfl⟩ : ∃ i, j = i + 1 := ⟨j - 1, by omega⟩
  unfold withoutTo
  simp only [Nat.add_sub_cancel]
  rw [map_take_succ _ _ _ (show i < (a.drop 1).length by simp; omega)]
  simp only [List.getElem_drop, Nat.add_comm 1 i]
theorem withoutTo_done (a : List (List UInt8)) (k : Nat) : withoutTo a k a.length = withoutL a k := by
  unfold withoutTo withoutL
  rw [List.take_of_length_le (by simp)]
theorem withoutTo_len (a : List (List UInt8)) (k j : Nat) : (withoutTo a k j).length ≤ j := by simp [withoutTo]; omega
end Go.Proofs.Ytjoocjkakgjgmaa.MatM
