/- plain mathematics of matrices of bytes: determinants by the first row, row operations, inverses -/
import Derived.Test.YtmeenipcfmeopaaLagrMath
set_option maxRecDepth 100000
namespace Go.Proofs.Ytmeenipcfmeopaa.MatM
open GfM PolyM LagrM

abbrev Mat := Nat → Nat → UInt8
/-- the same at all places of a square of n -/
def EqN (n : Nat) (a b : Mat) : Prop := ∀ i j, i < n → j < n → a i j = b i j
theorem EqN.refl (n : Nat) (a : Mat) : EqN n a a := fun _ _ _ _ => rfl
theorem EqN.symm {n : Nat} {a b : Mat} (h : EqN n a b) : EqN n b a := fun i j hi hj => (h i j hi hj).symm
theorem EqN.trans {n : Nat} {a b c : Mat} (h : EqN n a b) (k : EqN n b c) : EqN n a c := fun i j hi hj => (h i j hi hj).trans (k i j hi hj)

/-! sums of sums -/
theorem xsum_swap (f : Nat → Nat → UInt8) (m n : Nat) : xsum (fun i => xsum (fun j => f i j) n) m = xsum (fun j => xsum (fun i => f i j) m) n := by
  induction m with
  | zero => simp only [xsum]; exact (xsum_zero _ _ fun _ _ => rfl).symm
  | succ m ih => simp only [xsum]; rw [ih, xsum_add]
theorem xsum_mulr (f : Nat → UInt8) (c : UInt8) (n : Nat) : xsum (fun i => mul (f i) c) n = mul (xsum f n) c := by
  rw [mulc, ← xsum_mul]; exact xsum_congr _ fun i _ => mulc _ _
theorem xsum_pair (f : Nat → Nat → UInt8) (n : Nat) (h : ∀ k l, k ≤ l → l < n → f (l + 1) k = f k l) : xsum (fun k => xsum (fun l => f k l) n) (n + 1) = 0 := by
  induction n with
  | zero => simp only [xsum]; rw [add0]
  | succ n ih =>
    have e1 : xsum (fun k => xsum (fun l => f k l) (n + 1)) (n + 1) = add (xsum (fun k => xsum (fun l => f k l) n) (n + 1)) (xsum (fun k => f k n) (n + 1)) := by
      rw [← xsum_add]; rfl
    rw [xsum, e1, ih (fun k l h1 h2 => h k l h1 (by omega)), zadd, xsum_congr (n + 1) (fun k hk => (h k n (by omega) (by omega)).symm), adds]

/-! the determinant, by the first row -/
def skip (k j : Nat) : Nat := if j < k then j else j + 1
def minor (a : Mat) (k : Nat) : Mat := fun i j => a (i + 1) (skip k j)
def det : Nat → Mat → UInt8
  | 0, _ => 1
  | n + 1, a => xsum (fun k => mul (a 0 k) (det n (minor a k))) (n + 1)
theorem skip_lt {k j n : Nat} (hj : j < n) : skip k j < n + 1 := by unfold skip; split <;> omega
theorem minor_eqn {n : Nat} {a b : Mat} (h : EqN (n + 1) a b) (k : Nat) : EqN n (minor a k) (minor b k) :=
  fun i j hi hj => h (i + 1) (skip k j) (by omega) (skip_lt hj)
theorem det_congr {n : Nat} {a b : Mat} (h : EqN n a b) : det n a = det n b := by
  induction n generalizing a b with
  | zero => rfl
  | succ n ih =>
    unfold det
    exact xsum_congr _ fun k hk => by rw [h 0 k (by omega) hk, ih (minor_eqn h k)]
def setRow (a : Mat) (r : Nat) (u : Nat → UInt8) : Mat := fun i j => if i = r then u j else a i j
theorem setRow_same (a : Mat) (r : Nat) : setRow a r (a r) = a := by
  funext i j; unfold setRow; split
  · rename_i h; rw [h]
  · rfl
theorem setRow_at (a : Mat) (r : Nat) (u : Nat → UInt8) : setRow a r u r = u := by funext j; simp [setRow]
theorem setRow_ne (a : Mat) {r i : Nat} (u : Nat → UInt8) (h : i ≠ r) : setRow a r u i = a i := by funext j; simp [setRow, h]
theorem setRow_two (a : Mat) (r : Nat) (u v : Nat → UInt8) : setRow (setRow a r u) r v = setRow a r v := by
  funext i j; unfold setRow; split <;> rfl
theorem setRow_comm (a : Mat) {r s : Nat} (u v : Nat → UInt8) (h : r ≠ s) : setRow (setRow a r u) s v = setRow (setRow a s v) r u := by
  funext i j; unfold setRow; split
  · rename_i e; rw [if_neg (by omega)]
  · rfl
theorem minor_set0 (a : Mat) (u : Nat → UInt8) (k : Nat) : minor (setRow a 0 u) k = minor a k := by
  funext i j; unfold minor setRow; rw [if_neg (by omega)]
theorem minor_setS (a : Mat) (r : Nat) (u : Nat → UInt8) (k : Nat) : minor (setRow a (r + 1) u) k = setRow (minor a k) r (fun j => u (skip k j)) := by
  funext i j; unfold minor setRow
  by_cases h : i = r
  · rw [if_pos (by omega), if_pos h]
  · rw [if_neg (by omega), if_neg h]
theorem det_add (n : Nat) (a : Mat) (r : Nat) (hr : r < n) (u v : Nat → UInt8) : det n (setRow a r fun j => add (u j) (v j)) = add (det n (setRow a r u)) (det n (setRow a r v)) := by
  induction n generalizing a r u v with
  | zero => omega
  | succ n ih =>
    unfold det
    rw [← xsum_add]
    refine xsum_congr _ fun k _ => ?_
    rcases r with _ | r
    · rw [minor_set0, minor_set0, minor_set0, setRow_at, setRow_at, setRow_at, addmul]
    · rw [minor_setS, minor_setS, minor_setS, setRow_ne _ _ (by omega), setRow_ne _ _ (by omega), setRow_ne _ _ (by omega), ih _ r (by omega), muladd]
theorem det_mul (n : Nat) (a : Mat) (r : Nat) (hr : r < n) (c : UInt8) (u : Nat → UInt8) : det n (setRow a r fun j => mul c (u j)) = mul c (det n (setRow a r u)) := by
  induction n generalizing a r u with
  | zero => omega
  | succ n ih =>
    unfold det
    rw [← xsum_mul]
    refine xsum_congr _ fun k _ => ?_
    rcases r with _ | r
    · rw [minor_set0, minor_set0, setRow_at, setRow_at, mula]
    · rw [minor_setS, minor_setS, setRow_ne _ _ (by omega), setRow_ne _ _ (by omega), ih _ r (by omega), ← mula, mulc (a 0 k) c, mula]
theorem skip_skip {k l : Nat} (h : k ≤ l) (j : Nat) : skip (l + 1) (skip k j) = skip k (skip l j) := by
  unfold skip; repeat' split
  all_goals omega
theorem det_eq01 (n : Nat) (a : Mat) (h : ∀ j, j < n + 2 → a 0 j = a 1 j) : det (n + 2) a = 0 := by
  have e : det (n + 2) a = xsum (fun k => xsum (fun l => mul (mul (a 0 k) (a 1 (skip k l))) (det n (minor (minor a k) l))) (n + 1)) (n + 2) := by
    rw [det]
    refine xsum_congr _ fun k _ => ?_
    rw [det, ← xsum_mul]
    exact xsum_congr _ fun l _ => by rw [← mula]; rfl
  rw [e]
  refine xsum_pair _ (n + 1) fun k l hkl hl => ?_
  have e1 : minor (minor a (l + 1)) k = minor (minor a k) l := by
    funext i j; unfold minor; rw [skip_skip hkl]
  have e2 : skip (l + 1) k = k := by unfold skip; rw [if_pos (by omega)]
  have e3 : skip k l = l + 1 := by unfold skip; rw [if_neg (by omega)]
  rw [e1, e2, e3, h (l + 1) (by omega), ← h k (by omega), mulc (a 1 (l + 1))]
theorem det_eq (n : Nat) (a : Mat) (i j : Nat) (hij : i < j) (hj : j < n) (h : ∀ k, k < n → a i k = a j k) : det n a = 0 := by
  induction n generalizing a i j with
  | zero => omega
  | succ n ih =>
    have low : ∀ (b : Mat) (i j : Nat), 1 ≤ i → i < j → j < n + 1 → (∀ k, k < n + 1 → b i k = b j k) → det (n + 1) b = 0 := by
      intro b i j hi hij hj hb
      unfold det
      refine xsum_zero _ _ fun k hk => ?_
      rw [ih (minor b k) (i - 1) (j - 1) (by omega) (by omega) (fun m hm => by
        unfold minor; rw [show i - 1 + 1 = i from by omega, show j - 1 + 1 = j from by omega]; exact hb _ (skip_lt hm)), mul0]
    rcases i with _ | i
    · by_cases e : j = 1
      · subst e
        obtain ⟨m, rfl⟩ : ∃ m, n = m + 1 := ⟨n - 1, by omega⟩
        exact det_eq01 m a h
      · -- rows 1 and j may be exchanged
        have z := low (setRow (setRow a 1 fun k => add (a 1 k) (a j k)) j fun k => add (a 1 k) (a j k)) 1 j (Nat.le_refl _) (by omega) hj (fun k _ => by
          rw [setRow_at, setRow_ne _ _ (by omega), setRow_at])
        rw [det_add _ _ _ hj, setRow_comm _ _ _ (by omega : (1 : Nat) ≠ j), setRow_comm _ _ _ (by omega : (1 : Nat) ≠ j), det_add _ _ _ (by omega), det_add _ _ _ (by omega)] at z
        have z1 := low (setRow (setRow a j fun k => a 1 k) 1 fun k => a 1 k) 1 j (Nat.le_refl _) (by omega) hj (fun k _ => by
          rw [setRow_at, setRow_ne _ _ (by omega), setRow_at])
        have z2 := low (setRow (setRow a j fun k => a j k) 1 fun k => a j k) 1 j (Nat.le_refl _) (by omega) hj (fun k _ => by
          rw [setRow_at, setRow_ne _ _ (by omega), setRow_at])
        have z3 : det (n + 1) (setRow (setRow a j fun k => a 1 k) 1 fun k => a j k) = 0 := by
          obtain ⟨m, rfl⟩ : ∃ m, n = m + 1 := ⟨n - 1, by omega⟩
          refine det_eq01 m _ fun k hk => ?_
          rw [setRow_at, setRow_ne _ _ (by omega), setRow_ne _ _ (by omega)]
          exact h k hk
        have z4 : setRow (setRow a j fun k => a j k) 1 (fun k => a 1 k) = a := by
          rw [show (fun k => a j k) = a j from rfl, setRow_same]; exact setRow_same a 1
        rw [z1, z2, z3, z4, zadd, add0, zadd] at z
        exact z
    · exact low a (i + 1) j (by omega) hij hj h
theorem det_eq' (n : Nat) (a : Mat) (i j : Nat) (hij : i ≠ j) (hi : i < n) (hj : j < n) (h : ∀ k, k < n → a i k = a j k) : det n a = 0 := by
  rcases Nat.lt_or_ge i j with h1 | h1
  · exact det_eq n a i j h1 hj h
  · exact det_eq n a j i (by omega) hi fun k hk => (h k hk).symm

/-! what is done to rows -/
def swapR (a : Mat) (r s : Nat) : Mat := fun i => if i = r then a s else if i = s then a r else a i
def scaleR (a : Mat) (r : Nat) (c : UInt8) : Mat := setRow a r fun j => mul c (a r j)
def addR (a : Mat) (r s : Nat) (c : UInt8) : Mat := setRow a r fun j => add (a r j) (mul c (a s j))
theorem det_scaleR (n : Nat) (a : Mat) (r : Nat) (hr : r < n) (c : UInt8) : det n (scaleR a r c) = mul c (det n a) := by
  unfold scaleR; rw [det_mul _ _ _ hr, setRow_same]
theorem det_addR (n : Nat) (a : Mat) (r s : Nat) (hr : r < n) (hs : s < n) (hne : r ≠ s) (c : UInt8) : det n (addR a r s c) = det n a := by
  unfold addR
  rw [det_add _ _ _ hr, det_mul _ _ _ hr, det_eq' n (setRow a r fun j => a s j) r s hne hr hs (fun k _ => by rw [setRow_at, setRow_ne _ _ (Ne.symm hne)]), mul0, add0, setRow_same]
theorem swapR_self (a : Mat) (r : Nat) : swapR a r r = a := by
  funext i; unfold swapR; split
  · rename_i h; rw [h]
  · rfl
theorem swapR_adds (a : Mat) (r s : Nat) (hne : r ≠ s) : swapR a r s = addR (addR (addR a r s 1) s r 1) r s 1 := by
  funext i j
  unfold swapR addR setRow
  by_cases h1 : i = r
  · subst h1
    simp only [if_true, if_neg hne, if_neg (Ne.symm hne), one_mul]
    rw [addc (a s j), ← adda, adds, zadd]
  · by_cases h2 : i = s
    · subst h2
      simp only [if_true, if_neg h1, if_neg hne, one_mul]
      rw [addc (a r j) (a i j), ← adda, adds, zadd]
    · simp only [if_neg h1, if_neg h2]
theorem det_swapR (n : Nat) (a : Mat) (r s : Nat) (hr : r < n) (hs : s < n) : det n (swapR a r s) = det n a := by
  by_cases h : r = s
  · subst h; rw [swapR_self]
  · rw [swapR_adds a r s h, det_addR _ _ _ _ hr hs h, det_addR _ _ _ _ hs hr (Ne.symm h), det_addR _ _ _ _ hr hs h]

/-! the unit matrix; a block of noughts -/
def one : Mat := fun i j => if i = j then 1 else 0
theorem det_one (n : Nat) : det n one = 1 := by
  induction n with
  | zero => rfl
  | succ n ih =>
    unfold det
    rw [xsum_one _ _ 0 (by omega) (fun i _ h => by unfold one; rw [if_neg (by omega), zmul])]
    have : EqN n (minor one 0) one := fun i j _ _ => by
      unfold minor one skip
      rw [if_neg (by omega : ¬ j < 0)]
      by_cases h : i = j
      · rw [if_pos h, if_pos (by omega)]
      · rw [if_neg h, if_neg (by omega)]
    rw [det_congr this, ih, mul1]; rfl
/-- from row r on the columns ahead of z are noughts, and z is more than r: the determinant is 0 -/
theorem det_block (n : Nat) (a : Mat) (r z : Nat) (hrz : r < z) (hz : z ≤ n) (h : ∀ i j, r ≤ i → i < n → j < z → a i j = 0) : det n a = 0 := by
  induction n generalizing a r z with
  | zero => omega
  | succ n ih =>
    unfold det
    refine xsum_zero _ _ fun k hk => ?_
    rcases r with _ | r
    · by_cases hkz : k < z
      · rw [h 0 k (Nat.le_refl _) (by omega) hkz, zmul]
      · rw [ih (minor a k) 0 z hrz (by omega) (fun i j _ hi hj => by
          unfold minor skip; rw [if_pos (by omega)]; exact h (i + 1) j (by omega) (by omega) hj), mul0]
    · rw [ih (minor a k) r (z - 1) (by omega) (by omega) (fun i j h1 hi hj => by
        unfold minor skip
        split
        · exact h (i + 1) j (by omega) (by omega) (by omega)
        · exact h (i + 1) (j + 1) (by omega) (by omega) (by omega)), mul0]

/-! products -/
def mm (n : Nat) (a b : Mat) : Mat := fun i j => xsum (fun k => mul (a i k) (b k j)) n
theorem mm_assoc (n : Nat) (a b c : Mat) : mm n (mm n a b) c = mm n a (mm n b c) := by
  funext i j
  unfold mm
  rw [xsum_congr (g := fun k => xsum (fun l => mul (mul (a i l) (b l k)) (c k j)) n) n (fun k _ => (xsum_mulr _ _ _).symm), xsum_swap]
  refine xsum_congr _ fun l _ => ?_
  rw [← xsum_mul]
  exact xsum_congr _ fun k _ => mula _ _ _
theorem mm_congr {n : Nat} {a a' b b' : Mat} (h1 : EqN n a a') (h2 : EqN n b b') : EqN n (mm n a b) (mm n a' b') := fun i j hi hj =>
  xsum_congr _ fun k hk => by rw [h1 i k hi hk, h2 k j hk hj]
theorem one_mm (n : Nat) (a : Mat) : EqN n (mm n one a) a := fun i j hi _ => by
  unfold mm
  rw [xsum_one _ _ i hi (fun k _ h => by unfold one; rw [if_neg (Ne.symm h), zmul])]
  unfold one; rw [if_pos rfl, one_mul]
theorem mm_one (n : Nat) (a : Mat) : EqN n (mm n a one) a := fun i j _ hj => by
  unfold mm
  rw [xsum_one _ _ j hj (fun k _ h => by unfold one; rw [if_neg h, mul0])]
  unfold one; rw [if_pos rfl, mul1]
theorem mm_setRow (n : Nat) (a b : Mat) (r : Nat) (u : Nat → UInt8) : mm n (setRow a r u) b = setRow (mm n a b) r fun j => xsum (fun k => mul (u k) (b k j)) n := by
  funext i j; unfold mm setRow
  split <;> rfl
theorem mm_scaleR (n : Nat) (a b : Mat) (r : Nat) (c : UInt8) : mm n (scaleR a r c) b = scaleR (mm n a b) r c := by
  unfold scaleR; rw [mm_setRow]; congr 1; funext j
  show _ = mul c (xsum _ n)
  rw [← xsum_mul]; exact xsum_congr _ fun k _ => mula _ _ _
theorem mm_addR (n : Nat) (a b : Mat) (r s : Nat) (c : UInt8) : mm n (addR a r s c) b = addR (mm n a b) r s c := by
  unfold addR; rw [mm_setRow]; congr 1; funext j
  show _ = add (xsum _ n) (mul c (xsum _ n))
  rw [← xsum_mul, ← xsum_add]
  exact xsum_congr _ fun k _ => by rw [addmul, mula]
theorem mm_swapR (n : Nat) (a b : Mat) (r s : Nat) : mm n (swapR a r s) b = swapR (mm n a b) r s := by
  funext i j; unfold mm swapR; split
  · rfl
  · split <;> rfl
theorem scaleR_back (a : Mat) (r : Nat) {c : UInt8} (hc : c ≠ 0) : scaleR (scaleR a r c) r (inv c) = a := by
  unfold scaleR
  rw [setRow_two, setRow_at]
  have : (fun j => mul (inv c) (mul c (a r j))) = a r := by
    funext j; rw [← mula, mulc (inv c), mul_inv_cancel hc, one_mul]
  rw [this, setRow_same]
theorem addR_back (a : Mat) {r s : Nat} (hne : r ≠ s) (c : UInt8) : addR (addR a r s c) r s c = a := by
  unfold addR
  rw [setRow_two, setRow_at, setRow_ne _ _ (Ne.symm hne)]
  have : (fun j => add (add (a r j) (mul c (a s j))) (mul c (a s j))) = a r := by
    funext j; rw [adda, adds, add0]
  rw [this, setRow_same]
theorem swapR_back (a : Mat) (r s : Nat) : swapR (swapR a r s) r s = a := by
  funext i; unfold swapR
  by_cases h1 : i = r
  · subst h1
    by_cases h2 : s = i
    · rw [if_pos rfl, if_pos h2]; rw [h2]
    · rw [if_pos rfl, if_neg h2, if_pos rfl]
  · by_cases h2 : i = s
    · rw [if_neg h1, if_pos h2, if_pos rfl, h2]
    · rw [if_neg h1, if_neg h2, if_neg h1, if_neg h2]
/-- two matrices undo each other -/
def Undo (n : Nat) (a b : Mat) : Prop := EqN n (mm n a b) one ∧ EqN n (mm n b a) one
theorem Undo.one (n : Nat) : Undo n one one := ⟨one_mm n _, one_mm n _⟩
/-- left is what right makes of a; right can be undone; noughts' determinants stay -/
structure Done (n : Nat) (a left right : Mat) : Prop where
  same : EqN n left (mm n right a)
  undo : ∃ b, Undo n right b
  det : det n left = 0 ↔ det n a = 0
theorem Done.start (n : Nat) (a : Mat) : Done n a a one := ⟨(one_mm n a).symm, ⟨_, Undo.one n⟩, Iff.rfl⟩
/-- a step: left and right by the same operation, which another one takes back -/
theorem Done.step {n : Nat} {a left right : Mat} (h : Done n a left right) (f g : Mat → Mat) (hf : ∀ x y, mm n (f x) y = f (mm n x y)) (hg : ∀ x y, mm n (g x) y = g (mm n x y))
    (hfc : ∀ x y, EqN n x y → EqN n (f x) (f y)) (hgc : ∀ x y, EqN n x y → EqN n (g x) (g y)) (hgf : ∀ x, g (f x) = x) (hfg : ∀ x, f (g x) = x) (hd : MatM.det n (f left) = 0 ↔ MatM.det n left = 0) : Done n a (f left) (f right) := by
  obtain ⟨b, h1, h2⟩ := h.undo
  refine ⟨?_, ⟨mm n b (g MatM.one), ?_, ?_⟩, hd.trans h.det⟩
  · rw [hf]; exact hfc _ _ h.same
  · rw [hf, ← mm_assoc]
    have e1 : EqN n (mm n (mm n right b) (g MatM.one)) (g MatM.one) := (mm_congr h1 (EqN.refl n _)).trans (one_mm n _)
    have := hfc _ _ e1
    rwa [hfg] at this
  · rw [mm_assoc]
    have e1 : EqN n (mm n (g MatM.one) (f right)) right := by
      rw [hg]
      have := hgc _ _ (one_mm n (f right))
      rwa [hgf] at this
    exact (mm_congr (EqN.refl n b) e1).trans h2
theorem setRow_eqn {n : Nat} {x y : Mat} (h : EqN n x y) (r : Nat) {u v : Nat → UInt8} (huv : ∀ j, j < n → u j = v j) : EqN n (setRow x r u) (setRow y r v) := fun i j hi hj => by
  unfold setRow; split
  · exact huv j hj
  · exact h i j hi hj
theorem scaleR_eqn {n : Nat} {x y : Mat} (h : EqN n x y) {r : Nat} (hr : r < n) (c : UInt8) : EqN n (scaleR x r c) (scaleR y r c) := setRow_eqn h r fun j hj => by rw [h r j hr hj]
theorem addR_eqn {n : Nat} {x y : Mat} (h : EqN n x y) {r s : Nat} (hr : r < n) (hs : s < n) (c : UInt8) : EqN n (addR x r s c) (addR y r s c) := setRow_eqn h r fun j hj => by rw [h r j hr hj, h s j hs hj]
theorem swapR_eqn {n : Nat} {x y : Mat} (h : EqN n x y) {r s : Nat} (hr : r < n) (hs : s < n) : EqN n (swapR x r s) (swapR y r s) := fun i j hi hj => by
  unfold swapR; split
  · exact h s j hs hj
  · split
    · exact h r j hr hj
    · exact h i j hi hj
theorem inv_inv {c : UInt8} (hc : c ≠ 0) : inv (inv c) = c := (inv_eq (by rw [mulc]; exact mul_inv_cancel hc)).symm
theorem inv_ne' {c : UInt8} (hc : c ≠ 0) : inv c ≠ 0 := fun h => by
  have := mul_inv_cancel hc; rw [h, mul0] at this; exact absurd this (by decide)
theorem Done.scale {n : Nat} {a left right : Mat} (h : Done n a left right) {r : Nat} (hr : r < n) {c : UInt8} (hc : c ≠ 0) : Done n a (scaleR left r c) (scaleR right r c) :=
  h.step (fun x => scaleR x r c) (fun x => scaleR x r (inv c)) (fun x y => mm_scaleR n x y r c) (fun x y => mm_scaleR n x y r (inv c)) (fun _ _ e => scaleR_eqn e hr c) (fun _ _ e => scaleR_eqn e hr _)
    (fun x => scaleR_back x r hc) (fun x => by have := scaleR_back x r (inv_ne' hc); rwa [inv_inv hc] at this) (by
      rw [det_scaleR _ _ _ hr, mul_eq_zero]; exact ⟨fun h => h.resolve_left hc, .inr⟩)
theorem Done.addR {n : Nat} {a left right : Mat} (h : Done n a left right) {r s : Nat} (hr : r < n) (hs : s < n) (hne : r ≠ s) (c : UInt8) : Done n a (MatM.addR left r s c) (MatM.addR right r s c) :=
  h.step (fun x => MatM.addR x r s c) (fun x => MatM.addR x r s c) (fun x y => mm_addR n x y r s c) (fun x y => mm_addR n x y r s c) (fun _ _ e => addR_eqn e hr hs c) (fun _ _ e => addR_eqn e hr hs c)
    (fun x => addR_back x hne c) (fun x => addR_back x hne c) (by rw [det_addR _ _ _ _ hr hs hne])
theorem Done.swap {n : Nat} {a left right : Mat} (h : Done n a left right) {r s : Nat} (hr : r < n) (hs : s < n) : Done n a (swapR left r s) (swapR right r s) :=
  h.step (fun x => swapR x r s) (fun x => swapR x r s) (fun x y => mm_swapR n x y r s) (fun x y => mm_swapR n x y r s) (fun _ _ e => swapR_eqn e hr hs) (fun _ _ e => swapR_eqn e hr hs)
    (fun x => swapR_back x r s) (fun x => swapR_back x r s) (by rw [det_swapR _ _ _ _ hr hs])
/-- when left is the unit matrix right is the inverse, in both orders -/
theorem Done.end {n : Nat} {a left right : Mat} (h : Done n a left right) (h1 : EqN n left one) : Undo n a right ∧ MatM.det n a ≠ 0 := by
  obtain ⟨b, h2, h3⟩ := h.undo
  have e1 : EqN n (mm n right a) one := h.same.symm.trans h1
  have e2 : EqN n a b := by
    have k1 : EqN n (mm n (mm n b right) a) a := (mm_congr h3 (EqN.refl n a)).trans (one_mm n a)
    rw [mm_assoc] at k1
    exact k1.symm.trans ((mm_congr (EqN.refl n b) e1).trans (mm_one n b))
  refine ⟨⟨(mm_congr e2 (EqN.refl n right)).trans h3, e1⟩, fun h0 => ?_⟩
  have := h.det.2 h0
  rw [det_congr h1, det_one] at this
  exact absurd this (by decide)
/-- the first c columns are done with -/
def Cols (n c : Nat) (a : Mat) : Prop := ∀ i j, i < n → j < c → a i j = one i j
/-- no row from c on has anything in column c: the determinant is 0, and a row of bytes that is not 0 is made 0 -/
theorem Done.stuck {n : Nat} {a left right : Mat} (h : Done n a left right) {c : Nat} (hc : c < n) (hcols : Cols n c left) (hz : ∀ i, c ≤ i → i < n → left i c = 0) : MatM.det n a = 0 :=
  h.det.1 (det_block n left c (c + 1) (by omega) (by omega) fun i j h1 h2 h3 => by
    by_cases e : j = c
    · subst e; exact hz i h1 h2
    · rw [hcols i j h2 (by omega)]; unfold one; rw [if_neg (by omega)])
def mv (n : Nat) (a : Mat) (x : Nat → UInt8) : Nat → UInt8 := fun i => xsum (fun k => mul (a i k) (x k)) n
theorem mv_mm (n : Nat) (a b : Mat) (x : Nat → UInt8) : mv n (mm n a b) x = mv n a (mv n b x) := by
  funext i
  have := congrFun (congrFun (mm_assoc n a b fun k _ => x k) i) 0
  exact this
theorem mv_congr {n : Nat} {a b : Mat} (h : EqN n a b) {x y : Nat → UInt8} (hx : ∀ k, k < n → x k = y k) {i : Nat} (hi : i < n) : mv n a x i = mv n b y i :=
  xsum_congr _ fun k hk => by rw [h i k hi hk, hx k hk]
theorem mv_one (n : Nat) (x : Nat → UInt8) {i : Nat} (hi : i < n) : mv n one x i = x i := one_mm n (fun k _ => x k) i i hi hi
theorem mv_zero (n : Nat) (a : Mat) (i : Nat) : mv n a (fun _ => 0) i = 0 := xsum_zero _ _ fun _ _ => mul0 _
theorem Done.kernel {n : Nat} {a left right : Mat} (h : Done n a left right) {c : Nat} (hc : c < n) (hcols : Cols n c left) (hz : ∀ i, c ≤ i → i < n → left i c = 0) :
    ∃ x : Nat → UInt8, x c = 1 ∧ (∀ i, i < n → mv n a x i = 0) := by
  obtain ⟨b, h2, h3⟩ := h.undo
  refine ⟨fun k => if k < c then left k c else if k = c then 1 else 0, by simp, ?_⟩
  have k1 : ∀ i, i < n → mv n left (fun k => if k < c then left k c else if k = c then 1 else 0) i = 0 := by
    intro i hi
    unfold mv
    have e : xsum (fun k => mul (left i k) (if k < c then left k c else if k = c then 1 else 0)) n
        = GfM.add (xsum (fun k => mul (left i k) (if k < c then left k c else 0)) n) (xsum (fun k => mul (left i k) (if k = c then 1 else 0)) n) := by
      rw [← xsum_add]
      refine xsum_congr _ fun k _ => ?_
      by_cases h1 : k < c
      · rw [if_pos h1, if_pos h1, if_neg (by omega), mul0, add0]
      · rw [if_neg h1, if_neg h1, mul0, zadd]
    have e2 : xsum (fun k => mul (left i k) (if k = c then 1 else 0)) n = left i c := by
      rw [xsum_one _ _ c hc (fun k _ hk => by rw [if_neg hk, mul0]), if_pos rfl, mul1]
    rw [e, e2]
    by_cases hic : i < c
    · have e3 : xsum (fun k => mul (left i k) (if k < c then left k c else 0)) n = left i c := by
        rw [xsum_one _ _ i hi (fun k _ hk => by
          by_cases h1 : k < c
          · rw [if_pos h1, hcols i k hi h1]; unfold MatM.one; rw [if_neg (Ne.symm hk), zmul]
          · rw [if_neg h1, mul0]), if_pos hic, hcols i i hi hic]
        unfold MatM.one; rw [if_pos rfl, one_mul]
      rw [e3, adds]
    · rw [xsum_zero _ _ (fun k hk => by
        by_cases h1 : k < c
        · rw [if_pos h1, hcols i k hi h1]; unfold MatM.one; rw [if_neg (by omega), zmul]
        · rw [if_neg h1, mul0]), hz i (by omega) hi, add0]
  intro i hi
  generalize hx : (fun k => if k < c then left k c else if k = c then (1 : UInt8) else 0) = x at *
  have k2 : ∀ i, i < n → mv n (mm n right a) x i = 0 := fun i hi => (mv_congr h.same.symm (fun _ _ => rfl) hi).trans (k1 i hi)
  have k3 : mv n (mm n b right) (mv n a x) i = 0 := by
    rw [mv_mm, ← mv_mm n right a x]
    rw [mv_congr (EqN.refl n b) k2 hi]; exact mv_zero n b i
  rw [mv_congr h3 (fun _ _ => rfl) hi, mv_one n _ hi] at k3
  exact k3
/-- a column more is done with: its own row has 1 there, the others 0 -/
theorem Cols.succ {n c : Nat} {a : Mat} (h : Cols n c a) (h1 : ∀ i, i < n → a i c = one i c) : Cols n (c + 1) a := fun i j hi hj => by
  by_cases e : j = c
  · subst e; exact h1 i hi
  · exact h i j hi (by omega)
theorem Cols.all {n : Nat} {a : Mat} (h : Cols n n a) : EqN n a one := h
theorem Cols.swapR {n c : Nat} {a : Mat} (h : Cols n c a) {r s : Nat} (hr : c ≤ r) (hs : c ≤ s) (hr2 : r < n) (hs2 : s < n) : Cols n c (swapR a r s) := fun i j hi hj => by
  unfold MatM.swapR
  by_cases e1 : i = r
  · rw [if_pos e1, h s j hs2 hj]; unfold MatM.one; rw [if_neg (by omega), if_neg (by omega)]
  · rw [if_neg e1]
    by_cases e2 : i = s
    · rw [if_pos e2, h r j hr2 hj]; unfold MatM.one; rw [if_neg (by omega), if_neg (by omega)]
    · rw [if_neg e2]; exact h i j hi hj
theorem Cols.scaleR {n c : Nat} {a : Mat} (h : Cols n c a) {r : Nat} (hr : c ≤ r) (hr2 : r < n) (x : UInt8) : Cols n c (scaleR a r x) := fun i j hi hj => by
  unfold MatM.scaleR setRow
  by_cases e1 : i = r
  · rw [if_pos e1]; show mul x (a r j) = _
    rw [h r j hr2 hj]; unfold MatM.one; rw [if_neg (by omega), if_neg (by omega), mul0]
  · rw [if_neg e1]; exact h i j hi hj
theorem Cols.addR {n c : Nat} {a : Mat} (h : Cols n c a) {r s : Nat} (hs : c ≤ s) (hr2 : r < n) (hs2 : s < n) (x : UInt8) : Cols n c (addR a r s x) := fun i j hi hj => by
  unfold MatM.addR setRow
  by_cases e1 : i = r
  · rw [if_pos e1]; show add (a r j) (mul x (a s j)) = _
    rw [h r j hr2 hj, h s j hs2 hj, e1]
    have : MatM.one s j = 0 := by unfold MatM.one; rw [if_neg (by omega)]
    rw [this, mul0, add0]
  · rw [if_neg e1]; exact h i j hi hj

/-! powers of bytes -/
def vand (xs : List UInt8) : Mat := fun i k => npow (co xs i) k
theorem vand_mv (xs p : List UInt8) {n : Nat} (hp : p.length ≤ n) (i : Nat) : mv n (vand xs) (co p) i = ev p (co xs i) := by
  rw [← ev_sum p (co xs i) hp]; exact xsum_congr _ fun k _ => mulc _ _
theorem vand_kernel {xs : List UInt8} (h : xs.Nodup) (x : Nat → UInt8) (hx : ∀ i, i < xs.length → mv xs.length (vand xs) x i = 0) (k : Nat) (hk : k < xs.length) : x k = 0 := by
  have hc : ∀ k, k < xs.length → co (tab xs.length x) k = x k := fun k hk => by rw [co_tab, if_pos hk]
  rw [← hc k hk]
  refine zero_of_roots xs.length (tab xs.length x) xs (by simp) h (Nat.le_refl _) (fun y hy => ?_) k
  have hy' : y ∈ xs.take xs.length := by rw [List.take_length]; exact hy
  obtain ⟨j, hj, rfl⟩ := (mem_take_co (Nat.le_refl _)).1 hy'
  rw [← vand_mv xs _ (n := xs.length) (by simp), ← hx j hj]
  exact mv_congr (EqN.refl _ _) hc hj
theorem vand_det {xs : List UInt8} {i j : Nat} (hi : i < xs.length) (hj : j < xs.length) (hne : i ≠ j) (e : co xs i = co xs j) : det xs.length (vand xs) = 0 :=
  det_eq' _ _ i j hne hi hj fun k _ => by unfold vand; rw [e]
theorem vand_dup {xs : List UInt8} (h : unl xs = false) : det xs.length (vand xs) = 0 := by
  have hn : ¬ ∀ i k, k < i → i < xs.length → co xs i ≠ co xs k := fun h' => by rw [unl_of h'] at h; cases h
  obtain ⟨i, hn⟩ := Classical.not_forall.1 hn
  obtain ⟨k, hn⟩ := Classical.not_forall.1 hn
  obtain ⟨h1, hn⟩ := Classical.not_forall.1 hn
  obtain ⟨h2, hn⟩ := Classical.not_forall.1 hn
  exact vand_det (i := i) (j := k) h2 (by omega) (by omega) (Classical.not_not.1 hn)
/-- the inverse of the powers tells the polynomial -/
theorem vand_back {xs : List UInt8} (h : xs.Nodup) (ys : List UInt8) {b : Mat} (hb : Undo xs.length (vand xs) b) {i : Nat} (hi : i < xs.length) : mv xs.length b (co ys) i = co (thr xs ys) i := by
  have e1 : ∀ j, j < xs.length → mv xs.length (vand xs) (co (thr xs ys)) j = co ys j := fun j hj => by
    rw [vand_mv xs (thr xs ys) (by rw [thr_len]; exact Nat.le_refl _), thr_ev h ys j hj]
  rw [← mv_congr (EqN.refl _ b) e1 hi, ← mv_mm, mv_congr hb.2 (fun _ _ => rfl) hi, mv_one _ _ hi]
end Go.Proofs.Ytmeenipcfmeopaa.MatM
