/- layer 18's answers, plain: what is wrong, what a text says, whatever it is -/
import Derived.Test.YtkponedbncifcaaEntMath
import Derived.Test.YtkponedbncifcaaSupMathB
set_option maxRecDepth 100000
namespace Go.Proofs.Ytkponedbncifcaa.EntM
open SecM PackM CrcM SupM

/-! what is wrong with changes -/
def elsewhere (c : Ch) : Bool := decide (c.at_ ≠ 0 ∧ (c.at_ < 34 ∨ 511 < c.at_))
def torn (c : Ch) : Bool := decide (c.data.length ≠ 0 ∧ c.data.length ≠ 64)
def twiceAt (l : List Ch) : Bool := decide (¬ (l.map Ch.at_).Nodup)
def checkV (l : List Ch) : Int := if l.any elsewhere then 2 else if twiceAt l then 5 else if l.any torn then 3 else if 32 < bodies (text l) then 11 else 0
theorem elsewhere_iff (c : Ch) : elsewhere c = false ↔ okAt c.at_ := by
  unfold elsewhere okAt
  rw [decide_eq_false_iff_not]
  omega
theorem torn_iff (c : Ch) : torn c = false ↔ okData c.data := by
  unfold torn okData
  rw [decide_eq_false_iff_not]
  omega
theorem any_false {l : List Ch} {p : Ch → Bool} : l.any p = false ↔ ∀ c ∈ l, p c = false := by
  rw [List.any_eq_false]
  exact ⟨fun h c hc => by simpa using h c hc, fun h c hc => by simpa using h c hc⟩
theorem bodies_le (b : List UInt8) : ¬ 32 < bodies b ↔ b.length ≤ 1856 := by unfold bodies; omega
theorem checkV_may (l : List Ch) : checkV l = 0 ↔ May l := by
  unfold checkV
  constructor
  · intro h
    by_cases h1 : l.any elsewhere = true
    · rw [if_pos h1] at h; omega
    rw [if_neg h1] at h
    by_cases h2 : twiceAt l = true
    · rw [if_pos h2] at h; omega
    rw [if_neg h2] at h
    by_cases h3 : l.any torn = true
    · rw [if_pos h3] at h; omega
    rw [if_neg h3] at h
    by_cases h4 : 32 < bodies (text l)
    · rw [if_pos h4] at h; omega
    refine ⟨fun c hc => (elsewhere_iff c).1 (any_false.1 (by simpa using h1) c hc), ?_, fun c hc => (torn_iff c).1 (any_false.1 (by simpa using h3) c hc), (bodies_le _).1 h4⟩
    have : twiceAt l = false := by simpa using h2
    unfold twiceAt at this
    rw [decide_eq_false_iff_not] at this
    exact Classical.not_not.1 this
  · intro h
    have h1 : l.any elsewhere = false := any_false.2 fun c hc => (elsewhere_iff c).2 (h.at_ c hc)
    have h2 : twiceAt l = false := by unfold twiceAt; rw [decide_eq_false_iff_not]; exact fun k => k h.nodup
    have h3 : l.any torn = false := any_false.2 fun c hc => (torn_iff c).2 (h.data c hc)
    have h4 := (bodies_le _).2 h.fit
    rw [h1, h2, h3, if_neg (by decide), if_neg (by decide), if_neg (by decide), if_neg h4]
theorem checkV_range (l : List Ch) : 0 ≤ checkV l ∧ checkV l ≤ 11 := by
  unfold checkV
  repeat' split
  all_goals omega
/-- how long a text is, where data are right -/
theorem item_most (c : Ch) (h : okData c.data) : (item c).length ≤ 67 := by
  unfold item okData at *
  rw [List.length_append, be_len]
  split
  · simp
  · rw [List.length_cons]; omega
theorem items_most (l : List Ch) (h : ∀ c ∈ l, okData c.data) : (items l).length ≤ 67 * l.length := by
  induction l with
  | nil => simp [items]
  | cons c l ih =>
    rw [items_cons, List.length_append, List.length_cons]
    have h1 := item_most c (h c (by simp))
    have h2 := ih fun c hc => h c (by simp [hc])
    omega
theorem text_most (l : List Ch) (h : ∀ c ∈ l, okData c.data) : (text l).length ≤ 2 + 67 * l.length := by
  unfold text
  rw [List.length_append, be_len]
  have := items_most l h
  omega
theorem items_app (l m : List Ch) : items (l ++ m) = items l ++ items m := by unfold items; simp
theorem numB2 (n : Int) : numB 2 n = be 2 n.toNat := rfl
theorem numB1_zero : numB 1 0 = [0] := by decide
theorem numB1_one : numB 1 1 = [1] := by decide
theorem item_bare {c : Ch} (h : c.data = []) : item c = numB 2 c.at_ ++ [0] := by unfold item; rw [if_pos h, numB2]
theorem item_given {c : Ch} (h : c.data ≠ []) : item c = numB 2 c.at_ ++ [1] ++ c.data := by unfold item; rw [if_neg h, numB2]; simp
/-- what has been written when k changes are -/
def textTo (l : List Ch) (k : Nat) : List UInt8 := be 2 l.length ++ items (l.take k)
theorem textTo_zero (l : List Ch) : textTo l 0 = numB 2 (l.length : Int) := by unfold textTo; rw [List.take_zero, items_nil, List.append_nil, numB2]; rfl
theorem textTo_all (l : List Ch) : textTo l l.length = text l := by unfold textTo; rw [List.take_length]; rfl
theorem textTo_succ (l : List Ch) (k : Nat) (h : k < l.length) : textTo l (k + 1) = textTo l k ++ item l[k] := by
  unfold textTo; rw [List.take_succ_eq_append_getElem h, items_snoc, List.append_assoc]
theorem textTo_most (l : List Ch) (h : ∀ c ∈ l, okData c.data) (k : Nat) : (textTo l k).length ≤ 2 + 67 * l.length := by
  unfold textTo
  rw [List.length_append, be_len]
  have h1 := items_most (l.take k) fun c hc => h c (List.mem_of_mem_take hc)
  rw [List.length_take] at h1
  omega

/-! what a text says -/
def stp (b : List UInt8) (x : List Ch × St) : List Ch × St :=
  if numV b (numS b x.2 2) 1 = 1 then (x.1 ++ [⟨(numV b x.2 2 : Nat), rawL b (numS b (numS b x.2 2) 1) 64⟩], rawS b (numS b (numS b x.2 2) 1) 64)
  else (x.1 ++ [⟨(numV b x.2 2 : Nat), []⟩], numS b (numS b x.2 2) 1)
def saidTo (b : List UInt8) : Nat → List Ch × St
  | 0 => ([], numS b st0 2)
  | k + 1 => stp b (saidTo b k)
theorem stp_len (b : List UInt8) (x : List Ch × St) : (stp b x).1.length = x.1.length + 1 := by unfold stp; split <;> simp
theorem saidTo_len (b : List UInt8) (k : Nat) : (saidTo b k).1.length = k := by
  induction k with
  | zero => rfl
  | succ k ih => unfold saidTo; rw [stp_len, ih]
def Said (b : List UInt8) (l : List Ch) (bad : Bool) : Prop :=
  ∃ k, (saidTo b k).1 = l ∧ (saidTo b k).2.bad = bad ∧ k ≤ numV b st0 2 ∧ (∀ j, j < k → (saidTo b j).2.bad = false) ∧ (k = numV b st0 2 ∨ bad = true)
theorem numV_in (b : List UInt8) (k n : Nat) (h : k + wid n ≤ b.length) : numV b ⟨k, false⟩ n = val ((b.drop k).take (wid n)) := by
  unfold numV; rw [rawL_in b k (wid n) h]
theorem numS_in (b : List UInt8) (k n : Nat) (h : k + wid n ≤ b.length) : numS b ⟨k, false⟩ n = ⟨k + wid n, false⟩ := by
  unfold numS; rw [rawS_in b k (wid n) h]
theorem stp_item (c : Ch) (h : Plain c) (A r : List UInt8) (l : List Ch) : stp (A ++ (item c ++ r)) (l, ⟨A.length, false⟩) = (l ++ [c], ⟨A.length + (item c).length, false⟩) := by
  obtain ⟨a, d⟩ := c
  obtain ⟨h0, h1, h2⟩ := h
  simp only at h0 h1 h2
  have w2 : wid ((2 : Nat) : Int) = 2 := rfl
  have w1 : wid ((1 : Nat) : Int) = 1 := rfl
  have hv : ((val (be 2 a.toNat) : Nat) : Int) = a := by
    rw [val_be, Nat.mod_eq_of_lt (by show a.toNat < 65536; omega)]; omega
  have hB : (be 2 a.toNat).length = 2 := be_len 2 _
  by_cases hd : d = []
  · subst hd
    have hi : item ⟨a, []⟩ = be 2 a.toNat ++ [0] := by unfold item; rw [if_pos rfl]
    rw [hi]
    have hl : (A ++ (be 2 a.toNat ++ [0] ++ r)).length = A.length + 3 + r.length := by simp [hB]; omega
    have n1 : numV (A ++ (be 2 a.toNat ++ [0] ++ r)) ⟨A.length, false⟩ 2 = val (be 2 a.toNat) := by
      have := numV_in (A ++ (be 2 a.toNat ++ [0] ++ r)) A.length 2 (by rw [hl, w2]; omega)
      refine this.trans ?_
      rw [w2, List.drop_left' rfl, List.append_assoc, List.take_left' hB]
    have s1 : numS (A ++ (be 2 a.toNat ++ [0] ++ r)) ⟨A.length, false⟩ 2 = ⟨A.length + 2, false⟩ := numS_in _ A.length 2 (by rw [hl, w2]; omega)
    have hdr : (A ++ (be 2 a.toNat ++ [0] ++ r)).drop (A.length + 2) = 0 :: r := by
      rw [← List.drop_drop, List.drop_left' rfl, List.append_assoc, List.drop_left' hB]; rfl
    have n2 : numV (A ++ (be 2 a.toNat ++ [0] ++ r)) ⟨A.length + 2, false⟩ 1 = 0 := by
      have := numV_in (A ++ (be 2 a.toNat ++ [0] ++ r)) (A.length + 2) 1 (by rw [hl, w1]; omega)
      refine this.trans ?_
      rw [hdr]; rfl
    have s2 : numS (A ++ (be 2 a.toNat ++ [0] ++ r)) ⟨A.length + 2, false⟩ 1 = ⟨A.length + 2 + 1, false⟩ := numS_in _ (A.length + 2) 1 (by rw [hl, w1]; omega)
    unfold stp
    simp only
    rw [s1, n2, if_neg (by decide), n1, hv, s2]
    simp [hB] <;> omega
  · have h64 : d.length = 64 := by
      rcases h2 with h2 | h2
      · exact absurd (List.eq_nil_of_length_eq_zero h2) hd
      · exact h2
    have hi : item ⟨a, d⟩ = be 2 a.toNat ++ 1 :: d := by unfold item; rw [if_neg hd]
    rw [hi]
    have hl : (A ++ (be 2 a.toNat ++ 1 :: d ++ r)).length = A.length + 67 + r.length := by simp [hB, h64]; omega
    have n1 : numV (A ++ (be 2 a.toNat ++ 1 :: d ++ r)) ⟨A.length, false⟩ 2 = val (be 2 a.toNat) := by
      have := numV_in (A ++ (be 2 a.toNat ++ 1 :: d ++ r)) A.length 2 (by rw [hl, w2]; omega)
      refine this.trans ?_
      rw [w2, List.drop_left' rfl, List.append_assoc, List.take_left' hB]
    have s1 : numS (A ++ (be 2 a.toNat ++ 1 :: d ++ r)) ⟨A.length, false⟩ 2 = ⟨A.length + 2, false⟩ := numS_in _ A.length 2 (by rw [hl, w2]; omega)
    have hdr : (A ++ (be 2 a.toNat ++ 1 :: d ++ r)).drop (A.length + 2) = 1 :: (d ++ r) := by
      rw [← List.drop_drop, List.drop_left' rfl, List.append_assoc, List.drop_left' hB]; rfl
    have n2 : numV (A ++ (be 2 a.toNat ++ 1 :: d ++ r)) ⟨A.length + 2, false⟩ 1 = 1 := by
      have := numV_in (A ++ (be 2 a.toNat ++ 1 :: d ++ r)) (A.length + 2) 1 (by rw [hl, w1]; omega)
      refine this.trans ?_
      rw [hdr]; rfl
    have s2 : numS (A ++ (be 2 a.toNat ++ 1 :: d ++ r)) ⟨A.length + 2, false⟩ 1 = ⟨A.length + 2 + 1, false⟩ := numS_in _ (A.length + 2) 1 (by rw [hl, w1]; omega)
    have n3 : rawL (A ++ (be 2 a.toNat ++ 1 :: d ++ r)) ⟨A.length + 2 + 1, false⟩ 64 = d := by
      have := rawL_in (A ++ (be 2 a.toNat ++ 1 :: d ++ r)) (A.length + 2 + 1) 64 (by rw [hl]; omega)
      refine this.trans ?_
      rw [← List.drop_drop, hdr, List.drop_succ_cons, List.drop_zero, List.take_left' h64]
    have s3 : rawS (A ++ (be 2 a.toNat ++ 1 :: d ++ r)) ⟨A.length + 2 + 1, false⟩ 64 = ⟨A.length + 2 + 1 + 64, false⟩ := rawS_in _ (A.length + 2 + 1) 64 (by rw [hl]; omega)
    unfold stp
    simp only
    rw [s1, n2, if_pos rfl, n1, hv, s2, n3, s3]
    simp [hB, h64] <;> omega
theorem saidTo_text (m : List Ch) (hm : ∀ c ∈ m, Plain c) (_hl : m.length < 65536) (r : List UInt8) : ∀ k, k ≤ m.length → saidTo (text m ++ r) k = (m.take k, ⟨(textTo m k).length, false⟩) := by
  intro k
  induction k with
  | zero =>
    intro _
    unfold saidTo
    rw [textTo_zero, List.take_zero]
    have := numS_in (text m ++ r) 0 2 (by unfold text; simp [be_len]; show 0 + 2 ≤ _; omega)
    rw [show st0 = ⟨0, false⟩ from rfl]
    refine Prod.ext rfl (this.trans ?_)
    rw [numB_len]; rfl
  | succ k ih =>
    intro hk
    unfold saidTo
    rw [ih (by omega)]
    have e : text m ++ r = textTo m k ++ (item m[k] ++ (items (m.drop (k + 1)) ++ r)) := by
      rw [← textTo_all]
      unfold textTo
      rw [List.take_length]
      have e2 : items m = items (m.take k) ++ (item m[k] ++ items (m.drop (k + 1))) := by
        conv => lhs; rw [← List.take_append_drop k m, List.drop_eq_getElem_cons (by omega : k < m.length)]
        rw [items_app, items_cons]
      rw [e2]
      simp only [List.append_assoc]
    rw [e, stp_item m[k] (hm _ (List.getElem_mem _)), textTo_succ m k (by omega), List.take_succ_eq_append_getElem (by omega : k < m.length), List.length_append]
theorem said_text {m l : List Ch} {bad : Bool} (hm : ∀ c ∈ m, Plain c) (hl : m.length < 65536) (r : List UInt8) (h : Said (text m ++ r) l bad) : l = m ∧ bad = false := by
  have hn : numV (text m ++ r) st0 2 = m.length := by
    have := numV_in (text m ++ r) 0 2 (by unfold text; simp [be_len]; show 0 + 2 ≤ _; omega)
    refine this.trans ?_
    rw [List.drop_zero, show wid ((2 : Nat) : Int) = 2 from rfl]
    unfold text
    rw [List.append_assoc, List.take_left' (be_len 2 _), val_be, Nat.mod_eq_of_lt (by show m.length < 65536; omega)]
  obtain ⟨k, h1, h2, h3, h4, h5⟩ := h
  rw [hn] at h3 h5
  have hk := saidTo_text m hm hl r k h3
  rw [hk] at h1 h2
  simp only at h1 h2
  subst h2
  rcases h5 with h5 | h5
  · subst h5; rw [List.take_length] at h1; exact ⟨h1.symm, rfl⟩
  · cases h5

/-! the text in bodies -/
def hnum (s : List UInt8) : Nat := numV s (rawS s st0 1) 1
def piece_ (b : List UInt8) : List UInt8 := rawL b (rawS b st0 2) 58
def textIn : List (List UInt8) → List UInt8
  | [] => []
  | s :: rest => ((rest.take (hnum s)).map piece_).flatten
theorem hnum_lt (s : List UInt8) : hnum s < 256 := by
  unfold hnum numV
  have h1 := val_lt (rawL s (rawS s st0 1) (wid 1))
  have h2 := rawL_len s (rawS s st0 1) (wid 1)
  have h3 : ((wid 1 : Nat) : Int).toNat = 1 := rfl
  rw [h3] at h2
  refine Nat.lt_of_lt_of_le h1 ?_
  exact Nat.le_trans (Nat.pow_le_pow_right (by omega) h2) (by decide)
theorem piece_len (b : List UInt8) : (piece_ b).length ≤ 58 := rawL_len _ _ _
theorem piece_64 (b : List UInt8) (h : b.length = 64) : piece_ b = (b.drop 2).take 58 := by
  unfold piece_
  have e1 : rawS b st0 2 = ⟨2, false⟩ := rawS_in b 0 2 (by omega)
  rw [e1]
  exact rawL_in b 2 58 (by omega)
theorem hnum_head (b : List UInt8) (h : bodies b ≤ 255) : hnum (sec (head_ b)) = bodies b := by
  have hl : (sec (head_ b)).length = 64 := sec_len _ (by rw [head_len]; omega)
  unfold hnum
  have e1 : rawS (sec (head_ b)) st0 1 = ⟨1, false⟩ := rawS_in _ 0 1 (by omega)
  rw [e1]
  have e2 := numV_in (sec (head_ b)) 1 1 (by rw [hl]; show 1 + 1 ≤ 64; omega)
  refine e2.trans ?_
  have e3 : (sec (head_ b)).take 60 = pad (head_ b) := sec_take _ (by rw [head_len]; omega)
  have e4 : ((sec (head_ b)).drop 1).take 1 = (((sec (head_ b)).take 60).drop 1).take 1 := by
    rw [List.drop_take, List.take_take]; rfl
  rw [show wid ((1 : Nat) : Int) = 1 from rfl, e4, e3]
  unfold pad head_ val
  simp
  omega
/-- what the bodies of a text's sectors say: the text, and noughts -/
theorem textIn_put (b : List UInt8) (hb : bodies b ≤ 255) (ss : List (List UInt8)) (h : putB b <+: ss) : ∃ r, textIn ss = b ++ r := by
  obtain ⟨t, rfl⟩ := h
  obtain ⟨r, hr⟩ := bodies_flat b
  refine ⟨r, ?_⟩
  unfold putB
  rw [List.cons_append]
  show (((((List.range (bodies b)).map fun i => sec (body_ b i)) ++ t).take (hnum (sec (head_ b)))).map piece_).flatten = _
  rw [hnum_head b hb, List.take_left' (by simp), List.map_map]
  have e : ((List.range (bodies b)).map (piece_ ∘ fun i => sec (body_ b i))) = (List.range (bodies b)).map fun i => (pad (body_ b i)).drop 2 := by
    refine List.map_congr_left fun i _ => ?_
    simp only [Function.comp]
    rw [piece_64 _ (sec_len _ (body_len b i)), ← sec_take _ (body_len b i), List.drop_take]
  rw [e, hr]
theorem May.bodies {l : List Ch} (h : May l) : bodies (text l) ≤ 32 := by have := (bodies_le _).2 h.fit; omega
theorem put_length (l : List Ch) : (put l).length = bodies (text l) + 1 := putB_len _
/-- what is read of sectors that are changes' -/
theorem Are.said {ss : List (List UInt8)} {m l : List Ch} {bad : Bool} (h : Are ss m) (k : Said (textIn ss) l bad) : l = m := by
  obtain ⟨r, hr⟩ := textIn_put (text m) (by have := h.1.bodies; omega) ss h.2
  rw [hr] at k
  exact (said_text h.1.plain (by have := h.1.few; omega) r k).1
theorem Are.flat {ss : List (List UInt8)} {m l : List Ch} {bad : Bool} (h : Are ss m) (k : Said (flat ss) l bad) : l = m ∧ bad = false := by
  obtain ⟨r, hr⟩ := flat_put (text m) ss h.2
  rw [hr] at k
  exact said_text h.1.plain (by have := h.1.few; omega) r k
def Got (ss : List (List UInt8)) (l : List Ch) (ok : Bool) : Prop := (ok = true ∧ Are ss l) ∨ (ok = false ∧ l = [] ∧ ∀ m, ¬ Are ss m)
theorem Got.one {ss : List (List UInt8)} {l m : List Ch} {p q : Bool} (h : Got ss l p) (k : Got ss m q) : l = m ∧ p = q := by
  rcases h with ⟨rfl, h⟩ | ⟨rfl, rfl, h⟩ <;> rcases k with ⟨rfl, k⟩ | ⟨rfl, rfl, k⟩
  · exact ⟨h.one k, rfl⟩
  · exact absurd h (k _)
  · exact absurd k (h _)
  · exact ⟨rfl, rfl⟩
/-- what Put tells of any changes -/
def putV (l : List Ch) : List (List UInt8) := if checkV l = 0 then put l else []
theorem putV_may {l : List Ch} (h : May l) : putV l = put l := if_pos ((checkV_may l).2 h)
theorem putV_not {l : List Ch} (h : ¬ checkV l = 0) : putV l = [] := if_neg h
end Go.Proofs.Ytkponedbncifcaa.EntM
