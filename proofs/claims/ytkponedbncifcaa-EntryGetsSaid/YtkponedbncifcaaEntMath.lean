/- layer 18's answers, plain -/
import Derived.Test.YtkponedbncifcaaSupMath
set_option maxRecDepth 100000
namespace Go.Proofs.Ytkponedbncifcaa.EntM
open SecM PackM CrcM SupM

/-- a change of a sector: where, and its new bytes (none: it becomes clear) -/
structure Ch where
  at_ : Int
  data : List UInt8
deriving DecidableEq
def item (c : Ch) : List UInt8 := be 2 c.at_.toNat ++ (if c.data = [] then [0] else 1 :: c.data)
def items (l : List Ch) : List UInt8 := (l.map item).flatten
def text (l : List Ch) : List UInt8 := be 2 l.length ++ items l
theorem items_nil : items [] = [] := rfl
theorem items_cons (c : Ch) (l : List Ch) : items (c :: l) = item c ++ items l := rfl
theorem items_snoc (l : List Ch) (c : Ch) : items (l ++ [c]) = items l ++ item c := by unfold items; simp
def okAt (a : Int) : Prop := a = 0 ∨ (34 ≤ a ∧ a ≤ 511)
instance (a : Int) : Decidable (okAt a) := by unfold okAt; infer_instance
def okData (d : List UInt8) : Prop := d.length = 0 ∨ d.length = 64
instance (d : List UInt8) : Decidable (okData d) := by unfold okData; infer_instance
/-- changes that may be -/
structure May (l : List Ch) : Prop where
  at_ : ∀ c ∈ l, okAt c.at_
  nodup : (l.map Ch.at_).Nodup
  data : ∀ c ∈ l, okData c.data
  fit : (text l).length ≤ 1856
/-- a change that a text tells -/
def Plain (c : Ch) : Prop := 0 ≤ c.at_ ∧ c.at_ < 65536 ∧ okData c.data
theorem May.plain {l : List Ch} (h : May l) : ∀ c ∈ l, Plain c := fun c hc => by
  have h1 := h.at_ c hc
  unfold okAt at h1
  exact ⟨by omega, by omega, h.data c hc⟩
theorem item_len (c : Ch) : 3 ≤ (item c).length := by
  unfold item; rw [List.length_append, be_len]; split
  · simp
  · rw [List.length_cons]; omega
theorem items_len (l : List Ch) : 3 * l.length ≤ (items l).length := by
  induction l with
  | nil => simp [items]
  | cons c l ih => rw [items_cons, List.length_append, List.length_cons]; have := item_len c; omega
theorem May.few {l : List Ch} (h : May l) : l.length ≤ 618 := by
  have h1 := h.fit
  have h2 := items_len l
  unfold text at h1
  rw [List.length_append, be_len] at h1
  omega

/-- one change is read -/
def rd1 (b : List UInt8) : Option (Ch × List UInt8) :=
  if b.length < 3 then none
  else if (b.drop 2).headD 0 = 1 then (if b.length < 67 then none else some (⟨val (b.take 2), (b.drop 3).take 64⟩, b.drop 67))
  else some (⟨val (b.take 2), []⟩, b.drop 3)
def rdN : Nat → List UInt8 → Option (List Ch)
  | 0, _ => some []
  | n + 1, b => match rd1 b with
    | none => none
    | some (c, r) => (rdN n r).map (c :: ·)
theorem rd1_item (c : Ch) (h : Plain c) (r : List UInt8) : rd1 (item c ++ r) = some (c, r) := by
  obtain ⟨a, d⟩ := c
  obtain ⟨h0, h1, h2⟩ := h
  simp only at h0 h1 h2
  have hv : ((val (be 2 a.toNat) : Nat) : Int) = a := by
    rw [val_be, Nat.mod_eq_of_lt (by show a.toNat < 65536; omega)]; omega
  unfold rd1 item
  simp only
  by_cases hd : d = []
  · subst hd
    rw [if_pos rfl]
    have hl : (be 2 a.toNat ++ [0] ++ r).length = 3 + r.length := by simp [be_len]; omega
    have h2 : ((be 2 a.toNat ++ [0] ++ r).drop 2) = 0 :: r := by rw [List.append_assoc, List.drop_left' (be_len 2 _)]; rfl
    have h3 : ((be 2 a.toNat ++ [0] ++ r).drop 3) = r := by
      rw [show (3 : Nat) = 2 + 1 from rfl, ← List.drop_drop, h2]; rfl
    have ht : ((be 2 a.toNat ++ [0] ++ r).take 2) = be 2 a.toNat := by rw [List.append_assoc, List.take_left' (be_len 2 _)]
    rw [hl, if_neg (by omega), h2, h3, ht, hv, if_neg (by simp)]
  · rw [if_neg hd]
    have h64 : d.length = 64 := by
      rcases h2 with h2 | h2
      · exact absurd (List.eq_nil_of_length_eq_zero h2) hd
      · exact h2
    have hl : (be 2 a.toNat ++ 1 :: d ++ r).length = 67 + r.length := by simp [be_len]; omega
    have h2 : ((be 2 a.toNat ++ 1 :: d ++ r).drop 2) = 1 :: (d ++ r) := by rw [List.append_assoc, List.drop_left' (be_len 2 _)]; rfl
    have h3 : ((be 2 a.toNat ++ 1 :: d ++ r).drop 3) = d ++ r := by
      rw [show (3 : Nat) = 2 + 1 from rfl, ← List.drop_drop, h2]; rfl
    have h67 : ((be 2 a.toNat ++ 1 :: d ++ r).drop 67) = r := by
      rw [show (67 : Nat) = 3 + 64 from rfl, ← List.drop_drop, h3, List.drop_left' h64]
    have ht : ((be 2 a.toNat ++ 1 :: d ++ r).take 2) = be 2 a.toNat := by rw [List.append_assoc, List.take_left' (be_len 2 _)]
    rw [hl, if_neg (by omega), h2, h3, h67, ht, hv, List.headD_cons, if_pos rfl, if_neg (by omega), List.take_left' h64]
theorem rdN_items (l : List Ch) (h : ∀ c ∈ l, Plain c) (r : List UInt8) : rdN l.length (items l ++ r) = some l := by
  induction l with
  | nil => rfl
  | cons c l ih =>
    rw [items_cons, List.append_assoc, List.length_cons]
    unfold rdN
    rw [rd1_item c (h c (by simp))]
    simp only
    rw [ih (fun c hc => h c (by simp [hc]))]
    rfl
/-- what a text says -/
def rd (b : List UInt8) : Option (List Ch) := if b.length < 2 then none else rdN (val (b.take 2)) (b.drop 2)
theorem rd_text (l : List Ch) (h : ∀ c ∈ l, Plain c) (hl : l.length < 65536) (r : List UInt8) : rd (text l ++ r) = some l := by
  unfold rd text
  have hlen : (be 2 l.length ++ items l ++ r).length = 2 + (items l).length + r.length := by rw [List.length_append, List.length_append, be_len]
  rw [hlen, if_neg (by omega), List.append_assoc, List.take_left' (be_len 2 _), List.drop_left' (be_len 2 _), val_be, Nat.mod_eq_of_lt (by show l.length < 65536; omega)]
  exact rdN_items l h r
theorem text_inj {l m : List Ch} (hl : May l) (hm : May m) (h : text l = text m) : l = m := by
  have h1 := rd_text l hl.plain (by have := hl.few; omega) []
  have h2 := rd_text m hm.plain (by have := hm.few; omega) []
  rw [h, h2] at h1
  injection h1 with h1
  exact h1.symm

/-! sectors -/
def bodies (b : List UInt8) : Nat := (b.length + 57) / 58
def chunk (b : List UInt8) (i : Nat) : List UInt8 := (b.drop (58 * i)).take 58
def head_ (b : List UInt8) : List UInt8 := [106, UInt8.ofNat (bodies b)] ++ (be 2 b.length ++ be 4 (sum b))
def body_ (b : List UInt8) (i : Nat) : List UInt8 := [98, UInt8.ofNat i] ++ chunk b i
def putB (b : List UInt8) : List (List UInt8) := sec (head_ b) :: (List.range (bodies b)).map fun i => sec (body_ b i)
def put (l : List Ch) : List (List UInt8) := putB (text l)
theorem chunk_len (b : List UInt8) (i : Nat) : (chunk b i).length ≤ 58 := by unfold chunk; rw [List.length_take]; omega
theorem head_len (b : List UInt8) : (head_ b).length = 8 := by unfold head_; simp [be_len]
theorem body_len (b : List UInt8) (i : Nat) : (body_ b i).length ≤ 60 := by unfold body_; have := chunk_len b i; simp; omega
theorem putB_len (b : List UInt8) : (putB b).length = bodies b + 1 := by unfold putB; simp
theorem put_rows (b : List UInt8) : ∀ s ∈ putB b, s.length = 64 := by
  intro s hs
  unfold putB at hs
  simp only [List.mem_cons, List.mem_map, List.mem_range] at hs
  rcases hs with rfl | ⟨i, _, rfl⟩
  · exact sec_len _ (by rw [head_len]; omega)
  · exact sec_len _ (body_len b i)
theorem sec_inj {l m : List UInt8} (hl : l.length ≤ 60) (hm : m.length ≤ 60) (h : sec l = sec m) : pad l = pad m := by
  rw [← sec_take l hl, ← sec_take m hm, h]
theorem chunks_all (b : List UInt8) : ((List.range (bodies b)).map (chunk b)).flatten = b := by
  have key : ∀ n, ((List.range n).map (chunk b)).flatten = b.take (58 * n) := by
    intro n
    induction n with
    | zero => simp
    | succ n ih =>
      rw [List.range_succ, List.map_append, List.flatten_append, ih]
      simp only [List.map_cons, List.map_nil, List.flatten_cons, List.flatten_nil, List.append_nil]
      unfold chunk
      rw [show 58 * (n + 1) = 58 * n + 58 from by omega, List.take_add]
  rw [key]
  exact List.take_of_length_le (by unfold bodies; omega)
/-- what is behind the number of a body -/
theorem body_drop (b : List UInt8) (i : Nat) : (pad (body_ b i)).drop 2 = chunk b i ++ noughts (58 - (chunk b i).length) := by
  unfold pad body_
  simp only [List.cons_append, List.nil_append, List.length_cons, List.drop_succ_cons, List.drop_zero]
  congr 2; omega
theorem chunk_full (b : List UInt8) (i : Nat) (h : i + 1 < bodies b) : (chunk b i).length = 58 := by
  unfold bodies at h
  unfold chunk; rw [List.length_take, List.length_drop]; omega
/-- the bodies' bytes, read one behind the other, are the text, and noughts -/
theorem bodies_flat (b : List UInt8) : ∃ r, ((List.range (bodies b)).map fun i => (pad (body_ b i)).drop 2).flatten = b ++ r := by
  have key : ∀ n, n + 1 ≤ bodies b → ((List.range n).map fun i => (pad (body_ b i)).drop 2).flatten = ((List.range n).map (chunk b)).flatten := by
    intro n hn
    refine congrArg List.flatten (List.map_congr_left fun i hi => ?_)
    simp only [List.mem_range] at hi
    rw [body_drop, chunk_full b i (by omega)]
    simp [noughts]
  by_cases h0 : bodies b = 0
  · have : b = [] := List.eq_nil_of_length_eq_zero (by unfold bodies at h0; omega)
    subst this
    exact ⟨[], rfl⟩
  · obtain ⟨n, hn⟩ : ∃ n, bodies b = n + 1 := ⟨bodies b - 1, by omega⟩
    have ha := chunks_all b
    rw [hn] at ha ⊢
    rw [List.range_succ, List.map_append, List.flatten_append] at ha ⊢
    rw [key n (by omega)]
    simp only [List.map_cons, List.map_nil, List.flatten_cons, List.flatten_nil, List.append_nil] at ha ⊢
    rw [body_drop, ← List.append_assoc, ha]
    exact ⟨_, rfl⟩
/-- what sectors' bodies say, one behind the other: of all that are sealed, behind the first -/
def flat (ss : List (List UInt8)) : List UInt8 := ((ss.drop 1).map fun s => if opens s then s.drop 2 |>.take 58 else []).flatten
def Are (ss : List (List UInt8)) (l : List Ch) : Prop := May l ∧ put l <+: ss
theorem flat_put (b : List UInt8) (ss : List (List UInt8)) (h : putB b <+: ss) : ∃ r, flat ss = b ++ r := by
  obtain ⟨t, rfl⟩ := h
  obtain ⟨r, hr⟩ := bodies_flat b
  unfold flat putB
  rw [List.cons_append, List.drop_succ_cons, List.drop_zero, List.map_append, List.flatten_append, List.map_map]
  have e : ((List.range (bodies b)).map ((fun s => if opens s then s.drop 2 |>.take 58 else []) ∘ fun i => sec (body_ b i))) = (List.range (bodies b)).map fun i => (pad (body_ b i)).drop 2 := by
    refine List.map_congr_left fun i _ => ?_
    simp only [Function.comp]
    rw [sec_opens _ (body_len b i), if_pos rfl, ← sec_take _ (body_len b i), List.drop_take]
  rw [e, hr, List.append_assoc]
  exact ⟨_, rfl⟩
theorem Are.rd {ss : List (List UInt8)} {l : List Ch} (h : Are ss l) : rd (flat ss) = some l := by
  obtain ⟨r, hr⟩ := flat_put _ ss h.2
  rw [hr]
  exact rd_text l h.1.plain (by have := h.1.few; omega) r
theorem Are.one {ss : List (List UInt8)} {l m : List Ch} (h1 : Are ss l) (h2 : Are ss m) : l = m := by
  have := h1.rd
  rw [h2.rd] at this
  injection this with this
  exact this.symm
theorem Are.back {l : List Ch} (h : May l) (more : List (List UInt8)) : Are (put l ++ more) l := ⟨h, List.prefix_append _ _⟩
end Go.Proofs.Ytkponedbncifcaa.EntM
