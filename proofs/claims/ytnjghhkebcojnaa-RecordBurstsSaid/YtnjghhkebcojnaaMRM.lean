/- merged: RecMath, RecMathB, RecMathC -/
import Derived.Test.YtnjghhkebcojnaaMMA
import Derived.Test.YtnjghhkebcojnaaLabelMath

/- layer 20's answers, plain -/
set_option maxRecDepth 100000
namespace Go.Proofs.Ytnjghhkebcojnaa.RecM
open SecM PackM CrcM SupM

/-- what a custodian has of a blob -/
structure Rc where
  K : Int
  nm : List UInt8
  A : Int
  E : Int
  M : Int
  S : Int
  sh : List UInt8
deriving DecidableEq
def num (n : Int) : Prop := 0 ≤ n ∧ n ≤ 4294967295
instance (n : Int) : Decidable (num n) := by unfold num; infer_instance
def Rc.kind (r : Rc) : Prop :=
  (r.K = 1 ∧ 0 < r.A ∧ r.E = r.A ∧ r.M = 0) ∨ ((r.K = 2 ∨ r.K = 5) ∧ 0 < r.A ∧ 0 < r.E ∧ 0 < r.M) ∨ (r.K = 3 ∧ 0 < r.A ∧ 0 < r.E ∧ 0 < r.M ∧ r.sh.length = 0) ∨
  (r.K = 4 ∧ r.A = 0 ∧ r.E = 0 ∧ 0 < r.M ∧ r.S = 0 ∧ r.sh.length = 0)
structure Rc.May (r : Rc) : Prop where
  a : num r.A
  e : num r.E
  m : num r.M
  nm : LabM.right r.nm = true
  s : 0 ≤ r.S ∧ r.S ≤ 240
  sh : r.sh.length ≤ 240
  kind : r.kind
def instMay (r : Rc) : Decidable r.May :=
  have : Decidable r.kind := by unfold Rc.kind; infer_instance
  decidable_of_iff (num r.A ∧ num r.E ∧ num r.M ∧ LabM.right r.nm = true ∧ (0 ≤ r.S ∧ r.S ≤ 240) ∧ r.sh.length ≤ 240 ∧ r.kind) ⟨fun h => ⟨h.1, h.2.1, h.2.2.1, h.2.2.2.1, h.2.2.2.2.1, h.2.2.2.2.2.1, h.2.2.2.2.2.2⟩, fun h => ⟨h.a, h.e, h.m, h.nm, h.s, h.sh, h.kind⟩⟩
instance (r : Rc) : Decidable r.May := instMay r
def Rc.right (r : Rc) : Bool := decide r.May
def role (k : Int) : Int := if k < 1 ∨ 5 < k then -1 else if k = 1 then 1 else if k = 5 then 2 else 0
def pieces (n : Nat) : Nat := (n + 47) / 48
def Rc.count (r : Rc) : Nat := 1 + pieces r.sh.length
def piece (s : List UInt8) (i : Nat) : List UInt8 := (s.drop (48 * i)).take 48
def Rc.head (r : Rc) : List UInt8 := [72, UInt8.ofNat r.K.toNat] ++ (LabM.putB r.nm ++ (be 4 r.A.toNat ++ (be 4 r.E.toNat ++ (be 4 r.M.toNat ++ (be 2 r.S.toNat ++ [UInt8.ofNat r.sh.length])))))
def Rc.body (r : Rc) (i : Nat) : List UInt8 := [66, UInt8.ofNat i, UInt8.ofNat r.K.toNat] ++ (be 4 r.A.toNat ++ (be 4 r.E.toNat ++ (UInt8.ofNat (piece r.sh i).length :: piece r.sh i)))
def Rc.put (r : Rc) : List (List UInt8) := sec r.head :: (List.range (pieces r.sh.length)).map fun i => sec (r.body i)
theorem piece_len (s : List UInt8) (i : Nat) : (piece s i).length ≤ 48 := by unfold piece; rw [List.length_take]; omega
theorem head_len (r : Rc) : r.head.length = 34 := by unfold Rc.head; simp [be_len, LabM.putB_len]
theorem body_len (r : Rc) (i : Nat) : (r.body i).length ≤ 60 := by unfold Rc.body; have := piece_len r.sh i; simp [be_len]; omega
theorem put_len (r : Rc) : r.put.length = r.count := by unfold Rc.put Rc.count; simp; omega
theorem put_rows (r : Rc) : ∀ s ∈ r.put, s.length = 64 := by
  intro s hs
  unfold Rc.put at hs
  simp only [List.mem_cons, List.mem_map, List.mem_range] at hs
  rcases hs with rfl | ⟨i, _, rfl⟩
  · exact sec_len _ (by rw [head_len]; omega)
  · exact sec_len _ (body_len r i)
theorem sec_drop (l : List UInt8) (h : l.length ≤ 60) : (sec l).take 60 = l ++ noughts (60 - l.length) := sec_take l h

/-- the share that bodies tell, read one behind the other -/
def gath : List (List UInt8) → Nat → List UInt8 → Option (List UInt8)
  | [], _, acc => some acc
  | s :: ss, long, acc => if acc.length < long then
      (if opens s = true ∧ (s.getD 11 0).toNat ≤ 48 ∧ (s.getD 11 0).toNat ≠ 0 then gath ss long (acc ++ (s.drop 12).take (s.getD 11 0).toNat) else none)
    else some acc
def rdR (ss : List (List UInt8)) : Option Rc :=
  match ss with
  | [] => none
  | h :: t =>
    if opens h = true ∧ LabM.getOk ((h.drop 2).take 17) = true then
      (gath t (val ((h.drop 33).take 1)) []).map fun sh =>
        ⟨(h.getD 1 0).toNat, LabM.nameAt ((h.drop 2).take 17), val ((h.drop 19).take 4), val ((h.drop 23).take 4), val ((h.drop 27).take 4), val ((h.drop 31).take 2), sh⟩
    else none
def Are (ss : List (List UInt8)) (r : Rc) : Prop := r.May ∧ r.put <+: ss
instance (ss : List (List UInt8)) (r : Rc) : Decidable (Are ss r) := by unfold Are; infer_instance
def getR (ss : List (List UInt8)) : Option Rc := match rdR ss with
  | none => none
  | some r => if Are ss r then some r else none

theorem sec_at (l : List UInt8) (h : l.length ≤ 60) (i n : Nat) (hi : i + n ≤ l.length) : ((sec l).drop i).take n = (l.drop i).take n := by
  have e := sec_drop l h
  have : ((sec l).drop i).take n = (((sec l).take 60).drop i).take n := by rw [List.drop_take, List.take_take]; congr 1; omega
  rw [this, e, List.drop_append_of_le_length (by omega), List.take_append_of_le_length (by rw [List.length_drop]; omega)]
theorem sec_getD (l : List UInt8) (h : l.length ≤ 60) (i : Nat) (hi : i < l.length) : (sec l).getD i 0 = l.getD i 0 := by
  have e := sec_drop l h
  have h1 : (sec l).getD i 0 = ((sec l).take 60).getD i 0 := by
    rw [List.getD_eq_getElem?_getD, List.getD_eq_getElem?_getD, List.getElem?_take, if_pos (by omega)]
  rw [h1, e, List.getD_eq_getElem?_getD, List.getElem?_append_left hi, List.getD_eq_getElem?_getD]
theorem val_be' (w n : Nat) (h : n < 256 ^ w) : val (be w n) = n := by rw [val_be, Nat.mod_eq_of_lt h]
theorem body_at (r : Rc) (i : Nat) : (r.body i).getD 11 0 = UInt8.ofNat (piece r.sh i).length ∧ (r.body i).drop 12 = piece r.sh i := by
  have e : r.body i = ([66, UInt8.ofNat i, UInt8.ofNat r.K.toNat] ++ be 4 r.A.toNat ++ be 4 r.E.toNat) ++ (UInt8.ofNat (piece r.sh i).length :: piece r.sh i) := by unfold Rc.body; simp
  have hl : ([66, UInt8.ofNat i, UInt8.ofNat r.K.toNat] ++ be 4 r.A.toNat ++ be 4 r.E.toNat).length = 11 := by simp [be_len]
  rw [e]
  constructor
  · rw [List.getD_eq_getElem?_getD, List.getElem?_append_right (by omega), hl]; rfl
  · rw [show (12 : Nat) = 11 + 1 from rfl, ← List.drop_drop, List.drop_left' hl]; rfl
theorem gath_bodies (r : Rc) (hr : r.May) (more : List (List UInt8)) : ∀ k, k ≤ pieces r.sh.length →
    gath (((List.range (pieces r.sh.length)).map fun i => sec (r.body i)).drop k ++ more) r.sh.length (r.sh.take (48 * k)) = some r.sh := by
  have hsh := hr.sh
  intro k hk
  obtain ⟨d, hd⟩ : ∃ d, pieces r.sh.length - k = d := ⟨_, rfl⟩
  induction d generalizing k with
  | zero =>
    obtain rfl : k = pieces r.sh.length := by omega
    have hfull : r.sh.take (48 * pieces r.sh.length) = r.sh := List.take_of_length_le (by unfold pieces; omega)
    rw [hfull, List.drop_of_length_le (by simp), List.nil_append]
    cases more with
    | nil => rfl
    | cons s ss => unfold gath; rw [if_neg (by omega)]
  | succ d ih =>
    have hk2 : k < pieces r.sh.length := by omega
    have hx : 48 * k < r.sh.length := by unfold pieces at hk2; omega
    rw [List.drop_eq_getElem_cons (by simp; exact hk2), List.cons_append]
    simp only [List.getElem_map, List.getElem_range]
    have hlt : (r.sh.take (48 * k)).length = 48 * k := by rw [List.length_take]; omega
    have hpl : (piece r.sh k).length = min 48 (r.sh.length - 48 * k) := by unfold piece; rw [List.length_take, List.length_drop]
    have hb := body_len r k
    obtain ⟨b1, b2⟩ := body_at r k
    have hbl : (r.body k).length = 12 + (piece r.sh k).length := by
      unfold Rc.body; simp [be_len]; omega
    have hn : ((sec (r.body k)).getD 11 0).toNat = (piece r.sh k).length := by
      rw [sec_getD _ hb 11 (by omega), b1]
      exact UInt8.toNat_ofNat_of_lt' (by simp only [UInt8.size]; omega)
    unfold gath
    rw [if_pos (by omega), if_pos ⟨sec_opens _ hb, by omega, by omega⟩, hn, sec_at _ hb 12 _ (by omega), b2, List.take_of_length_le (Nat.le_refl _)]
    have ht : r.sh.take (48 * k) ++ piece r.sh k = r.sh.take (48 * (k + 1)) := by
      unfold piece; rw [show 48 * (k + 1) = 48 * k + 48 from by omega, List.take_add]
    rw [ht]
    exact ih (k + 1) (by omega) (by omega)
theorem head_at (r : Rc) : r.head.getD 1 0 = UInt8.ofNat r.K.toNat ∧ (r.head.drop 2).take 17 = LabM.putB r.nm ∧ (r.head.drop 19).take 4 = be 4 r.A.toNat ∧ (r.head.drop 23).take 4 = be 4 r.E.toNat ∧
    (r.head.drop 27).take 4 = be 4 r.M.toNat ∧ (r.head.drop 31).take 2 = be 2 r.S.toNat ∧ (r.head.drop 33).take 1 = [UInt8.ofNat r.sh.length] := by
  have h17 := LabM.putB_len r.nm
  unfold Rc.head
  generalize LabM.putB r.nm = N at *
  have d2 : ∀ X : List UInt8, ([72, UInt8.ofNat r.K.toNat] ++ X).drop 2 = X := fun X => rfl
  have dd : ∀ (i : Nat) (X : List UInt8), ([72, UInt8.ofNat r.K.toNat] ++ X).drop (2 + i) = X.drop i := fun i X => by rw [← List.drop_drop]; rfl
  refine ⟨rfl, ?_, ?_, ?_, ?_, ?_, ?_⟩
  · rw [d2, List.take_left' h17]
  · rw [show (19 : Nat) = 2 + 17 from rfl, dd, List.drop_left' h17, List.take_left' (be_len 4 _)]
  · rw [show (23 : Nat) = 2 + (17 + 4) from rfl, dd, ← List.drop_drop, List.drop_left' h17, List.drop_left' (be_len 4 _), List.take_left' (be_len 4 _)]
  · rw [show (27 : Nat) = 2 + (17 + (4 + 4)) from rfl, dd, ← List.drop_drop, ← List.drop_drop, List.drop_left' h17, List.drop_left' (be_len 4 _), List.drop_left' (be_len 4 _), List.take_left' (be_len 4 _)]
  · rw [show (31 : Nat) = 2 + (17 + (4 + (4 + 4))) from rfl, dd, ← List.drop_drop, ← List.drop_drop, ← List.drop_drop, List.drop_left' h17, List.drop_left' (be_len 4 _), List.drop_left' (be_len 4 _), List.drop_left' (be_len 4 _), List.take_left' (be_len 2 _)]
  · rw [show (33 : Nat) = 2 + (17 + (4 + (4 + (4 + 2)))) from rfl, dd, ← List.drop_drop, ← List.drop_drop, ← List.drop_drop, ← List.drop_drop, List.drop_left' h17, List.drop_left' (be_len 4 _), List.drop_left' (be_len 4 _), List.drop_left' (be_len 4 _), List.drop_left' (be_len 2 _)]
    rfl
theorem Are.rd {ss : List (List UInt8)} {r : Rc} (h : Are ss r) : rdR ss = some r := by
  obtain ⟨hm, t, rfl⟩ := h
  have hh := head_len r
  obtain ⟨h1, h2, h3, h4, h5, h6, h7⟩ := head_at r
  have hK : 1 ≤ r.K ∧ r.K ≤ 5 := by have := hm.kind; unfold Rc.kind at this; omega
  have ha := hm.a; have he := hm.e; have hmm := hm.m; have hs := hm.s; have hsh := hm.sh
  unfold num at ha he hmm
  unfold Rc.put rdR
  simp only [List.cons_append]
  have hl : r.head.length ≤ 60 := by omega
  rw [sec_at _ hl 2 17 (by omega), sec_at _ hl 19 4 (by omega), sec_at _ hl 23 4 (by omega), sec_at _ hl 27 4 (by omega), sec_at _ hl 31 2 (by omega), sec_at _ hl 33 1 (by omega), sec_getD _ hl 1 (by omega), h1, h2, h3, h4, h5, h6, h7]
  obtain ⟨g1, g2⟩ := LabM.get_put hm.nm
  rw [if_pos ⟨sec_opens _ hl, g1⟩, g2]
  have hv : val [UInt8.ofNat r.sh.length] = r.sh.length := by
    show 256 * 0 + (UInt8.ofNat r.sh.length).toNat = _
    rw [UInt8.toNat_ofNat_of_lt' (by simp only [UInt8.size]; omega)]; omega
  have hg := gath_bodies r hm t 0 (Nat.zero_le _)
  rw [List.drop_zero, Nat.mul_zero, List.take_zero] at hg
  rw [hv, hg, val_be' 4 _ (by show r.A.toNat < 4294967296; omega), val_be' 4 _ (by show r.E.toNat < 4294967296; omega), val_be' 4 _ (by show r.M.toNat < 4294967296; omega), val_be' 2 _ (by show r.S.toNat < 65536; omega),
    UInt8.toNat_ofNat_of_lt' (by simp only [UInt8.size]; omega), Int.toNat_of_nonneg (by omega), Int.toNat_of_nonneg (by omega), Int.toNat_of_nonneg (by omega), Int.toNat_of_nonneg (by omega), Int.toNat_of_nonneg (by omega)]
  rfl
theorem getR_some {ss : List (List UInt8)} {r : Rc} : getR ss = some r ↔ Are ss r := by
  constructor
  · unfold getR
    intro h
    split at h
    · cases h
    · split at h
      · injection h with h; subst h; assumption
      · cases h
  · intro h
    unfold getR
    rw [h.rd]
    simp only
    rw [if_pos h]
theorem Are.one {ss : List (List UInt8)} {r x : Rc} (h1 : Are ss r) (h2 : Are ss x) : r = x := by
  have := getR_some.2 h1
  rw [getR_some.2 h2] at this
  injection this with this
  exact this.symm
theorem Are.back {r : Rc} (h : r.May) (more : List (List UInt8)) : Are (r.put ++ more) r := ⟨h, List.prefix_append _ _⟩
theorem put_inj {r x : Rc} (hr : r.May) (hx : x.May) (h : r.put = x.put) : r = x :=
  Are.one (ss := r.put) ⟨hr, List.prefix_refl _⟩ ⟨hx, by rw [h]; exact List.prefix_refl _⟩
/-- a body that is not sealed -/
theorem gath_bad (r : Rc) (hr : r.May) (j : Nat) (hj : j < pieces r.sh.length) (s' : List UInt8) (hs : opens s' = false) : ∀ k, k ≤ j →
    gath ((((List.range (pieces r.sh.length)).map fun i => sec (r.body i)).set j s').drop k) r.sh.length (r.sh.take (48 * k)) = none := by
  have hsh := hr.sh
  intro k hk
  obtain ⟨d, hd⟩ : ∃ d, j - k = d := ⟨_, rfl⟩
  induction d generalizing k with
  | zero =>
    obtain rfl : k = j := by omega
    have hx : 48 * k < r.sh.length := by unfold pieces at hj; omega
    have hlt : (r.sh.take (48 * k)).length = 48 * k := by rw [List.length_take]; omega
    rw [List.drop_eq_getElem_cons (by simp; exact hj), List.getElem_set_self]
    unfold gath
    rw [if_pos (by omega), if_neg (fun h => by rw [hs] at h; exact absurd h.1 (by simp))]
  | succ d ih =>
    have hk2 : k < pieces r.sh.length := by omega
    have hx : 48 * k < r.sh.length := by unfold pieces at hk2; omega
    rw [List.drop_eq_getElem_cons (by simp; exact hk2), List.getElem_set_ne (by omega)]
    simp only [List.getElem_map, List.getElem_range]
    have hlt : (r.sh.take (48 * k)).length = 48 * k := by rw [List.length_take]; omega
    have hpl : (piece r.sh k).length = min 48 (r.sh.length - 48 * k) := by unfold piece; rw [List.length_take, List.length_drop]
    have hb := body_len r k
    obtain ⟨b1, b2⟩ := body_at r k
    have hbl : (r.body k).length = 12 + (piece r.sh k).length := by
      unfold Rc.body; simp [be_len]; omega
    have hn : ((sec (r.body k)).getD 11 0).toNat = (piece r.sh k).length := by
      rw [sec_getD _ hb 11 (by omega), b1]
      exact UInt8.toNat_ofNat_of_lt' (by simp only [UInt8.size]; omega)
    unfold gath
    rw [if_pos (by omega), if_pos ⟨sec_opens _ hb, by omega, by omega⟩, hn, sec_at _ hb 12 _ (by omega), b2, List.take_of_length_le (Nat.le_refl _)]
    have ht : r.sh.take (48 * k) ++ piece r.sh k = r.sh.take (48 * (k + 1)) := by
      unfold piece; rw [show 48 * (k + 1) = 48 * k + 48 from by omega, List.take_add]
    rw [ht]
    exact ih (k + 1) (by omega) (by omega)
theorem getR_none {ss : List (List UInt8)} (h : rdR ss = none) : getR ss = none := by unfold getR; rw [h]
/-- of sectors of which one is not sealed any more nothing is read -/
theorem bad_none (r : Rc) (hr : r.May) (i : Nat) (hi : i < r.count) (s' : List UInt8) (hs : opens s' = false) : getR (r.put.set i s') = none := by
  refine getR_none ?_
  unfold Rc.count at hi
  unfold Rc.put
  cases i with
  | zero =>
    rw [List.set_cons_zero]
    unfold rdR
    simp only
    rw [if_neg (fun h => by rw [hs] at h; exact absurd h.1 (by simp))]
  | succ j =>
    rw [List.set_cons_succ]
    have hg := gath_bad r hr j (by omega) s' hs 0 (Nat.zero_le _)
    rw [List.drop_zero, Nat.mul_zero, List.take_zero] at hg
    have hl : r.head.length ≤ 60 := by rw [head_len]; omega
    have hh := head_len r
    obtain ⟨h1, h2, h3, h4, h5, h6, h7⟩ := head_at r
    have hsh := hr.sh
    have hv : val [UInt8.ofNat r.sh.length] = r.sh.length := by
      show 256 * 0 + (UInt8.ofNat r.sh.length).toNat = _
      rw [UInt8.toNat_ofNat_of_lt' (by simp only [UInt8.size]; omega)]; omega
    unfold rdR
    simp only
    rw [sec_at _ hl 33 1 (by omega), h7, hv, hg]
    simp
end Go.Proofs.Ytnjghhkebcojnaa.RecM

/- layer 20's answers, plain: what sectors say, whatever they are; what Get tells -/
set_option maxRecDepth 100000
namespace Go.Proofs.Ytnjghhkebcojnaa.RecM
open SecM PackM CrcM SupM

/-- what a record says, but for its share -/
structure Hd where
  K : Int
  s : ByteArray
  A : Int
  E : Int
  M : Int
  S : Int
def Hd.rc (h : Hd) (sh : List UInt8) : Rc := ⟨h.K, h.s.data.toList, h.A, h.E, h.M, h.S, sh⟩
def hd0 : Hd := ⟨0, ⟨#[]⟩, 0, 0, 0, 0⟩
theorem bytes_inj {a b : ByteArray} (h : a.data.toList = b.data.toList) : a = b := by
  obtain ⟨⟨a⟩⟩ := a
  obtain ⟨⟨b⟩⟩ := b
  simp only at h
  subst h
  rfl
theorem Hd.rc_inj {h k : Hd} {sh th : List UInt8} (e : h.rc sh = k.rc th) : h = k ∧ sh = th := by
  obtain ⟨K, s, A, E, M, S⟩ := h
  obtain ⟨K', s', A', E', M', S'⟩ := k
  unfold Hd.rc at e
  simp only [Rc.mk.injEq] at e
  obtain ⟨rfl, e2, rfl, rfl, rfl, rfl, rfl⟩ := e
  obtain rfl := bytes_inj e2
  exact ⟨rfl, rfl⟩
/-- a name as a text -/
def txt (l : List UInt8) : ByteArray := ⟨l.toArray⟩
def hdOf (r : Rc) : Hd := ⟨r.K, txt r.nm, r.A, r.E, r.M, r.S⟩
theorem hdOf_rc (r : Rc) : (hdOf r).rc r.sh = r := rfl

/-! what a head says -/
def q1 (b : List UInt8) : St := rawS b ⟨0, false⟩ 1
def q2 (b : List UInt8) : St := numS b (q1 b) 1
def q3 (b : List UInt8) : St := rawS b (q2 b) 17
def q4 (b : List UInt8) : St := numS b (q3 b) 4
def q5 (b : List UInt8) : St := numS b (q4 b) 4
def q6 (b : List UInt8) : St := numS b (q5 b) 4
def q7 (b : List UInt8) : St := numS b (q6 b) 2
def q8 (b : List UInt8) : St := numS b (q7 b) 1
def nameIn (b : List UInt8) (s : St) : ByteArray := if (rawL b s 17).length = 17 then LabM.getS (rawL b s 17) else ⟨#[]⟩
def saidH (b : List UInt8) : Hd := ⟨(numV b (q1 b) 1 : Nat), nameIn b (q2 b), (numV b (q3 b) 4 : Nat), (numV b (q4 b) 4 : Nat), (numV b (q5 b) 4 : Nat), (numV b (q6 b) 2 : Nat)⟩
def lenIn (b : List UInt8) : Nat := numV b (q7 b) 1
/-- what a body says -/
def pieceIn (b : List UInt8) : List UInt8 := textL b (rawS b ⟨0, false⟩ 11)
def saidB (l : List (List UInt8)) : List UInt8 := (l.map pieceIn).flatten
def saidHd : List (List UInt8) → Hd
  | [] => hd0
  | s :: _ => saidH s
def saidSh : List (List UInt8) → List UInt8
  | [] => []
  | s :: rest => saidB (rest.take (pieces (lenIn s)))
theorem numV_small (b : List UInt8) (s : St) (k : Int) : numV b s k < 256 ^ wid k := by
  unfold numV
  have h1 := val_lt (rawL b s (wid k))
  have h2 := rawL_len b s (wid k)
  rw [Int.toNat_natCast] at h2
  exact Nat.lt_of_lt_of_le h1 (Nat.pow_le_pow_right (by omega) h2)
theorem lenIn_lt (b : List UInt8) : lenIn b < 256 := numV_small b (q7 b) 1
theorem pieces_lenIn (b : List UInt8) : pieces (lenIn b) ≤ 6 := by have := lenIn_lt b; unfold pieces; omega
theorem pieceIn_len (b : List UInt8) : (pieceIn b).length ≤ 255 := by
  unfold pieceIn textL
  have h1 := rawL_len b (numS b (rawS b ⟨0, false⟩ 11) 1) (numV b (rawS b ⟨0, false⟩ 11) 1)
  have h2 : numV b (rawS b ⟨0, false⟩ 11) 1 < 256 := numV_small b (rawS b ⟨0, false⟩ 11) 1
  omega
theorem saidB_len (l : List (List UInt8)) : (saidB l).length ≤ 255 * l.length := by
  unfold saidB
  induction l with
  | nil => simp
  | cons s l ih =>
    rw [List.map_cons, List.flatten_cons, List.length_append, List.length_cons]
    have := pieceIn_len s
    omega
theorem saidB_take (l : List (List UInt8)) (k : Nat) (h : k < l.length) : saidB (l.take (k + 1)) = saidB (l.take k) ++ pieceIn l[k] := by
  unfold saidB; rw [List.take_succ_eq_append_getElem h, List.map_append, List.flatten_append]; simp
theorem saidSh_len (ss : List (List UInt8)) : (saidSh ss).length ≤ 1530 := by
  rcases ss with _ | ⟨s, rest⟩
  · simp [saidSh]
  · have h1 := saidB_len (rest.take (pieces (lenIn s)))
    have h2 := pieces_lenIn s
    rw [List.length_take] at h1
    show (saidB (rest.take (pieces (lenIn s)))).length ≤ 1530
    omega

/-! read it is what was put, whatever reads it -/
theorem numV_at (b : List UInt8) (k n : Nat) (h : k + wid n ≤ b.length) : numV b ⟨k, false⟩ n = val ((b.drop k).take (wid n)) := by
  unfold numV; rw [rawL_in b k (wid n) h]
theorem numS_at (b : List UInt8) (k n : Nat) (h : k + wid n ≤ b.length) : numS b ⟨k, false⟩ n = ⟨k + wid n, false⟩ := by
  unfold numS; rw [rawS_in b k (wid n) h]
theorem saidH_long (b : List UInt8) (h : 34 ≤ b.length) : saidH b = ⟨(val ((b.drop 1).take 1) : Nat), LabM.getS ((b.drop 2).take 17), (val ((b.drop 19).take 4) : Nat), (val ((b.drop 23).take 4) : Nat), (val ((b.drop 27).take 4) : Nat), (val ((b.drop 31).take 2) : Nat)⟩ ∧ lenIn b = val ((b.drop 33).take 1) := by
  have e1 : q1 b = ⟨1, false⟩ := rawS_in b 0 1 (by omega)
  have e2 : q2 b = ⟨2, false⟩ := by unfold q2; rw [e1]; exact numS_at b 1 1 (by show 1 + 1 ≤ _; omega)
  have e3 : q3 b = ⟨19, false⟩ := by unfold q3; rw [e2]; exact rawS_in b 2 17 (by omega)
  have e4 : q4 b = ⟨23, false⟩ := by unfold q4; rw [e3]; exact numS_at b 19 4 (by show 19 + 4 ≤ _; omega)
  have e5 : q5 b = ⟨27, false⟩ := by unfold q5; rw [e4]; exact numS_at b 23 4 (by show 23 + 4 ≤ _; omega)
  have e6 : q6 b = ⟨31, false⟩ := by unfold q6; rw [e5]; exact numS_at b 27 4 (by show 27 + 4 ≤ _; omega)
  have e7 : q7 b = ⟨33, false⟩ := by unfold q7; rw [e6]; exact numS_at b 31 2 (by show 31 + 2 ≤ _; omega)
  have n1 : numV b ⟨1, false⟩ 1 = val ((b.drop 1).take 1) := numV_at b 1 1 (by show 1 + 1 ≤ _; omega)
  have n3 : numV b ⟨19, false⟩ 4 = val ((b.drop 19).take 4) := numV_at b 19 4 (by show 19 + 4 ≤ _; omega)
  have n4 : numV b ⟨23, false⟩ 4 = val ((b.drop 23).take 4) := numV_at b 23 4 (by show 23 + 4 ≤ _; omega)
  have n5 : numV b ⟨27, false⟩ 4 = val ((b.drop 27).take 4) := numV_at b 27 4 (by show 27 + 4 ≤ _; omega)
  have n6 : numV b ⟨31, false⟩ 2 = val ((b.drop 31).take 2) := numV_at b 31 2 (by show 31 + 2 ≤ _; omega)
  have n7 : numV b ⟨33, false⟩ 1 = val ((b.drop 33).take 1) := numV_at b 33 1 (by show 33 + 1 ≤ _; omega)
  have r2 : rawL b ⟨2, false⟩ 17 = (b.drop 2).take 17 := rawL_in b 2 17 (by omega)
  have l2 : ((b.drop 2).take 17).length = 17 := by rw [List.length_take, List.length_drop]; omega
  refine ⟨?_, ?_⟩
  · unfold saidH nameIn
    rw [e1, e2, e3, e4, e5, e6, n1, n3, n4, n5, n6, r2, if_pos l2]
  · unfold lenIn; rw [e7, n7]
theorem pieceIn_long (b : List UInt8) (h : 12 ≤ b.length) (hn : 12 + (b.getD 11 0).toNat ≤ b.length) : pieceIn b = (b.drop 12).take (b.getD 11 0).toNat := by
  have e1 : rawS b ⟨0, false⟩ 11 = ⟨11, false⟩ := rawS_in b 0 11 (by omega)
  have e2 : numS b ⟨11, false⟩ 1 = ⟨12, false⟩ := numS_at b 11 1 (by show 11 + 1 ≤ _; omega)
  have n1 : numV b ⟨11, false⟩ 1 = val ((b.drop 11).take 1) := numV_at b 11 1 (by show 11 + 1 ≤ _; omega)
  have h1 : (b.drop 11).take 1 = [b.getD 11 0] := by
    rw [List.drop_eq_getElem_cons (by omega), List.getD_eq_getElem?_getD, List.getElem?_eq_getElem (by omega)]; rfl
  have h2 : val [b.getD 11 0] = (b.getD 11 0).toNat := by unfold val; simp
  unfold pieceIn textL
  rw [e1, e2, n1, h1, h2]
  exact rawL_in b 12 _ hn
theorem take_head (l : List UInt8) (i : Nat) (h : i < l.length) : (l.drop i).take 1 = [l.getD i 0] := by
  rw [List.drop_eq_getElem_cons h, List.getD_eq_getElem?_getD, List.getElem?_eq_getElem h]; rfl
theorem val_one (x : UInt8) : val [x] = x.toNat := by unfold val; simp
theorem put_body_at (r : Rc) (hr : r.May) (k : Nat) (_hk : k < pieces r.sh.length) : pieceIn (sec (r.body k)) = piece r.sh k := by
  have hb := body_len r k
  obtain ⟨b1, b2⟩ := body_at r k
  have hsh := hr.sh
  have hpl : (piece r.sh k).length ≤ 48 := piece_len r.sh k
  have hbl : (r.body k).length = 12 + (piece r.sh k).length := by unfold Rc.body; simp [be_len]; omega
  have hn : ((sec (r.body k)).getD 11 0).toNat = (piece r.sh k).length := by
    rw [sec_getD _ hb 11 (by omega), b1]
    exact UInt8.toNat_ofNat_of_lt' (by simp only [UInt8.size]; omega)
  rw [pieceIn_long _ (by rw [sec_len _ hb]; omega) (by rw [hn, sec_len _ hb]; omega), hn, sec_at _ hb 12 _ (by omega), b2, List.take_of_length_le (Nat.le_refl _)]
theorem pieces_flat (s : List UInt8) : ∀ k, ((List.range k).map fun i => piece s i).flatten = s.take (48 * k) := by
  intro k
  induction k with
  | zero => simp
  | succ k ih =>
    rw [List.range_succ, List.map_append, List.flatten_append, ih]
    simp only [List.map_cons, List.map_nil, List.flatten_cons, List.flatten_nil, List.append_nil]
    unfold piece
    rw [show 48 * (k + 1) = 48 * k + 48 from by omega, List.take_add]
theorem Are.told {ss : List (List UInt8)} {r : Rc} (h : Are ss r) : (saidHd ss).rc (saidSh ss) = r := by
  obtain ⟨hm, t, rfl⟩ := h
  have hh := head_len r
  obtain ⟨h1, h2, h3, h4, h5, h6, h7⟩ := head_at r
  have hK : 1 ≤ r.K ∧ r.K ≤ 5 := by have := hm.kind; unfold Rc.kind at this; omega
  have ha := hm.a; have he := hm.e; have hmm := hm.m; have hs := hm.s; have hsh := hm.sh
  unfold num at ha he hmm
  have hl : r.head.length ≤ 60 := by omega
  obtain ⟨g1, g2⟩ := LabM.get_put hm.nm
  have hv : val [UInt8.ofNat r.sh.length] = r.sh.length := by
    rw [val_one, UInt8.toNat_ofNat_of_lt' (by simp only [UInt8.size]; omega)]
  obtain ⟨k1, k2⟩ := saidH_long (sec r.head) (by rw [sec_len _ hl]; omega)
  have hK1 : val (((sec r.head).drop 1).take 1) = r.K.toNat := by
    rw [sec_at _ hl 1 1 (by omega), take_head _ 1 (by omega), h1, val_one, UInt8.toNat_ofNat_of_lt' (by simp only [UInt8.size]; omega)]
  rw [hK1, sec_at _ hl 2 17 (by omega), sec_at _ hl 19 4 (by omega), sec_at _ hl 23 4 (by omega), sec_at _ hl 27 4 (by omega), sec_at _ hl 31 2 (by omega), h2, h3, h4, h5, h6,
    val_be' 4 _ (by show r.A.toNat < 4294967296; omega), val_be' 4 _ (by show r.E.toNat < 4294967296; omega), val_be' 4 _ (by show r.M.toNat < 4294967296; omega), val_be' 2 _ (by show r.S.toNat < 65536; omega)] at k1
  rw [sec_at _ hl 33 1 (by omega), h7, hv] at k2
  have es : saidHd (r.put ++ t) = saidH (sec r.head) := rfl
  have eb : saidSh (r.put ++ t) = r.sh := by
    unfold Rc.put
    rw [List.cons_append]
    show saidB (((List.range (pieces r.sh.length)).map (fun i => sec (r.body i)) ++ t).take (pieces (lenIn (sec r.head)))) = r.sh
    rw [k2, List.take_left' (by simp)]
    unfold saidB
    rw [List.map_map]
    have : (List.range (pieces r.sh.length)).map (pieceIn ∘ fun i => sec (r.body i)) = (List.range (pieces r.sh.length)).map fun i => piece r.sh i :=
      List.map_congr_left fun i hi => put_body_at r hm i (List.mem_range.1 hi)
    rw [this, pieces_flat]
    exact List.take_of_length_le (by unfold pieces; omega)
  rw [es, eb, k1]
  unfold Hd.rc LabM.getS
  rw [if_pos g1, g2]
  simp only
  rw [Int.toNat_of_nonneg (by omega), Int.toNat_of_nonneg (by omega), Int.toNat_of_nonneg (by omega), Int.toNat_of_nonneg (by omega), Int.toNat_of_nonneg (by omega)]

/-! what Get tells -/
def Got (ss : List (List UInt8)) (r : Rc) (n : Int) (ok : Bool) : Prop := (ok = true ∧ Are ss r ∧ n = (r.count : Nat)) ∨ (ok = false ∧ r = hd0.rc [] ∧ n = 0 ∧ ∀ m, ¬ Are ss m)
theorem Got.one {ss : List (List UInt8)} {r x : Rc} {n m : Int} {ok is : Bool} (h : Got ss r n ok) (k : Got ss x m is) : r = x ∧ n = m ∧ ok = is := by
  rcases h with ⟨rfl, h1, rfl⟩ | ⟨rfl, rfl, rfl, h1⟩
  · rcases k with ⟨rfl, k1, rfl⟩ | ⟨rfl, _, _, k1⟩
    · obtain rfl := h1.one k1; exact ⟨rfl, rfl, rfl⟩
    · exact absurd h1 (k1 _)
  · rcases k with ⟨rfl, k1, _⟩ | ⟨rfl, rfl, rfl, k1⟩
    · exact absurd k1 (h1 _)
    · exact ⟨rfl, rfl, rfl⟩
theorem Got.of_getR {ss : List (List UInt8)} : (∀ r, getR ss = some r → Got ss r (r.count : Nat) true) ∧ (getR ss = none → Got ss (hd0.rc []) 0 false) :=
  ⟨fun r h => .inl ⟨rfl, getR_some.1 h, rfl⟩, fun h => .inr ⟨rfl, rfl, rfl, fun m hm => by rw [getR_some.2 hm] at h; cases h⟩⟩
/-- what Put tells -/
def putV (r : Rc) : List (List UInt8) := if r.right then r.put else []
def putE (r : Rc) : Int := if r.right then 0 else 3
theorem right_iff (r : Rc) : r.right = true ↔ r.May := by unfold Rc.right; exact decide_eq_true_iff
theorem putV_may {r : Rc} (h : r.May) : putV r = r.put := if_pos ((right_iff r).2 h)
theorem putE_may {r : Rc} (h : r.May) : putE r = 0 := if_pos ((right_iff r).2 h)
theorem got_said {ss : List (List UInt8)} (r : Rc) (he : r = (saidHd ss).rc (saidSh ss)) : (r.May → r.put <+: ss → Got ss r (r.count : Nat) true) ∧ (¬ (r.May ∧ r.put <+: ss) → Got ss (hd0.rc []) 0 false) := by
  subst he
  refine ⟨fun h1 h2 => .inl ⟨rfl, ⟨h1, h2⟩, rfl⟩, fun h => .inr ⟨rfl, rfl, rfl, fun m hm => h ?_⟩⟩
  rw [hm.told]
  exact hm
theorem count_le {r : Rc} (h : r.May) : r.count ≤ 6 := by have := h.sh; unfold Rc.count pieces; omega
theorem put_pos (r : Rc) : 0 < r.put.length := by rw [put_len]; unfold Rc.count; omega
/-- the record of the law's example -/
def kindP (K A E M S : Int) (n : Nat) : Prop :=
  (K = 1 ∧ 0 < A ∧ E = A ∧ M = 0) ∨ ((K = 2 ∨ K = 5) ∧ 0 < A ∧ 0 < E ∧ 0 < M) ∨ (K = 3 ∧ 0 < A ∧ 0 < E ∧ 0 < M ∧ n = 0) ∨ (K = 4 ∧ A = 0 ∧ E = 0 ∧ 0 < M ∧ S = 0 ∧ n = 0)
instance (K A E M S : Int) (n : Nat) : Decidable (kindP K A E M S n) := by unfold kindP; infer_instance
theorem may_all (r : Rc) : r.right = (LabM.right r.nm && decide (num r.A) && decide (num r.E) && decide (num r.M) && decide (0 ≤ r.S ∧ r.S ≤ 240) && decide (0 ≤ (r.sh.length : Int) ∧ (r.sh.length : Int) ≤ 240) && decide (kindP r.K r.A r.E r.M r.S r.sh.length)) := by
  rw [Bool.eq_iff_iff, right_iff]
  simp only [Bool.and_eq_true, decide_eq_true_eq]
  exact ⟨fun h => ⟨⟨⟨⟨⟨⟨h.nm, h.a⟩, h.e⟩, h.m⟩, h.s⟩, ⟨by omega, by have := h.sh; omega⟩⟩, h.kind⟩, fun ⟨⟨⟨⟨⟨⟨h1, h2⟩, h3⟩, h4⟩, h5⟩, h6⟩, h7⟩ => ⟨h2, h3, h4, h1, h5, by omega, h7⟩⟩
end Go.Proofs.Ytnjghhkebcojnaa.RecM

/- layer 20's answers, plain: heads and bodies as the document's Get reads them -/
set_option maxRecDepth 100000
namespace Go.Proofs.Ytnjghhkebcojnaa.RecM
open SecM PackM CrcM SupM

theorem gath_nil (long : Nat) (acc : List UInt8) : gath [] long acc = some acc := rfl
theorem gath_full (l : List (List UInt8)) (long : Nat) (acc : List UInt8) (h : ¬ acc.length < long) : gath l long acc = some acc := by
  cases l with
  | nil => rfl
  | cons s ss => unfold gath; rw [if_neg h]
theorem gath_shut (s : List UInt8) (ss : List (List UInt8)) (long : Nat) (acc : List UInt8) (h : acc.length < long) (hs : opens s = false) : gath (s :: ss) long acc = none := by
  unfold gath
  rw [if_pos h, if_neg (fun k => by rw [hs] at k; exact absurd k.1 (by simp))]
theorem gath_long (s : List UInt8) (ss : List (List UInt8)) (long : Nat) (acc : List UInt8) (h : acc.length < long) (hs : 48 < (s.getD 11 0).toNat) : gath (s :: ss) long acc = none := by
  unfold gath
  rw [if_pos h, if_neg (fun k => by omega)]
theorem gath_none (s : List UInt8) (ss : List (List UInt8)) (long : Nat) (acc : List UInt8) (h : acc.length < long) (hs : (s.getD 11 0).toNat = 0) : gath (s :: ss) long acc = none := by
  unfold gath
  rw [if_pos h, if_neg (fun k => by omega)]
theorem gath_go (s : List UInt8) (ss : List (List UInt8)) (long : Nat) (acc : List UInt8) (h : acc.length < long) (ho : opens s = true) (h1 : (s.getD 11 0).toNat ≤ 48) (h2 : (s.getD 11 0).toNat ≠ 0) :
    gath (s :: ss) long acc = gath ss long (acc ++ (s.drop 12).take (s.getD 11 0).toNat) := by
  rw [gath.eq_2, if_pos h, if_pos ⟨ho, h1, h2⟩]
theorem take60_part (s : List UInt8) (i n : Nat) (h : i + n ≤ 60) : ((s.take 60).drop i).take n = (s.drop i).take n := by
  rw [List.drop_take, List.take_take]; congr 1; omega
theorem take60_at (s : List UInt8) (i : Nat) (h : i < 60) : (s.take 60).getD i 0 = s.getD i 0 := by
  rw [List.getD_eq_getElem?_getD, List.getD_eq_getElem?_getD, List.getElem?_take, if_pos h]
theorem opens_64 {s : List UInt8} (h : opens s = true) : s.length = 64 := by
  unfold opens at h
  simp only [Bool.and_eq_true, decide_eq_true_eq] at h
  exact h.1
/-- what a payload says -/
def hdP (p : List UInt8) : Hd := ⟨((p.getD 1 0).toNat : Nat), LabM.getS ((p.drop 2).take 17), (numV p ⟨19, false⟩ 4 : Nat), (numV p ⟨23, false⟩ 4 : Nat), (numV p ⟨27, false⟩ 4 : Nat), (numV p ⟨31, false⟩ 2 : Nat)⟩
def lenP (p : List UInt8) : Nat := numV p ⟨33, false⟩ 1
theorem states_60 (p : List UInt8) (h : p.length = 60) : numS p ⟨19, false⟩ 4 = ⟨23, false⟩ ∧ numS p ⟨23, false⟩ 4 = ⟨27, false⟩ ∧ numS p ⟨27, false⟩ 4 = ⟨31, false⟩ ∧ numS p ⟨31, false⟩ 2 = ⟨33, false⟩ :=
  ⟨numS_at p 19 4 (by show 19 + 4 ≤ _; omega), numS_at p 23 4 (by show 23 + 4 ≤ _; omega), numS_at p 27 4 (by show 27 + 4 ≤ _; omega), numS_at p 31 2 (by show 31 + 2 ≤ _; omega)⟩
theorem rd_head (s : List UInt8) (t : List (List UInt8)) (ho : opens s = true) (hg : LabM.getOk (((s.take 60).drop 2).take 17) = true) : rdR (s :: t) = (gath t (lenP (s.take 60)) []).map fun sh => (hdP (s.take 60)).rc sh := by
  have hl := opens_64 ho
  have h60 : (s.take 60).length = 60 := by rw [List.length_take]; omega
  have n3 : numV (s.take 60) ⟨19, false⟩ 4 = val ((s.drop 19).take 4) := by
    refine (numV_at (s.take 60) 19 4 (by show 19 + 4 ≤ _; omega)).trans ?_
    exact congrArg val (take60_part s 19 4 (by omega))
  have n4 : numV (s.take 60) ⟨23, false⟩ 4 = val ((s.drop 23).take 4) := by
    refine (numV_at (s.take 60) 23 4 (by show 23 + 4 ≤ _; omega)).trans ?_
    exact congrArg val (take60_part s 23 4 (by omega))
  have n5 : numV (s.take 60) ⟨27, false⟩ 4 = val ((s.drop 27).take 4) := by
    refine (numV_at (s.take 60) 27 4 (by show 27 + 4 ≤ _; omega)).trans ?_
    exact congrArg val (take60_part s 27 4 (by omega))
  have n6 : numV (s.take 60) ⟨31, false⟩ 2 = val ((s.drop 31).take 2) := by
    refine (numV_at (s.take 60) 31 2 (by show 31 + 2 ≤ _; omega)).trans ?_
    exact congrArg val (take60_part s 31 2 (by omega))
  have n7 : numV (s.take 60) ⟨33, false⟩ 1 = val ((s.drop 33).take 1) := by
    refine (numV_at (s.take 60) 33 1 (by show 33 + 1 ≤ _; omega)).trans ?_
    exact congrArg val (take60_part s 33 1 (by omega))
  have e2 := take60_part s 2 17 (by omega)
  rw [e2] at hg
  unfold rdR
  simp only
  rw [if_pos ⟨ho, hg⟩]
  unfold lenP
  rw [n7]
  have hh : (hdP (s.take 60)) = ⟨((s.getD 1 0).toNat : Nat), LabM.getS ((s.drop 2).take 17), (val ((s.drop 19).take 4) : Nat), (val ((s.drop 23).take 4) : Nat), (val ((s.drop 27).take 4) : Nat), (val ((s.drop 31).take 2) : Nat)⟩ := by
    unfold hdP
    rw [n3, n4, n5, n6, e2, take60_at s 1 (by omega)]
  rw [hh]
  unfold Hd.rc LabM.getS
  rw [if_pos hg]
theorem rd_shut (s : List UInt8) (t : List (List UInt8)) (h : ¬ (opens s = true ∧ LabM.getOk (((s.take 60).drop 2).take 17) = true)) : rdR (s :: t) = none := by
  rw [take60_part s 2 17 (by omega)] at h
  unfold rdR
  simp only
  rw [if_neg h]
theorem got_none {ss : List (List UInt8)} (h : rdR ss = none) : Got ss (hd0.rc []) 0 false := Got.of_getR.2 (getR_none h)
theorem got_rd {ss : List (List UInt8)} {r : Rc} (h : rdR ss = some r) : (Are ss r → Got ss r (r.count : Nat) true) ∧ (¬ Are ss r → Got ss (hd0.rc []) 0 false) := by
  have e : getR ss = if Are ss r then some r else none := by unfold getR; rw [h]
  exact ⟨fun k => Got.of_getR.1 r (by rw [e, if_pos k]), fun k => Got.of_getR.2 (by rw [e, if_neg k])⟩
end Go.Proofs.Ytnjghhkebcojnaa.RecM
