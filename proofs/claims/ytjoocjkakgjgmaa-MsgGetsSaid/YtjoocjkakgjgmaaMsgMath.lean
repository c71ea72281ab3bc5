/- layer 25's answers, plain -/
import Derived.Test.YtjoocjkakgjgmaaMMA
import Derived.Test.YtjoocjkakgjgmaaLabelMath
set_option maxRecDepth 100000
namespace Go.Proofs.Ytjoocjkakgjgmaa.MsgM
open PackM CrcM

/-- a message -/
structure Ms where
  K : Int
  F : Int
  T : Int
  B : Int
  s : ByteArray
  A : Int
  E : Int
  M : Int
  S : Int
  W : Int
  who : List Int
  names : List ByteArray
  data : List UInt8
deriving DecidableEq
def ms0 : Ms := ⟨0, 0, 0, 0, ⟨#[]⟩, 0, 0, 0, 0, 0, [], [], []⟩
def num (n : Int) : Bool := decide (0 ≤ n) && decide (n ≤ 4294967295)
def nam (s : ByteArray) : Bool := LabM.right s.data.toList
def Ms.right (m : Ms) : Bool :=
  decide (1 ≤ m.K ∧ m.K ≤ 25) && decide (0 ≤ m.F ∧ m.F ≤ 256) && decide (0 ≤ m.T ∧ m.T ≤ 256) && decide (m.F ≠ m.T) && num m.B && num m.A && num m.E && num m.M && decide (0 ≤ m.S ∧ m.S ≤ 240) && decide (0 ≤ m.W ∧ m.W ≤ 255) &&
    (decide (m.s.size = 0) || nam m.s) && (decide (m.who.length ≤ 255) && m.who.all num) && (decide (m.names.length ≤ 8) && m.names.all nam) && decide (m.data.length ≤ 240)
structure Ms.May (m : Ms) : Prop where
  k : 1 ≤ m.K ∧ m.K ≤ 25
  f : 0 ≤ m.F ∧ m.F ≤ 256
  t : 0 ≤ m.T ∧ m.T ≤ 256
  ne : m.F ≠ m.T
  b : 0 ≤ m.B ∧ m.B ≤ 4294967295
  a : 0 ≤ m.A ∧ m.A ≤ 4294967295
  e : 0 ≤ m.E ∧ m.E ≤ 4294967295
  mm : 0 ≤ m.M ∧ m.M ≤ 4294967295
  s : 0 ≤ m.S ∧ m.S ≤ 240
  w : 0 ≤ m.W ∧ m.W ≤ 255
  nm : m.s.size = 0 ∨ nam m.s = true
  who : m.who.length ≤ 255
  whos : ∀ n ∈ m.who, 0 ≤ n ∧ n ≤ 4294967295
  names : m.names.length ≤ 8
  namess : ∀ s ∈ m.names, nam s = true
  data : m.data.length ≤ 240
theorem num_iff (n : Int) : num n = true ↔ 0 ≤ n ∧ n ≤ 4294967295 := by unfold num; simp
theorem right_iff (m : Ms) : m.right = true ↔ m.May := by
  unfold Ms.right
  simp only [Bool.and_eq_true, Bool.or_eq_true, decide_eq_true_eq, num_iff, List.all_eq_true]
  constructor
  · rintro ⟨⟨⟨⟨⟨⟨⟨⟨⟨⟨⟨⟨⟨h1, h2⟩, h3⟩, h4⟩, h5⟩, h6⟩, h7⟩, h8⟩, h9⟩, h10⟩, h11⟩, h12, h13⟩, h14, h15⟩, h16⟩
    exact ⟨h1, h2, h3, h4, h5, h6, h7, h8, h9, h10, h11, h12, h13, h14, h15, h16⟩
  · rintro ⟨h1, h2, h3, h4, h5, h6, h7, h8, h9, h10, h11, h12, h13, h14, h15, h16⟩
    exact ⟨⟨⟨⟨⟨⟨⟨⟨⟨⟨⟨⟨⟨h1, h2⟩, h3⟩, h4⟩, h5⟩, h6⟩, h7⟩, h8⟩, h9⟩, h10⟩, h11⟩, h12, h13⟩, h14, h15⟩, h16⟩
theorem nam_size {s : ByteArray} (h : nam s = true) : 1 ≤ s.size ∧ s.size ≤ 16 := LabM.right_len h

/-! its bytes -/
def numsB (l : List Int) : List UInt8 := (l.map (numB 4)).flatten
def textsB (l : List ByteArray) : List UInt8 := (l.map fun s => textB s.data.toList).flatten
def Ms.text (m : Ms) : List UInt8 :=
  numB 1 77 ++ (numB 1 m.K ++ (numB 2 m.F ++ (numB 2 m.T ++ (numB 4 m.B ++ (textB m.s.data.toList ++ (numB 4 m.A ++ (numB 4 m.E ++ (numB 4 m.M ++ (numB 2 m.S ++ (numB 1 m.W ++
    (numB 1 (m.who.length : Nat) ++ (numsB m.who ++ (numB 1 (m.names.length : Nat) ++ (textsB m.names ++ textB m.data))))))))))))))
def Ms.put (m : Ms) : List UInt8 := seal_ m.text
theorem wid1 : wid 1 = 1 := rfl
theorem wid2 : wid 2 = 2 := rfl
theorem wid4 : wid 4 = 4 := rfl
theorem numsB_len (l : List Int) : (numsB l).length = 4 * l.length := by
  induction l with
  | nil => rfl
  | cons x l ih => unfold numsB at ih ⊢; rw [List.map_cons, List.flatten_cons, List.length_append, ih, numB_len, wid4, List.length_cons]; omega
theorem numsB_take (l : List Int) (k : Nat) (h : k < l.length) : numsB (l.take (k + 1)) = numsB (l.take k) ++ numB 4 l[k] := by
  unfold numsB; rw [List.take_succ_eq_append_getElem h, List.map_append, List.flatten_append, List.map_cons, List.map_nil, List.flatten_cons, List.flatten_nil, List.append_nil]
theorem textsB_take (l : List ByteArray) (k : Nat) (h : k < l.length) : textsB (l.take (k + 1)) = textsB (l.take k) ++ textB l[k].data.toList := by
  unfold textsB; rw [List.take_succ_eq_append_getElem h, List.map_append, List.flatten_append, List.map_cons, List.map_nil, List.flatten_cons, List.flatten_nil, List.append_nil]
theorem textsB_len (l : List ByteArray) : (textsB l).length ≤ 256 * l.length := by
  induction l with
  | nil => exact Nat.le_refl _
  | cons x l ih =>
    unfold textsB at ih ⊢
    rw [List.map_cons, List.flatten_cons, List.length_append, textB_len, List.length_cons]; omega
theorem textsB_len_may (l : List ByteArray) (h : ∀ s ∈ l, nam s = true) : (textsB l).length ≤ 17 * l.length := by
  induction l with
  | nil => exact Nat.le_refl _
  | cons x l ih =>
    have h1 := ih fun s hs => h s (List.mem_cons_of_mem _ hs)
    have h2 := (nam_size (h x (List.mem_cons_self ..))).2
    have h3 : x.data.toList.length = x.size := rfl
    unfold textsB at h1 ⊢
    rw [List.map_cons, List.flatten_cons, List.length_append, textB_len, List.length_cons]; omega
theorem text_len {m : Ms} (h : m.May) : 29 ≤ m.text.length ∧ m.text.length ≤ 1441 := by
  have h1 := textsB_len_may m.names h.namess
  have h2 := h.who; have h3 := h.names; have h4 := h.data
  have h5 : m.s.data.toList.length ≤ 16 := by
    rcases h.nm with e | e
    · show m.s.size ≤ 16; omega
    · exact (nam_size e).2
  unfold Ms.text
  simp only [List.length_append, numB_len, textB_len, numsB_len, wid1, wid2, wid4]
  omega

/-! reading -/
theorem bytes_inj {a b : ByteArray} (h : a.data.toList = b.data.toList) : a = b := by
  obtain ⟨⟨a⟩⟩ := a
  obtain ⟨⟨b⟩⟩ := b
  simp only at h
  subst h
  rfl
def txt (l : List UInt8) : ByteArray := ⟨l.toArray⟩
def numsTo (b : List UInt8) (s : St) : Nat → List Int × St
  | 0 => ([], s)
  | n + 1 => ((numsTo b s n).1 ++ [((numV b (numsTo b s n).2 4 : Nat) : Int)], numS b (numsTo b s n).2 4)
def textsTo (b : List UInt8) (s : St) : Nat → List ByteArray × St
  | 0 => ([], s)
  | n + 1 => ((textsTo b s n).1 ++ [txt (textL b (textsTo b s n).2)], textS b (textsTo b s n).2)
theorem numsTo_len (b : List UInt8) (s : St) (n : Nat) : (numsTo b s n).1.length = n := by
  induction n with
  | zero => rfl
  | succ n ih => show ((numsTo b s n).1 ++ [_]).length = _; rw [List.length_append, ih]; rfl
theorem textsTo_len (b : List UInt8) (s : St) (n : Nat) : (textsTo b s n).1.length = n := by
  induction n with
  | zero => rfl
  | succ n ih => show ((textsTo b s n).1 ++ [_]).length = _; rw [List.length_append, ih]; rfl
def o0 : St := ⟨0, false⟩
def o1 (b : List UInt8) : St := numS b o0 1
def o2 (b : List UInt8) : St := numS b (o1 b) 1
def o3 (b : List UInt8) : St := numS b (o2 b) 2
def o4 (b : List UInt8) : St := numS b (o3 b) 2
def o5 (b : List UInt8) : St := numS b (o4 b) 4
def o6 (b : List UInt8) : St := textS b (o5 b)
def o7 (b : List UInt8) : St := numS b (o6 b) 4
def o8 (b : List UInt8) : St := numS b (o7 b) 4
def o9 (b : List UInt8) : St := numS b (o8 b) 4
def o10 (b : List UInt8) : St := numS b (o9 b) 2
def o11 (b : List UInt8) : St := numS b (o10 b) 1
def whoN (b : List UInt8) : Nat := numV b (o11 b) 1
def o12 (b : List UInt8) : St := numS b (o11 b) 1
def o13 (b : List UInt8) : St := (numsTo b (o12 b) (whoN b)).2
def namesN (b : List UInt8) : Nat := numV b (o13 b) 1
def o14 (b : List UInt8) : St := numS b (o13 b) 1
def o15 (b : List UInt8) : St := (textsTo b (o14 b) (namesN b)).2
def o16 (b : List UInt8) : St := textS b (o15 b)
/-- what bytes say, whatever they are -/
def said (b : List UInt8) : Ms :=
  ⟨(numV b (o1 b) 1 : Nat), (numV b (o2 b) 2 : Nat), (numV b (o3 b) 2 : Nat), (numV b (o4 b) 4 : Nat), txt (textL b (o5 b)), (numV b (o6 b) 4 : Nat), (numV b (o7 b) 4 : Nat), (numV b (o8 b) 4 : Nat), (numV b (o9 b) 2 : Nat), (numV b (o10 b) 1 : Nat),
    (numsTo b (o12 b) (whoN b)).1, (textsTo b (o14 b) (namesN b)).1, textL b (o15 b)⟩

/-- from s on lie l, and r behind them -/
def Lies (b : List UInt8) (s : St) (l r : List UInt8) : Prop := s.bad = false ∧ s.at_ ≤ b.length ∧ b.drop s.at_ = l ++ r
theorem drop_more {b l r : List UInt8} {k : Nat} (h : b.drop k = l ++ r) : b.drop (k + l.length) = r := by
  rw [← List.drop_drop, h, List.drop_left]
theorem len_more {b l r : List UInt8} {k : Nat} (hk : k ≤ b.length) (h : b.drop k = l ++ r) : k + l.length ≤ b.length := by
  have := congrArg List.length h
  rw [List.length_drop, List.length_append] at this; omega
theorem lies_raw {b l r : List UInt8} {s : St} (h : Lies b s l r) : rawL b s (l.length : Nat) = l ∧ rawS b s (l.length : Nat) = ⟨s.at_ + l.length, false⟩ ∧ Lies b (rawS b s (l.length : Nat)) [] r := by
  obtain ⟨h1, h2, h3⟩ := h
  have h4 := len_more h2 h3
  have e : (s.bad || decide ((b.length : Int) - s.at_ < (l.length : Nat))) = false := by
    rw [h1, Bool.false_or, decide_eq_false_iff_not]; omega
  have e2 : rawS b s (l.length : Nat) = ⟨s.at_ + l.length, false⟩ := by unfold rawS; rw [e, Int.toNat_natCast]; rfl
  refine ⟨?_, e2, ?_⟩
  · unfold rawL; rw [e, Int.toNat_natCast, h3]
    show (l ++ r).take l.length = l
    rw [List.take_left]
  · rw [e2]
    exact ⟨rfl, h4, drop_more h3⟩
theorem lies_num {b r : List UInt8} {s : St} {k n : Int} (h : Lies b s (numB k n) r) (hn : 0 ≤ n ∧ n < 256 ^ wid k) : (numV b s k : Nat) = n ∧ numS b s k = ⟨s.at_ + wid k, false⟩ ∧ Lies b (numS b s k) [] r := by
  obtain ⟨h1, h2, h3⟩ := lies_raw h
  rw [numB_len] at h1 h2 h3
  refine ⟨?_, h2, h3⟩
  unfold numV
  rw [h1]
  unfold numB
  rw [val_be]
  have : n.toNat < 256 ^ wid k := by
    have h4 := hn.2
    have e : ((256 ^ wid k : Nat) : Int) = 256 ^ wid k := by simp
    omega
  rw [Nat.mod_eq_of_lt this]; omega
theorem Lies.more {b r : List UInt8} {s : St} {l m : List UInt8} (h : Lies b s [] r) (e : r = l ++ m) : Lies b s l m := ⟨h.1, h.2.1, by rw [h.2.2, e]; rfl⟩
theorem lies_num1 {b r : List UInt8} {s : St} {n : Int} (h : Lies b s (numB 1 n) r) (h0 : 0 ≤ n) (h1 : n ≤ 255) : (numV b s 1 : Nat) = n ∧ Lies b (numS b s 1) [] r :=
  have k := lies_num h ⟨h0, by rw [wid1]; omega⟩
  ⟨k.1, k.2.2⟩
theorem lies_num2 {b r : List UInt8} {s : St} {n : Int} (h : Lies b s (numB 2 n) r) (h0 : 0 ≤ n) (h1 : n ≤ 65535) : (numV b s 2 : Nat) = n ∧ Lies b (numS b s 2) [] r :=
  have k := lies_num h ⟨h0, by rw [wid2]; omega⟩
  ⟨k.1, k.2.2⟩
theorem lies_num4 {b r : List UInt8} {s : St} {n : Int} (h : Lies b s (numB 4 n) r) (h0 : 0 ≤ n) (h1 : n ≤ 4294967295) : (numV b s 4 : Nat) = n ∧ Lies b (numS b s 4) [] r :=
  have k := lies_num h ⟨h0, by rw [wid4]; omega⟩
  ⟨k.1, k.2.2⟩
theorem textB_short {l : List UInt8} (h : l.length ≤ 255) : textB l = numB 1 (l.length : Nat) ++ l := by
  unfold textB numB
  rw [wid1, Nat.min_eq_left h, List.take_of_length_le h, Int.toNat_natCast]
  show _ = [UInt8.ofNat (l.length % 256)] ++ l
  rw [Nat.mod_eq_of_lt (by omega)]; rfl
theorem lies_text {b r l : List UInt8} {s : St} (h : Lies b s (textB l) r) (hl : l.length ≤ 255) : textL b s = l ∧ Lies b (textS b s) [] r := by
  rw [textB_short hl] at h
  obtain ⟨h1, h2, h3⟩ := h
  rw [List.append_assoc] at h3
  obtain ⟨k1, k2⟩ := lies_num1 (n := (l.length : Nat)) ⟨h1, h2, h3⟩ (by omega) (by omega)
  have k3 : Lies b (numS b s 1) l r := k2.more rfl
  obtain ⟨q1, q2, q3⟩ := lies_raw k3
  have e : (numV b s 1 : Nat) = l.length := by omega
  unfold textL textS
  rw [e]
  exact ⟨q1, q3⟩
theorem lies_nums {b : List UInt8} {l : List Int} {s : St} (hl : ∀ n ∈ l, 0 ≤ n ∧ n ≤ 4294967295) {r : List UInt8} (h : Lies b s (numsB l) r) : ∀ k, k ≤ l.length → (numsTo b s k).1 = l.take k ∧ Lies b (numsTo b s k).2 (numsB (l.drop k)) r := by
  intro k
  induction k with
  | zero => intro _; exact ⟨rfl, h⟩
  | succ k ih =>
    intro hk
    obtain ⟨h1, h2⟩ := ih (by omega)
    have e : numsB (l.drop k) = numB 4 l[k] ++ numsB (l.drop (k + 1)) := by
      unfold numsB; rw [List.drop_eq_getElem_cons (by omega), List.map_cons, List.flatten_cons]
    rw [e] at h2
    have hm := hl l[k] (List.getElem_mem _)
    obtain ⟨k1, k2⟩ := lies_num4 (n := l[k]) ⟨h2.1, h2.2.1, by rw [h2.2.2, List.append_assoc]⟩ hm.1 hm.2
    refine ⟨?_, k2.more rfl⟩
    show (numsTo b s k).1 ++ [_] = _
    rw [h1, k1, List.take_succ_eq_append_getElem (by omega)]
theorem lies_texts {b : List UInt8} {l : List ByteArray} {s : St} (hl : ∀ n ∈ l, n.size ≤ 255) {r : List UInt8} (h : Lies b s (textsB l) r) : ∀ k, k ≤ l.length → (textsTo b s k).1 = l.take k ∧ Lies b (textsTo b s k).2 (textsB (l.drop k)) r := by
  intro k
  induction k with
  | zero => intro _; exact ⟨rfl, h⟩
  | succ k ih =>
    intro hk
    obtain ⟨h1, h2⟩ := ih (by omega)
    have e : textsB (l.drop k) = textB l[k].data.toList ++ textsB (l.drop (k + 1)) := by
      unfold textsB; rw [List.drop_eq_getElem_cons (by omega), List.map_cons, List.flatten_cons]
    rw [e] at h2
    have hm := hl l[k] (List.getElem_mem _)
    obtain ⟨k1, k2⟩ := lies_text (l := l[k].data.toList) ⟨h2.1, h2.2.1, by rw [h2.2.2, List.append_assoc]⟩ hm
    refine ⟨?_, k2.more rfl⟩
    show (textsTo b s k).1 ++ [_] = _
    rw [h1, k1, List.take_succ_eq_append_getElem (by omega)]
    rfl
/-- a message that may be is what its bytes say, whatever lies behind them -/
theorem said_text {m : Ms} (hm : m.May) (r : List UInt8) : said (m.text ++ r) = m ∧ numV (m.text ++ r) o0 1 = 77 ∧ Lies (m.text ++ r) (o16 (m.text ++ r)) [] r := by
  obtain ⟨h1, h2, h3, h4, h5, h6, h7, h8, h9, h10, h11, h12, h13, h14, h15, h16⟩ := hm
  have hs : m.s.data.toList.length ≤ 255 := by
    show m.s.size ≤ 255
    rcases h11 with e | e
    · omega
    · have := nam_size e; omega
  obtain ⟨b, hb⟩ : ∃ b, b = m.text ++ r := ⟨_, rfl⟩
  have L0 : Lies b o0 [] (m.text ++ r) := ⟨rfl, Nat.zero_le _, hb⟩
  rw [← hb]
  clear hb
  unfold Ms.text at L0
  simp only [List.append_assoc] at L0
  obtain ⟨v0, L1⟩ := lies_num1 (n := 77) (L0.more rfl) (by omega) (by omega)
  obtain ⟨v1, L2⟩ := lies_num1 (n := m.K) (L1.more rfl) (by omega) (by omega)
  obtain ⟨v2, L3⟩ := lies_num2 (n := m.F) (L2.more rfl) (by omega) (by omega)
  obtain ⟨v3, L4⟩ := lies_num2 (n := m.T) (L3.more rfl) (by omega) (by omega)
  obtain ⟨v4, L5⟩ := lies_num4 (n := m.B) (L4.more rfl) (by omega) (by omega)
  obtain ⟨v5, L6⟩ := lies_text (l := m.s.data.toList) (L5.more rfl) hs
  obtain ⟨v6, L7⟩ := lies_num4 (n := m.A) (L6.more rfl) (by omega) (by omega)
  obtain ⟨v7, L8⟩ := lies_num4 (n := m.E) (L7.more rfl) (by omega) (by omega)
  obtain ⟨v8, L9⟩ := lies_num4 (n := m.M) (L8.more rfl) (by omega) (by omega)
  obtain ⟨v9, L10⟩ := lies_num2 (n := m.S) (L9.more rfl) (by omega) (by omega)
  obtain ⟨v10, L11⟩ := lies_num1 (n := m.W) (L10.more rfl) (by omega) (by omega)
  obtain ⟨v11, L12⟩ := lies_num1 (n := (m.who.length : Nat)) (L11.more rfl) (by omega) (by omega)
  obtain ⟨v12, L13⟩ := lies_nums h13 (L12.more rfl) m.who.length (Nat.le_refl _)
  have e1 : whoN b = m.who.length := by have : (numV b (o11 b) 1 : Int) = _ := v11; unfold whoN; omega
  rw [List.take_length] at v12
  rw [List.drop_length] at L13
  rw [← e1] at v12 L13
  obtain ⟨v13, L14⟩ := lies_num1 (n := (m.names.length : Nat)) (L13.more rfl) (by omega) (by omega)
  obtain ⟨v14, L15⟩ := lies_texts (fun s hs => by have := nam_size (h15 s hs); omega) (L14.more rfl) m.names.length (Nat.le_refl _)
  have e2 : namesN b = m.names.length := by have : (numV b (o13 b) 1 : Int) = _ := v13; unfold namesN; omega
  rw [List.take_length] at v14
  rw [List.drop_length] at L15
  rw [← e2] at v14 L15
  obtain ⟨v15, L16⟩ := lies_text (l := m.data) (L15.more rfl) (by omega)
  refine ⟨?_, by omega, L16⟩
  have v5' : txt (textL b (o5 b)) = m.s := bytes_inj v5
  have w1 : ((numV b (o1 b) 1 : Nat) : Int) = m.K := v1
  have w2 : ((numV b (o2 b) 2 : Nat) : Int) = m.F := v2
  have w3 : ((numV b (o3 b) 2 : Nat) : Int) = m.T := v3
  have w4 : ((numV b (o4 b) 4 : Nat) : Int) = m.B := v4
  have w6 : ((numV b (o6 b) 4 : Nat) : Int) = m.A := v6
  have w7 : ((numV b (o7 b) 4 : Nat) : Int) = m.E := v7
  have w8 : ((numV b (o8 b) 4 : Nat) : Int) = m.M := v8
  have w9 : ((numV b (o9 b) 2 : Nat) : Int) = m.S := v9
  have w10 : ((numV b (o10 b) 1 : Nat) : Int) = m.W := v10
  have w12 : (numsTo b (o12 b) (whoN b)).1 = m.who := v12
  have w14 : (textsTo b (o14 b) (namesN b)).1 = m.names := v14
  have w15 : textL b (o15 b) = m.data := v15
  unfold said
  rw [w1, w2, w3, w4, v5', w6, w7, w8, w9, w10, w12, w14, w15]
/-- two messages that may be have the same bytes just if they are the same -/
theorem text_inj {m x : Ms} (hm : m.May) (hx : x.May) (h : m.text = x.text) : m = x := by
  have h1 := (said_text hm []).1
  have h2 := (said_text hx []).1
  rw [h] at h1
  exact h1.symm.trans h2

/-! what was read, if nothing lacked -/
structure Are (b : List UInt8) (s s' : St) (l : List UInt8) : Prop where
  bad : s.bad = false
  bad' : s'.bad = false
  at_ : s'.at_ = s.at_ + l.length
  le : s'.at_ ≤ b.length
  are : (b.drop s.at_).take l.length = l
theorem Are.trans {b l m : List UInt8} {s s' s'' : St} (h : Are b s s' l) (k : Are b s' s'' m) : Are b s s'' (l ++ m) := by
  refine ⟨h.bad, k.bad', by rw [k.at_, h.at_, List.length_append, Nat.add_assoc], k.le, ?_⟩
  rw [List.length_append, List.take_add, List.drop_drop, h.are, ← h.at_, k.are]
theorem Are.nil {b : List UInt8} {s : St} (h : s.bad = false) (h2 : s.at_ ≤ b.length) : Are b s s [] := ⟨h, h, rfl, h2, rfl⟩
theorem rawS_bad {b : List UInt8} {s : St} {n : Int} (h : (rawS b s n).bad = false) : s.bad = false ∧ ¬ ((b.length : Int) - s.at_ < n) := by
  unfold rawS at h
  split at h
  · cases h
  · rename_i k
    simp only [Bool.or_eq_true, decide_eq_true_eq, not_or] at k
    exact ⟨by simpa using k.1, k.2⟩
theorem are_raw {b : List UInt8} {s : St} {n : Nat} (h : (rawS b s n).bad = false) : Are b s (rawS b s n) (rawL b s n) ∧ (rawL b s n).length = n := by
  obtain ⟨h1, h2⟩ := rawS_bad h
  have e : (s.bad || decide ((b.length : Int) - s.at_ < n)) = false := by rw [h1, Bool.false_or, decide_eq_false_iff_not]; exact h2
  have e1 : rawL b s n = (b.drop s.at_).take n := by unfold rawL; rw [e, Int.toNat_natCast]; rfl
  have e2 : rawS b s n = ⟨s.at_ + n, false⟩ := by unfold rawS; rw [e, Int.toNat_natCast]; rfl
  have e3 : ((b.drop s.at_).take n).length = n := by rw [List.length_take, List.length_drop]; omega
  refine ⟨⟨h1, h, ?_, ?_, ?_⟩, by rw [e1, e3]⟩
  · rw [e1, e3, e2]
  · rw [e2]; show s.at_ + n ≤ b.length; omega
  · rw [e1, e3]
theorem be_val (l : List UInt8) : be l.length (val l) = l := by
  induction hn : l.length generalizing l with
  | zero => rw [List.eq_nil_of_length_eq_zero hn]; rfl
  | succ n ih =>
    have hne : l ≠ [] := by intro e; subst e; cases hn
    obtain ⟨m, x, rfl⟩ : ∃ m x, l = m ++ [x] := ⟨_, _, (List.dropLast_concat_getLast hne).symm⟩
    have hm : m.length = n := by simpa using hn
    rw [val_snoc]
    show be n ((256 * val m + x.toNat) / 256) ++ [UInt8.ofNat ((256 * val m + x.toNat) % 256)] = _
    have hx := x.toNat_lt
    rw [show (256 * val m + x.toNat) / 256 = val m by omega, show (256 * val m + x.toNat) % 256 = x.toNat by omega, ih m hm]
    simp
theorem are_num {b : List UInt8} {s : St} {k : Int} (h : (numS b s k).bad = false) : Are b s (numS b s k) (numB k (numV b s k : Nat)) := by
  obtain ⟨h1, h2⟩ := are_raw (n := wid k) h
  have e : numB k (numV b s k : Nat) = rawL b s (wid k) := by
    unfold numB numV
    rw [Int.toNat_natCast]
    have := be_val (rawL b s (wid k))
    rw [h2] at this
    exact this
  rw [e]
  exact h1
theorem are_text {b : List UInt8} {s : St} (h : (textS b s).bad = false) : Are b s (textS b s) (textB (textL b s)) := by
  have h1 := are_raw (n := numV b s 1) h
  have h2 := are_num (k := 1) (rawS_bad h).1
  have hv : numV b s 1 < 256 := by
    have h3 := val_lt (rawL b s (wid 1))
    have h4 := rawL_len b s (wid 1)
    rw [wid1] at h3 h4
    have h5 : 256 ^ (rawL b s (1 : Nat)).length ≤ 256 ^ 1 := Nat.pow_le_pow_right (by omega) (by omega)
    unfold numV; rw [wid1]; omega
  have hl : (textL b s).length = numV b s 1 := h1.2
  have e : textB (textL b s) = numB 1 (numV b s 1 : Nat) ++ textL b s := by rw [textB_short (by omega), hl]
  rw [e]
  exact h2.trans h1.1
theorem are_nums {b : List UInt8} {s : St} (hs : s.at_ ≤ b.length) : ∀ k, (numsTo b s k).2.bad = false → Are b s (numsTo b s k).2 (numsB (numsTo b s k).1) := by
  intro k
  induction k with
  | zero => intro h; exact .nil h hs
  | succ k ih =>
    intro h
    have h1 := are_num (k := 4) (b := b) (s := (numsTo b s k).2) h
    have h2 := (ih h1.bad).trans h1
    have e : numsB (numsTo b s (k + 1)).1 = numsB (numsTo b s k).1 ++ numB 4 (numV b (numsTo b s k).2 4 : Nat) := by
      show numsB ((numsTo b s k).1 ++ [_]) = _
      unfold numsB; simp
    rw [e]
    exact h2
theorem are_texts {b : List UInt8} {s : St} (hs : s.at_ ≤ b.length) : ∀ k, (textsTo b s k).2.bad = false → Are b s (textsTo b s k).2 (textsB (textsTo b s k).1) := by
  intro k
  induction k with
  | zero => intro h; exact .nil h hs
  | succ k ih =>
    intro h
    have h1 := are_text (b := b) (s := (textsTo b s k).2) h
    have h2 := (ih h1.bad).trans h1
    have e : textsB (textsTo b s (k + 1)).1 = textsB (textsTo b s k).1 ++ textB (textL b (textsTo b s k).2) := by
      show textsB ((textsTo b s k).1 ++ [_]) = _
      unfold textsB txt; simp
    rw [e]
    exact h2
theorem numsTo_bad {b : List UInt8} {s : St} {j : Nat} (h : (numsTo b s j).2.bad = true) : ∀ k, j ≤ k → (numsTo b s k).2.bad = true := by
  intro k hk
  induction k with
  | zero => rw [show j = 0 from by omega] at h; exact h
  | succ k ih =>
    by_cases e : j = k + 1
    · rw [← e]; exact h
    · have h1 := ih (by omega)
      rcases hb : (numsTo b s (k + 1)).2.bad with _ | _
      · have := (rawS_bad (b := b) (s := (numsTo b s k).2) (n := wid 4) hb).1; rw [h1] at this; cases this
      · rfl
theorem textS_bad {b : List UInt8} {s : St} (h : s.bad = true) : (textS b s).bad = true := by
  rcases hb : (textS b s).bad with _ | _
  · have := (rawS_bad (rawS_bad hb).1).1; rw [h] at this; cases this
  · rfl
theorem numS_bad {b : List UInt8} {s : St} {k : Int} (h : s.bad = true) : (numS b s k).bad = true := by
  rcases hb : (numS b s k).bad with _ | _
  · have := (rawS_bad hb).1; rw [h] at this; cases this
  · rfl
theorem textsTo_bad {b : List UInt8} {s : St} {j : Nat} (h : (textsTo b s j).2.bad = true) : ∀ k, j ≤ k → (textsTo b s k).2.bad = true := by
  intro k hk
  induction k with
  | zero => rw [show j = 0 from by omega] at h; exact h
  | succ k ih =>
    by_cases e : j = k + 1
    · rw [← e]; exact h
    · exact textS_bad (ih (by omega))
/-- bytes that say a message, and nothing lacks: they are its own -/
theorem text_said {b : List UInt8} (h0 : numV b o0 1 = 77) (hb : (o16 b).bad = false) (he : (o16 b).at_ = b.length) : (said b).text = b := by
  have a16 := are_text (b := b) (s := o15 b) hb
  have hb15 : (o15 b).bad = false := a16.bad
  have hb14 : (o14 b).bad = false := by
    rcases h : (o14 b).bad with _ | _
    · rfl
    · have := textsTo_bad (b := b) (s := o14 b) (j := 0) h (namesN b) (Nat.zero_le _); rw [show (textsTo b (o14 b) (namesN b)).2 = o15 b from rfl, hb15] at this; cases this
  have a14 := are_num (b := b) (s := o13 b) (k := 1) hb14
  have hb12 : (o12 b).bad = false := by
    rcases h : (o12 b).bad with _ | _
    · rfl
    · have := numsTo_bad (b := b) (s := o12 b) (j := 0) h (whoN b) (Nat.zero_le _); rw [show (numsTo b (o12 b) (whoN b)).2 = o13 b from rfl, a14.bad] at this; cases this
  have a12 := are_num (b := b) (s := o11 b) (k := 1) hb12
  have a11 := are_num (b := b) (s := o10 b) (k := 1) a12.bad
  have a10 := are_num (b := b) (s := o9 b) (k := 2) a11.bad
  have a9 := are_num (b := b) (s := o8 b) (k := 4) a10.bad
  have a8 := are_num (b := b) (s := o7 b) (k := 4) a9.bad
  have a7 := are_num (b := b) (s := o6 b) (k := 4) a8.bad
  have a6 := are_text (b := b) (s := o5 b) a7.bad
  have a5 := are_num (b := b) (s := o4 b) (k := 4) a6.bad
  have a4 := are_num (b := b) (s := o3 b) (k := 2) a5.bad
  have a3 := are_num (b := b) (s := o2 b) (k := 2) a4.bad
  have a2 := are_num (b := b) (s := o1 b) (k := 1) a3.bad
  have a1 := are_num (b := b) (s := o0) (k := 1) a2.bad
  have a13 := are_nums (b := b) (s := o12 b) a12.le (whoN b) a14.bad
  have a15 := are_texts (b := b) (s := o14 b) a14.le (namesN b) hb15
  rw [h0] at a1
  have e1 : (said b).who.length = whoN b := numsTo_len b (o12 b) (whoN b)
  have e2 : (said b).names.length = namesN b := textsTo_len b (o14 b) (namesN b)
  have A : Are b o0 (o16 b) (said b).text := by
    unfold Ms.text
    rw [e1, e2]
    exact a1.trans (a2.trans (a3.trans (a4.trans (a5.trans (a6.trans (a7.trans (a8.trans (a9.trans (a10.trans (a11.trans (a12.trans (a13.trans (a14.trans (a15.trans a16))))))))))))))
  have hL : (said b).text.length = b.length := by
    have := A.at_
    rw [he, show o0.at_ = 0 from rfl, Nat.zero_add] at this
    exact this.symm
  have h2 := A.are
  rw [show o0.at_ = 0 from rfl, hL, List.drop_zero, List.take_length] at h2
  exact h2.symm
end Go.Proofs.Ytjoocjkakgjgmaa.MsgM
