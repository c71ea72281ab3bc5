/- merged: EntA, EntB, EntC, EntD, EntE, EntF -/
import Derived.Test.YtnjghhkebcojnaaChs
import Derived.Test.YtnjghhkebcojnaaPack
import Derived.Test.YtnjghhkebcojnaaFlow
import Derived.Maps.OwnSet
import Derived.Maps.OwnOps
import Derived.Test.YtnjghhkebcojnaaEqual
import Derived.Test.YtnjghhkebcojnaaMSE

/- package entry: what is wrong with a change, or with all -/
set_option maxRecDepth 100000
namespace Go.Proofs.Ytnjghhkebcojnaa.Entry
open Go.RowKit EntM

end Go.Proofs.Ytnjghhkebcojnaa.Entry

/- package entry: whether two are of one sector; what is written; what is wrong -/
set_option maxRecDepth 100000
namespace Go.Proofs.Ytnjghhkebcojnaa.Entry
open Go.RowKit EntM Go.Maps

def keysOf (l : List Ch) : List Lit := l.map fun c => .int .i64 c.at_
def setI (l : List Ch) : DataW Unit := setOf (.agg []) (keysOf l)
theorem setI_snoc (l : List Ch) (c : Ch) : setI (l ++ [c]) = (setI l).put (.int .i64 c.at_) (.agg []) := by
  unfold setI keysOf
  rw [List.map_append]
  exact setOf_snoc _ _ _
theorem at_wf {z : Int} (h : AtIn z) : (Lit.int .i64 z).wf = true := by
  unfold AtIn at h
  simp [Lit.wf, IntKind.min, IntKind.max, IntKind.signed, IntKind.bits]
  omega
theorem has_setI (l : List Ch) (a : Int) : has (setI l) (.int .i64 a) = l.any fun c => decide (c.at_ = a) := by
  unfold setI
  rw [has_setOf _ _ _ (fun x hx => by
    unfold keysOf at hx
    rw [List.mem_map] at hx
    obtain ⟨c, _, rfl⟩ := hx
    trivial)]
  unfold keysOf
  rw [List.any_map]
  congr 1
  funext c
  simp [Lit.sameKey]
theorem twice_yes {l : List Ch} {k : Nat} (h : k < l.length) (ha : ((l.take k).any fun c => decide (c.at_ = l[k].at_)) = true) : twiceAt l = true := by
  unfold twiceAt
  rw [decide_eq_true_eq]
  intro hn
  obtain ⟨c, hc, hd⟩ := List.any_eq_true.1 ha
  have hd := of_decide_eq_true hd
  rw [List.mem_take_iff_getElem] at hc
  obtain ⟨j, hj, rfl⟩ := hc
  rw [List.nodup_iff_pairwise_ne, List.pairwise_iff_getElem] at hn
  exact hn j k (by simp; omega) (by simpa using h) (by omega) (by simpa using hd)
theorem twice_no {l : List Ch} (h : ∀ k, (hk : k < l.length) → ((l.take k).any fun c => decide (c.at_ = l[k].at_)) = false) : twiceAt l = false := by
  unfold twiceAt
  rw [decide_eq_false_iff_not, Classical.not_not, List.nodup_iff_pairwise_ne, List.pairwise_iff_getElem]
  intro i j hi hj hij
  simp only [List.length_map] at hi hj
  have h1 := h j hj
  rw [List.any_eq_false] at h1
  have h2 := h1 l[i] (List.mem_take_iff_getElem.2 ⟨i, by omega, rfl⟩)
  simpa using h2
/-- between a Writer's calls: what it holds, and that nothing else was written -/
structure Wrs (w0 w : World) (g : Nat) (v : Value) (l : List UInt8) : Prop where
  at_ : Pack.WAt w g g v l
  below : Below w0.heap.size w0 w
  first : w0.heap.size ≤ g
theorem Wrs.lt {w0 w : World} {g : Nat} {v : Value} {l : List UInt8} (h : Wrs w0 w g v l) : g ≤ w.heap.size := by have := h.at_.lt; omega
theorem Wrs.next {w0 w w' : World} {g : Nat} {v : Value} {l m : List UInt8} {e : Ending} (h : Wrs w0 w g v l) (k : Pack.WPost w g g v m e w') : e = .returned (.tuple #[]) ∧ ∃ v', Wrs w0 w' g v' m := by
  obtain ⟨he, v', h1, q1, _⟩ := k
  have hf := h.first
  exact ⟨he, v', h1, Pack.below_w h.at_ h.below q1 (by omega) (by omega) h.below.size, hf⟩
theorem Wrs.step {w0 w w' : World} {g : Nat} {v : Value} {l : List UInt8} (h : Wrs w0 w g v l) (hb : Below w.heap.size w w') : Wrs w0 w' g v l :=
  ⟨h.at_.below hb, bstep h.below hb, h.first⟩
theorem Wrs.start {w0 w : World} (hb : Below w0.heap.size w0 w) (t : TypeId) : Wrs w0 (w.alloc (.cells #[.slice none 0 0] t)) w.heap.size (.slice none 0 0) [] :=
  ⟨Pack.WAt.start w t, bstep hb (balloc _ _), hb.size⟩
/-- what of a caller's memory a Writer's call leaves -/
theorem Wrs.chs {w0 w : World} {g : Nat} {v : Value} {m : List UInt8} (h : Wrs w0 w g v m) {A : Option Addr} {l : List Ch} (hA : ChsAt w0 A l) : ChsAt w A l := hA.below h.below
/-- and a change's own block beside it -/
structure WrsB (w0 w : World) (g p : Nat) (v : Value) (l : List UInt8) (a : Int) (B : Option Addr) (n d : Nat) : Prop where
  wr : Wrs w0 w g v l
  np : p ≠ g
  nv : v.ownBlock ≠ some p
  c0 : w.cell? ⟨p, 0, none⟩ = some (.int .i64 a)
  c1 : w.cell? ⟨p, 1, none⟩ = some (.slice B n d)
theorem WrsB.next {w0 w w' : World} {g p : Nat} {v : Value} {l m : List UInt8} {a : Int} {B : Option Addr} {n d : Nat} {e : Ending} (h : WrsB w0 w g p v l a B n d) (k : Pack.WPost w g g v m e w') : e = .returned (.tuple #[]) ∧ ∃ v', WrsB w0 w' g p v' m a B n d := by
  obtain ⟨he, v', h1⟩ := h.wr.next k
  obtain ⟨_, v2, k1, q1, k3⟩ := k
  have hn : ¬ (p = g ∨ v.ownBlock = some p) := fun e => by
    rcases e with e | e
    · exact h.np e
    · exact h.nv e
  refine ⟨he, v2, ⟨k1, Pack.below_w h.wr.at_ h.wr.below q1 (by have := h.wr.first; omega) (by have := h.wr.first; omega) h.wr.below.size, h.wr.first⟩, h.np, ?_, q1.cell h.c0 hn, q1.cell h.c1 hn⟩
  rcases k3 with k3 | ⟨j, k3, hj⟩
  · rw [k3]; exact h.nv
  · rw [k3]; intro e; injection e with e; have := cell_lt h.c0; simp only at this; omega
theorem WrsB.start {w0 w : World} {g : Nat} {v : Value} {l : List UInt8} (h : Wrs w0 w g v l) (a : Int) (B : Option Addr) (n d : Nat) (t : TypeId) : WrsB w0 (w.alloc (.cells #[.int .i64 a, .slice B n d] t)) g w.heap.size v l a B n d :=
  ⟨h.step (balloc _ _), by have := h.at_.lt; omega, fun e => by have := (h.at_.own.lt _ e).2; omega, by simp, by simp⟩
end Go.Proofs.Ytnjghhkebcojnaa.Entry

/- package entry: Check, head, what bodies say, whether sectors are the first of some -/
set_option maxRecDepth 100000
namespace Go.Proofs.Ytnjghhkebcojnaa.Entry
open Go.RowKit EntM

/-- the head of a text -/
theorem head_is (b : List UInt8) (hb : bodies b ≤ 255) : PackM.numB 1 106 ++ PackM.numB 1 (bodies b : Nat) ++ PackM.numB 2 (b.length : Nat) ++ PackM.numB 4 (CrcM.sum b : Nat) = head_ b := by
  have h1 : PackM.numB 1 106 = [106] := by decide
  have h2 : PackM.numB 1 (bodies b : Nat) = [UInt8.ofNat (bodies b)] := by
    unfold PackM.numB
    rw [show PackM.wid 1 = 1 from rfl, Int.toNat_natCast]
    unfold PackM.be
    simp [PackM.be]
    rw [Nat.mod_eq_of_lt (by omega)]
  rw [h1, h2]
  unfold head_ PackM.numB
  rw [show PackM.wid 2 = 2 from rfl, show PackM.wid 4 = 4 from rfl, Int.toNat_natCast, Int.toNat_natCast]
  simp
end Go.Proofs.Ytnjghhkebcojnaa.Entry

/- package entry: the text that sectors' bodies have; what a text says; whether sectors are the first of some -/
set_option maxRecDepth 100000
namespace Go.Proofs.Ytnjghhkebcojnaa.Entry
open Go.RowKit EntM SupM

theorem rows_tail {w : World} {b o : Nat} {s : List UInt8} {rest : List (List UInt8)} (h : RowsAt w (some ⟨b, o, none⟩) (s :: rest)) : RowsAt w (some ⟨b, o + 1, none⟩) rest := fun i hi => by
  obtain ⟨b2, o2, v, hA, hc, hs⟩ := h (i + 1) (by simp; omega)
  injection hA with hA; injection hA with h1 h2; subst h1; subst h2
  exact ⟨b, o + 1, v, rfl, by rw [show o + 1 + i = o + (i + 1) from by omega]; exact hc, by simpa using hs⟩
/-- the pieces of the first k bodies -/
def flatTo (rest : List (List UInt8)) (k : Nat) : List UInt8 := ((rest.take k).map piece_).flatten
theorem flatTo_succ (rest : List (List UInt8)) (k : Nat) (h : k < rest.length) : flatTo rest (k + 1) = flatTo rest k ++ piece_ rest[k] := by
  unfold flatTo; rw [List.take_succ_eq_append_getElem h, List.map_append, List.flatten_append]; simp only [List.map_cons, List.map_nil, List.flatten_cons, List.flatten_nil, List.append_nil]
theorem flatTo_len (rest : List (List UInt8)) (k : Nat) : (flatTo rest k).length ≤ 58 * k := by
  induction k with
  | zero => simp [flatTo]
  | succ k ih =>
    by_cases h : k < rest.length
    · rw [flatTo_succ rest k h, List.length_append]; have := piece_len rest[k]; omega
    · have : flatTo rest (k + 1) = flatTo rest k := by unfold flatTo; rw [List.take_of_length_le (by omega), List.take_of_length_le (by omega)]
      rw [this]; omega
theorem flatTo_all (s : List UInt8) (rest : List (List UInt8)) : flatTo rest (min (hnum s) rest.length) = textIn (s :: rest) := by
  unfold flatTo textIn
  rw [← List.take_eq_take_min]
/-- what is asked of the sizes of sectors: those whose bytes are read are not too long -/
def Fit (ss : List (List UInt8)) : Prop := ∀ s rest, ss = s :: rest → s.length ≤ 1048576 ∧ ∀ i, (hi : i < rest.length) → i < hnum s → rest[i].length ≤ 1048576
end Go.Proofs.Ytnjghhkebcojnaa.Entry

/- package entry: what a text says, whatever it is; whether sectors are the first of some -/
set_option maxRecDepth 100000
namespace Go.Proofs.Ytnjghhkebcojnaa.Entry
open Go.RowKit EntM SupM

/-- blocks that no change's bytes may lie in: the reader's own, and all old ones but the text's -/
def GS (w0 : World) (g : Nat) (A : Option Addr) (j : Nat) : Prop := j = g ∨ (j < w0.heap.size ∧ ∀ a, A = some a → j ≠ a.block)
theorem stp_yes (b : List UInt8) (l : List Ch) (s : PackM.St) (h : PackM.numV b (PackM.numS b s 2) 1 = 1) : stp b (l, s) = (l ++ [⟨(PackM.numV b s 2 : Nat), PackM.rawL b (PackM.numS b (PackM.numS b s 2) 1) 64⟩], PackM.rawS b (PackM.numS b (PackM.numS b s 2) 1) 64) := if_pos h
theorem stp_no (b : List UInt8) (l : List Ch) (s : PackM.St) (h : ¬ PackM.numV b (PackM.numS b s 2) 1 = 1) : stp b (l, s) = (l ++ [⟨(PackM.numV b s 2 : Nat), []⟩], PackM.numS b (PackM.numS b s 2) 1) := if_neg h
theorem lit_cells (W : World) (a : Int) (u : Value) (t : TypeId) : (W.alloc (.cells #[.int .i64 a, u] t)).cell? ⟨W.heap.size, 0, none⟩ = some (.int .i64 a) ∧ (W.alloc (.cells #[.int .i64 a, u] t)).cell? ⟨W.heap.size, 1, none⟩ = some u := ⟨by simp, by simp⟩
theorem rawL_nil (s : PackM.St) (n : Int) : PackM.rawL [] s n = [] := by unfold PackM.rawL; split <;> simp
end Go.Proofs.Ytnjghhkebcojnaa.Entry

/- package entry: whether sectors are the first of some -/
set_option maxRecDepth 100000
namespace Go.Proofs.Ytnjghhkebcojnaa.Entry
open Go.RowKit EntM

theorem rows_take {w : World} {A : Option Addr} {m : List (List UInt8)} (h : RowsAt w A m) (k : Nat) : RowsAt w A (m.take k) := fun i hi => by
  have hi' : i < m.length := by simp at hi; omega
  obtain ⟨b, o, v, hA, hc, hs⟩ := h i hi'
  exact ⟨b, o, v, hA, hc, by rw [List.getElem_take]; exact hs⟩
theorem equalFunc_any (A B : Option Addr) (m1 m2 : List (List UInt8)) (c d : Nat) (w : World) (h1 : RowsAt w A m1) (h2 : RowsAt w B m2) (hl : m1.length ≤ 1048576) (he : m1.length = m2.length) :
    Calls Try.prog 57 #[.slice A m1.length c, .slice B m2.length d, .func (.func 36) #[] #[]] w fun e w' => e = .returned (.bool (decide (m1 = m2))) ∧ w = w' := by
  have H1 := Lib.hid h1; have H2 := Lib.hid h2; have HE := Lib.hid he
  have HNO : Hid (∀ k, (hk : k < m1.length) → (hk2 : k < m2.length) → m1[k] ≠ m2[k] → decide (m1 = m2) = false) := Lib.hid fun k hk hk2 hne => decide_eq_false fun e => hne (by subst e; rfl)
  have HYES : Hid (m1.take m1.length = m2.take m1.length → decide (m1 = m2) = true) := Lib.hid fun h => decide_eq_true (by
    rw [List.take_length, he, List.take_length] at h; exact h)
  clear h1 h2
  obtain ⟨n, hn⟩ : ∃ n, n = m1.length := ⟨_, rfl⟩
  have HN := Lib.hid hn
  rw [← he, ← hn]
  rw [← hn] at hl
  clear hn he
  generalize decide (m1 = m2) = q at *
  go_enter Try.func57, Try.ntmps57
  go_wp2
  go_loopw [17] (fun i wr => ∃ k : Nat, k ≤ n ∧ i = .int .i64 k ∧ w = wr ∧ m1.take k = m2.take k)
    (fun i _ => n - (intOf i).toNat)
  case atStart => exact ⟨0, Nat.zero_le _, rfl, rfl, by rw [List.take_zero, List.take_zero]⟩
  case round =>
    obtain ⟨k, hk, rfl, rfl, ht⟩ := hrel
    have HT := Lib.hid ht
    clear ht
    by_cases hlt : k < n
    · have hk1 : k < m1.length := by rw [← HN.out]; exact hlt
      have hk2 : k < m2.length := by rw [← HE.out, ← HN.out]; exact hlt
      obtain ⟨b1, o1, X, cx, hA, e1, l1, l1', p1⟩ := H1.out.row hk1
      obtain ⟨b2, o2, Y, cy, hB, e2, l2, l2', p2⟩ := H2.out.row hk2
      subst hA; subst hB
      have HQ := Lib.hid (HNO.out k hk1 hk2)
      have HG : Hid (m1[k] = m2[k] → m1.take (k + 1) = m2.take (k + 1)) := Lib.hid fun e => by
        rw [List.take_succ_eq_append_getElem hk1, List.take_succ_eq_append_getElem hk2, HT.out, e]
      have C := Lib.hid (Equal.equal_any X Y m1[k] m2[k] cx cy w p1 p2)
      clear p1 p2 HT
      generalize m1[k] = x at *
      generalize m2[k] = y at *
      by_cases hxy : x = y
      · have hd : decide (x = y) = true := decide_eq_true hxy
        rw [hd] at C
        have hf := HG.out hxy
        have HF := Lib.hid hf
        clear hd hxy hf
        go_wp2_with fail
        refine C.out.mono ?_
        rintro e w2 ⟨rfl, rfl⟩
        go_wp2
        go_roundw
        case rel => exact ⟨k + 1, by omega, by go_num, by first | trivial | rfl, HF.out⟩
        case measure => simp [intOf] <;> omega
      · have hd : decide (x = y) = false := decide_eq_false hxy
        rw [hd] at C
        have hf := HQ.out hxy
        have HF := Lib.hid hf
        clear hd hxy hf
        go_wp2_with fail
        refine C.out.mono ?_
        rintro e w2 ⟨rfl, rfl⟩
        go_wp2
        go_ret
        exact ⟨ret_bool HF.out.symm, rfl⟩
    · obtain rfl : k = n := by omega
      have hf := HYES.out (by rw [← HN.out]; exact HT.out)
      have HF := Lib.hid hf
      clear hf
      go_wp2
      go_ret
      exact ⟨ret_bool HF.out.symm, rfl⟩
/-- told sectors, some at least, are the first of all -/
def firstB (p ss : List (List UInt8)) : Bool := decide (0 < p.length ∧ p <+: ss)
theorem firstB_len {p ss : List (List UInt8)} (h : ¬ p.length ≤ ss.length) : firstB p ss = false := decide_eq_false fun k => h k.2.length_le
theorem firstB_take {p ss : List (List UInt8)} (h0 : 0 < p.length) (_h : p.length ≤ ss.length) : firstB p ss = decide (p = ss.take p.length) := by
  unfold firstB
  rw [Bool.eq_iff_iff, decide_eq_true_eq, decide_eq_true_eq, List.prefix_iff_eq_take]
  exact ⟨fun h => h.2, fun h => ⟨h0, h⟩⟩
end Go.Proofs.Ytnjghhkebcojnaa.Entry
