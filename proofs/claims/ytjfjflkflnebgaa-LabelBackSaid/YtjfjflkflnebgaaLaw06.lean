/- the walks of layer 6's laws -/
import Derived.Test.YtjfjflkflnebgaaActs
import Derived.Test.YtjfjflkflnebgaaR06
import Derived.Test.YtjfjflkflnebgaaPack
import Derived.Test.YtjfjflkflnebgaaR01
import Derived.Lib.SmallJoins
import Derived.IntWalk
import Derived.Deep.QuietTactic
import Derived.BigQuiet
set_option maxRecDepth 100000
namespace Go.Proofs.Ytjfjflkflnebgaa.Law06
open Go.RowKit

def lightB (l : List Act6) : Bool := (l.all fun a => decide (a.b.length ≤ 300)) && decide (l.length ≤ 40)
theorem lightB_iff (l : List Act6) : lightB l = true ↔ (∀ i, (h : i < l.length) → l[i].b.length ≤ 300) ∧ l.length ≤ 40 := by
  unfold lightB
  rw [Bool.and_eq_true, List.all_eq_true, decide_eq_true_eq]
  constructor
  · rintro ⟨h1, h2⟩; exact ⟨fun i hi => by simpa using h1 _ (List.getElem_mem hi), h2⟩
  · rintro ⟨h1, h2⟩
    refine ⟨fun r hr => ?_, h2⟩
    obtain ⟨i, hi, rfl⟩ := List.mem_iff_getElem.1 hr
    simpa using h1 i hi

/-- what a call writes -/
def outL (a : Act6) : List UInt8 := if a.kind = 0 then PackM.numB a.k a.n else if a.kind = 1 then a.b else PackM.textB a.b
def outTo (l : List Act6) (k : Nat) : List UInt8 := (l.take k).flatMap outL
theorem outTo_succ (l : List Act6) (k : Nat) (h : k < l.length) : outTo l (k + 1) = outTo l k ++ outL l[k] := by
  unfold outTo; rw [List.take_succ_eq_append_getElem h, List.flatMap_append]; simp
theorem outL_len (a : Act6) (h : a.b.length ≤ 300) : (outL a).length ≤ 300 := by
  unfold outL
  split
  · rw [PackM.numB_len]; have := (PackM.wid_range a.k).2; omega
  · split
    · exact h
    · rw [PackM.textB_len]; omega
theorem outTo_len (l : List Act6) (h : ∀ i, (hi : i < l.length) → l[i].b.length ≤ 300) (k : Nat) (hk : k ≤ l.length) : (outTo l k).length ≤ 300 * k := by
  induction k with
  | zero => simp [outTo]
  | succ k ih =>
    rw [outTo_succ l k (by omega), List.length_append]
    have h1 := outL_len l[k] (h k (by omega))
    have h2 := ih (by omega)
    omega

/-- a Writer, and a list of the law's own beside it -/
structure Both (w1 : World) (lw lv : List UInt8) (v wv : Value) (wr : World) : Prop where
  wat : Pack.WAt wr w1.heap.size w1.heap.size v lw
  own : Own wr w1.heap.size wv lv
  apart : ∀ b, v.ownBlock = some b → wv.ownBlock ≠ some b
  ne : wv.ownBlock ≠ some w1.heap.size
  below : Below w1.heap.size w1 wr
theorem Both.keep {w1 wr w2 : World} {lw lv : List UInt8} {v wv : Value} (h : Both w1 lw lv v wv wr) (hb : Below wr.heap.size wr w2) : Both w1 lw lv v wv w2 :=
  ⟨h.wat.below hb, h.own.below hb, h.apart, h.ne, bstep h.below hb⟩
theorem Both.write {w1 wr w2 : World} {lw lw' lv : List UInt8} {v v2 wv : Value} (h : Both w1 lw lv v wv wr) (h2 : Pack.WAt w2 w1.heap.size w1.heap.size v2 lw') (q : Keeps (fun b => b = w1.heap.size ∨ v.ownBlock = some b) wr w2)
    (p : v2.ownBlock = v.ownBlock ∨ ∃ k, v2.ownBlock = some k ∧ wr.heap.size ≤ k) : Both w1 lw' lv v2 wv w2 := by
  refine ⟨h2, h.own.keep q (fun k hk hF => ?_), fun b hb hw => ?_, h.ne, Pack.below_w h.wat h.below q (Nat.le_refl _) (Nat.le_refl _) h.below.size⟩
  · rcases hF with rfl | hF
    · exact h.ne hk
    · exact h.apart k hF hk
  · rcases p with p | ⟨k, p, hk⟩
    · exact h.apart b (by rw [← p]; exact hb) hw
    · have := (h.own.lt b hw).2
      rw [hb] at p; injection p with p; omega
theorem Both.add {w1 wr w2 : World} {lw lv lv' : List UInt8} {v wv wv' : Value} (h : Both w1 lw lv v wv wr) (a : Appd wr w1.heap.size wv lv' wv' w2) : Both w1 lw lv' v wv' w2 := by
  have q : Keeps (fun b => wv.ownBlock = some b) wr w2 := ⟨a.grow.os, a.grow.tape, a.grow.output, a.grow.size, fun k hk hn => a.grow.block k hk (fun e => hn e.symm)⟩
  have hg := h.wat.lt
  refine ⟨h.wat.keep q h.ne h.apart, a.own, fun b hb hw => ?_, fun e => ?_, below_keeps h.below q (fun k hk => (h.own.lt k hk).1) h.below.size⟩
  · rcases a.place with p | p
    · exact h.apart b hb (by rw [← p]; exact hw)
    · have := (h.wat.own.lt b hb).2
      rw [hw] at p; injection p with p; omega
  · rcases a.place with p | p
    · exact h.ne (by rw [← p]; exact e)
    · rw [e] at p; injection p with p; omega
theorem Both.start (w1 : World) (t : TypeId) : Both w1 [] [] (.slice none 0 0) (.slice none 0 0) (w1.alloc (.cells #[.slice none 0 0] t)) :=
  ⟨Pack.WAt.start w1 t, Own.nil _ _, fun b h => by simp [Value.ownBlock] at h, by simp [Value.ownBlock], balloc _ _⟩

/-! the two readers -/
theorem rawL_le (b : List UInt8) (s : PackM.St) (n : Int) : (PackM.rawL b s n).length ≤ b.length := by
  unfold PackM.rawL; split
  · simp
  · simp; omega
theorem textL_le (b : List UInt8) (s : PackM.St) : (PackM.textL b s).length ≤ b.length := rawL_le _ _ _
theorem RAt_keep {F : Nat → Prop} {w w' : World} {g : Nat} {A : Option Addr} {c : Nat} {b : List UInt8} {s : PackM.St} (h : R06.RAt w g A c b s) (q : Keeps F w w') (hg : ¬ F g) (hA : 0 < b.length → ∀ a, A = some a → ¬ F a.block) : R06.RAt w' g A c b s :=
  ⟨q.cell h.cb hg, q.cell h.ca hg, q.cell h.cd hg, q.frozen h.ca hg h.f1, q.frozen h.cd hg h.f2, q.bytes' h.bytes hA, h.ne, h.ok, h.cap, h.cap2⟩
/-- the program's reader and the document's, of the same bytes, which lie ahead of both -/
structure Two (w1 : World) (g1 g2 : Nat) (A1 A : Option Addr) (c : Nat) (b : List UInt8) (s1 s2 : PackM.St) (wr : World) : Prop where
  rd : Pack.RdAt wr g1 A1 b s1
  ra : R06.RAt wr g2 A c b s2
  old : 0 < b.length → ∀ a, A = some a → a.block < w1.heap.size
  n1 : w1.heap.size ≤ g1
  n2 : w1.heap.size ≤ g2
  ne : g1 ≠ g2
  own : 0 < b.length → ∀ a, A1 = some a → a.block ≠ g2
  below : Below w1.heap.size w1 wr
theorem Two.keep {w1 wr w2 : World} {g1 g2 : Nat} {A1 A : Option Addr} {c : Nat} {b : List UInt8} {s1 s2 : PackM.St} (h : Two w1 g1 g2 A1 A c b s1 s2 wr) (hb : Below wr.heap.size wr w2) : Two w1 g1 g2 A1 A c b s1 s2 w2 :=
  ⟨h.rd.below hb, h.ra.below hb, h.old, h.n1, h.n2, h.ne, h.own, bstep h.below hb⟩
theorem Two.first {w1 wr w2 : World} {g1 g2 : Nat} {A1 A : Option Addr} {c : Nat} {b : List UInt8} {s1 s2 s3 : PackM.St} (h : Two w1 g1 g2 A1 A c b s1 s2 wr) (hr : Pack.RdAt w2 g1 A1 b s3) (hg : wr.grownBy w2 (some g1)) : Two w1 g1 g2 A1 A c b s3 s2 w2 :=
  ⟨hr, RAt_keep h.ra (Keeps.grow (F := fun x => x = g1) hg rfl) (Ne.symm h.ne) (fun h0 a e e' => by have := h.old h0 a e; have := h.n1; omega), h.old, h.n1, h.n2, h.ne, h.own, below_grow h.below hg h.n1 h.below.size⟩
theorem Two.second {w1 wr w2 : World} {g1 g2 : Nat} {A1 A : Option Addr} {c : Nat} {b : List UInt8} {s1 s2 s3 : PackM.St} (h : Two w1 g1 g2 A1 A c b s1 s2 wr) (hr : R06.RAt w2 g2 A c b s3) (hg : wr.grownBy w2 (some g2)) : Two w1 g1 g2 A1 A c b s1 s3 w2 :=
  ⟨h.rd.keep (Keeps.grow (F := fun x => x = g2) hg rfl) h.ne h.own, hr, h.old, h.n1, h.n2, h.ne, h.own, below_grow h.below hg h.n2 h.below.size⟩

theorem Two.drewN {w1 wr : World} {g1 g2 : Nat} {A1 A : Option Addr} {c : Nat} {b : List UInt8} {s1 s2 : PackM.St} (h : Two w1 g1 g2 A1 A c b s1 s2 wr) (n : Nat) : Two w1 g1 g2 A1 A c b s1 s2 (wr.drewN n) := h.keep (bdraw _ _)
theorem Two.start {w1 w2 : World} {g1 : Nat} {A1 A : Option Addr} {c : Nat} {b : List UInt8} (hA : BytesAt w1 A b) (hc : b.length ≤ c) (hc2 : c ≤ maxLen) (hr : Pack.RdAt w2 g1 A1 b ⟨0, false⟩) (hb : Below w1.heap.size w1 w2) (hg : w1.heap.size ≤ g1) (t : TypeId) :
    Two w1 g1 w2.heap.size A1 A c b ⟨0, false⟩ ⟨0, false⟩ (w2.alloc (.cells #[.slice A b.length c, .int .i64 0, .bool false] t)) := by
  refine ⟨hr.below (balloc _ _), ⟨by simp, by simp, by simp, by simp, by simp, (hA.below hb).alloc _, fun h0 a e => by have := hA.lt h0 a e; have := hb.size; omega, Nat.zero_le _, hc, hc2⟩, fun h0 => hA.lt h0, hg, hb.size, by have := hr.lt; omega, fun h0 a e => by have := hr.bytes.lt h0 a e; omega, bstep hb (balloc _ _)⟩
/-- what the program's reader has told is still there behind the document's call -/
theorem Two.told {w1 wr w5 w6 : World} {g1 g2 : Nat} {A1 A X : Option Addr} {c : Nat} {b l : List UInt8} {s1 s2 : PackM.St} (h : Two w1 g1 g2 A1 A c b s1 s2 wr) (hX : BytesAt w5 X l) (_hs : wr.heap.size ≤ w5.heap.size)
    (hn : 0 < l.length → ∀ a, X = some a → (∃ a0, A1 = some a0 ∧ a.block = a0.block) ∨ wr.heap.size ≤ a.block) (hl : l.length ≤ b.length) (hg : w5.grownBy w6 (some g2)) : BytesAt w6 X l :=
  (Keeps.grow (F := fun x => x = g2) hg rfl).bytes' hX fun h0 a e e' => by
    have h2 := cell_lt h.ra.cb
    simp only at h2
    rcases hn h0 a e with ⟨a0, e1, e2⟩ | e1
    · have := h.own (by omega) a0 e1; omega
    · omega

end Go.Proofs.Ytjfjflkflnebgaa.Law06
