/- what a call may write: a set of blocks; all else that there was stays, what is new is added -/
import Derived.Test.YtjoocjkakgjgmaaMats
import Derived.Test.YtjoocjkakgjgmaaGf
import Derived.StillTailTactics
set_option maxRecDepth 100000
namespace Go.Proofs.Ytjoocjkakgjgmaa
open Go.RowKit

structure Keeps (F : Nat → Prop) (w w' : World) : Prop where
  os : w'.os = w.os
  tape : w'.tape = w.tape
  output : w'.output = w.output
  size : w.heap.size ≤ w'.heap.size
  block : ∀ k, k < w.heap.size → ¬ F k → w'.heap[k]? = w.heap[k]?
section
variable {F G : Nat → Prop} {w w' a b c : World}
theorem Keeps.refl (F : Nat → Prop) (w : World) : Keeps F w w := ⟨rfl, rfl, rfl, Nat.le_refl _, fun _ _ _ => rfl⟩
theorem Keeps.trans (h : Keeps F a b) (k : Keeps F b c) : Keeps F a c :=
  ⟨k.os.trans h.os, k.tape.trans h.tape, k.output.trans h.output, Nat.le_trans h.size k.size, fun i hi hn => (k.block i (Nat.lt_of_lt_of_le hi h.size) hn).trans (h.block i hi hn)⟩
theorem Keeps.of_below (F : Nat → Prop) (h : Below w.heap.size w w') : Keeps F w w' := ⟨h.os, h.tape, h.output, h.size, fun k hk _ => h.block k hk⟩
theorem Keeps.mono (h : Keeps F w w') (hs : ∀ k, k < w.heap.size → F k → G k) : Keeps G w w' := ⟨h.os, h.tape, h.output, h.size, fun k hk hn => h.block k hk fun hf => hn (hs k hk hf)⟩
theorem Keeps.set (F : Nat → Prop) (w : World) (p : Addr) (u : Value) (hp : F p.block) : Keeps F w (w.setCell p u) :=
  ⟨rfl, rfl, rfl, by simp [World.setCell], fun k _ hn => Below.heap_setCell _ _ _ _ (fun e => hn (by rw [e]; exact hp))⟩
theorem Keeps.draw (F : Nat → Prop) (w : World) (n : Nat) : Keeps F w (w.drewN n) := .of_below F (bdraw w n)
theorem Keeps.grow {g : Nat} (h : w.grownBy w' (some g)) (hg : F g) : Keeps F w w' :=
  ⟨h.os, h.tape, h.output, h.size, fun k hk hn => h.block k hk (fun e => hn (by injection e with e; rw [e]; exact hg))⟩
theorem Keeps.cell (h : Keeps F w w') {p : Addr} {v : Value} (hc : w.cell? p = some v) (hp : ¬ F p.block) : w'.cell? p = some v :=
  (World.cell?_of_block (w := w) (h.block _ (cell_lt hc) hp)).trans hc
theorem Keeps.frozen (h : Keeps F w w') {p : Addr} {v : Value} (hc : w.cell? p = some v) (hp : ¬ F p.block) {t : Bool} (ht : w.frozen? p = t) : w'.frozen? p = t :=
  (World.frozen?_of_block (w := w) (h.block _ (cell_lt hc) hp)).trans ht
theorem Keeps.bytes (h : Keeps F w w') {A : Option Addr} {l : List UInt8} (hA : BytesAt w A l) (hn : ∀ a, A = some a → ¬ F a.block) : BytesAt w' A l := fun i hi => by
  obtain ⟨b, o, e, hc⟩ := hA i hi
  exact ⟨b, o, e, h.cell hc (hn ⟨b, o, none⟩ e)⟩
theorem Keeps.bytes' (h : Keeps F w w') {A : Option Addr} {l : List UInt8} (hA : BytesAt w A l) (hn : 0 < l.length → ∀ a, A = some a → ¬ F a.block) : BytesAt w' A l := fun i hi => by
  obtain ⟨b, o, e, hc⟩ := hA i hi
  exact ⟨b, o, e, h.cell hc (hn (by omega) ⟨b, o, none⟩ e)⟩
theorem Keeps.tab (h : Keeps F w w') {b0 : Nat} (ht : Gf.Tab w b0) (hn : ¬ F b0) : Gf.Tab w' b0 :=
  ⟨fun i hi => h.cell (ht.pow i hi) hn, fun i hi i0 => h.cell (ht.log i hi i0) hn⟩
theorem below_keeps {B : Nat} (h : Below B a w) (k : Keeps F w w') (hF : ∀ k, F k → B ≤ k) (hB : B ≤ w.heap.size) : Below B a w' :=
  ⟨k.os.trans h.os, k.tape.trans h.tape, k.output.trans h.output, Nat.le_trans h.size k.size, fun i hi => (k.block i (by omega) (fun hf => by have := hF i hf; omega)).trans (h.block i hi)⟩
end
/-- a region that draws its order: all but its last operations only read, the last ones come in the text's order; its world is a letter -/
theorem region_tail {P : Program} {id : Nat} {Q : Exit → Act → World → Prop} {a : Act} {w : World} {l : List Oper} (n : Nat) (hm : P.follows .mixedOrders = true) (hB : Region.lexTailB .any l.toArray n = true)
    (h : ∀ W, W = w.drew → wpStill P l.toArray W (fun a' => wpList P l.toArray Q (l.drop n) a' W) (l.take n) a) : (Code.region id l.toArray true).wp P Q a w :=
  wp_region_still_tail n hm hB (h _ rfl)
/-- the blocks from lo on, below hi -/
def Span (lo hi : Nat) (k : Nat) : Prop := lo ≤ k ∧ k < hi
end Go.Proofs.Ytjoocjkakgjgmaa
