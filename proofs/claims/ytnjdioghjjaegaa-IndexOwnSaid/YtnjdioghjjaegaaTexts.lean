/- package label's iterator over the texts of some lists -/
import Derived.Test.YtnjdioghjjaegaaR07
import Derived.RangeFuncNested
import Derived.RangeFuncBound
import Derived.RangeFuncCalls
import Derived.RangeFuncLeaves
import Derived.Shelf.Abstract
import Derived.Shelf.RegionOpen
import Derived.OwnWalkIn
import Derived.TacticsInMore
import Derived.LoopNIn
import Derived.LoopIn
set_option maxRecDepth 100000
namespace Go.Proofs.Ytnjdioghjjaegaa.LabM
/-- a text that is no longer than a text may be -/
abbrev Txt := { s : ByteArray // s.size ≤ maxLen }
/-- where the j-th text of the k-th list stands among all texts -/
def pos (ls : List (List ByteArray)) (k j : Nat) : Nat := (ls.take k).flatten.length + j
theorem pos_next (ls : List (List ByteArray)) (k : Nat) (h : k < ls.length) : pos ls k ls[k].length = pos ls (k + 1) 0 := by
  unfold pos; rw [List.take_succ_eq_append_getElem h, List.flatten_append]; simp
theorem pos_zero (ls : List (List ByteArray)) : pos ls 0 0 = 0 := by simp [pos]
theorem pos_end (ls : List (List ByteArray)) : pos ls ls.length 0 = ls.flatten.length := by simp [pos]
theorem pos_at (ls : List (List ByteArray)) (xs : List Txt) (hx : xs.map Subtype.val = ls.flatten) (k j : Nat) (h : k < ls.length) (hj : j < ls[k].length) :
    ∃ hp : pos ls k j < xs.length, (xs[pos ls k j]).1 = ls[k][j] := by
  have e : ls.flatten = (ls.take k).flatten ++ (ls[k] ++ (ls.drop (k + 1)).flatten) := by
    conv => lhs; rw [← List.take_append_drop k ls, List.drop_eq_getElem_cons h]
    rw [List.flatten_append, List.flatten_cons]
  have hl : xs.length = ls.flatten.length := by rw [← hx, List.length_map]
  have hp : pos ls k j < xs.length := by
    rw [hl, e]; unfold pos; simp only [List.length_append]; omega
  refine ⟨hp, ?_⟩
  have h1 : (xs.map Subtype.val)[pos ls k j]? = some (xs[pos ls k j]).1 := by rw [List.getElem?_map, List.getElem?_eq_getElem hp]; rfl
  rw [hx, e, List.getElem?_append_right (by unfold pos; omega)] at h1
  have h2 : pos ls k j - (ls.take k).flatten.length = j := by unfold pos; omega
  rw [h2, List.getElem?_append_left hj, List.getElem?_eq_getElem hj] at h1
  exact (Option.some.inj h1).symm
theorem txts (l : List ByteArray) (h : ∀ s ∈ l, s.size ≤ maxLen) : ∃ xs : List Txt, xs.map Subtype.val = l := by
  induction l with
  | nil => exact ⟨[], rfl⟩
  | cons s l ih =>
    obtain ⟨xs, hx⟩ := ih fun t ht => h t (List.mem_cons_of_mem _ ht)
    exact ⟨⟨s, h s List.mem_cons_self⟩ :: xs, by rw [List.map_cons, hx]⟩
end Go.Proofs.Ytnjdioghjjaegaa.LabM
namespace Go.Proofs.Ytnjdioghjjaegaa.Label
open Go.RowKit Go.Shelf R07
attribute [local go_sem] Oper.semAt_some

/-- the blocks below N, but for those of F, lie as they lay -/
def KeepB (N : Nat) (F : Nat → Prop) (W W' : World) : Prop := ∀ k, k < N → ¬ F k → W'.heap[k]? = W.heap[k]?
theorem KeepB.refl (N : Nat) (F : Nat → Prop) (W : World) : KeepB N F W W := fun _ _ _ => rfl
theorem KeepB.trans {N : Nat} {F : Nat → Prop} {A B C : World} (h : KeepB N F A B) (k : KeepB N F B C) : KeepB N F A C := fun i hi hf => (k i hi hf).trans (h i hi hf)
theorem KeepB.cell {N : Nat} {F : Nat → Prop} {W W' : World} (h : KeepB N F W W') {p : Addr} {v : Value} (hc : W.cell? p = some v) (h1 : p.block < N) (h2 : ¬ F p.block) : W'.cell? p = some v := by
  rw [← hc]; unfold World.cell?; rw [h _ h1 h2]
theorem KeepB.of_below {N : Nat} {F : Nat → Prop} {W W' : World} (h : Below N W W') : KeepB N F W W' := fun k hk _ => h.block k hk
theorem KeepB.put (N : Nat) (F : Nat → Prop) {m : Nat} (hm : N ≤ m) (W : World) (l : Nat) (o o' : Obj) (hl : m ≤ l) (_h1 : W.heap[l]? = some o) (_h2 : o.isCells = false) (_h3 : o.isWalk = false) : KeepB N F W (W.putObj l o') := fun k hk _ =>
  World.putObj_heap_other (by omega)
/-- lists of texts that lie in such blocks -/
def ListsOut (w : World) (N : Nat) (F : Nat → Prop) (A : Option Addr) (ls : List (List ByteArray)) : Prop :=
  ∀ i, (h : i < ls.length) → ∃ b o B c, A = some ⟨b, o, none⟩ ∧ w.cell? ⟨b, o + i, none⟩ = some (.slice B ls[i].length c) ∧ ls[i].length ≤ maxLen ∧ StrsAt w B ls[i] ∧ b < N ∧ ¬ F b ∧ (0 < ls[i].length → ∀ a, B = some a → a.block < N ∧ ¬ F a.block)
theorem ListsOut.of (w : World) (F : Nat → Prop) (A : Option Addr) (ls : List (List ByteArray)) (h : ListsAt w A ls) (hF : ∀ k, ¬ F k) : ListsOut w w.heap.size F A ls := fun i hi => by
  obtain ⟨b, o, B, c, h1, h2, h3, h4, h5⟩ := h i hi
  exact ⟨b, o, B, c, h1, h2, Nat.le_trans h3 h4, h5, cell_lt h2, hF _, fun h0 a e => ⟨CellsAt.lt h5 (by rw [LabM.strV_len]; exact h0) a e, hF _⟩⟩
theorem StrsAt.keepB {N : Nat} {F : Nat → Prop} {W W' : World} {B : Option Addr} {l : List ByteArray} (h : StrsAt W B l) (k : KeepB N F W W') (hB : 0 < l.length → ∀ a, B = some a → a.block < N ∧ ¬ F a.block) : StrsAt W' B l := fun i hi => by
  obtain ⟨b, o, e, hc⟩ := h i hi
  have := hB (by rw [LabM.strV_len] at hi; omega) _ e
  exact ⟨b, o, e, k.cell hc this.1 this.2⟩

end Go.Proofs.Ytnjdioghjjaegaa.Label
