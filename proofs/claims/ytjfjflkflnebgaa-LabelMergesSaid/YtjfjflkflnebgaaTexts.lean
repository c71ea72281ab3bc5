/- package label's iterator over the texts of some lists -/
import Derived.Test.YtjfjflkflnebgaaR07
import Derived.RangeFuncNested
import Derived.RangeFuncBound
import Derived.RangeFuncCalls
import Derived.RangeFuncLeaves
import Derived.Shelf.Abstract
import Derived.Shelf.RegionOpen
import Derived.OwnWalkIn
import Derived.TacticsInMore
import Derived.LoopNIn
import Derived.LoopIn
set_option maxRecDepth 100000
namespace Go.Proofs.Ytjfjflkflnebgaa.LabM
/-- a text that is no longer than a text may be -/
abbrev Txt := { s : ByteArray // s.size ≤ maxLen }
/-- where the j-th text of the k-th list stands among all texts -/
def pos (ls : List (List ByteArray)) (k j : Nat) : Nat := (ls.take k).flatten.length + j
theorem pos_next (ls : List (List ByteArray)) (k : Nat) (h : k < ls.length) : pos ls k ls[k].length = pos ls (k + 1) 0 := by
  unfold pos; rw [List.take_succ_eq_append_getElem h, List.flatten_append]; simp
theorem pos_zero (ls : List (List ByteArray)) : pos ls 0 0 = 0 := by simp [pos]
theorem pos_end (ls : List (List ByteArray)) : pos ls ls.length 0 = ls.flatten.length := by simp [pos]
theorem pos_at (ls : List (List ByteArray)) (xs : List Txt) (hx : xs.map Subtype.val = ls.flatten) (k j : Nat) (h : k < ls.length) (hj : j < ls[k].length) :
    ∃ hp : pos ls k j < xs.length, (xs[pos ls k j]).1 = ls[k][j] := by
  have e : ls.flatten = (ls.take k).flatten ++ (ls[k] ++ (ls.drop (k + 1)).flatten) := by
    conv => lhs; rw [← List.take_append_drop k ls, List.drop_eq_getElem_cons h]
    rw [List.flatten_append, List.flatten_cons]
  have hl : xs.length = ls.flatten.length := by rw [← hx, List.length_map]
  have hp : pos ls k j < xs.length := by
    rw [hl, e]; unfold pos; simp only [List.length_append]; omega
  refine ⟨hp, ?_⟩
  have h1 : (xs.map Subtype.val)[pos ls k j]? = some (xs[pos ls k j]).1 := by rw [List.getElem?_map, List.getElem?_eq_getElem hp]; rfl
  rw [hx, e, List.getElem?_append_right (by unfold pos; omega)] at h1
  have h2 : pos ls k j - (ls.take k).flatten.length = j := by unfold pos; omega
  rw [h2, List.getElem?_append_left hj, List.getElem?_eq_getElem hj] at h1
  exact (Option.some.inj h1).symm
theorem txts (l : List ByteArray) (h : ∀ s ∈ l, s.size ≤ maxLen) : ∃ xs : List Txt, xs.map Subtype.val = l := by
  induction l with
  | nil => exact ⟨[], rfl⟩
  | cons s l ih =>
    obtain ⟨xs, hx⟩ := ih fun t ht => h t (List.mem_cons_of_mem _ ht)
    exact ⟨⟨s, h s List.mem_cons_self⟩ :: xs, by rw [List.map_cons, hx]⟩
end Go.Proofs.Ytjfjflkflnebgaa.LabM
namespace Go.Proofs.Ytjfjflkflnebgaa.Label
open Go.RowKit Go.Shelf R07
attribute [local go_sem] Oper.semAt_some

/-- the blocks below N, but for those of F, lie as they lay -/
def KeepB (N : Nat) (F : Nat → Prop) (W W' : World) : Prop := ∀ k, k < N → ¬ F k → W'.heap[k]? = W.heap[k]?
theorem KeepB.refl (N : Nat) (F : Nat → Prop) (W : World) : KeepB N F W W := fun _ _ _ => rfl
theorem KeepB.trans {N : Nat} {F : Nat → Prop} {A B C : World} (h : KeepB N F A B) (k : KeepB N F B C) : KeepB N F A C := fun i hi hf => (k i hi hf).trans (h i hi hf)
theorem KeepB.cell {N : Nat} {F : Nat → Prop} {W W' : World} (h : KeepB N F W W') {p : Addr} {v : Value} (hc : W.cell? p = some v) (h1 : p.block < N) (h2 : ¬ F p.block) : W'.cell? p = some v := by
  rw [← hc]; unfold World.cell?; rw [h _ h1 h2]
theorem KeepB.of_below {N : Nat} {F : Nat → Prop} {W W' : World} (h : Below N W W') : KeepB N F W W' := fun k hk _ => h.block k hk
theorem KeepB.put (N : Nat) (F : Nat → Prop) {m : Nat} (hm : N ≤ m) (W : World) (l : Nat) (o o' : Obj) (hl : m ≤ l) (_h1 : W.heap[l]? = some o) (_h2 : o.isCells = false) (_h3 : o.isWalk = false) : KeepB N F W (W.putObj l o') := fun k hk _ =>
  World.putObj_heap_other (by omega)
/-- lists of texts that lie in such blocks -/
def ListsOut (w : World) (N : Nat) (F : Nat → Prop) (A : Option Addr) (ls : List (List ByteArray)) : Prop :=
  ∀ i, (h : i < ls.length) → ∃ b o B c, A = some ⟨b, o, none⟩ ∧ w.cell? ⟨b, o + i, none⟩ = some (.slice B ls[i].length c) ∧ ls[i].length ≤ maxLen ∧ StrsAt w B ls[i] ∧ b < N ∧ ¬ F b ∧ (0 < ls[i].length → ∀ a, B = some a → a.block < N ∧ ¬ F a.block)
theorem ListsOut.of (w : World) (F : Nat → Prop) (A : Option Addr) (ls : List (List ByteArray)) (h : ListsAt w A ls) (hF : ∀ k, ¬ F k) : ListsOut w w.heap.size F A ls := fun i hi => by
  obtain ⟨b, o, B, c, h1, h2, h3, h4, h5⟩ := h i hi
  exact ⟨b, o, B, c, h1, h2, Nat.le_trans h3 h4, h5, cell_lt h2, hF _, fun h0 a e => ⟨CellsAt.lt h5 (by rw [LabM.strV_len]; exact h0) a e, hF _⟩⟩
theorem StrsAt.keepB {N : Nat} {F : Nat → Prop} {W W' : World} {B : Option Addr} {l : List ByteArray} (h : StrsAt W B l) (k : KeepB N F W W') (hB : 0 < l.length → ∀ a, B = some a → a.block < N ∧ ¬ F a.block) : StrsAt W' B l := fun i hi => by
  obtain ⟨b, o, e, hc⟩ := h i hi
  have := hB (by rw [LabM.strV_len] at hi; omega) _ e
  exact ⟨b, o, e, k.cell hc this.1 this.2⟩

set_option maxHeartbeats 1000000 in
theorem texts1_in (F : Fence) (n : Nat) (hf : F.fn 37) (hro : F.round = none) (hn : 1 ≤ n) (l Bn : Nat) (w0 : World) (N : Nat) (G : Nat → Prop) (Kp : World → World → Prop) (hKp : ∀ {W W'}, Kp W W' → KeepB N G W W')
    (A : Option Addr) (ls : List (List ByteArray)) (c : Nat) (hA : ListsOut w0 N G A ls) (hlen : ls.length ≤ 9223372036854775807)
    (xs : List LabM.Txt) (hxs : xs.map Subtype.val = ls.flatten) (J Jx : List LabM.Txt → World → Prop)
    (hY : ∀ pre x W, J pre W → pre.length < xs.length → YieldAt F (n - 1) Try.prog l #[.string x.1] W fun e W' =>
      (e = .returned (.bool true) ∧ J (pre ++ [x]) W' ∧ Kp W W') ∨ (e = .returned (.bool false) ∧ Jx (pre ++ [x]) W'))
    (W : World) (hBn : W.cell? ⟨Bn, 0, none⟩ = some (.slice A ls.length c)) (hW : KeepB N G w0 W) (h0 : J [] W) :
    CallsIn F n Try.prog 37 #[.func (.yield l) #[] #[], .pointer (some ⟨Bn, 0, none⟩)] W fun e W' => (∃ v, e = .returned v) ∧
      ((∃ ys, ys = xs ∧ J ys W') ∨ (∃ pre, pre <+: xs ∧ Jx pre W')) := by
  have HY := Lib.hid hY; have HA := Lib.hid hA; have HX := Lib.hid hxs
  clear hY hA hxs
  refine callsIn_of_wp Try.func37 rfl hf ?_ hro
  simp only [Try.ntmps37, List.size_toArray, List.length_cons, List.length_nil, Nat.reduceAdd, Nat.reduceSub, Array.replicate_succ, Array.replicate_zero, List.push_toArray, List.append_toArray, List.nil_append, List.cons_append]
  gi_wp2
  gi_loopw [9] (fun i wr => ∃ k : Nat, k ≤ ls.length ∧ i = .int .i64 k ∧ J (xs.take (LabM.pos ls k 0)) wr ∧ KeepB N G w0 wr)
    (fun i _ => ls.length - (intOf i).toNat)
  case atStart => exact ⟨0, Nat.zero_le _, rfl, by rw [LabM.pos_zero]; exact h0, hW⟩
  case round =>
    obtain ⟨k, hk, rfl, hJ, hb⟩ := hrel
    rename World => w1
    have HJ := Lib.hid hJ
    clear hJ
    by_cases hlt : k < ls.length
    · obtain ⟨b, o, B, d, hAe, e0, hd2, hB, hN, hG, hBo⟩ := HA.out k hlt
      subst hAe
      have e1 := hb.cell (p := ⟨b, o + k, none⟩) e0 hN hG
      have HB := Lib.hid hB; have HBO := Lib.hid hBo
      clear e0 hBo
      have hmax : ls[k].length ≤ 9223372036854775807 := by unfold maxLen at hd2; omega
      obtain ⟨m, hm⟩ : ∃ m, m = ls[k].length := ⟨_, rfl⟩
      have HM := Lib.hid hm
      rw [← hm] at e1 hmax
      clear hB hm
      gi_wp2
      gi_loopw [15] (fun i wr => ∃ j : Nat, j ≤ m ∧ i = .int .i64 j ∧ J (xs.take (LabM.pos ls k j)) wr ∧ KeepB N G w0 wr)
        (fun i _ => m - (intOf i).toNat)
      case atStart => exact ⟨0, Nat.zero_le _, rfl, HJ.out, hb⟩
      case round =>
        obtain ⟨j, hj, rfl, hJ, hb2⟩ := hrel
        rename World => w2
        have HJ2 := Lib.hid hJ
        clear hJ
        by_cases hlt2 : j < m
        · obtain ⟨b2, o2, hAe, e2⟩ := (StrsAt.keepB HB.out hb2 HBO.out).at (i := j) (by rw [← HM.out]; exact hlt2)
          subst hAe
          obtain ⟨hp, hx⟩ := LabM.pos_at ls xs HX.out k j hlt (by rw [← HM.out]; exact hlt2)
          have hps : xs.take (LabM.pos ls k (j + 1)) = xs.take (LabM.pos ls k j) ++ [xs[LabM.pos ls k j]] := by
            rw [show LabM.pos ls k (j + 1) = LabM.pos ls k j + 1 from by unfold LabM.pos; omega, List.take_succ_eq_append_getElem hp]
          obtain ⟨fn, tmps, assign, body, hy, hR⟩ := HY.out _ xs[LabM.pos ls k j] w2 HJ2.out (by rw [List.length_take]; omega)
          rw [hx] at hy
          rw [← hps] at hR
          generalize hxv : ls[k][j] = x at *
          clear hps hx hp
          gi_wp2
          refine hR.mono ?_
          rintro e w3 (⟨rfl, hJ3, hk3⟩ | ⟨rfl, hJx3⟩)
          · have HJ3 := Lib.hid hJ3
            clear hJ3 hR hy
            gi_wp2
            go_roundw
            case rel => exact ⟨j + 1, by omega, by go_num, HJ3.out, hb2.trans (hKp hk3)⟩
            case measure => simp [intOf] <;> omega
          · have HJ3 := Lib.hid hJx3
            clear hJx3 hR hy
            gi_wp2
            refine bodyPost_ret (results_none rfl _ _ _) rfl ?_
            exact ⟨⟨_, rfl⟩, .inr ⟨_, List.take_prefix _ _, HJ3.out⟩⟩
        · obtain rfl : j = m := by omega
          have hJ := HJ2.out
          rw [HM.out, LabM.pos_next ls k hlt] at hJ
          have HJ3 := Lib.hid hJ
          clear hJ
          gi_wp2
          go_roundw
          case rel => exact ⟨k + 1, by omega, by go_num, HJ3.out, hb2⟩
          case measure => simp [intOf] <;> omega
    · obtain rfl : k = ls.length := by omega
      have hJ := HJ.out
      have hle : xs.length = LabM.pos ls ls.length 0 := by rw [LabM.pos_end, ← HX.out, List.length_map]
      rw [← hle, List.take_length] at hJ
      have HJ3 := Lib.hid hJ
      clear hJ hle
      gi_wp2
      go_end0
      exact ⟨⟨_, rfl⟩, .inl ⟨xs, rfl, HJ3.out⟩⟩
/-- texts: a function value over one new block that holds the lists -/
theorem texts_in (F : Fence) (n : Nat) (hf : F.fn 26) (hro : F.round = none) (A : Option Addr) (m c : Nat) (w : World) :
    CallsIn F n Try.prog 26 #[.slice A m c] w fun e w' => e = .returned (.func (.func 37) #[] #[.pointer (some ⟨w.heap.size, 0, none⟩)]) ∧ w' = w.alloc (.cells #[.slice A m c] 30) := by
  refine callsIn_of_wp Try.func26 rfl hf ?_ hro
  simp only [Try.ntmps26, List.size_toArray, List.length_cons, List.length_nil, Nat.reduceAdd, Nat.reduceSub, Array.replicate_succ, Array.replicate_zero, List.push_toArray, List.append_toArray, List.nil_append, List.cons_append]
  gi_wp2
  go_ret
  exact ⟨rfl, rfl⟩
theorem texts_stops (F : Fence) (n : Nat) (hf : F.fn 37) (hro : F.round = none) (hn : 1 ≤ n) (Bn : Nat) (w0 : World) (A : Option Addr) (ls : List (List ByteArray)) (c : Nat) (hA : ListsAt w0 A ls) (hlen : ls.length ≤ 9223372036854775807)
    (xs : List LabM.Txt) (hxs : xs.map Subtype.val = ls.flatten) (w : World) (hBn : w.cell? ⟨Bn, 0, none⟩ = some (.slice A ls.length c)) (hw : Below w0.heap.size w0 w) :
    SeqStopsK F n Try.prog 37 #[.pointer (some ⟨Bn, 0, none⟩)] (fun x : LabM.Txt => #[Value.string x.1]) (Below w0.heap.size) (fun ys => ys = xs) (fun pre => pre <+: xs) xs.length w := fun l J Jx W hW _ _ hY h0 =>
  texts1_in F n hf hro hn l Bn w0 w0.heap.size (fun _ => False) _ (fun h => KeepB.of_below h) A ls c (.of _ _ _ _ hA fun _ => id) hlen xs hxs J Jx hY W ((hW.cell (p := ⟨Bn, 0, none⟩) (cell_lt hBn)).trans hBn) (KeepB.of_below (hw.trans (hW.mono hw.size))) h0
theorem texts_stopsB (F : Fence) (n : Nat) (hf : F.fn 37) (hro : F.round = none) (hn : 1 ≤ n) (Bn : Nat) (w0 : World) (N : Nat) (G : Nat → Prop) (A : Option Addr) (ls : List (List ByteArray)) (c : Nat) (hA : ListsOut w0 N G A ls) (hlen : ls.length ≤ 9223372036854775807)
    (xs : List LabM.Txt) (hxs : xs.map Subtype.val = ls.flatten) (w : World) (hBn : w.cell? ⟨Bn, 0, none⟩ = some (.slice A ls.length c)) (hw : KeepB N G w0 w) (hN : N ≤ w.heap.size) :
    SeqStopsK F n Try.prog 37 #[.pointer (some ⟨Bn, 0, none⟩)] (fun x : LabM.Txt => #[Value.string x.1]) (KeepB N G) (fun ys => ys = xs) (fun pre => pre <+: xs) xs.length w := fun l J Jx W hW _ _ hY h0 =>
  texts1_in F n hf hro hn l Bn w0 N G _ id A ls c hA hlen xs hxs J Jx hY W ((hW.cell (p := ⟨Bn, 0, none⟩) (cell_lt hBn)).trans hBn) (hw.trans (KeepB.of_below (hW.mono hN))) h0
end Go.Proofs.Ytjfjflkflnebgaa.Label
