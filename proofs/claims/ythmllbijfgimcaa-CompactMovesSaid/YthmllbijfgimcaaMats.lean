/- lists of lists of bytes in memory -/
import Derived.Test.YthmllbijfgimcaaBytes
import Derived.Test.YthmllbijfgimcaaMA
import Derived.Laws.IdiomStrings
set_option maxRecDepth 100000
namespace Go.Proofs.Ythmllbijfgimcaa
open Go.RowKit

/-- a slice value that reads as these bytes -/
def SliceIs (w : World) (v : Value) (l : List UInt8) : Prop := ∃ A c, v = .slice A l.length c ∧ l.length ≤ c ∧ c ≤ maxLen ∧ BytesAt w A l
theorem SliceIs.below {w w' : World} {v : Value} {l : List UInt8} (h : SliceIs w v l) (hb : Below w.heap.size w w') : SliceIs w' v l := by
  obtain ⟨A, c, h1, h2, h3, h4⟩ := h; exact ⟨A, c, h1, h2, h3, h4.below hb⟩
theorem SliceIs.drewN {w : World} {v : Value} {l : List UInt8} (h : SliceIs w v l) (n : Nat) : SliceIs (w.drewN n) v l := h
/-- the cells behind an address hold slices that read as these lists -/
def RowsAt (w : World) (A : Option Addr) (m : List (List UInt8)) : Prop :=
  ∀ i, (h : i < m.length) → ∃ b o v, A = some ⟨b, o, none⟩ ∧ w.cell? ⟨b, o + i, none⟩ = some v ∧ SliceIs w v m[i]
theorem RowsAt.below {w w' : World} {A : Option Addr} {m : List (List UInt8)} (h : RowsAt w A m) (hb : Below w.heap.size w w') : RowsAt w' A m := by
  intro i hi
  obtain ⟨b, o, v, hA, hc, hs⟩ := h i hi
  exact ⟨b, o, v, hA, (hb.cell (p := ⟨b, o + i, none⟩) (cell_lt hc)).trans hc, hs.below hb⟩
theorem RowsAt.drewN {w : World} {A : Option Addr} {m : List (List UInt8)} (h : RowsAt w A m) (n : Nat) : RowsAt (w.drewN n) A m := h
theorem RowsAt.nil (w : World) (A : Option Addr) : RowsAt w A [] := fun i hi => absurd hi (by simp)
/-- row i, as the walk wants it -/
theorem RowsAt.row {w : World} {A : Option Addr} {m : List (List UInt8)} (h : RowsAt w A m) {i : Nat} (hi : i < m.length) :
    ∃ b o B c, A = some ⟨b, o, none⟩ ∧ w.cell? ⟨b, o + i, none⟩ = some (.slice B m[i].length c) ∧ m[i].length ≤ c ∧ c ≤ maxLen ∧ BytesAt w B m[i] := by
  obtain ⟨b, o, v, hA, hc, B, c, rfl, h1, h2, h3⟩ := h i hi
  exact ⟨b, o, B, c, hA, hc, h1, h2, h3⟩

section
variable {w w' : World} {base : Nat} {v : Value} {m : List (List UInt8)}
end

/-- where an append lies: in the row that there was, or in a new one -/
theorem append_place {w : World} {base : Nat} {t ty e : TypeId} {i : TypeInfo} {z : Value} {bytes : Nat} (ht : Try.prog.underlying t = some (.slice e)) (hi : Try.prog.info? e = some i) (hz : i.zero = some z) (hsize : i.size = 1) (hby : i.bytes = bytes)
    {v : Value} {n : Nat} {xs : List Value} (hown : w.ownsRow base e 1 v n xs) {a : Addr} {c : Nat} {u : Value} (hu : w.cell? (a.add 0) = some u) (h1 : u.oneCell' = true) (h63 : n + 1 ≤ maxLen) (hbytes : (n + 1) * bytes ≤ 140737488355328)
    {v' : Value} {w' : World} (hrun : (Builtin.append_ #[t, t] ty #[v, .slice (some a) 1 c]).run Try.prog w = .ok v' w') : v'.ownBlock = v.ownBlock ∨ v'.ownBlock = some w.heap.size := by
  have hsmall : n + 1 ≤ 9223372036854775807 := by simp only [maxLen] at h63; omega
  have hl : [u].length = 1 * i.size := by rw [hsize]; rfl
  have hnews : ∀ j x, [u][j]? = some x → w.cell? (a.add j) = some x := by
    intro j x hx
    match j, hx with
    | 0, hx => simp at hx; subst hx; exact hu
  have hone : ∀ x ∈ [u], x.oneCell' = true := by intro x hx; simp at hx; subst hx; exact h1
  subst hby
  rcases hown.2 with ⟨rfl, rfl⟩ | ⟨g, cap, cur, rfl, hbg, hg, hnc, hcm, hcs, htake⟩
  · have hr := run_append_nil (P := Try.prog) w t ty e i z ht hi hz a 1 c [u] hl hnews (by omega) (by omega) (by have hb := hbytes; simp only [Nat.zero_add] at hb; omega)
    rw [hr] at hrun
    injection hrun with e1 e2
    subst e1
    exact .inr rfl
  · by_cases hroom : n + 1 ≤ cap
    · have hfit : n * i.size + [u].length ≤ cur.size := by rw [hsize, hcs]; simp; omega
      have hr := run_append_room (P := Try.prog) w t ty e i ht hi g n cap cur hg a 1 c [u] hl hnews hone hroom hfit
      rw [hr] at hrun
      injection hrun with e1 e2
      subst e1
      exact .inl rfl
    · have holds : ∀ j u, xs[j]? = some u → w.cell? ((⟨g, 0, none⟩ : Addr).add j) = some u := hown.cells (g := g) rfl
      have hr := run_append_grow (P := Try.prog) w t ty e i z ht hi hz ⟨g, 0, none⟩ n cap xs (by rw [hsize]; exact hown.1) holds a 1 c [u] hl hnews (by omega) (by omega) (growslice_fits (by omega) hbytes)
      rw [hr] at hrun
      injection hrun with e1 e2
      subst e1
      exact .inr rfl

theorem BytesAt.take {w : World} {A : Option Addr} {l : List UInt8} (h : BytesAt w A l) (k : Nat) : BytesAt w A (l.take k) := by
  intro i hi
  have hil : i < l.length := by simp at hi; omega
  obtain ⟨b, o, hA, hc⟩ := h i hil
  exact ⟨b, o, hA, by rw [List.getElem_take]; exact hc⟩
/-- what a cut 's[k:]' of capacity c reads as: its address is left alone where nothing is behind it -/
theorem BytesAt.drop {w : World} {b o : Nat} {l : List UInt8} (h : BytesAt w (some ⟨b, o, none⟩) l) (k : Nat) : BytesAt w (some ⟨b, o + k, none⟩) (l.drop k) := by
  intro i hi
  have hil : k + i < l.length := by simp at hi; omega
  obtain ⟨b2, o2, hA, hc⟩ := h (k + i) hil
  injection hA with hA; injection hA with h1 h2; subst h1; subst h2
  exact ⟨b, o + k, rfl, by rw [List.getElem_drop, Nat.add_assoc]; exact hc⟩

/-- the call hands back these lists, in memory of its own or none -/
def RetRows (w : World) (m : List (List UInt8)) (e : Ending) (w' : World) : Prop :=
  ∃ A c, e = .returned (.slice A m.length c) ∧ m.length ≤ c ∧ c ≤ maxLen ∧ RowsAt w' A m ∧ Below w.heap.size w w' ∧ New w A
/-- an empty list that the call has just made -/
theorem Own.empty (w : World) (base : Nat) (h : base ≤ w.heap.size) : Own (w.alloc (.cells #[] 5)) base (.slice (some ⟨w.heap.size, 0, none⟩) 0 0) [] :=
  ⟨rfl, .inr ⟨w.heap.size, 0, #[], rfl, h, heap_alloc_new w _, Nat.le_refl _, Nat.zero_le _, rfl, rfl⟩⟩
/-- a place of a list of the call's own: what it holds, and that another byte may be put there -/
theorem Own.place {w : World} {base : Nat} {v : Value} {l : List UInt8} (h : Own w base v l) {i : Nat} (hi : i < l.length) :
    ∃ g cap, v = .slice (some ⟨g, 0, none⟩) l.length cap ∧ base ≤ g ∧ g < w.heap.size ∧ w.cell? ⟨g, i, none⟩ = some (.int .u8 (l[i].toNat : Nat)) ∧ w.frozen? ⟨g, i, none⟩ = false ∧
      ∀ (n : Nat) (b : UInt8), Own ((w.drewN n).setCell ⟨g, i, none⟩ (.int .u8 (b.toNat : Nat))) base v (l.set i b) := by
  rcases h.2 with ⟨_, hn⟩ | ⟨g, cap, cur, rfl, hg, h3, h4, h5, h6, h7⟩
  · omega
  · have hgl : g < w.heap.size := by
      rcases Nat.lt_or_ge g w.heap.size with hlt | hge
      · exact hlt
      · rw [Array.getElem?_eq_none hge] at h3; cases h3
    refine ⟨g, cap, rfl, hg, hgl, ?_, ?_, fun n b => ⟨by simp [vals], .inr ⟨g, cap, cur.setIfInBounds i (.int .u8 (b.toNat : Nat)), by rw [List.length_set], hg, ?_, by rw [List.length_set]; exact h4, h5, by rw [Array.size_setIfInBounds]; exact h6, ?_⟩⟩⟩
    · rw [cell_of_row w g i cur 5 (0, 0) h3, ← vals_get l i hi, ← h7, Nat.mul_one, List.getElem?_take, if_pos hi]
      simp
    · simp [World.frozen?, h3]
    · show ((w.drewN n).setCell ⟨g, i, none⟩ _).heap[g]? = _
      simp only [World.setCell, Array.getElem?_modify]
      rw [if_pos trivial]
      have h3' : (w.drewN n).heap[g]? = some (.cells cur 5 (0, 0)) := h3
      rw [h3']; rfl
    · rw [Array.toList_setIfInBounds, List.take_set, List.length_set, h7]
      simp [vals, List.map_set]
/-- a block of just these bytes, marked or not -/
theorem bytes_mark (w : World) (l : List UInt8) (fr : Nat × Nat) (g : Nat) (hg : g = w.heap.size) : BytesAt (w.alloc (.cells (cells l) 5 fr)) (some ⟨g, 0, none⟩) l := by
  subst hg
  intro i hi
  refine ⟨w.heap.size, 0, rfl, ?_⟩
  rw [Nat.zero_add, World.cell?_alloc_mark]
  unfold cells; rw [List.getElem?_toArray, vals_get l i hi]
theorem BytesAt.far' {w : World} {A : Option Addr} {l : List UInt8} (h : BytesAt w A l) (p : Addr) (u : Value) (hp : 0 < l.length → ∀ a, A = some a → a.block ≠ p.block) : BytesAt (w.setCell p u) A l := by
  by_cases h0 : 0 < l.length
  · exact h.far p u (hp h0)
  · have : l = [] := List.eq_nil_of_length_eq_zero (by omega)
    subst this; exact BytesAt.nil _ _

/-! one block is written, what is new is made, all else stays -/
theorem grow_refl (w : World) (r : Option Nat) : w.grownBy w r := ⟨rfl, rfl, rfl, Nat.le_refl _, fun _ _ _ => rfl⟩
theorem grow_below {w w' : World} {r : Option Nat} (h : Below w.heap.size w w') : w.grownBy w' r := ⟨h.os, h.tape, h.output, h.size, fun k hk _ => h.block k hk⟩
theorem grow_trans {a b c : World} {r : Option Nat} (h : a.grownBy b r) (k : b.grownBy c r) : a.grownBy c r :=
  ⟨k.os.trans h.os, k.tape.trans h.tape, k.output.trans h.output, Nat.le_trans h.size k.size, fun i hi hne => (k.block i (Nat.lt_of_lt_of_le hi h.size) hne).trans (h.block i hi hne)⟩
theorem grow_set (w : World) (p : Addr) (u : Value) : w.grownBy (w.setCell p u) (some p.block) :=
  ⟨rfl, rfl, rfl, by simp [World.setCell], fun k _ hne => Below.heap_setCell _ _ _ _ (fun e => hne (by rw [e]))⟩
theorem grow_draw (w : World) (n : Nat) (r : Option Nat) : w.grownBy (w.drewN n) r := grow_below (bdraw w n)
theorem grow_mono {w w' : World} {r : Option Nat} (h : w.grownBy w' Option.none) : w.grownBy w' r := ⟨h.os, h.tape, h.output, h.size, fun k hk _ => h.block k hk (by simp)⟩
/-- what was written is the call's own: below it nothing turned -/
theorem below_grow {B g : Nat} {a w w' : World} (h : Below B a w) (hg : w.grownBy w' (some g)) (hB : B ≤ g) (hs : B ≤ w.heap.size) : Below B a w' :=
  h.grown hg hs fun k hk => by injection hk with hk; omega
theorem grow_cell {w w' : World} {g b i : Nat} {u : Value} (hg : w.grownBy w' (some g)) (h : w.cell? ⟨b, i, none⟩ = some u) (hne : b ≠ g) : w'.cell? ⟨b, i, none⟩ = some u := by
  have hb := hg.block b (cell_lt h) (fun e => hne (by injection e))
  unfold World.cell? at h ⊢
  simp only at h ⊢
  rw [hb]; exact h
theorem grow_bytes {w w' : World} {g : Nat} {A : Option Addr} {l : List UInt8} (hg : w.grownBy w' (some g)) (h : BytesAt w A l) (hne : ∀ a, A = some a → a.block ≠ g) : BytesAt w' A l := by
  intro i hi
  obtain ⟨b, o, hA, hc⟩ := h i hi
  exact ⟨b, o, hA, grow_cell hg hc (hne _ hA)⟩
end Go.Proofs.Ythmllbijfgimcaa
