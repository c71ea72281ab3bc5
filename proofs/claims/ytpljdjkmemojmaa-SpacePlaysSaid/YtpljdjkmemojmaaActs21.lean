/- lists of calls (layer 21's laws) in memory, and opened -/
import Derived.Test.YtpljdjkmemojmaaMO
set_option maxRecDepth 100000
namespace Go.Proofs.Ytpljdjkmemojmaa
open Go.ChangeShapes Go.WideShapes Go.ChangeAt Go.RowKit Go.Deep

structure Act21 where
  kind : Int
  at_ : Int
  n : Int
def In21 (z : Int) : Prop := -9223372036854775808 ≤ z ∧ z ≤ 9223372036854775807
structure Act21.In (a : Act21) : Prop where
  i0 : In21 a.kind
  i1 : In21 a.at_
  i2 : In21 a.n
/-- a call's three cells -/
structure ActLies21 (w : World) (b o : Nat) (a : Act21) : Prop where
  c0 : w.cell? ⟨b, o, none⟩ = some (.int .i64 a.kind)
  c1 : w.cell? ⟨b, o + 1, none⟩ = some (.int .i64 a.at_)
  c2 : w.cell? ⟨b, o + 2, none⟩ = some (.int .i64 a.n)
/-- the cells behind an address hold these calls, three cells each -/
def ActsAt21 (w : World) (A : Option Addr) (l : List Act21) : Prop :=
  ∀ i, (h : i < l.length) → ∃ b o, A = some ⟨b, o, none⟩ ∧ ActLies21 w b (o + i * 3) l[i] ∧ l[i].In
theorem ActLies21.below {w w' : World} {b o : Nat} {a : Act21} (h : ActLies21 w b o a) (hb : Below w.heap.size w w') : ActLies21 w' b o a :=
  ⟨(hb.cell (p := ⟨b, o, none⟩) (cell_lt h.c0)).trans h.c0, (hb.cell (p := ⟨b, o + 1, none⟩) (cell_lt h.c1)).trans h.c1, (hb.cell (p := ⟨b, o + 2, none⟩) (cell_lt h.c2)).trans h.c2⟩
theorem ActLies21.keep {F : Nat → Prop} {w w' : World} {b o : Nat} {a : Act21} (h : ActLies21 w b o a) (q : Keeps F w w') (hn : ¬ F b) : ActLies21 w' b o a := ⟨q.cell h.c0 hn, q.cell h.c1 hn, q.cell h.c2 hn⟩
theorem ActLies21.new (w : World) (a : Act21) (t : TypeId) : ActLies21 (w.alloc (.cells #[.int .i64 a.kind, .int .i64 a.at_, .int .i64 a.n] t)) w.heap.size 0 a := ⟨by simp, by simp, by simp⟩
theorem ActsAt21.below {w w' : World} {A : Option Addr} {l : List Act21} (h : ActsAt21 w A l) (hb : Below w.heap.size w w') : ActsAt21 w' A l := by
  intro i hi
  obtain ⟨b, o, hA, h0, h1⟩ := h i hi
  exact ⟨b, o, hA, h0.below hb, h1⟩

section
variable {H : Type} {enc : TypeId × Value → H} {W : World} {base : Nat} {v : Value} {d : DataW H} {p : List MemPlace}
theorem open_acts21 {P : Program} {t e : TypeId} {f0 f1 f2 : Field} (ht : P.underlying t = some (.slice e)) (he : P.underlying e = some (.struct #[f0, f1, f2])) (hone : oneCellFields P #[f0, f1, f2] = true) (hC : P.cellsOf e = 3)
    (t0 : P.underlying f0.type = some (.int .i64)) (t1 : P.underlying f1.type = some (.int .i64)) (t2 : P.underlying f2.type = some (.int .i64))
    (hok : Value.okWide P W .any base t v) (h : DataW.Trod enc P W 0 (fun _ => true) true t v d p) :
    ∃ (A : Option Addr) (l : List Act21) (cap : Nat), v = .slice A l.length cap ∧ l.length ≤ cap ∧ cap ≤ maxLen ∧ ActsAt21 W A l := by
  obtain ⟨A, len, cap, rfl, h1, h2, hel⟩ := open_elems ht (by rw [hC]; omega) hok h
  have each : ∀ i, i < len → ∃ a : Act21, ∃ b o, A = some ⟨b, o, none⟩ ∧ ActLies21 W b (o + i * 3) a ∧ a.In := by
    intro i hi
    obtain ⟨b, o, cs, n, x, hA, hcl, hat, htr⟩ := hel i hi
    rw [hC] at hat hcl
    obtain ⟨u0, m0, y0, c0, r0⟩ := trod_field he hone hC htr (j := 0) rfl
    obtain ⟨u1, m1, y1, c1, r1⟩ := trod_field he hone hC htr (j := 1) rfl
    obtain ⟨u2, m2, y2, c2, r2⟩ := trod_field he hone hC htr (j := 2) rfl
    obtain ⟨z0, rfl, b0⟩ := trod_num t0 r0
    obtain ⟨z1, rfl, b1⟩ := trod_num t1 r1
    obtain ⟨z2, rfl, b2⟩ := trod_num t2 r2
    exact ⟨⟨z0, z1, z2⟩, b, o, hA, ⟨(hat 0 (by omega)).trans c0, (hat 1 (by omega)).trans c1, (hat 2 (by omega)).trans c2⟩, ⟨i64_range b0, i64_range b1, i64_range b2⟩⟩
  obtain ⟨f, hf⟩ : ∃ f : Nat → Act21, ∀ i, i < len → ∃ b o, A = some ⟨b, o, none⟩ ∧ ActLies21 W b (o + i * 3) (f i) ∧ (f i).In := by
    refine ⟨fun i => if hi : i < len then Classical.choose (each i hi) else ⟨0, 0, 0⟩, fun i hi => ?_⟩
    simp only [hi, dif_pos]
    exact Classical.choose_spec (each i hi)
  refine ⟨A, (List.range len).map f, cap, by simp, by simpa using h1, h2, fun i hi => ?_⟩
  have hi' : i < len := by simpa using hi
  simp only [List.getElem_map, List.getElem_range]
  exact hf i hi'
theorem open_act21 {P : Program} {t : TypeId} {fs : Array Field} {q : TypeId} (ht : P.underlying t = some (.struct fs)) (hone : oneCellFields P fs = true) (hC : P.cellsOf t = fs.size) (h3 : fs.size = 3)
    (hi : fs.toList.all (fun f => f.type == q) = true) (hq : P.underlying q = some (.int .i64))
    (hok : Value.okWide P W .any base t v) (h : DataW.Trod enc P W 0 (fun _ => true) true t v d p) : ∃ a : Act21, v = .agg #[.int .i64 a.kind, .int .i64 a.at_, .int .i64 a.n] ∧ a.In := by
  obtain ⟨cs, rfl, hs, hf⟩ := open_struct ht hone hC hok h
  have each : ∀ j, j < 3 → ∃ z : Int, cs[j]? = some (.int .i64 z) ∧ In21 z := by
    intro j hj
    have hjs : j < fs.size := by omega
    obtain ⟨u, m, y, h1, h2⟩ := hf j fs[j] (Array.getElem?_eq_getElem hjs)
    have ht2 : fs[j].type = q := by
      have := List.all_eq_true.mp hi fs[j] (by simp)
      simpa using this
    rw [ht2] at h2
    obtain ⟨z, rfl, hz⟩ := trod_num hq h2
    exact ⟨z, h1, i64_range hz⟩
  obtain ⟨a0, e0, i0⟩ := each 0 (by omega)
  obtain ⟨a1, e1, i1⟩ := each 1 (by omega)
  obtain ⟨a2, e2, i2⟩ := each 2 (by omega)
  refine ⟨⟨a0, a1, a2⟩, ?_, i0, i1, i2⟩
  congr 1
  rw [h3] at hs
  refine Array.ext_getElem? fun i => ?_
  match i with
  | 0 => rw [e0]; rfl
  | 1 => rw [e1]; rfl
  | 2 => rw [e2]; rfl
  | i + 3 => rw [Array.getElem?_eq_none (by omega), Array.getElem?_eq_none (by simp)]
end
end Go.Proofs.Ytpljdjkmemojmaa
