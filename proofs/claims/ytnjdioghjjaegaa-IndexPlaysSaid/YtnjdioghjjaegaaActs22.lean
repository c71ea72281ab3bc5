/- entries, and lists of calls (layer 22's laws), in memory and opened -/
import Derived.Test.YtnjdioghjjaegaaMO
import Derived.Test.YtnjdioghjjaegaaOpenT
import Derived.Test.YtnjdioghjjaegaaMIM
set_option maxRecDepth 100000
namespace Go.Proofs.Ytnjdioghjjaegaa
open Go.ChangeShapes Go.WideShapes Go.ChangeAt Go.RowKit Go.Deep IdxM

structure Act22 where
  kind : Int
  e : En
/-- a call's five cells -/
structure ActLies22 (w : World) (b o : Nat) (a : Act22) : Prop where
  c0 : w.cell? ⟨b, o, none⟩ = some (.int .i64 a.kind)
  c1 : w.cell? ⟨b, o + 1, none⟩ = some (.string a.e.name)
  c2 : w.cell? ⟨b, o + 2, none⟩ = some (.int .i64 a.e.role)
  c3 : w.cell? ⟨b, o + 3, none⟩ = some (.int .i64 a.e.at_)
  c4 : w.cell? ⟨b, o + 4, none⟩ = some (.int .i64 a.e.n)
/-- the cells behind an address hold these calls, five cells each -/
def ActsAt22 (w : World) (A : Option Addr) (l : List Act22) : Prop :=
  ∀ i, (h : i < l.length) → ∃ b o, A = some ⟨b, o, none⟩ ∧ ActLies22 w b (o + i * 5) l[i] ∧ l[i].e.name.size ≤ 9223372036854775807
theorem ActLies22.below {w w' : World} {b o : Nat} {a : Act22} (h : ActLies22 w b o a) (hb : Below w.heap.size w w') : ActLies22 w' b o a :=
  ⟨(hb.cell (p := ⟨b, o, none⟩) (cell_lt h.c0)).trans h.c0, (hb.cell (p := ⟨b, o + 1, none⟩) (cell_lt h.c1)).trans h.c1, (hb.cell (p := ⟨b, o + 2, none⟩) (cell_lt h.c2)).trans h.c2, (hb.cell (p := ⟨b, o + 3, none⟩) (cell_lt h.c3)).trans h.c3, (hb.cell (p := ⟨b, o + 4, none⟩) (cell_lt h.c4)).trans h.c4⟩
theorem ActsAt22.below {w w' : World} {A : Option Addr} {l : List Act22} (h : ActsAt22 w A l) (hb : Below w.heap.size w w') : ActsAt22 w' A l := by
  intro i hi
  obtain ⟨b, o, hA, h0, h1⟩ := h i hi
  exact ⟨b, o, hA, h0.below hb, h1⟩
section
variable {H : Type} {enc : TypeId × Value → H} {P : Program} {W : World} {base : Nat} {t e : TypeId} {v : Value} {d : DataW H} {p : List MemPlace}
theorem trod_text22 {held : Bool} {n : Nat} {u : Value} {y : DataW H × List MemPlace} (ht : P.underlying t = some .string) (h : DataW.trod enc P W base (fun _ => true) held n t [u] = some y) :
    ∃ s : ByteArray, u = .string s ∧ s.size ≤ 9223372036854775807 := by
  obtain ⟨s, hs, _, hl⟩ := DataW.trod_string ht h
  exact ⟨s, by simpa using hs, by unfold maxLen at hl; omega⟩
theorem open_ent {fs : Array Field} {f0 f1 f2 f3 : Field} (ht : P.underlying t = some (.struct fs)) (hone : oneCellFields P fs = true) (hC : P.cellsOf t = fs.size) (hfs : fs = #[f0, f1, f2, f3])
    (t0 : P.underlying f0.type = some .string) (t1 : P.underlying f1.type = some (.int .i64)) (t2 : P.underlying f2.type = some (.int .i64)) (t3 : P.underlying f3.type = some (.int .i64))
    (hok : Value.okWide P W .any base t v) (h : DataW.Trod enc P W 0 (fun _ => true) true t v d p) :
    ∃ (s : ByteArray) (i a n : Int), v = .agg #[.string s, .int .i64 i, .int .i64 a, .int .i64 n] := by
  subst hfs
  obtain ⟨cs, rfl, hs, hf⟩ := open_struct ht hone hC hok h
  obtain ⟨a0, n0, y0, g0, r0⟩ := hf 0 f0 rfl
  obtain ⟨a1, n1, y1, g1, r1⟩ := hf 1 f1 rfl
  obtain ⟨a2, n2, y2, g2, r2⟩ := hf 2 f2 rfl
  obtain ⟨a3, n3, y3, g3, r3⟩ := hf 3 f3 rfl
  obtain ⟨s, rfl, _⟩ := trod_text22 t0 r0
  obtain ⟨i, rfl, _⟩ := trod_num t1 r1
  obtain ⟨a, rfl, _⟩ := trod_num t2 r2
  obtain ⟨n, rfl, _⟩ := trod_num t3 r3
  refine ⟨s, i, a, n, ?_⟩
  congr 1
  refine Array.ext_getElem? fun i => ?_
  match i with
  | 0 => rw [g0]; rfl
  | 1 => rw [g1]; rfl
  | 2 => rw [g2]; rfl
  | 3 => rw [g3]; rfl
  | i + 4 => rw [Array.getElem?_eq_none (by simp at hs; omega), Array.getElem?_eq_none (by simp)]
theorem open_acts22 {g0 g1 f0 f1 f2 f3 : Field} (ht : P.underlying t = some (.slice e)) (he : P.underlying e = some (.struct #[g0, g1])) (hC : P.cellsOf e = 5) (o0 : g0.offset = 0) (o1 : g1.offset = 1) (k0 : P.cellsOf g0.type = 1) (k1 : P.cellsOf g1.type = 4)
    (u0 : P.underlying g0.type = some (.int .i64)) (u1 : P.underlying g1.type = some (.struct #[f0, f1, f2, f3])) (hone : oneCellFields P #[f0, f1, f2, f3] = true)
    (t0 : P.underlying f0.type = some .string) (t1 : P.underlying f1.type = some (.int .i64)) (t2 : P.underlying f2.type = some (.int .i64)) (t3 : P.underlying f3.type = some (.int .i64))
    (hok : Value.okWide P W .any base t v) (h : DataW.Trod enc P W 0 (fun _ => true) true t v d p) :
    ∃ (A : Option Addr) (l : List Act22) (cap : Nat), v = .slice A l.length cap ∧ l.length ≤ cap ∧ cap ≤ maxLen ∧ ActsAt22 W A l := by
  obtain ⟨A, len, cap, rfl, h1, h2, hel⟩ := open_elems ht (by rw [hC]; omega) hok h
  have each : ∀ i, i < len → ∃ a : Act22, ∃ b o, A = some ⟨b, o, none⟩ ∧ ActLies22 W b (o + i * 5) a ∧ a.e.name.size ≤ 9223372036854775807 := by
    intro i hi
    obtain ⟨b, o, cs, n, x, hA, hcl, hat, htr⟩ := hel i hi
    rw [hC] at hat hcl
    obtain ⟨xs, m, _, _, hcl2, hxl, hf⟩ := DataW.trod_struct he htr
    have r0 := hf 0 g0 rfl
    have r1 := hf 1 g1 rfl
    rw [o0, k0] at r0
    rw [o1, k1] at r1
    obtain ⟨v0, v1, v2, v3, v4, hcs⟩ : ∃ v0 v1 v2 v3 v4, cs = [v0, v1, v2, v3, v4] := by
      rcases cs with _ | ⟨v0, _ | ⟨v1, _ | ⟨v2, _ | ⟨v3, _ | ⟨v4, _ | ⟨v5, cs⟩⟩⟩⟩⟩⟩ <;> simp at hcl
      exact ⟨v0, v1, v2, v3, v4, rfl⟩
    subst hcs
    have hx2 : xs.length = 2 := by simpa using hxl
    rw [List.getElem?_eq_getElem (by omega)] at r0 r1
    have s0 := trod_num u0 (u := v0) r0
    have e1 : ((([v0, v1, v2, v3, v4] : List Value).drop 1).take 4) = [v1, v2, v3, v4] := rfl
    rw [e1] at r1
    obtain ⟨w1, m1, y1, d1, q1⟩ := trod_field u1 hone k1 r1 (j := 0) rfl
    obtain ⟨w2, m2, y2, d2, q2⟩ := trod_field u1 hone k1 r1 (j := 1) rfl
    obtain ⟨w3, m3, y3, d3, q3⟩ := trod_field u1 hone k1 r1 (j := 2) rfl
    obtain ⟨w4, m4, y4, d4, q4⟩ := trod_field u1 hone k1 r1 (j := 3) rfl
    injection d1 with d1; injection d2 with d2; injection d3 with d3; injection d4 with d4
    subst d1; subst d2; subst d3; subst d4
    obtain ⟨z0, rfl, _⟩ := s0
    obtain ⟨z1, rfl, b1⟩ := trod_text22 t0 q1
    obtain ⟨z2, rfl, _⟩ := trod_num t1 q2
    obtain ⟨z3, rfl, _⟩ := trod_num t2 q3
    obtain ⟨z4, rfl, _⟩ := trod_num t3 q4
    exact ⟨⟨z0, ⟨z1, z2, z3, z4⟩⟩, b, o, hA, ⟨hat 0 (by omega), hat 1 (by omega), hat 2 (by omega), hat 3 (by omega), hat 4 (by omega)⟩, b1⟩
  obtain ⟨f, hf⟩ : ∃ f : Nat → Act22, ∀ i, i < len → ∃ b o, A = some ⟨b, o, none⟩ ∧ ActLies22 W b (o + i * 5) (f i) ∧ (f i).e.name.size ≤ 9223372036854775807 := by
    refine ⟨fun i => if hi : i < len then Classical.choose (each i hi) else ⟨0, En.zero⟩, fun i hi => ?_⟩
    simp only [hi, dif_pos]
    exact Classical.choose_spec (each i hi)
  refine ⟨A, (List.range len).map f, cap, by simp, by simpa using h1, h2, fun i hi => ?_⟩
  have hi' : i < len := by simpa using hi
  simp only [List.getElem_map, List.getElem_range]
  exact hf i hi'
end
end Go.Proofs.Ytnjdioghjjaegaa
