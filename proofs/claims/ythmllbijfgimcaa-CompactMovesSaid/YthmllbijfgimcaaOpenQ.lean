/- lists of structs of two ints (layer 23's laws), opened -/
import Derived.Test.YthmllbijfgimcaaMO
import Derived.Test.YthmllbijfgimcaaMCP
set_option maxRecDepth 100000
namespace Go.Proofs.Ythmllbijfgimcaa
open Go.ChangeShapes Go.WideShapes Go.ChangeAt Go.RowKit Go.Deep

section
variable {H : Type} {enc : TypeId × Value → H} {W : World} {base : Nat} {v : Value} {d : DataW H} {p : List MemPlace}
theorem open_runs {P : Program} {t e : TypeId} {f0 f1 : Field} (ht : P.underlying t = some (.slice e)) (he : P.underlying e = some (.struct #[f0, f1])) (hone : oneCellFields P #[f0, f1] = true) (hC : P.cellsOf e = 2)
    (t0 : P.underlying f0.type = some (.int .i64)) (t1 : P.underlying f1.type = some (.int .i64))
    (hok : Value.okWide P W .any base t v) (h : DataW.Trod enc P W 0 (fun _ => true) true t v d p) :
    ∃ (A : Option Addr) (l : List Pairs.I2) (cap : Nat), v = .slice A l.length cap ∧ l.length ≤ cap ∧ cap ≤ maxLen ∧ Pairs.PairsAt W A l ∧ Compact.InL l := by
  obtain ⟨A, len, cap, rfl, h1, h2, hel⟩ := open_elems ht (by rw [hC]; omega) hok h
  have each : ∀ i, i < len → ∃ a : Pairs.I2, ∃ b o, A = some ⟨b, o, none⟩ ∧ W.cell? ⟨b, o + i * 2, none⟩ = some (.int .i64 a.1) ∧ W.cell? ⟨b, o + i * 2 + 1, none⟩ = some (.int .i64 a.2) ∧ Compact.In64 a.1 ∧ Compact.In64 a.2 := by
    intro i hi
    obtain ⟨b, o, cs, n, x, hA, hcl, hat, htr⟩ := hel i hi
    rw [hC] at hat hcl
    obtain ⟨u0, m0, y0, c0, r0⟩ := trod_field he hone hC htr (j := 0) rfl
    obtain ⟨u1, m1, y1, c1, r1⟩ := trod_field he hone hC htr (j := 1) rfl
    obtain ⟨z0, rfl, b0⟩ := trod_num t0 r0
    obtain ⟨z1, rfl, b1⟩ := trod_num t1 r1
    exact ⟨(z0, z1), b, o, hA, (hat 0 (by omega)).trans c0, (hat 1 (by omega)).trans c1, i64_range b0, i64_range b1⟩
  obtain ⟨f, hf⟩ : ∃ f : Nat → Pairs.I2, ∀ i, i < len → ∃ b o, A = some ⟨b, o, none⟩ ∧ W.cell? ⟨b, o + i * 2, none⟩ = some (.int .i64 (f i).1) ∧ W.cell? ⟨b, o + i * 2 + 1, none⟩ = some (.int .i64 (f i).2) ∧ Compact.In64 (f i).1 ∧ Compact.In64 (f i).2 := by
    refine ⟨fun i => if hi : i < len then Classical.choose (each i hi) else (0, 0), fun i hi => ?_⟩
    simp only [hi, dif_pos]
    exact Classical.choose_spec (each i hi)
  refine ⟨A, (List.range len).map f, cap, by simp, by simpa using h1, h2, fun i hi => ?_, fun r hr => ?_⟩
  · have hi' : i < len := by simpa using hi
    simp only [List.getElem_map, List.getElem_range]
    obtain ⟨b, o, k1, k2, k3, -⟩ := hf i hi'
    exact ⟨b, o, k1, k2, k3⟩
  · obtain ⟨i, hi, rfl⟩ := List.mem_map.1 hr
    obtain ⟨b, o, -, -, -, k⟩ := hf i (List.mem_range.1 hi)
    exact k
end
end Go.Proofs.Ythmllbijfgimcaa
