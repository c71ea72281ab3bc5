/- arguments opened: texts, and lists of texts -/
import Derived.Test.YtjoocjkakgjgmaaMO
import Derived.Test.YtjoocjkakgjgmaaCells
import Derived.Test.YtjoocjkakgjgmaaLabelMath
set_option maxRecDepth 100000
namespace Go.Proofs.Ytjoocjkakgjgmaa
open Go.ChangeShapes Go.WideShapes Go.ChangeAt Go.RowKit Go.Deep

section
variable {H : Type} {enc : TypeId × Value → H} {P : Program} {W : World} {base : Nat} {v : Value} {d : DataW H} {p : List MemPlace} {t e : TypeId}
theorem open_text (ht : P.underlying t = some .string) (hok : Value.okWide P W .any base t v) (h : DataW.Trod enc P W 0 (fun _ => true) true t v d p) : ∃ s : ByteArray, v = .string s ∧ s.size ≤ 9223372036854775807 := by
  obtain ⟨s, rfl⟩ := okWide_string ht hok
  obtain ⟨fuel, hf⟩ := h
  obtain ⟨s', hs, _, hl⟩ := DataW.trod_string ht hf
  simp [Value.cells] at hs
  subst hs
  exact ⟨_, rfl, by unfold maxLen at hl; omega⟩
theorem open_texts (ht : P.underlying t = some (.slice e)) (he : P.underlying e = some .string) (hC : P.cellsOf e = 1) (hok : Value.okWide P W .any base t v) (h : DataW.Trod enc P W 0 (fun _ => true) true t v d p) :
    ∃ (A : Option Addr) (l : List ByteArray) (cap : Nat), v = .slice A l.length cap ∧ l.length ≤ cap ∧ cap ≤ maxLen ∧ CellsAt W A (LabM.strV l) ∧ ∀ x ∈ l, x.size ≤ 9223372036854775807 := by
  obtain ⟨A, len, cap, rfl, h1, h2, hel⟩ := open_elems ht (by rw [hC]; omega) hok h
  have each : ∀ i, i < len → ∃ s : ByteArray, (∃ b o, A = some ⟨b, o, none⟩ ∧ W.cell? ⟨b, o + i, none⟩ = some (.string s)) ∧ s.size ≤ 9223372036854775807 := by
    intro i hi
    obtain ⟨b, o, cs, n, x, hA, hcl, hat, htr⟩ := hel i hi
    rw [hC, Nat.mul_one] at hat
    obtain ⟨s, hs, _, hl⟩ := DataW.trod_string he htr
    have c0 := hat 0 (by omega)
    rw [hs] at c0
    exact ⟨s, ⟨b, o, hA, c0⟩, by unfold maxLen at hl; omega⟩
  obtain ⟨f, hf⟩ : ∃ f : Nat → ByteArray, ∀ i, i < len → (∃ b o, A = some ⟨b, o, none⟩ ∧ W.cell? ⟨b, o + i, none⟩ = some (.string (f i))) ∧ (f i).size ≤ 9223372036854775807 := by
    refine ⟨fun i => if hi : i < len then Classical.choose (each i hi) else ⟨#[]⟩, fun i hi => ?_⟩
    simp only [hi, dif_pos]
    exact Classical.choose_spec (each i hi)
  refine ⟨A, (List.range len).map f, cap, by simp, by simpa using h1, h2, fun i hi => ?_, fun x hx => ?_⟩
  · have hi' : i < len := by rw [LabM.strV_len] at hi; simpa using hi
    obtain ⟨b, o, hA, hc⟩ := (hf i hi').1
    exact ⟨b, o, hA, by rw [hc, LabM.strV_get]; simp⟩
  · simp only [List.mem_map, List.mem_range] at hx
    obtain ⟨i, hi, rfl⟩ := hx
    exact (hf i hi).2
end
end Go.Proofs.Ytjoocjkakgjgmaa
