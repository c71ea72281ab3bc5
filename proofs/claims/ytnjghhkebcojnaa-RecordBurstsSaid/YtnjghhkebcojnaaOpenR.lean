/- a record that is handed: what its fields are -/
import Derived.Test.YtnjghhkebcojnaaOpenT
import Derived.Test.YtnjghhkebcojnaaMO
import Derived.Test.YtnjghhkebcojnaaMRX
set_option maxRecDepth 100000
namespace Go.Proofs.Ytnjghhkebcojnaa
open Go.ChangeShapes Go.WideShapes Go.ChangeAt Go.RowKit Go.Deep
variable {H : Type} {enc : TypeId × Value → H} {P : Program} {W : World} {base : Nat} {t e : TypeId} {v : Value} {d : DataW H} {p : List MemPlace}

theorem trod_text {held : Bool} {n : Nat} {u : Value} {y : DataW H × List MemPlace} (ht : P.underlying t = some .string) (h : DataW.trod enc P W base (fun _ => true) held n t [u] = some y) :
    ∃ s : ByteArray, u = .string s ∧ s.size ≤ 9223372036854775807 := by
  obtain ⟨s, hs, _, hl⟩ := DataW.trod_string ht h
  exact ⟨s, by simpa using hs, by unfold maxLen at hl; omega⟩
theorem in64 {z : Int} (h : IntKind.min .i64 ≤ z ∧ z ≤ IntKind.max .i64) : -9223372036854775808 ≤ z ∧ z ≤ 9223372036854775807 := h
theorem open_rec {fs : Array Field} {f0 f1 f2 f3 f4 f5 f6 : Field} {te : TypeId} (ht : P.underlying t = some (.struct fs)) (hone : oneCellFields P fs = true) (hC : P.cellsOf t = fs.size) (hfs : fs = #[f0, f1, f2, f3, f4, f5, f6])
    (t0 : P.underlying f0.type = some (.int .i64)) (t1 : P.underlying f1.type = some .string) (t2 : P.underlying f2.type = some (.int .i64)) (t3 : P.underlying f3.type = some (.int .i64)) (t4 : P.underlying f4.type = some (.int .i64)) (t5 : P.underlying f5.type = some (.int .i64))
    (t6 : P.underlying f6.type = some (.slice te)) (t6e : P.underlying te = some (.int .u8)) (c6 : P.cellsOf te = 1)
    (hok : Value.okWide P W .any base t v) (h : DataW.Trod enc P W 0 (fun _ => true) true t v d p) :
    ∃ (h : RecM.Hd) (B : Option Addr) (l : List UInt8) (c : Nat), v = .agg #[.int .i64 h.K, .string h.s, .int .i64 h.A, .int .i64 h.E, .int .i64 h.M, .int .i64 h.S, .slice B l.length c] ∧ Record.Fits h ∧ l.length ≤ c ∧ c ≤ maxLen ∧ BytesAt W B l := by
  subst hfs
  obtain ⟨cs, rfl, hs, hf⟩ := open_struct ht hone hC hok h
  obtain ⟨a0, n0, y0, g0, r0⟩ := hf 0 f0 rfl
  obtain ⟨a1, n1, y1, g1, r1⟩ := hf 1 f1 rfl
  obtain ⟨a2, n2, y2, g2, r2⟩ := hf 2 f2 rfl
  obtain ⟨a3, n3, y3, g3, r3⟩ := hf 3 f3 rfl
  obtain ⟨a4, n4, y4, g4, r4⟩ := hf 4 f4 rfl
  obtain ⟨a5, n5, y5, g5, r5⟩ := hf 5 f5 rfl
  obtain ⟨a6, n6, y6, g6, r6⟩ := hf 6 f6 rfl
  obtain ⟨K, rfl, i0⟩ := trod_num t0 r0
  obtain ⟨s, rfl, i1⟩ := trod_text t1 r1
  obtain ⟨A, rfl, i2⟩ := trod_num t2 r2
  obtain ⟨E, rfl, i3⟩ := trod_num t3 r3
  obtain ⟨M, rfl, i4⟩ := trod_num t4 r4
  obtain ⟨S, rfl, i5⟩ := trod_num t5 r5
  obtain ⟨l, B, c, rfl, k1, k2, k3⟩ := trod_bytes t6 t6e c6 r6
  refine ⟨⟨K, s, A, E, M, S⟩, B, l, c, ?_, ⟨in64 i0, i1, in64 i2, in64 i3, in64 i4, in64 i5⟩, k1, k2, k3⟩
  congr 1
  refine Array.ext_getElem? fun i => ?_
  match i with
  | 0 => rw [g0]; rfl
  | 1 => rw [g1]; rfl
  | 2 => rw [g2]; rfl
  | 3 => rw [g3]; rfl
  | 4 => rw [g4]; rfl
  | 5 => rw [g5]; rfl
  | 6 => rw [g6]; rfl
  | i + 7 => rw [Array.getElem?_eq_none (by simp at hs; omega), Array.getElem?_eq_none (by simp)]
end Go.Proofs.Ytnjghhkebcojnaa
