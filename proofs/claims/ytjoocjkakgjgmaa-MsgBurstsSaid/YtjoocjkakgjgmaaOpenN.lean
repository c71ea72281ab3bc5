/- a message that is handed: what its fields are -/
import Derived.Test.YtjoocjkakgjgmaaOpenT
import Derived.Test.YtjoocjkakgjgmaaMO
import Derived.Test.YtjoocjkakgjgmaaMsgA
set_option maxRecDepth 100000
namespace Go.Proofs.Ytjoocjkakgjgmaa
open Go.ChangeShapes Go.WideShapes Go.ChangeAt Go.RowKit Go.Deep
section
variable {H : Type} {enc : TypeId × Value → H} {P : Program} {W : World} {base : Nat} {t e : TypeId} {v : Value} {d : DataW H} {p : List MemPlace}
theorem texts_c {m : Nat} {u : Value} {y : DataW H × List MemPlace} (ht : P.underlying t = some (.slice e)) (he : P.underlying e = some .string) (hC : P.cellsOf e = 1) (hf : DataW.trod enc P W 0 (fun _ => true) true m t [u] = some y) :
    ∃ (A : Option Addr) (l : List ByteArray) (cap : Nat), u = .slice A l.length cap ∧ l.length ≤ cap ∧ cap ≤ maxLen ∧ CellsAt W A (LabM.strV l) ∧ ∀ x ∈ l, x.size ≤ 9223372036854775807 := by
  obtain ⟨A, len, cap, rfl, h1, h2, hel⟩ := elems_c ht (by rw [hC]; omega) hf
  have each : ∀ i, i < len → ∃ s : ByteArray, (∃ b o, A = some ⟨b, o, none⟩ ∧ W.cell? ⟨b, o + i, none⟩ = some (.string s)) ∧ s.size ≤ 9223372036854775807 := by
    intro i hi
    obtain ⟨b, o, cs, n, x, hA, hcl, hat, htr⟩ := hel i hi
    rw [hC, Nat.mul_one] at hat
    obtain ⟨s, hs, _, hl⟩ := DataW.trod_string he htr
    have c0 := hat 0 (by omega)
    rw [hs] at c0
    exact ⟨s, ⟨b, o, hA, c0⟩, by unfold maxLen at hl; omega⟩
  obtain ⟨f, hf⟩ : ∃ f : Nat → ByteArray, ∀ i, i < len → (∃ b o, A = some ⟨b, o, none⟩ ∧ W.cell? ⟨b, o + i, none⟩ = some (.string (f i))) ∧ (f i).size ≤ 9223372036854775807 := by
    refine ⟨fun i => if hi : i < len then Classical.choose (each i hi) else ⟨#[]⟩, fun i hi => ?_⟩
    simp only [hi, dif_pos]
    exact Classical.choose_spec (each i hi)
  refine ⟨A, (List.range len).map f, cap, by simp, by simpa using h1, h2, fun i hi => ?_, fun x hx => ?_⟩
  · have hi' : i < len := by rw [LabM.strV_len] at hi; simpa using hi
    obtain ⟨b, o, hA, hc⟩ := (hf i hi').1
    exact ⟨b, o, hA, by rw [hc, LabM.strV_get]; simp⟩
  · simp only [List.mem_map, List.mem_range] at hx
    obtain ⟨i, hi, rfl⟩ := hx
    exact (hf i hi).2
theorem trod_textN {held : Bool} {n : Nat} {u : Value} {y : DataW H × List MemPlace} (ht : P.underlying t = some .string) (h : DataW.trod enc P W base (fun _ => true) held n t [u] = some y) :
    ∃ s : ByteArray, u = .string s ∧ s.size ≤ 9223372036854775807 := by
  obtain ⟨s, hs, _, hl⟩ := DataW.trod_string ht h
  exact ⟨s, by simpa using hs, by unfold maxLen at hl; omega⟩
theorem in64N {z : Int} (h : IntKind.min .i64 ≤ z ∧ z ≤ IntKind.max .i64) : -9223372036854775808 ≤ z ∧ z ≤ 9223372036854775807 := h
theorem open_msg {fs : Array Field} {f0 f1 f2 f3 f4 f5 f6 f7 f8 f9 f10 f11 f12 : Field} {ei es eb : TypeId} (ht : P.underlying t = some (.struct fs)) (hone : oneCellFields P fs = true) (hC : P.cellsOf t = fs.size) (hfs : fs = #[f0, f1, f2, f3, f4, f5, f6, f7, f8, f9, f10, f11, f12])
    (t0 : P.underlying f0.type = some (.int .i64)) (t1 : P.underlying f1.type = some (.int .i64)) (t2 : P.underlying f2.type = some (.int .i64)) (t3 : P.underlying f3.type = some (.int .i64)) (t4 : P.underlying f4.type = some .string) (t5 : P.underlying f5.type = some (.int .i64)) (t6 : P.underlying f6.type = some (.int .i64)) (t7 : P.underlying f7.type = some (.int .i64)) (t8 : P.underlying f8.type = some (.int .i64)) (t9 : P.underlying f9.type = some (.int .i64)) (t10 : P.underlying f10.type = some (.slice ei)) (e10 : P.underlying ei = some (.int .i64)) (c10 : P.cellsOf ei = 1) (t11 : P.underlying f11.type = some (.slice es)) (e11 : P.underlying es = some .string) (c11 : P.cellsOf es = 1) (t12 : P.underlying f12.type = some (.slice eb)) (e12 : P.underlying eb = some (.int .u8)) (c12 : P.cellsOf eb = 1)
    (hok : Value.okWide P W .any base t v) (h : DataW.Trod enc P W 0 (fun _ => true) true t v d p) :
    ∃ x : Msg.Mv, v = .agg #[.int .i64 x.m.K, .int .i64 x.m.F, .int .i64 x.m.T, .int .i64 x.m.B, .string x.m.s, .int .i64 x.m.A, .int .i64 x.m.E, .int .i64 x.m.M, .int .i64 x.m.S, .int .i64 x.m.W, .slice x.P x.m.who.length x.p, .slice x.Q x.m.names.length x.q, .slice x.D x.m.data.length x.d] ∧ Msg.Fits x.m ∧ Msg.Lies W x := by
  subst hfs
  obtain ⟨cs, rfl, hs, hf⟩ := open_struct ht hone hC hok h
  obtain ⟨a0, n0, y0, g0, r0⟩ := hf 0 f0 rfl
  obtain ⟨a1, n1, y1, g1, r1⟩ := hf 1 f1 rfl
  obtain ⟨a2, n2, y2, g2, r2⟩ := hf 2 f2 rfl
  obtain ⟨a3, n3, y3, g3, r3⟩ := hf 3 f3 rfl
  obtain ⟨a4, n4, y4, g4, r4⟩ := hf 4 f4 rfl
  obtain ⟨a5, n5, y5, g5, r5⟩ := hf 5 f5 rfl
  obtain ⟨a6, n6, y6, g6, r6⟩ := hf 6 f6 rfl
  obtain ⟨a7, n7, y7, g7, r7⟩ := hf 7 f7 rfl
  obtain ⟨a8, n8, y8, g8, r8⟩ := hf 8 f8 rfl
  obtain ⟨a9, n9, y9, g9, r9⟩ := hf 9 f9 rfl
  obtain ⟨a10, n10, y10, g10, r10⟩ := hf 10 f10 rfl
  obtain ⟨a11, n11, y11, g11, r11⟩ := hf 11 f11 rfl
  obtain ⟨a12, n12, y12, g12, r12⟩ := hf 12 f12 rfl
  obtain ⟨K, rfl, i0⟩ := trod_num t0 r0
  obtain ⟨F, rfl, i1⟩ := trod_num t1 r1
  obtain ⟨T, rfl, i2⟩ := trod_num t2 r2
  obtain ⟨B, rfl, i3⟩ := trod_num t3 r3
  obtain ⟨s, rfl, i4⟩ := trod_textN t4 r4
  obtain ⟨A, rfl, i5⟩ := trod_num t5 r5
  obtain ⟨E, rfl, i6⟩ := trod_num t6 r6
  obtain ⟨M, rfl, i7⟩ := trod_num t7 r7
  obtain ⟨S, rfl, i8⟩ := trod_num t8 r8
  obtain ⟨W0, rfl, i9⟩ := trod_num t9 r9
  obtain ⟨XP, who, cp, rfl, p1, p2, p3, p4⟩ := nums_c t10 e10 c10 r10
  obtain ⟨XQ, nms, cq, rfl, q1, q2, q3, q4⟩ := texts_c t11 e11 c11 r11
  obtain ⟨dat, XD, cd, rfl, d1, d2, d3⟩ := trod_bytes t12 e12 c12 r12
  refine ⟨⟨⟨K, F, T, B, s, A, E, M, S, W0, who, nms, dat⟩, XP, cp, XQ, cq, XD, cd⟩, ?_, ⟨in64N i0, in64N i1, in64N i2, in64N i3, i4, in64N i5, in64N i6, in64N i7, in64N i8, in64N i9, fun n hn => p4 n hn, q4⟩, ⟨p3, q3, d3, p1, q1, d1, p2, q2, d2⟩⟩
  congr 1
  refine Array.ext_getElem? fun i => ?_
  match i with
  | 0 => rw [g0]; rfl
  | 1 => rw [g1]; rfl
  | 2 => rw [g2]; rfl
  | 3 => rw [g3]; rfl
  | 4 => rw [g4]; rfl
  | 5 => rw [g5]; rfl
  | 6 => rw [g6]; rfl
  | 7 => rw [g7]; rfl
  | 8 => rw [g8]; rfl
  | 9 => rw [g9]; rfl
  | 10 => rw [g10]; rfl
  | 11 => rw [g11]; rfl
  | 12 => rw [g12]; rfl
  | i + 13 => rw [Array.getElem?_eq_none (by simp at hs; omega), Array.getElem?_eq_none (by simp)]
end
end Go.Proofs.Ytjoocjkakgjgmaa
