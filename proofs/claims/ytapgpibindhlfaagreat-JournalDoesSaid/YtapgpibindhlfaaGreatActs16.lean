/- lists of calls (layer 16's laws) in memory, and opened -/
import Derived.Test.YtapgpibindhlfaaGreatMO
set_option maxRecDepth 100000
namespace Go.Proofs.YtapgpibindhlfaaGreat
open Go.ChangeShapes Go.WideShapes Go.ChangeAt Go.RowKit Go.Deep

structure Act16 where
  kind : Int
  at_ : Int
  n : Int
  mask : Nat
  b : List UInt8
def i64In (z : Int) : Prop := -9223372036854775808 ≤ z ∧ z ≤ 9223372036854775807
/-- a call's five cells -/
structure ActLies (w : World) (b o : Nat) (B : Option Addr) (c : Nat) (a : Act16) : Prop where
  c0 : w.cell? ⟨b, o, none⟩ = some (.int .i64 a.kind)
  c1 : w.cell? ⟨b, o + 1, none⟩ = some (.int .i64 a.at_)
  c2 : w.cell? ⟨b, o + 2, none⟩ = some (.int .i64 a.n)
  c3 : w.cell? ⟨b, o + 3, none⟩ = some (.int .u32 (a.mask : Nat))
  c4 : w.cell? ⟨b, o + 4, none⟩ = some (.slice B a.b.length c)
  h1 : a.b.length ≤ c
  h2 : c ≤ maxLen
  bytes : BytesAt w B a.b
  i0 : i64In a.kind
  i1 : i64In a.at_
  i2 : i64In a.n
  i3 : a.mask < 4294967296
/-- the cells behind an address hold these calls, five cells each -/
def ActsAt16 (w : World) (A : Option Addr) (l : List Act16) : Prop :=
  ∀ i, (h : i < l.length) → ∃ b o B c, A = some ⟨b, o, none⟩ ∧ ActLies w b (o + i * 5) B c l[i]
theorem ActLies.below {w w' : World} {b o : Nat} {B : Option Addr} {c : Nat} {a : Act16} (h : ActLies w b o B c a) (hb : Below w.heap.size w w') : ActLies w' b o B c a :=
  ⟨(hb.cell (p := ⟨b, o, none⟩) (cell_lt h.c0)).trans h.c0, (hb.cell (p := ⟨b, o + 1, none⟩) (cell_lt h.c1)).trans h.c1, (hb.cell (p := ⟨b, o + 2, none⟩) (cell_lt h.c2)).trans h.c2,
    (hb.cell (p := ⟨b, o + 3, none⟩) (cell_lt h.c3)).trans h.c3, (hb.cell (p := ⟨b, o + 4, none⟩) (cell_lt h.c4)).trans h.c4, h.h1, h.h2, h.bytes.below hb, h.i0, h.i1, h.i2, h.i3⟩
theorem ActsAt16.below {w w' : World} {A : Option Addr} {l : List Act16} (h : ActsAt16 w A l) (hb : Below w.heap.size w w') : ActsAt16 w' A l := by
  intro i hi
  obtain ⟨b, o, B, c, hA, h0⟩ := h i hi
  exact ⟨b, o, B, c, hA, h0.below hb⟩

section
variable {H : Type} {enc : TypeId × Value → H} {W : World} {base : Nat} {v : Value} {d : DataW H} {p : List MemPlace}
theorem open_acts16 {P : Program} {t e tq : TypeId} {f0 f1 f2 f3 f4 : Field} (ht : P.underlying t = some (.slice e)) (he : P.underlying e = some (.struct #[f0, f1, f2, f3, f4])) (hone : oneCellFields P #[f0, f1, f2, f3, f4] = true) (hC : P.cellsOf e = 5)
    (t0 : P.underlying f0.type = some (.int .i64)) (t1 : P.underlying f1.type = some (.int .i64)) (t2 : P.underlying f2.type = some (.int .i64)) (t3 : P.underlying f3.type = some (.int .u32)) (t4 : P.underlying f4.type = some (.slice tq)) (tq8 : P.underlying tq = some (.int .u8)) (cq : P.cellsOf tq = 1)
    (hok : Value.okWide P W .any base t v) (h : DataW.Trod enc P W 0 (fun _ => true) true t v d p) :
    ∃ (A : Option Addr) (l : List Act16) (cap : Nat), v = .slice A l.length cap ∧ l.length ≤ cap ∧ cap ≤ maxLen ∧ ActsAt16 W A l := by
  obtain ⟨A, len, cap, rfl, h1, h2, hel⟩ := open_elems ht (by rw [hC]; omega) hok h
  have each : ∀ i, i < len → ∃ a : Act16, ∃ b o B c, A = some ⟨b, o, none⟩ ∧ ActLies W b (o + i * 5) B c a := by
    intro i hi
    obtain ⟨b, o, cs, n, x, hA, hcl, hat, htr⟩ := hel i hi
    rw [hC] at hat hcl
    obtain ⟨u0, m0, y0, c0, r0⟩ := trod_field he hone hC htr (j := 0) rfl
    obtain ⟨u1, m1, y1, c1, r1⟩ := trod_field he hone hC htr (j := 1) rfl
    obtain ⟨u2, m2, y2, c2, r2⟩ := trod_field he hone hC htr (j := 2) rfl
    obtain ⟨u3, m3, y3, c3, r3⟩ := trod_field he hone hC htr (j := 3) rfl
    obtain ⟨u4, m4, y4, c4, r4⟩ := trod_field he hone hC htr (j := 4) rfl
    obtain ⟨z0, rfl, b0⟩ := trod_num t0 r0
    obtain ⟨z1, rfl, b1⟩ := trod_num t1 r1
    obtain ⟨z2, rfl, b2⟩ := trod_num t2 r2
    obtain ⟨z3, rfl, b3⟩ := trod_num t3 r3
    obtain ⟨l4, B, c, rfl, k1, k2, k3⟩ := trod_bytes t4 tq8 cq r4
    have b3' := u32_range b3
    obtain ⟨mk, rfl⟩ := Int.eq_ofNat_of_zero_le b3'.1
    exact ⟨⟨z0, z1, z2, mk, l4⟩, b, o, B, c, hA, (hat 0 (by omega)).trans c0, (hat 1 (by omega)).trans c1, (hat 2 (by omega)).trans c2, (hat 3 (by omega)).trans c3, (hat 4 (by omega)).trans c4, k1, k2, k3, i64_range b0, i64_range b1, i64_range b2, by show mk < 4294967296; omega⟩
  obtain ⟨f, hf⟩ : ∃ f : Nat → Act16, ∀ i, i < len → ∃ b o B c, A = some ⟨b, o, none⟩ ∧ ActLies W b (o + i * 5) B c (f i) := by
    refine ⟨fun i => if hi : i < len then Classical.choose (each i hi) else ⟨0, 0, 0, 0, []⟩, fun i hi => ?_⟩
    simp only [hi, dif_pos]
    exact Classical.choose_spec (each i hi)
  refine ⟨A, (List.range len).map f, cap, by simp, by simpa using h1, h2, fun i hi => ?_⟩
  have hi' : i < len := by simpa using hi
  simp only [List.getElem_map, List.getElem_range]
  exact hf i hi'
end
end Go.Proofs.YtapgpibindhlfaaGreat
