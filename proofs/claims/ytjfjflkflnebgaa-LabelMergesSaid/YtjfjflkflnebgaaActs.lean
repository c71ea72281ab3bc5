/- lists of calls (layer 6's laws) in memory, and opened -/
import Derived.Test.YtjfjflkflnebgaaOpenS
set_option maxRecDepth 100000
namespace Go.Proofs.Ytjfjflkflnebgaa
open Go.ChangeShapes Go.WideShapes Go.ChangeAt Go.RowKit Go.Deep

structure Act6 where
  kind : Int
  k : Int
  n : Int
  b : List UInt8
def i64In (z : Int) : Prop := -9223372036854775808 ≤ z ∧ z ≤ 9223372036854775807
/-- the cells behind an address hold these calls, four cells each -/
def ActsAt (w : World) (A : Option Addr) (l : List Act6) : Prop :=
  ∀ i, (h : i < l.length) → ∃ b o B c, A = some ⟨b, o, none⟩ ∧ w.cell? ⟨b, o + i * 4, none⟩ = some (.int .i64 l[i].kind) ∧ w.cell? ⟨b, o + i * 4 + 1, none⟩ = some (.int .i64 l[i].k) ∧ w.cell? ⟨b, o + i * 4 + 2, none⟩ = some (.int .i64 l[i].n) ∧
    w.cell? ⟨b, o + i * 4 + 3, none⟩ = some (.slice B l[i].b.length c) ∧ l[i].b.length ≤ c ∧ c ≤ maxLen ∧ BytesAt w B l[i].b ∧ i64In l[i].kind ∧ i64In l[i].k ∧ i64In l[i].n
theorem ActsAt.below {w w' : World} {A : Option Addr} {l : List Act6} (h : ActsAt w A l) (hb : Below w.heap.size w w') : ActsAt w' A l := by
  intro i hi
  obtain ⟨b, o, B, c, hA, h0, h1, h2, h3, h4, h5, h6, h7⟩ := h i hi
  exact ⟨b, o, B, c, hA, (hb.cell (p := ⟨b, o + i * 4, none⟩) (cell_lt h0)).trans h0, (hb.cell (p := ⟨b, o + i * 4 + 1, none⟩) (cell_lt h1)).trans h1, (hb.cell (p := ⟨b, o + i * 4 + 2, none⟩) (cell_lt h2)).trans h2,
    (hb.cell (p := ⟨b, o + i * 4 + 3, none⟩) (cell_lt h3)).trans h3, h4, h5, h6.below hb, h7⟩

section
variable {H : Type} {enc : TypeId × Value → H} {W : World} {base : Nat} {v : Value} {d : DataW H} {p : List MemPlace}
/-- fields' types by their names, out of the struct's row -/
theorem open_acts {P : Program} {t e tq : TypeId} {f0 f1 f2 f3 : Field} (ht : P.underlying t = some (.slice e)) (he : P.underlying e = some (.struct #[f0, f1, f2, f3])) (hone : oneCellFields P #[f0, f1, f2, f3] = true) (hC : P.cellsOf e = 4)
    (t0 : P.underlying f0.type = some (.int .i64)) (t1 : P.underlying f1.type = some (.int .i64)) (t2 : P.underlying f2.type = some (.int .i64)) (t3 : P.underlying f3.type = some (.slice tq)) (tq8 : P.underlying tq = some (.int .u8)) (cq : P.cellsOf tq = 1)
    (hok : Value.okWide P W .any base t v) (h : DataW.Trod enc P W 0 (fun _ => true) true t v d p) :
    ∃ (A : Option Addr) (l : List Act6) (cap : Nat), v = .slice A l.length cap ∧ l.length ≤ cap ∧ cap ≤ maxLen ∧ ActsAt W A l := by
  obtain ⟨A, len, cap, rfl, h1, h2, hel⟩ := open_elems ht (by rw [hC]; omega) hok h
  have each : ∀ i, i < len → ∃ a : Act6, ∃ b o B c, A = some ⟨b, o, none⟩ ∧ W.cell? ⟨b, o + i * 4, none⟩ = some (.int .i64 a.kind) ∧ W.cell? ⟨b, o + i * 4 + 1, none⟩ = some (.int .i64 a.k) ∧ W.cell? ⟨b, o + i * 4 + 2, none⟩ = some (.int .i64 a.n) ∧
      W.cell? ⟨b, o + i * 4 + 3, none⟩ = some (.slice B a.b.length c) ∧ a.b.length ≤ c ∧ c ≤ maxLen ∧ BytesAt W B a.b ∧ i64In a.kind ∧ i64In a.k ∧ i64In a.n := by
    intro i hi
    obtain ⟨b, o, cs, n, x, hA, hcl, hat, htr⟩ := hel i hi
    rw [hC] at hat hcl
    obtain ⟨u0, m0, y0, c0, r0⟩ := trod_field he hone hC htr (j := 0) rfl
    obtain ⟨u1, m1, y1, c1, r1⟩ := trod_field he hone hC htr (j := 1) rfl
    obtain ⟨u2, m2, y2, c2, r2⟩ := trod_field he hone hC htr (j := 2) rfl
    obtain ⟨u3, m3, y3, c3, r3⟩ := trod_field he hone hC htr (j := 3) rfl
    obtain ⟨z0, rfl, b0⟩ := trod_num t0 r0
    obtain ⟨z1, rfl, b1⟩ := trod_num t1 r1
    obtain ⟨z2, rfl, b2⟩ := trod_num t2 r2
    obtain ⟨l3, B, c, rfl, k1, k2, k3⟩ := trod_bytes t3 tq8 cq r3
    exact ⟨⟨z0, z1, z2, l3⟩, b, o, B, c, hA, (hat 0 (by omega)).trans c0, (hat 1 (by omega)).trans c1, (hat 2 (by omega)).trans c2, (hat 3 (by omega)).trans c3, k1, k2, k3, i64_range b0, i64_range b1, i64_range b2⟩
  obtain ⟨f, hf⟩ : ∃ f : Nat → Act6, ∀ i, i < len → ∃ b o B c, A = some ⟨b, o, none⟩ ∧ W.cell? ⟨b, o + i * 4, none⟩ = some (.int .i64 (f i).kind) ∧ W.cell? ⟨b, o + i * 4 + 1, none⟩ = some (.int .i64 (f i).k) ∧ W.cell? ⟨b, o + i * 4 + 2, none⟩ = some (.int .i64 (f i).n) ∧
      W.cell? ⟨b, o + i * 4 + 3, none⟩ = some (.slice B (f i).b.length c) ∧ (f i).b.length ≤ c ∧ c ≤ maxLen ∧ BytesAt W B (f i).b ∧ i64In (f i).kind ∧ i64In (f i).k ∧ i64In (f i).n := by
    refine ⟨fun i => if hi : i < len then Classical.choose (each i hi) else ⟨0, 0, 0, []⟩, fun i hi => ?_⟩
    simp only [hi, dif_pos]
    exact Classical.choose_spec (each i hi)
  refine ⟨A, (List.range len).map f, cap, by simp, by simpa using h1, h2, fun i hi => ?_⟩
  have hi' : i < len := by simpa using hi
  simp only [List.getElem_map, List.getElem_range]
  exact hf i hi'
end
end Go.Proofs.Ytjfjflkflnebgaa
