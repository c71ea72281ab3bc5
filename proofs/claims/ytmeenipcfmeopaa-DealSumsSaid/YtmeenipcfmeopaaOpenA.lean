/- arguments opened: arrays of byte slices -/
import Derived.Test.YtmeenipcfmeopaaOpenP
set_option maxRecDepth 100000
namespace Go.Proofs.Ytmeenipcfmeopaa
open Go.ChangeShapes Go.WideShapes Go.ChangeAt Go.RowKit Go.Deep

section
variable {H : Type} {enc : TypeId × Value → H} {P : Program} {W : World} {base : Nat} {v : Value} {d : DataW H} {p : List MemPlace} {t e q : TypeId} {n : Nat}
theorem okWide_array (ht : P.underlying t = some (.array n e)) (h : Value.okWide P W .any base t v) : ∃ cs, v = .agg cs ∧ cs.size = P.cellsOf t := by
  simp only [Value.okWide, ht] at h
  obtain ⟨cs, h1, h2, _⟩ := h
  exact ⟨cs, h1, h2⟩
/-- an array whose elements are of one cell -/
theorem open_array (ht : P.underlying t = some (.array n e)) (ce : P.cellsOf e = 1) (hC : P.cellsOf t = n) (hok : Value.okWide P W .any base t v) (h : DataW.Trod enc P W 0 (fun _ => true) true t v d p) :
    ∃ cs : Array Value, v = .agg cs ∧ cs.size = n ∧ ∀ i, i < n → ∃ (u : Value) (m : Nat) (y : DataW H × List MemPlace), cs[i]? = some u ∧ DataW.trod enc P W 0 (fun _ => true) true m e [u] = some y := by
  obtain ⟨cs, rfl, hs⟩ := okWide_array ht hok
  obtain ⟨fuel, hf⟩ := h
  obtain ⟨xs, m, _, _, hl, hx, hel⟩ := DataW.trod_array ht hf
  refine ⟨cs, rfl, by rw [hs, hC], fun i hi => ?_⟩
  have h1 := hel i hi
  rw [ce, Nat.mul_one] at h1
  have hcl : cs.toList.length = n := by simp; rw [hs, hC]
  have hi' : i < cs.toList.length := by omega
  have e1 : ((Value.agg cs).cells.toList.drop i).take 1 = [cs.toList[i]] := by
    show (cs.toList.drop i).take 1 = _
    rw [List.drop_eq_getElem_cons hi']; rfl
  have e2 : xs[i]? = some xs[i] := List.getElem?_eq_getElem (by omega)
  rw [e2] at h1
  refine ⟨cs.toList[i], m, xs[i], by simp [show i < cs.size by simpa using hi'], ?_⟩
  rw [← h1]
  congr 1
  exact e1.symm
theorem open_bytes2 (ht : P.underlying t = some (.array 2 e)) (he : P.underlying e = some (.slice q)) (hq : P.underlying q = some (.int .u8)) (ce : P.cellsOf e = 1) (cq : P.cellsOf q = 1) (hC : P.cellsOf t = 2) (hok : Value.okWide P W .any base t v) (h : DataW.Trod enc P W 0 (fun _ => true) true t v d p) :
    ∃ (A1 : Option Addr) (l1 : List UInt8) (c1 : Nat) (A2 : Option Addr) (l2 : List UInt8) (c2 : Nat), v = .agg #[.slice A1 l1.length c1, .slice A2 l2.length c2] ∧ (l1.length ≤ c1 ∧ c1 ≤ maxLen ∧ BytesAt W A1 l1) ∧ (l2.length ≤ c2 ∧ c2 ≤ maxLen ∧ BytesAt W A2 l2) := by
  obtain ⟨cs, rfl, hs, hel⟩ := open_array ht ce hC hok h
  obtain ⟨u0, m0, y0, g0, r0⟩ := hel 0 (by omega)
  obtain ⟨u1, m1, y1, g1, r1⟩ := hel 1 (by omega)
  obtain ⟨l0, B0, c0, rfl, k0⟩ := trod_bytes he hq cq r0
  obtain ⟨l1, B1, c1, rfl, k1⟩ := trod_bytes he hq cq r1
  refine ⟨B0, l0, c0, B1, l1, c1, ?_, k0, k1⟩
  congr 1
  refine Array.ext_getElem? fun i => ?_
  match i with
  | 0 => rw [g0]; rfl
  | 1 => rw [g1]; rfl
  | i + 2 => rw [Array.getElem?_eq_none (by omega), Array.getElem?_eq_none (by simp)]
theorem open_bytes3 (ht : P.underlying t = some (.array 3 e)) (he : P.underlying e = some (.slice q)) (hq : P.underlying q = some (.int .u8)) (ce : P.cellsOf e = 1) (cq : P.cellsOf q = 1) (hC : P.cellsOf t = 3) (hok : Value.okWide P W .any base t v) (h : DataW.Trod enc P W 0 (fun _ => true) true t v d p) :
    ∃ (A1 : Option Addr) (l1 : List UInt8) (c1 : Nat) (A2 : Option Addr) (l2 : List UInt8) (c2 : Nat) (A3 : Option Addr) (l3 : List UInt8) (c3 : Nat), v = .agg #[.slice A1 l1.length c1, .slice A2 l2.length c2, .slice A3 l3.length c3] ∧ (l1.length ≤ c1 ∧ c1 ≤ maxLen ∧ BytesAt W A1 l1) ∧ (l2.length ≤ c2 ∧ c2 ≤ maxLen ∧ BytesAt W A2 l2) ∧ (l3.length ≤ c3 ∧ c3 ≤ maxLen ∧ BytesAt W A3 l3) := by
  obtain ⟨cs, rfl, hs, hel⟩ := open_array ht ce hC hok h
  obtain ⟨u0, m0, y0, g0, r0⟩ := hel 0 (by omega)
  obtain ⟨u1, m1, y1, g1, r1⟩ := hel 1 (by omega)
  obtain ⟨u2, m2, y2, g2, r2⟩ := hel 2 (by omega)
  obtain ⟨l0, B0, c0, rfl, k0⟩ := trod_bytes he hq cq r0
  obtain ⟨l1, B1, c1, rfl, k1⟩ := trod_bytes he hq cq r1
  obtain ⟨l2, B2, c2, rfl, k2⟩ := trod_bytes he hq cq r2
  refine ⟨B0, l0, c0, B1, l1, c1, B2, l2, c2, ?_, k0, k1, k2⟩
  congr 1
  refine Array.ext_getElem? fun i => ?_
  match i with
  | 0 => rw [g0]; rfl
  | 1 => rw [g1]; rfl
  | 2 => rw [g2]; rfl
  | i + 3 => rw [Array.getElem?_eq_none (by omega), Array.getElem?_eq_none (by simp)]
/-- an array of numbers of one kind -/
theorem open_ints {k : IntKind} (ht : P.underlying t = some (.array n e)) (he : P.underlying e = some (.int k)) (ce : P.cellsOf e = 1) (hC : P.cellsOf t = n) (hok : Value.okWide P W .any base t v) (h : DataW.Trod enc P W 0 (fun _ => true) true t v d p) :
    ∃ cs : Array Value, v = .agg cs ∧ cs.size = n ∧ ∀ i, i < n → ∃ z : Int, cs[i]? = some (.int k z) ∧ k.min ≤ z ∧ z ≤ k.max := by
  obtain ⟨cs, rfl, hs, hel⟩ := open_array ht ce hC hok h
  refine ⟨cs, rfl, hs, fun i hi => ?_⟩
  obtain ⟨u, m, y, g, r⟩ := hel i hi
  obtain ⟨z, rfl, hz⟩ := trod_num he r
  exact ⟨z, g, hz⟩
/-! slices that lie in a cell (a struct's field, an array's element) -/
theorem elems_c {m : Nat} {u : Value} {y : DataW H × List MemPlace} (ht : P.underlying t = some (.slice e)) (hC : 0 < P.cellsOf e) (hf : DataW.trod enc P W 0 (fun _ => true) true m t [u] = some y) :
    ∃ (A : Option Addr) (len cap : Nat), u = .slice A len cap ∧ len ≤ cap ∧ cap ≤ maxLen ∧ ∀ i, i < len → ∃ (b o : Nat) (cs : List Value) (n : Nat) (x : DataW H × List MemPlace), A = some ⟨b, o, none⟩ ∧ cs.length = P.cellsOf e ∧
      (∀ j, j < P.cellsOf e → W.cell? ⟨b, o + (i * P.cellsOf e + j), none⟩ = cs[j]?) ∧ DataW.trod enc P W 0 (fun _ => true) true n e cs = some x := by
  rcases open_slice ht hf with ⟨hcs, _⟩ | ⟨a, l, c, m, n, D, Pl, hcs, _, hl, hm, hmm, _, hi⟩
  · simp at hcs
    subst hcs
    exact ⟨none, 0, 0, rfl, Nat.le_refl _, Nat.zero_le _, fun i hi => by omega⟩
  · simp at hcs
    subst hcs
    simp at hmm
    refine ⟨some a, l, c, rfl, hl, hm, fun i hil => ?_⟩
    have hsp : a.spot = none := by
      obtain ⟨cs, hc, _⟩ := hi 0 (by omega)
      obtain ⟨_, hcl, hat⟩ := World.cells?_some hc
      have h0 := hat 0 hC
      rw [List.getElem?_eq_getElem (by omega)] at h0
      have := World.cell?_spot h0
      simpa [Addr.add] using this
    obtain ⟨cs, hc, htr⟩ := hi i (by omega)
    obtain ⟨_, hcl, hat⟩ := World.cells?_some hc
    obtain ⟨b, o, s⟩ := a
    obtain rfl : s = none := hsp
    refine ⟨b, o, cs, n, _, rfl, hcl, fun j hj => ?_, htr⟩
    have hadd : ∀ k, (⟨b, o, none⟩ : Addr).add k = ⟨b, o + k, none⟩ := fun k => by unfold Addr.add; split <;> simp_all
    rw [← hadd, ← Go.Deep.add_add]; exact hat j hj
theorem nums_c {m : Nat} {u : Value} {y : DataW H × List MemPlace} (ht : P.underlying t = some (.slice e)) (he : P.underlying e = some (.int .i64)) (hC : P.cellsOf e = 1) (hf : DataW.trod enc P W 0 (fun _ => true) true m t [u] = some y) :
    ∃ (A : Option Addr) (l : List Int) (cap : Nat), u = .slice A l.length cap ∧ l.length ≤ cap ∧ cap ≤ maxLen ∧ IntsAt W A l ∧ ∀ x ∈ l, PlanM.In64 x := by
  obtain ⟨A, len, cap, rfl, h1, h2, hel⟩ := elems_c ht (by rw [hC]; omega) hf
  have each : ∀ i, i < len → ∃ s : Int, (∃ b o, A = some ⟨b, o, none⟩ ∧ W.cell? ⟨b, o + i, none⟩ = some (.int .i64 s)) ∧ PlanM.In64 s := by
    intro i hi
    obtain ⟨b, o, cs, n, x, hA, hcl, hat, htr⟩ := hel i hi
    rw [hC, Nat.mul_one] at hat
    obtain ⟨s, hs, _, hw⟩ := DataW.trod_int he htr
    have c0 := hat 0 (by omega)
    rw [hs] at c0
    exact ⟨s, ⟨b, o, hA, c0⟩, i64_in64 (by simpa [Lit.wf] using hw)⟩
  obtain ⟨f, hf⟩ : ∃ f : Nat → Int, ∀ i, i < len → (∃ b o, A = some ⟨b, o, none⟩ ∧ W.cell? ⟨b, o + i, none⟩ = some (.int .i64 (f i))) ∧ PlanM.In64 (f i) := by
    refine ⟨fun i => if hi : i < len then Classical.choose (each i hi) else 0, fun i hi => ?_⟩
    simp only [hi, dif_pos]
    exact Classical.choose_spec (each i hi)
  refine ⟨A, (List.range len).map f, cap, by simp, by simpa using h1, h2, fun i hi => ?_, fun x hx => ?_⟩
  · have hi' : i < len := by rw [intV_len] at hi; simpa using hi
    obtain ⟨b, o, hA, hc⟩ := (hf i hi').1
    exact ⟨b, o, hA, by rw [hc, intV_get]; simp⟩
  · simp only [List.mem_map, List.mem_range] at hx
    obtain ⟨i, hi, rfl⟩ := hx
    exact (hf i hi).2
theorem rows_c {m : Nat} {u : Value} {y : DataW H × List MemPlace} (ht : P.underlying t = some (.slice e)) (he : P.underlying e = some (.slice q)) (hq : P.underlying q = some (.int .u8)) (ce : P.cellsOf e = 1) (cq : P.cellsOf q = 1) (hf : DataW.trod enc P W 0 (fun _ => true) true m t [u] = some y) :
    ∃ (A : Option Addr) (m : List (List UInt8)) (cap : Nat), u = .slice A m.length cap ∧ m.length ≤ cap ∧ cap ≤ maxLen ∧ RowsAt W A m := by
  obtain ⟨A, len, cap, rfl, h1, h2, hel⟩ := elems_c ht (by rw [ce]; omega) hf
  have each : ∀ i, i < len → ∃ s : List UInt8, ∃ b o v, A = some ⟨b, o, none⟩ ∧ W.cell? ⟨b, o + i, none⟩ = some v ∧ SliceIs W v s := by
    intro i hi
    obtain ⟨b, o, cs, n, x, hA, hcl, hat, htr⟩ := hel i hi
    rw [ce] at hcl
    obtain ⟨v, rfl⟩ : ∃ v, cs = [v] := by
      rcases cs with _ | ⟨v, _ | ⟨_, _⟩⟩
      · simp at hcl
      · exact ⟨v, rfl⟩
      · simp at hcl
    rw [ce, Nat.mul_one] at hat
    obtain ⟨s, hs⟩ := trod_bytes he hq cq htr
    have c0 := hat 0 (by omega)
    exact ⟨s, b, o, v, hA, c0, hs⟩
  obtain ⟨f, hf⟩ : ∃ f : Nat → List UInt8, ∀ i, i < len → ∃ b o v, A = some ⟨b, o, none⟩ ∧ W.cell? ⟨b, o + i, none⟩ = some v ∧ SliceIs W v (f i) := by
    refine ⟨fun i => if hi : i < len then Classical.choose (each i hi) else [], fun i hi => ?_⟩
    simp only [hi, dif_pos]
    exact Classical.choose_spec (each i hi)
  refine ⟨A, (List.range len).map f, cap, by simp, by simpa using h1, h2, fun i hi => ?_⟩
  have hi' : i < len := by simpa using hi
  obtain ⟨b, o, v, hA, hc, hs⟩ := hf i hi'
  exact ⟨b, o, v, hA, hc, by simpa using hs⟩
/-- a struct of a number, a list of numbers, and a list of lists -/
theorem open_num_nums_rows {fs : Array Field} {f0 f1 f2 : Field} {te r r1 : TypeId} (ht : P.underlying t = some (.struct fs)) (hone : oneCellFields P fs = true) (hC : P.cellsOf t = fs.size) (hfs : fs = #[f0, f1, f2])
    (t0 : P.underlying f0.type = some (.int .i64)) (t1 : P.underlying f1.type = some (.slice te)) (t1e : P.underlying te = some (.int .i64)) (c1 : P.cellsOf te = 1) (t2 : P.underlying f2.type = some (.slice r)) (t2e : P.underlying r = some (.slice r1)) (t2q : P.underlying r1 = some (.int .u8)) (c2 : P.cellsOf r = 1) (c3 : P.cellsOf r1 = 1)
    (hok : Value.okWide P W .any base t v) (h : DataW.Trod enc P W 0 (fun _ => true) true t v d p) :
    ∃ (z : Int) (A1 : Option Addr) (l : List Int) (u1 : Nat) (A2 : Option Addr) (m : List (List UInt8)) (u2 : Nat), v = .agg #[.int .i64 z, .slice A1 l.length u1, .slice A2 m.length u2] ∧ PlanM.In64 z ∧ (l.length ≤ u1 ∧ u1 ≤ maxLen ∧ IntsAt W A1 l ∧ ∀ x ∈ l, PlanM.In64 x) ∧ (m.length ≤ u2 ∧ u2 ≤ maxLen ∧ RowsAt W A2 m) := by
  subst hfs
  obtain ⟨cs, rfl, hs, hf⟩ := open_struct ht hone hC hok h
  obtain ⟨a0, n0, y0, g0, r0⟩ := hf 0 f0 rfl
  obtain ⟨a1, n1, y1, g1, r1⟩ := hf 1 f1 rfl
  obtain ⟨a2, n2, y2, g2, r2⟩ := hf 2 f2 rfl
  obtain ⟨z, rfl, hz⟩ := trod_num t0 r0
  obtain ⟨A1, l, u1, rfl, k1⟩ := nums_c t1 t1e c1 r1
  obtain ⟨A2, m, u2, rfl, k2⟩ := rows_c t2 t2e t2q c2 c3 r2
  refine ⟨z, A1, l, u1, A2, m, u2, ?_, i64_in64 hz, k1, k2⟩
  congr 1
  refine Array.ext_getElem? fun i => ?_
  match i with
  | 0 => rw [g0]; rfl
  | 1 => rw [g1]; rfl
  | 2 => rw [g2]; rfl
  | i + 3 => rw [Array.getElem?_eq_none (by simp at hs; omega), Array.getElem?_eq_none (by simp)]
end
end Go.Proofs.Ytmeenipcfmeopaa
