/- merged: Open, OpenM, OpenS, OpenP -/
import Derived.Test.YthmllbijfgimcaaMem
import Derived.ShutString
import Derived.ChangeOld
import Derived.Test.YthmllbijfgimcaaMats
import Derived.Deep.Matrix
import Derived.Deep.Slices
import Derived.Deep.Fields
import Derived.ChangeSame
import Derived.Test.YthmllbijfgimcaaInts
import Derived.Test.YthmllbijfgimcaaPlanMath

/- arguments opened, each by its type -/
set_option maxRecDepth 100000
namespace Go.Proofs.Ythmllbijfgimcaa
open Go.ChangeShapes Go.WideShapes Go.ChangeAt Go.RowKit
open Go.ChangeMaps (open_string shut_string)
theorem getD_at {α : Type} (l : List α) (d : α) (i : Nat) (h : i < l.length) : l.getD i d = l[i] := by simp [List.getD, h]
section
variable {H : Type} {enc : TypeId × Value → H} {P : Program} {W : World} {base : Nat} {v : Value} {d : DataW H} {p : List MemPlace} {t e : TypeId}

theorem open_u8 (ht : P.underlying t = some (.int .u8)) (hok : Value.okWide P W .any base t v) (h : DataW.Trod enc P W 0 (fun _ => true) true t v d p) :
    ∃ b : UInt8, v = .int .u8 (b.toNat : Nat) := by
  obtain ⟨n, rfl, _, _, hw⟩ := open_int ht hok h
  have hx : 0 ≤ n ∧ n ≤ 255 := by simpa [Lit.wf, IntKind.min, IntKind.max, IntKind.signed, IntKind.bits] using hw
  obtain ⟨m, rfl⟩ := Int.eq_ofNat_of_zero_le hx.1
  exact ⟨UInt8.ofNat m, by rw [UInt8.toNat_ofNat_of_lt' (show m < UInt8.size by simp only [UInt8.size]; omega)]⟩
theorem open_num {k : IntKind} (ht : P.underlying t = some (.int k)) (hok : Value.okWide P W .any base t v) (h : DataW.Trod enc P W 0 (fun _ => true) true t v d p) :
    ∃ n : Int, v = .int k n ∧ k.min ≤ n ∧ n ≤ k.max := by
  obtain ⟨n, rfl, _, _, hw⟩ := open_int ht hok h
  exact ⟨n, rfl, by simpa [Lit.wf] using hw⟩
theorem i64_range {n : Int} (h : IntKind.min .i64 ≤ n ∧ n ≤ IntKind.max .i64) : -9223372036854775808 ≤ n ∧ n ≤ 9223372036854775807 := by
  simpa [IntKind.min, IntKind.max, IntKind.signed, IntKind.bits] using h
theorem i16_range {n : Int} (h : IntKind.min .i16 ≤ n ∧ n ≤ IntKind.max .i16) : -32768 ≤ n ∧ n ≤ 32767 := by
  simpa [IntKind.min, IntKind.max, IntKind.signed, IntKind.bits] using h
theorem i8_range {n : Int} (h : IntKind.min .i8 ≤ n ∧ n ≤ IntKind.max .i8) : -128 ≤ n ∧ n ≤ 127 := by
  simpa [IntKind.min, IntKind.max, IntKind.signed, IntKind.bits] using h
theorem i32_range {n : Int} (h : IntKind.min .i32 ≤ n ∧ n ≤ IntKind.max .i32) : -2147483648 ≤ n ∧ n ≤ 2147483647 := by
  simpa [IntKind.min, IntKind.max, IntKind.signed, IntKind.bits] using h
theorem u16_range {n : Int} (h : IntKind.min .u16 ≤ n ∧ n ≤ IntKind.max .u16) : 0 ≤ n ∧ n ≤ 65535 := by
  simpa [IntKind.min, IntKind.max, IntKind.signed, IntKind.bits] using h
theorem u32_range {n : Int} (h : IntKind.min .u32 ≤ n ∧ n ≤ IntKind.max .u32) : 0 ≤ n ∧ n ≤ 4294967295 := by
  simpa [IntKind.min, IntKind.max, IntKind.signed, IntKind.bits] using h
theorem u64_range {n : Int} (h : IntKind.min .u64 ≤ n ∧ n ≤ IntKind.max .u64) : 0 ≤ n ∧ n ≤ 18446744073709551615 := by
  simpa [IntKind.min, IntKind.max, IntKind.signed, IntKind.bits] using h

theorem open_bytes (ht : P.underlying t = some (.slice e)) (he : P.underlying e = some (.int .u8)) (hc : P.cellsOf e = 1)
    (hok : Value.okWide P W .any base t v) (h : DataW.Trod enc P W 0 (fun _ => true) true t v d p) :
    ∃ (A : Option Addr) (l : List UInt8) (cap : Nat), v = .slice A l.length cap ∧ l.length ≤ cap ∧ cap ≤ maxLen ∧ BytesAt W A l := by
  obtain ⟨a, len, cap, rfl⟩ := okWide_slice ht hok
  obtain ⟨fuel, hf⟩ := h
  rcases open_ints ht he hc hf with ⟨hcs, _⟩ | ⟨x, l, c, zs, hcs, _, hl, hm, hz, _, hcell, hwz⟩
  · simp [Value.cells] at hcs
    obtain ⟨rfl, rfl, rfl⟩ := hcs
    exact ⟨none, [], 0, rfl, by simp, by simp, fun i hi => by simp at hi⟩
  · simp [Value.cells] at hcs
    obtain ⟨rfl, rfl, rfl⟩ := hcs
    have hz : zs.length = cap := by simpa using hz
    refine ⟨some x, (zs.take len).map fun n => UInt8.ofNat n.toNat, cap, by simp; omega, by simp; omega, hm, fun i hi => ?_⟩
    have hi' : i < len := by simp at hi; omega
    have h1 := hcell i (by omega)
    have hspot : x.spot = none := by
      have h0 := hcell 0 (by omega)
      have := World.cell?_spot h0
      simpa [Addr.add] using this
    obtain ⟨b, o, s⟩ := x
    obtain rfl : s = none := hspot
    have hadd : (⟨b, o, none⟩ : Addr).add i = ⟨b, o + i, none⟩ := by unfold Addr.add; split <;> simp_all
    rw [hadd] at h1
    refine ⟨b, o, rfl, ?_⟩
    rw [h1]
    have hw := hwz (zs.getD i 0) (by rw [getD_at _ _ _ (by omega)]; exact List.getElem_mem _)
    have hx : 0 ≤ zs.getD i 0 ∧ zs.getD i 0 ≤ 255 := by simpa [Lit.wf, IntKind.min, IntKind.max, IntKind.signed, IntKind.bits] using hw
    have e : ((zs.take len).map fun n : Int => UInt8.ofNat n.toNat)[i] = UInt8.ofNat (zs.getD i 0).toNat := by
      rw [getD_at _ _ _ (show i < zs.length by omega)]; simp
    rw [e, UInt8.toNat_ofNat_of_lt' (by simp only [UInt8.size]; omega)]
    congr 2; omega
end
end Go.Proofs.Ythmllbijfgimcaa

/- arguments opened: lists of lists of bytes -/
set_option maxRecDepth 100000
namespace Go.Proofs.Ythmllbijfgimcaa
open Go.ChangeShapes Go.WideShapes Go.ChangeAt Go.RowKit

def rowOf (zs : List Int) (n : Nat) : List UInt8 := (zs.take n).map fun z => UInt8.ofNat z.toNat
theorem rowOf_len (zs : List Int) (n : Nat) (h : n ≤ zs.length) : (rowOf zs n).length = n := by simp [rowOf]; omega
theorem rowOf_at {W : World} {A : Option Addr} {zs : List Int} {n c : Nat} (hn : n ≤ c) (hz : zs.length = c) (hw : ∀ z ∈ zs, (Lit.int .u8 z).wf = true)
    (hc : ∀ a', A = some a' → ∀ i, i < c → W.cell? (a'.add i) = some (.int .u8 (zs.getD i 0))) (hnone : A = none → c = 0) : BytesAt W A (rowOf zs n) := by
  intro i hi
  rw [rowOf_len _ _ (by omega)] at hi
  rcases A with _ | x
  · have := hnone rfl; omega
  · have h1 := hc x rfl i (by omega)
    have hspot : x.spot = none := by
      have h0 := hc x rfl 0 (by omega)
      have := World.cell?_spot h0
      simpa [Addr.add] using this
    obtain ⟨b, o, s⟩ := x
    obtain rfl : s = none := hspot
    have hadd : (⟨b, o, none⟩ : Addr).add i = ⟨b, o + i, none⟩ := by unfold Addr.add; split <;> simp_all
    rw [hadd] at h1
    refine ⟨b, o, rfl, ?_⟩
    rw [h1]
    have hw := hw (zs.getD i 0) (by rw [getD_at _ _ _ (by omega)]; exact List.getElem_mem _)
    have hx : 0 ≤ zs.getD i 0 ∧ zs.getD i 0 ≤ 255 := by simpa [Lit.wf, IntKind.min, IntKind.max, IntKind.signed, IntKind.bits] using hw
    have e : (rowOf zs n)[i]'(by rw [rowOf_len _ _ (by omega)]; exact hi) = UInt8.ofNat (zs.getD i 0).toNat := by
      rw [getD_at _ _ _ (show i < zs.length by omega)]; simp [rowOf]
    rw [e, UInt8.toNat_ofNat_of_lt' (by simp only [UInt8.size]; omega)]
    congr 2; omega
section
variable {H : Type} {enc : TypeId × Value → H} {P : Program} {W : World} {base : Nat} {v : Value} {d : DataW H} {p : List MemPlace} {t e q : TypeId}
theorem open_rows (ht : P.underlying t = some (.slice e)) (he : P.underlying e = some (.slice q)) (hq : P.underlying q = some (.int .u8)) (ce : P.cellsOf e = 1) (cq : P.cellsOf q = 1)
    (hok : Value.okWide P W .any base t v) (h : DataW.Trod enc P W 0 (fun _ => true) true t v d p) :
    ∃ (A : Option Addr) (m : List (List UInt8)) (cap : Nat), v = .slice A m.length cap ∧ m.length ≤ cap ∧ cap ≤ maxLen ∧ RowsAt W A m := by
  obtain ⟨a, len, cap, rfl⟩ := okWide_slice ht hok
  obtain ⟨fuel, hf⟩ := h
  rcases Go.Deep.open_int_rows ht he hq ce cq hf with ⟨hcs, _⟩ | ⟨x, l, c, A, L, C, Z, hcs, _, hl, hm, _, hrow⟩
  · simp [Value.cells] at hcs
    obtain ⟨rfl, rfl, rfl⟩ := hcs
    exact ⟨none, [], 0, rfl, by simp, by simp, RowsAt.nil _ _⟩
  · simp [Value.cells] at hcs
    obtain ⟨rfl, rfl, rfl⟩ := hcs
    refine ⟨some x, (List.range len).map fun r => rowOf (Z r) (L r), cap, by simp, by simp; exact hl, hm, fun i hi => ?_⟩
    have hi' : i < len := by simpa using hi
    obtain ⟨h1, r1, r2, r3, r4, r5, r6⟩ := hrow i (by omega)
    have hspot : x.spot = none := by
      obtain ⟨h0, _⟩ := hrow 0 (by omega)
      have := World.cell?_spot h0
      simpa [Addr.add] using this
    obtain ⟨b, o, s⟩ := x
    obtain rfl : s = none := hspot
    have hadd : (⟨b, o, none⟩ : Addr).add i = ⟨b, o + i, none⟩ := by unfold Addr.add; split <;> simp_all
    rw [hadd] at h1
    have hlen : (rowOf (Z i) (L i)).length = L i := rowOf_len _ _ (by omega)
    refine ⟨b, o, _, rfl, h1, ?_⟩
    simp only [List.getElem_map, List.getElem_range]
    refine ⟨A i, C i, by rw [hlen], by rw [hlen]; exact r1, r2, rowOf_at r1 r3 r4 (fun a' e => (r6 a' e).2) r5⟩
end
end Go.Proofs.Ythmllbijfgimcaa

/- arguments opened: slices of structs, field by field -/
set_option maxRecDepth 100000
namespace Go.Proofs.Ythmllbijfgimcaa
open Go.ChangeShapes Go.WideShapes Go.ChangeAt Go.RowKit Go.Deep

section
variable {H : Type} {enc : TypeId × Value → H} {P : Program} {W : World} {base : Nat} {v : Value} {d : DataW H} {p : List MemPlace} {t e q : TypeId} {held : Bool}
/-- one field of what a struct's cells read as -/
theorem trod_field {fs : Array Field} {n : Nat} {cs : List Value} {x : DataW H × List MemPlace} (ht : P.underlying e = some (.struct fs)) (hone : oneCellFields P fs = true) (hC : P.cellsOf e = fs.size)
    (h : DataW.trod enc P W base (fun _ => true) held n e cs = some x) {j : Nat} {f : Field} (hj : fs[j]? = some f) :
    ∃ (u : Value) (m : Nat) (y : DataW H × List MemPlace), cs[j]? = some u ∧ DataW.trod enc P W base (fun _ => true) held m f.type [u] = some y := by
  obtain ⟨xs, m, _, _, hcl, hxl, hf⟩ := DataW.trod_struct ht h
  obtain ⟨ho, hc1⟩ := hone_of hone j f hj
  have hjs : j < fs.size := by
    rcases Nat.lt_or_ge j fs.size with hlt | hge
    · exact hlt
    · rw [Array.getElem?_eq_none hge] at hj; cases hj
  have hjc : j < cs.length := by rw [hcl, hC]; exact hjs
  have hg := hf j f hj
  rw [ho, hc1, List.drop_eq_getElem_cons hjc, List.take_succ_cons, List.take_zero, List.getElem?_eq_getElem (by omega)] at hg
  exact ⟨cs[j], m, _, List.getElem?_eq_getElem hjc, hg⟩
theorem trod_num {k : IntKind} {n : Nat} {u : Value} {y : DataW H × List MemPlace} (ht : P.underlying t = some (.int k)) (h : DataW.trod enc P W base (fun _ => true) held n t [u] = some y) :
    ∃ z : Int, u = .int k z ∧ k.min ≤ z ∧ z ≤ k.max := by
  obtain ⟨z, hz, _, hw⟩ := DataW.trod_int ht h
  exact ⟨z, by simpa using hz, by simpa [Lit.wf] using hw⟩
theorem trod_flag {n : Nat} {u : Value} {y : DataW H × List MemPlace} (ht : P.underlying t = some .bool) (h : DataW.trod enc P W base (fun _ => true) held n t [u] = some y) :
    ∃ z : Bool, u = .bool z := by
  obtain ⟨z, hz, _⟩ := DataW.trod_bool ht h
  exact ⟨z, by simpa using hz⟩
theorem trod_bytes {n : Nat} {u : Value} {y : DataW H × List MemPlace} (ht : P.underlying t = some (.slice e)) (he : P.underlying e = some (.int .u8)) (hc : P.cellsOf e = 1)
    (h : DataW.trod enc P W base (fun _ => true) held n t [u] = some y) : ∃ l, SliceIs W u l := by
  rcases open_ints ht he hc h with ⟨hcs, _⟩ | ⟨x, l, c, zs, hcs, _, hl, hm, hz, _, hcell, hwz⟩
  · simp at hcs
    exact ⟨[], none, 0, by simpa using hcs, Nat.le_refl _, Nat.zero_le _, BytesAt.nil _ _⟩
  · have hu : u = .slice (some x) l c := by simpa using hcs
    have hz : zs.length = c := by simpa using hz
    have hlen := rowOf_len zs l (by omega)
    exact ⟨rowOf zs l, some x, c, by rw [hlen]; exact hu, by rw [hlen]; exact hl, hm, rowOf_at hl hz hwz (fun a' e i hi => by injection e with e; subst e; exact hcell i (by omega)) (fun h => by cases h)⟩
/-- a slice whose elements have any number of cells: element by element what its cells read as -/
theorem open_elems (ht : P.underlying t = some (.slice e)) (hC : 0 < P.cellsOf e) (hok : Value.okWide P W .any base t v) (h : DataW.Trod enc P W 0 (fun _ => true) true t v d p) :
    ∃ (A : Option Addr) (len cap : Nat), v = .slice A len cap ∧ len ≤ cap ∧ cap ≤ maxLen ∧ ∀ i, i < len → ∃ (b o : Nat) (cs : List Value) (n : Nat) (x : DataW H × List MemPlace), A = some ⟨b, o, none⟩ ∧ cs.length = P.cellsOf e ∧
      (∀ j, j < P.cellsOf e → W.cell? ⟨b, o + (i * P.cellsOf e + j), none⟩ = cs[j]?) ∧ DataW.trod enc P W 0 (fun _ => true) true n e cs = some x := by
  obtain ⟨A, len, cap, rfl⟩ := okWide_slice ht hok
  obtain ⟨fuel, hf⟩ := h
  rcases open_slice ht hf with ⟨hcs, _⟩ | ⟨a, l, c, m, n, D, Pl, hcs, _, hl, hm, hmm, _, hi⟩
  · simp [Value.cells] at hcs
    obtain ⟨rfl, rfl, rfl⟩ := hcs
    exact ⟨none, 0, 0, rfl, Nat.le_refl _, Nat.zero_le _, fun i hi => by omega⟩
  · simp [Value.cells] at hcs
    obtain ⟨rfl, rfl, rfl⟩ := hcs
    simp at hmm
    refine ⟨some a, len, cap, rfl, hl, hm, fun i hil => ?_⟩
    have hsp : a.spot = none := by
      obtain ⟨cs, hc, _⟩ := hi 0 (by omega)
      obtain ⟨_, hcl, hat⟩ := World.cells?_some hc
      have h0 := hat 0 hC
      rw [List.getElem?_eq_getElem (by omega)] at h0
      have := World.cell?_spot h0
      simpa [Addr.add] using this
    obtain ⟨cs, hc, htr⟩ := hi i (by omega)
    obtain ⟨_, hcl, hat⟩ := World.cells?_some hc
    obtain ⟨b, o, s⟩ := a
    obtain rfl : s = none := hsp
    refine ⟨b, o, cs, n, _, rfl, hcl, fun j hj => ?_, htr⟩
    have hadd : ∀ k, (⟨b, o, none⟩ : Addr).add k = ⟨b, o + k, none⟩ := fun k => by unfold Addr.add; split <;> simp_all
    rw [← hadd, ← Go.Deep.add_add]; exact hat j hj
end
end Go.Proofs.Ythmllbijfgimcaa

/- arguments opened: plans, lists of bools, lists of numbers -/
set_option maxRecDepth 100000
namespace Go.Proofs.Ythmllbijfgimcaa
open Go.ChangeShapes Go.WideShapes Go.ChangeAt Go.RowKit Go.Deep

section
variable {H : Type} {enc : TypeId × Value → H} {P : Program} {W : World} {base : Nat} {v : Value} {d : DataW H} {p : List MemPlace} {t e : TypeId}
theorem i64_in64 {z : Int} (h : IntKind.min .i64 ≤ z ∧ z ≤ IntKind.max .i64) : PlanM.In64 z := by
  unfold PlanM.In64; simpa [IntKind.min, IntKind.max, IntKind.signed, IntKind.bits] using h
/-- a struct whose fields are all of one cell: its cells -/
theorem open_struct {fs : Array Field} (ht : P.underlying t = some (.struct fs)) (hone : oneCellFields P fs = true) (hC : P.cellsOf t = fs.size)
    (hok : Value.okWide P W .any base t v) (h : DataW.Trod enc P W 0 (fun _ => true) true t v d p) :
    ∃ cs : Array Value, v = .agg cs ∧ cs.size = fs.size ∧ ∀ (j : Nat) (f : Field), fs[j]? = some f → ∃ (u : Value) (m : Nat) (y : DataW H × List MemPlace), cs[j]? = some u ∧ DataW.trod enc P W 0 (fun _ => true) true m f.type [u] = some y := by
  obtain ⟨cs, rfl, hs⟩ := okWide_struct ht hok
  obtain ⟨fuel, hf⟩ := h
  refine ⟨cs, rfl, by rw [hs, hC], fun j f hj => ?_⟩
  obtain ⟨u, m, y, h1, h2⟩ := trod_field ht hone hC hf hj
  exact ⟨u, m, y, by simpa [Value.cells] using h1, h2⟩
theorem open_plan {fs : Array Field} {q : TypeId} (ht : P.underlying t = some (.struct fs)) (hone : oneCellFields P fs = true) (hC : P.cellsOf t = fs.size) (h6 : fs.size = 6)
    (hi : fs.toList.all (fun f => f.type == q) = true) (hq : P.underlying q = some (.int .i64))
    (hok : Value.okWide P W .any base t v) (h : DataW.Trod enc P W 0 (fun _ => true) true t v d p) : ∃ x : PlanM.P, v = x.val ∧ x.In := by
  obtain ⟨cs, rfl, hs, hf⟩ := open_struct ht hone hC hok h
  have each : ∀ j, j < 6 → ∃ z : Int, cs[j]? = some (.int .i64 z) ∧ PlanM.In64 z := by
    intro j hj
    have hjs : j < fs.size := by omega
    obtain ⟨u, m, y, h1, h2⟩ := hf j fs[j] (Array.getElem?_eq_getElem hjs)
    have ht2 : fs[j].type = q := by
      have := List.all_eq_true.mp hi fs[j] (by simp)
      simpa using this
    rw [ht2] at h2
    obtain ⟨z, rfl, hz⟩ := trod_num hq h2
    exact ⟨z, h1, i64_in64 hz⟩
  obtain ⟨a0, e0, i0⟩ := each 0 (by omega)
  obtain ⟨a1, e1, i1⟩ := each 1 (by omega)
  obtain ⟨a2, e2, i2⟩ := each 2 (by omega)
  obtain ⟨a3, e3, i3⟩ := each 3 (by omega)
  obtain ⟨a4, e4, i4⟩ := each 4 (by omega)
  obtain ⟨a5, e5, i5⟩ := each 5 (by omega)
  refine ⟨⟨a0, a1, a2, a3, a4, a5⟩, ?_, ⟨i0, i1, i2, i3, i4, i5⟩⟩
  unfold PlanM.P.val
  congr 1
  rw [h6] at hs
  refine Array.ext_getElem? fun i => ?_
  match i with
  | 0 => rw [e0]; rfl
  | 1 => rw [e1]; rfl
  | 2 => rw [e2]; rfl
  | 3 => rw [e3]; rfl
  | 4 => rw [e4]; rfl
  | 5 => rw [e5]; rfl
  | i + 6 => rw [Array.getElem?_eq_none (by omega), Array.getElem?_eq_none (by simp)]
theorem open_bools (ht : P.underlying t = some (.slice e)) (he : P.underlying e = some .bool) (hC : P.cellsOf e = 1) (hok : Value.okWide P W .any base t v) (h : DataW.Trod enc P W 0 (fun _ => true) true t v d p) :
    ∃ (A : Option Addr) (l : List Bool) (cap : Nat), v = .slice A l.length cap ∧ l.length ≤ cap ∧ cap ≤ maxLen ∧ CellsAt W A (l.map Value.bool) := by
  obtain ⟨A, len, cap, rfl, h1, h2, hel⟩ := open_elems ht (by rw [hC]; omega) hok h
  have each : ∀ i, i < len → ∃ s : Bool, ∃ b o, A = some ⟨b, o, none⟩ ∧ W.cell? ⟨b, o + i, none⟩ = some (.bool s) := by
    intro i hi
    obtain ⟨b, o, cs, n, x, hA, hcl, hat, htr⟩ := hel i hi
    rw [hC, Nat.mul_one] at hat
    obtain ⟨s, hs, _⟩ := DataW.trod_bool he htr
    have c0 := hat 0 (by omega)
    rw [hs] at c0
    exact ⟨s, b, o, hA, c0⟩
  obtain ⟨f, hf⟩ : ∃ f : Nat → Bool, ∀ i, i < len → ∃ b o, A = some ⟨b, o, none⟩ ∧ W.cell? ⟨b, o + i, none⟩ = some (.bool (f i)) := by
    refine ⟨fun i => if hi : i < len then Classical.choose (each i hi) else false, fun i hi => ?_⟩
    simp only [hi, dif_pos]
    exact Classical.choose_spec (each i hi)
  refine ⟨A, (List.range len).map f, cap, by simp, by simpa using h1, h2, fun i hi => ?_⟩
  have hi' : i < len := by simpa using hi
  obtain ⟨b, o, hA, hc⟩ := hf i hi'
  exact ⟨b, o, hA, by rw [hc]; simp⟩
theorem open_nums (ht : P.underlying t = some (.slice e)) (he : P.underlying e = some (.int .i64)) (hC : P.cellsOf e = 1) (hok : Value.okWide P W .any base t v) (h : DataW.Trod enc P W 0 (fun _ => true) true t v d p) :
    ∃ (A : Option Addr) (l : List Int) (cap : Nat), v = .slice A l.length cap ∧ l.length ≤ cap ∧ cap ≤ maxLen ∧ IntsAt W A l ∧ ∀ x ∈ l, PlanM.In64 x := by
  obtain ⟨A, len, cap, rfl, h1, h2, hel⟩ := open_elems ht (by rw [hC]; omega) hok h
  have each : ∀ i, i < len → ∃ s : Int, (∃ b o, A = some ⟨b, o, none⟩ ∧ W.cell? ⟨b, o + i, none⟩ = some (.int .i64 s)) ∧ PlanM.In64 s := by
    intro i hi
    obtain ⟨b, o, cs, n, x, hA, hcl, hat, htr⟩ := hel i hi
    rw [hC, Nat.mul_one] at hat
    obtain ⟨s, hs, _, hw⟩ := DataW.trod_int he htr
    have c0 := hat 0 (by omega)
    rw [hs] at c0
    exact ⟨s, ⟨b, o, hA, c0⟩, i64_in64 (by simpa [Lit.wf] using hw)⟩
  obtain ⟨f, hf⟩ : ∃ f : Nat → Int, ∀ i, i < len → (∃ b o, A = some ⟨b, o, none⟩ ∧ W.cell? ⟨b, o + i, none⟩ = some (.int .i64 (f i))) ∧ PlanM.In64 (f i) := by
    refine ⟨fun i => if hi : i < len then Classical.choose (each i hi) else 0, fun i hi => ?_⟩
    simp only [hi, dif_pos]
    exact Classical.choose_spec (each i hi)
  refine ⟨A, (List.range len).map f, cap, by simp, by simpa using h1, h2, fun i hi => ?_, fun x hx => ?_⟩
  · have hi' : i < len := by rw [intV_len] at hi; simpa using hi
    obtain ⟨b, o, hA, hc⟩ := (hf i hi').1
    exact ⟨b, o, hA, by rw [hc, intV_get]; simp⟩
  · simp only [List.mem_map, List.mem_range] at hx
    obtain ⟨i, hi, rfl⟩ := hx
    exact (hf i hi).2
end
end Go.Proofs.Ythmllbijfgimcaa
