/- merged: Open, OpenM, OpenS, OpenP, OpenA -/
import Derived.Test.YtjoocjkakgjgmaaMem
import Derived.ShutString
import Derived.ChangeOld
import Derived.Test.YtjoocjkakgjgmaaMats
import Derived.Deep.Matrix
import Derived.Deep.Slices
import Derived.Deep.Fields
import Derived.ChangeSame
import Derived.Test.YtjoocjkakgjgmaaInts
import Derived.Test.YtjoocjkakgjgmaaPlanMath

/- arguments opened, each by its type -/
set_option maxRecDepth 100000
namespace Go.Proofs.Ytjoocjkakgjgmaa
open Go.ChangeShapes Go.WideShapes Go.ChangeAt Go.RowKit
open Go.ChangeMaps (open_string shut_string)
theorem getD_at {α : Type} (l : List α) (d : α) (i : Nat) (h : i < l.length) : l.getD i d = l[i] := by simp [List.getD, h]
section
variable {H : Type} {enc : TypeId × Value → H} {P : Program} {W : World} {base : Nat} {v : Value} {d : DataW H} {p : List MemPlace} {t e : TypeId}

theorem open_u8 (ht : P.underlying t = some (.int .u8)) (hok : Value.okWide P W .any base t v) (h : DataW.Trod enc P W 0 (fun _ => true) true t v d p) :
    ∃ b : UInt8, v = .int .u8 (b.toNat : Nat) := by
  obtain ⟨n, rfl, _, _, hw⟩ := open_int ht hok h
  have hx : 0 ≤ n ∧ n ≤ 255 := by simpa [Lit.wf, IntKind.min, IntKind.max, IntKind.signed, IntKind.bits] using hw
  obtain ⟨m, rfl⟩ := Int.eq_ofNat_of_zero_le hx.1
  exact ⟨UInt8.ofNat m, by rw [UInt8.toNat_ofNat_of_lt' (show m < UInt8.size by simp only [UInt8.size]; omega)]⟩
theorem open_num {k : IntKind} (ht : P.underlying t = some (.int k)) (hok : Value.okWide P W .any base t v) (h : DataW.Trod enc P W 0 (fun _ => true) true t v d p) :
    ∃ n : Int, v = .int k n ∧ k.min ≤ n ∧ n ≤ k.max := by
  obtain ⟨n, rfl, _, _, hw⟩ := open_int ht hok h
  exact ⟨n, rfl, by simpa [Lit.wf] using hw⟩
theorem i64_range {n : Int} (h : IntKind.min .i64 ≤ n ∧ n ≤ IntKind.max .i64) : -9223372036854775808 ≤ n ∧ n ≤ 9223372036854775807 := by
  simpa [IntKind.min, IntKind.max, IntKind.signed, IntKind.bits] using h
theorem i16_range {n : Int} (h : IntKind.min .i16 ≤ n ∧ n ≤ IntKind.max .i16) : -32768 ≤ n ∧ n ≤ 32767 := by
  simpa [IntKind.min, IntKind.max, IntKind.signed, IntKind.bits] using h
theorem i8_range {n : Int} (h : IntKind.min .i8 ≤ n ∧ n ≤ IntKind.max .i8) : -128 ≤ n ∧ n ≤ 127 := by
  simpa [IntKind.min, IntKind.max, IntKind.signed, IntKind.bits] using h
theorem i32_range {n : Int} (h : IntKind.min .i32 ≤ n ∧ n ≤ IntKind.max .i32) : -2147483648 ≤ n ∧ n ≤ 2147483647 := by
  simpa [IntKind.min, IntKind.max, IntKind.signed, IntKind.bits] using h
theorem u16_range {n : Int} (h : IntKind.min .u16 ≤ n ∧ n ≤ IntKind.max .u16) : 0 ≤ n ∧ n ≤ 65535 := by
  simpa [IntKind.min, IntKind.max, IntKind.signed, IntKind.bits] using h
theorem u32_range {n : Int} (h : IntKind.min .u32 ≤ n ∧ n ≤ IntKind.max .u32) : 0 ≤ n ∧ n ≤ 4294967295 := by
  simpa [IntKind.min, IntKind.max, IntKind.signed, IntKind.bits] using h
theorem u64_range {n : Int} (h : IntKind.min .u64 ≤ n ∧ n ≤ IntKind.max .u64) : 0 ≤ n ∧ n ≤ 18446744073709551615 := by
  simpa [IntKind.min, IntKind.max, IntKind.signed, IntKind.bits] using h

theorem open_bytes (ht : P.underlying t = some (.slice e)) (he : P.underlying e = some (.int .u8)) (hc : P.cellsOf e = 1)
    (hok : Value.okWide P W .any base t v) (h : DataW.Trod enc P W 0 (fun _ => true) true t v d p) :
    ∃ (A : Option Addr) (l : List UInt8) (cap : Nat), v = .slice A l.length cap ∧ l.length ≤ cap ∧ cap ≤ maxLen ∧ BytesAt W A l := by
  obtain ⟨a, len, cap, rfl⟩ := okWide_slice ht hok
  obtain ⟨fuel, hf⟩ := h
  rcases open_ints ht he hc hf with ⟨hcs, _⟩ | ⟨x, l, c, zs, hcs, _, hl, hm, hz, _, hcell, hwz⟩
  · simp [Value.cells] at hcs
    obtain ⟨rfl, rfl, rfl⟩ := hcs
    exact ⟨none, [], 0, rfl, by simp, by simp, fun i hi => by simp at hi⟩
  · simp [Value.cells] at hcs
    obtain ⟨rfl, rfl, rfl⟩ := hcs
    have hz : zs.length = cap := by simpa using hz
    refine ⟨some x, (zs.take len).map fun n => UInt8.ofNat n.toNat, cap, by simp; omega, by simp; omega, hm, fun i hi => ?_⟩
    have hi' : i < len := by simp at hi; omega
    have h1 := hcell i (by omega)
    have hspot : x.spot = none := by
      have h0 := hcell 0 (by omega)
      have := World.cell?_spot h0
      simpa [Addr.add] using this
    obtain ⟨b, o, s⟩ := x
    obtain rfl : s = none := hspot
    have hadd : (⟨b, o, none⟩ : Addr).add i = ⟨b, o + i, none⟩ := by unfold Addr.add; split <;> simp_all
    rw [hadd] at h1
    refine ⟨b, o, rfl, ?_⟩
    rw [h1]
    have hw := hwz (zs.getD i 0) (by rw [getD_at _ _ _ (by omega)]; exact List.getElem_mem _)
    have hx : 0 ≤ zs.getD i 0 ∧ zs.getD i 0 ≤ 255 := by simpa [Lit.wf, IntKind.min, IntKind.max, IntKind.signed, IntKind.bits] using hw
    have e : ((zs.take len).map fun n : Int => UInt8.ofNat n.toNat)[i] = UInt8.ofNat (zs.getD i 0).toNat := by
      rw [getD_at _ _ _ (show i < zs.length by omega)]; simp
    rw [e, UInt8.toNat_ofNat_of_lt' (by simp only [UInt8.size]; omega)]
    congr 2; omega
end
end Go.Proofs.Ytjoocjkakgjgmaa

/- arguments opened: lists of lists of bytes -/
set_option maxRecDepth 100000
namespace Go.Proofs.Ytjoocjkakgjgmaa
open Go.ChangeShapes Go.WideShapes Go.ChangeAt Go.RowKit

def rowOf (zs : List Int) (n : Nat) : List UInt8 := (zs.take n).map fun z => UInt8.ofNat z.toNat
theorem rowOf_len (zs : List Int) (n : Nat) (h : n ≤ zs.length) : (rowOf zs n).length = n := by simp [rowOf]; omega
theorem rowOf_at {W : World} {A : Option Addr} {zs : List Int} {n c : Nat} (hn : n ≤ c) (hz : zs.length = c) (hw : ∀ z ∈ zs, (Lit.int .u8 z).wf = true)
    (hc : ∀ a', A = some a' → ∀ i, i < c → W.cell? (a'.add i) = some (.int .u8 (zs.getD i 0))) (hnone : A = none → c = 0) : BytesAt W A (rowOf zs n) := by
  intro i hi
  rw [rowOf_len _ _ (by omega)] at hi
  rcases A with _ | x
  · have := hnone rfl; omega
  · have h1 := hc x rfl i (by omega)
    have hspot : x.spot = none := by
      have h0 := hc x rfl 0 (by omega)
      have := World.cell?_spot h0
      simpa [Addr.add] using this
    obtain ⟨b, o, s⟩ := x
    obtain rfl : s = none := hspot
    have hadd : (⟨b, o, none⟩ : Addr).add i = ⟨b, o + i, none⟩ := by unfold Addr.add; split <;> simp_all
    rw [hadd] at h1
    refine ⟨b, o, rfl, ?_⟩
    rw [h1]
    have hw := hw (zs.getD i 0) (by rw [getD_at _ _ _ (by omega)]; exact List.getElem_mem _)
    have hx : 0 ≤ zs.getD i 0 ∧ zs.getD i 0 ≤ 255 := by simpa [Lit.wf, IntKind.min, IntKind.max, IntKind.signed, IntKind.bits] using hw
    have e : (rowOf zs n)[i]'(by rw [rowOf_len _ _ (by omega)]; exact hi) = UInt8.ofNat (zs.getD i 0).toNat := by
      rw [getD_at _ _ _ (show i < zs.length by omega)]; simp [rowOf]
    rw [e, UInt8.toNat_ofNat_of_lt' (by simp only [UInt8.size]; omega)]
    congr 2; omega
section
variable {H : Type} {enc : TypeId × Value → H} {P : Program} {W : World} {base : Nat} {v : Value} {d : DataW H} {p : List MemPlace} {t e q : TypeId}
theorem open_rows (ht : P.underlying t = some (.slice e)) (he : P.underlying e = some (.slice q)) (hq : P.underlying q = some (.int .u8)) (ce : P.cellsOf e = 1) (cq : P.cellsOf q = 1)
    (hok : Value.okWide P W .any base t v) (h : DataW.Trod enc P W 0 (fun _ => true) true t v d p) :
    ∃ (A : Option Addr) (m : List (List UInt8)) (cap : Nat), v = .slice A m.length cap ∧ m.length ≤ cap ∧ cap ≤ maxLen ∧ RowsAt W A m := by
  obtain ⟨a, len, cap, rfl⟩ := okWide_slice ht hok
  obtain ⟨fuel, hf⟩ := h
  rcases Go.Deep.open_int_rows ht he hq ce cq hf with ⟨hcs, _⟩ | ⟨x, l, c, A, L, C, Z, hcs, _, hl, hm, _, hrow⟩
  · simp [Value.cells] at hcs
    obtain ⟨rfl, rfl, rfl⟩ := hcs
    exact ⟨none, [], 0, rfl, by simp, by simp, RowsAt.nil _ _⟩
  · simp [Value.cells] at hcs
    obtain ⟨rfl, rfl, rfl⟩ := hcs
    refine ⟨some x, (List.range len).map fun r => rowOf (Z r) (L r), cap, by simp, by simp; exact hl, hm, fun i hi => ?_⟩
    have hi' : i < len := by simpa using hi
    obtain ⟨h1, r1, r2, r3, r4, r5, r6⟩ := hrow i (by omega)
    have hspot : x.spot = none := by
      obtain ⟨h0, _⟩ := hrow 0 (by omega)
      have := World.cell?_spot h0
      simpa [Addr.add] using this
    obtain ⟨b, o, s⟩ := x
    obtain rfl : s = none := hspot
    have hadd : (⟨b, o, none⟩ : Addr).add i = ⟨b, o + i, none⟩ := by unfold Addr.add; split <;> simp_all
    rw [hadd] at h1
    have hlen : (rowOf (Z i) (L i)).length = L i := rowOf_len _ _ (by omega)
    refine ⟨b, o, _, rfl, h1, ?_⟩
    simp only [List.getElem_map, List.getElem_range]
    refine ⟨A i, C i, by rw [hlen], by rw [hlen]; exact r1, r2, rowOf_at r1 r3 r4 (fun a' e => (r6 a' e).2) r5⟩
end
end Go.Proofs.Ytjoocjkakgjgmaa

/- arguments opened: slices of structs, field by field -/
set_option maxRecDepth 100000
namespace Go.Proofs.Ytjoocjkakgjgmaa
open Go.ChangeShapes Go.WideShapes Go.ChangeAt Go.RowKit Go.Deep

section
variable {H : Type} {enc : TypeId × Value → H} {P : Program} {W : World} {base : Nat} {v : Value} {d : DataW H} {p : List MemPlace} {t e q : TypeId} {held : Bool}
/-- one field of what a struct's cells read as -/
theorem trod_field {fs : Array Field} {n : Nat} {cs : List Value} {x : DataW H × List MemPlace} (ht : P.underlying e = some (.struct fs)) (hone : oneCellFields P fs = true) (hC : P.cellsOf e = fs.size)
    (h : DataW.trod enc P W base (fun _ => true) held n e cs = some x) {j : Nat} {f : Field} (hj : fs[j]? = some f) :
    ∃ (u : Value) (m : Nat) (y : DataW H × List MemPlace), cs[j]? = some u ∧ DataW.trod enc P W base (fun _ => true) held m f.type [u] = some y := by
  obtain ⟨xs, m, _, _, hcl, hxl, hf⟩ := DataW.trod_struct ht h
  obtain ⟨ho, hc1⟩ := hone_of hone j f hj
  have hjs : j < fs.size := by
    rcases Nat.lt_or_ge j fs.size with hlt | hge
    · exact hlt
    · rw [Array.getElem?_eq_none hge] at hj; cases hj
  have hjc : j < cs.length := by rw [hcl, hC]; exact hjs
  have hg := hf j f hj
  rw [ho, hc1, List.drop_eq_getElem_cons hjc, List.take_succ_cons, List.take_zero, List.getElem?_eq_getElem (by omega)] at hg
  exact ⟨cs[j], m, _, List.getElem?_eq_getElem hjc, hg⟩
theorem trod_num {k : IntKind} {n : Nat} {u : Value} {y : DataW H × List MemPlace} (ht : P.underlying t = some (.int k)) (h : DataW.trod enc P W base (fun _ => true) held n t [u] = some y) :
    ∃ z : Int, u = .int k z ∧ k.min ≤ z ∧ z ≤ k.max := by
  obtain ⟨z, hz, _, hw⟩ := DataW.trod_int ht h
  exact ⟨z, by simpa using hz, by simpa [Lit.wf] using hw⟩
theorem trod_flag {n : Nat} {u : Value} {y : DataW H × List MemPlace} (ht : P.underlying t = some .bool) (h : DataW.trod enc P W base (fun _ => true) held n t [u] = some y) :
    ∃ z : Bool, u = .bool z := by
  obtain ⟨z, hz, _⟩ := DataW.trod_bool ht h
  exact ⟨z, by simpa using hz⟩
theorem trod_bytes {n : Nat} {u : Value} {y : DataW H × List MemPlace} (ht : P.underlying t = some (.slice e)) (he : P.underlying e = some (.int .u8)) (hc : P.cellsOf e = 1)
    (h : DataW.trod enc P W base (fun _ => true) held n t [u] = some y) : ∃ l, SliceIs W u l := by
  rcases open_ints ht he hc h with ⟨hcs, _⟩ | ⟨x, l, c, zs, hcs, _, hl, hm, hz, _, hcell, hwz⟩
  · simp at hcs
    exact ⟨[], none, 0, by simpa using hcs, Nat.le_refl _, Nat.zero_le _, BytesAt.nil _ _⟩
  · have hu : u = .slice (some x) l c := by simpa using hcs
    have hz : zs.length = c := by simpa using hz
    have hlen := rowOf_len zs l (by omega)
    exact ⟨rowOf zs l, some x, c, by rw [hlen]; exact hu, by rw [hlen]; exact hl, hm, rowOf_at hl hz hwz (fun a' e i hi => by injection e with e; subst e; exact hcell i (by omega)) (fun h => by cases h)⟩
/-- a slice whose elements have any number of cells: element by element what its cells read as -/
theorem open_elems (ht : P.underlying t = some (.slice e)) (hC : 0 < P.cellsOf e) (hok : Value.okWide P W .any base t v) (h : DataW.Trod enc P W 0 (fun _ => true) true t v d p) :
    ∃ (A : Option Addr) (len cap : Nat), v = .slice A len cap ∧ len ≤ cap ∧ cap ≤ maxLen ∧ ∀ i, i < len → ∃ (b o : Nat) (cs : List Value) (n : Nat) (x : DataW H × List MemPlace), A = some ⟨b, o, none⟩ ∧ cs.length = P.cellsOf e ∧
      (∀ j, j < P.cellsOf e → W.cell? ⟨b, o + (i * P.cellsOf e + j), none⟩ = cs[j]?) ∧ DataW.trod enc P W 0 (fun _ => true) true n e cs = some x := by
  obtain ⟨A, len, cap, rfl⟩ := okWide_slice ht hok
  obtain ⟨fuel, hf⟩ := h
  rcases open_slice ht hf with ⟨hcs, _⟩ | ⟨a, l, c, m, n, D, Pl, hcs, _, hl, hm, hmm, _, hi⟩
  · simp [Value.cells] at hcs
    obtain ⟨rfl, rfl, rfl⟩ := hcs
    exact ⟨none, 0, 0, rfl, Nat.le_refl _, Nat.zero_le _, fun i hi => by omega⟩
  · simp [Value.cells] at hcs
    obtain ⟨rfl, rfl, rfl⟩ := hcs
    simp at hmm
    refine ⟨some a, len, cap, rfl, hl, hm, fun i hil => ?_⟩
    have hsp : a.spot = none := by
      obtain ⟨cs, hc, _⟩ := hi 0 (by omega)
      obtain ⟨_, hcl, hat⟩ := World.cells?_some hc
      have h0 := hat 0 hC
      rw [List.getElem?_eq_getElem (by omega)] at h0
      have := World.cell?_spot h0
      simpa [Addr.add] using this
    obtain ⟨cs, hc, htr⟩ := hi i (by omega)
    obtain ⟨_, hcl, hat⟩ := World.cells?_some hc
    obtain ⟨b, o, s⟩ := a
    obtain rfl : s = none := hsp
    refine ⟨b, o, cs, n, _, rfl, hcl, fun j hj => ?_, htr⟩
    have hadd : ∀ k, (⟨b, o, none⟩ : Addr).add k = ⟨b, o + k, none⟩ := fun k => by unfold Addr.add; split <;> simp_all
    rw [← hadd, ← Go.Deep.add_add]; exact hat j hj
end
end Go.Proofs.Ytjoocjkakgjgmaa

/- arguments opened: plans, lists of bools, lists of numbers -/
set_option maxRecDepth 100000
namespace Go.Proofs.Ytjoocjkakgjgmaa
open Go.ChangeShapes Go.WideShapes Go.ChangeAt Go.RowKit Go.Deep

section
variable {H : Type} {enc : TypeId × Value → H} {P : Program} {W : World} {base : Nat} {v : Value} {d : DataW H} {p : List MemPlace} {t e : TypeId}
theorem i64_in64 {z : Int} (h : IntKind.min .i64 ≤ z ∧ z ≤ IntKind.max .i64) : PlanM.In64 z := by
  unfold PlanM.In64; simpa [IntKind.min, IntKind.max, IntKind.signed, IntKind.bits] using h
/-- a struct whose fields are all of one cell: its cells -/
theorem open_struct {fs : Array Field} (ht : P.underlying t = some (.struct fs)) (hone : oneCellFields P fs = true) (hC : P.cellsOf t = fs.size)
    (hok : Value.okWide P W .any base t v) (h : DataW.Trod enc P W 0 (fun _ => true) true t v d p) :
    ∃ cs : Array Value, v = .agg cs ∧ cs.size = fs.size ∧ ∀ (j : Nat) (f : Field), fs[j]? = some f → ∃ (u : Value) (m : Nat) (y : DataW H × List MemPlace), cs[j]? = some u ∧ DataW.trod enc P W 0 (fun _ => true) true m f.type [u] = some y := by
  obtain ⟨cs, rfl, hs⟩ := okWide_struct ht hok
  obtain ⟨fuel, hf⟩ := h
  refine ⟨cs, rfl, by rw [hs, hC], fun j f hj => ?_⟩
  obtain ⟨u, m, y, h1, h2⟩ := trod_field ht hone hC hf hj
  exact ⟨u, m, y, by simpa [Value.cells] using h1, h2⟩
theorem open_plan {fs : Array Field} {q : TypeId} (ht : P.underlying t = some (.struct fs)) (hone : oneCellFields P fs = true) (hC : P.cellsOf t = fs.size) (h6 : fs.size = 6)
    (hi : fs.toList.all (fun f => f.type == q) = true) (hq : P.underlying q = some (.int .i64))
    (hok : Value.okWide P W .any base t v) (h : DataW.Trod enc P W 0 (fun _ => true) true t v d p) : ∃ x : PlanM.P, v = x.val ∧ x.In := by
  obtain ⟨cs, rfl, hs, hf⟩ := open_struct ht hone hC hok h
  have each : ∀ j, j < 6 → ∃ z : Int, cs[j]? = some (.int .i64 z) ∧ PlanM.In64 z := by
    intro j hj
    have hjs : j < fs.size := by omega
    obtain ⟨u, m, y, h1, h2⟩ := hf j fs[j] (Array.getElem?_eq_getElem hjs)
    have ht2 : fs[j].type = q := by
      have := List.all_eq_true.mp hi fs[j] (by simp)
      simpa using this
    rw [ht2] at h2
    obtain ⟨z, rfl, hz⟩ := trod_num hq h2
    exact ⟨z, h1, i64_in64 hz⟩
  obtain ⟨a0, e0, i0⟩ := each 0 (by omega)
  obtain ⟨a1, e1, i1⟩ := each 1 (by omega)
  obtain ⟨a2, e2, i2⟩ := each 2 (by omega)
  obtain ⟨a3, e3, i3⟩ := each 3 (by omega)
  obtain ⟨a4, e4, i4⟩ := each 4 (by omega)
  obtain ⟨a5, e5, i5⟩ := each 5 (by omega)
  refine ⟨⟨a0, a1, a2, a3, a4, a5⟩, ?_, ⟨i0, i1, i2, i3, i4, i5⟩⟩
  unfold PlanM.P.val
  congr 1
  rw [h6] at hs
  refine Array.ext_getElem? fun i => ?_
  match i with
  | 0 => rw [e0]; rfl
  | 1 => rw [e1]; rfl
  | 2 => rw [e2]; rfl
  | 3 => rw [e3]; rfl
  | 4 => rw [e4]; rfl
  | 5 => rw [e5]; rfl
  | i + 6 => rw [Array.getElem?_eq_none (by omega), Array.getElem?_eq_none (by simp)]
theorem open_bools (ht : P.underlying t = some (.slice e)) (he : P.underlying e = some .bool) (hC : P.cellsOf e = 1) (hok : Value.okWide P W .any base t v) (h : DataW.Trod enc P W 0 (fun _ => true) true t v d p) :
    ∃ (A : Option Addr) (l : List Bool) (cap : Nat), v = .slice A l.length cap ∧ l.length ≤ cap ∧ cap ≤ maxLen ∧ CellsAt W A (l.map Value.bool) := by
  obtain ⟨A, len, cap, rfl, h1, h2, hel⟩ := open_elems ht (by rw [hC]; omega) hok h
  have each : ∀ i, i < len → ∃ s : Bool, ∃ b o, A = some ⟨b, o, none⟩ ∧ W.cell? ⟨b, o + i, none⟩ = some (.bool s) := by
    intro i hi
    obtain ⟨b, o, cs, n, x, hA, hcl, hat, htr⟩ := hel i hi
    rw [hC, Nat.mul_one] at hat
    obtain ⟨s, hs, _⟩ := DataW.trod_bool he htr
    have c0 := hat 0 (by omega)
    rw [hs] at c0
    exact ⟨s, b, o, hA, c0⟩
  obtain ⟨f, hf⟩ : ∃ f : Nat → Bool, ∀ i, i < len → ∃ b o, A = some ⟨b, o, none⟩ ∧ W.cell? ⟨b, o + i, none⟩ = some (.bool (f i)) := by
    refine ⟨fun i => if hi : i < len then Classical.choose (each i hi) else false, fun i hi => ?_⟩
    simp only [hi, dif_pos]
    exact Classical.choose_spec (each i hi)
  refine ⟨A, (List.range len).map f, cap, by simp, by simpa using h1, h2, fun i hi => ?_⟩
  have hi' : i < len := by simpa using hi
  obtain ⟨b, o, hA, hc⟩ := hf i hi'
  exact ⟨b, o, hA, by rw [hc]; simp⟩
theorem open_nums (ht : P.underlying t = some (.slice e)) (he : P.underlying e = some (.int .i64)) (hC : P.cellsOf e = 1) (hok : Value.okWide P W .any base t v) (h : DataW.Trod enc P W 0 (fun _ => true) true t v d p) :
    ∃ (A : Option Addr) (l : List Int) (cap : Nat), v = .slice A l.length cap ∧ l.length ≤ cap ∧ cap ≤ maxLen ∧ IntsAt W A l ∧ ∀ x ∈ l, PlanM.In64 x := by
  obtain ⟨A, len, cap, rfl, h1, h2, hel⟩ := open_elems ht (by rw [hC]; omega) hok h
  have each : ∀ i, i < len → ∃ s : Int, (∃ b o, A = some ⟨b, o, none⟩ ∧ W.cell? ⟨b, o + i, none⟩ = some (.int .i64 s)) ∧ PlanM.In64 s := by
    intro i hi
    obtain ⟨b, o, cs, n, x, hA, hcl, hat, htr⟩ := hel i hi
    rw [hC, Nat.mul_one] at hat
    obtain ⟨s, hs, _, hw⟩ := DataW.trod_int he htr
    have c0 := hat 0 (by omega)
    rw [hs] at c0
    exact ⟨s, ⟨b, o, hA, c0⟩, i64_in64 (by simpa [Lit.wf] using hw)⟩
  obtain ⟨f, hf⟩ : ∃ f : Nat → Int, ∀ i, i < len → (∃ b o, A = some ⟨b, o, none⟩ ∧ W.cell? ⟨b, o + i, none⟩ = some (.int .i64 (f i))) ∧ PlanM.In64 (f i) := by
    refine ⟨fun i => if hi : i < len then Classical.choose (each i hi) else 0, fun i hi => ?_⟩
    simp only [hi, dif_pos]
    exact Classical.choose_spec (each i hi)
  refine ⟨A, (List.range len).map f, cap, by simp, by simpa using h1, h2, fun i hi => ?_, fun x hx => ?_⟩
  · have hi' : i < len := by rw [intV_len] at hi; simpa using hi
    obtain ⟨b, o, hA, hc⟩ := (hf i hi').1
    exact ⟨b, o, hA, by rw [hc, intV_get]; simp⟩
  · simp only [List.mem_map, List.mem_range] at hx
    obtain ⟨i, hi, rfl⟩ := hx
    exact (hf i hi).2
end
end Go.Proofs.Ytjoocjkakgjgmaa

/- arguments opened: arrays of byte slices -/
set_option maxRecDepth 100000
namespace Go.Proofs.Ytjoocjkakgjgmaa
open Go.ChangeShapes Go.WideShapes Go.ChangeAt Go.RowKit Go.Deep

section
variable {H : Type} {enc : TypeId × Value → H} {P : Program} {W : World} {base : Nat} {v : Value} {d : DataW H} {p : List MemPlace} {t e q : TypeId} {n : Nat}
theorem okWide_array (ht : P.underlying t = some (.array n e)) (h : Value.okWide P W .any base t v) : ∃ cs, v = .agg cs ∧ cs.size = P.cellsOf t := by
  simp only [Value.okWide, ht] at h
  obtain ⟨cs, h1, h2, _⟩ := h
  exact ⟨cs, h1, h2⟩
/-- an array whose elements are of one cell -/
theorem open_array (ht : P.underlying t = some (.array n e)) (ce : P.cellsOf e = 1) (hC : P.cellsOf t = n) (hok : Value.okWide P W .any base t v) (h : DataW.Trod enc P W 0 (fun _ => true) true t v d p) :
    ∃ cs : Array Value, v = .agg cs ∧ cs.size = n ∧ ∀ i, i < n → ∃ (u : Value) (m : Nat) (y : DataW H × List MemPlace), cs[i]? = some u ∧ DataW.trod enc P W 0 (fun _ => true) true m e [u] = some y := by
  obtain ⟨cs, rfl, hs⟩ := okWide_array ht hok
  obtain ⟨fuel, hf⟩ := h
  obtain ⟨xs, m, _, _, hl, hx, hel⟩ := DataW.trod_array ht hf
  refine ⟨cs, rfl, by rw [hs, hC], fun i hi => ?_⟩
  have h1 := hel i hi
  rw [ce, Nat.mul_one] at h1
  have hcl : cs.toList.length = n := by simp; rw [hs, hC]
  have hi' : i < cs.toList.length := by omega
  have e1 : ((Value.agg cs).cells.toList.drop i).take 1 = [cs.toList[i]] := by
    show (cs.toList.drop i).take 1 = _
    rw [List.drop_eq_getElem_cons hi']; rfl
  have e2 : xs[i]? = some xs[i] := List.getElem?_eq_getElem (by omega)
  rw [e2] at h1
  refine ⟨cs.toList[i], m, xs[i], by simp [show i < cs.size by simpa using hi'], ?_⟩
  rw [← h1]
  congr 1
  exact e1.symm
theorem open_bytes2 (ht : P.underlying t = some (.array 2 e)) (he : P.underlying e = some (.slice q)) (hq : P.underlying q = some (.int .u8)) (ce : P.cellsOf e = 1) (cq : P.cellsOf q = 1) (hC : P.cellsOf t = 2) (hok : Value.okWide P W .any base t v) (h : DataW.Trod enc P W 0 (fun _ => true) true t v d p) :
    ∃ (A1 : Option Addr) (l1 : List UInt8) (c1 : Nat) (A2 : Option Addr) (l2 : List UInt8) (c2 : Nat), v = .agg #[.slice A1 l1.length c1, .slice A2 l2.length c2] ∧ (l1.length ≤ c1 ∧ c1 ≤ maxLen ∧ BytesAt W A1 l1) ∧ (l2.length ≤ c2 ∧ c2 ≤ maxLen ∧ BytesAt W A2 l2) := by
  obtain ⟨cs, rfl, hs, hel⟩ := open_array ht ce hC hok h
  obtain ⟨u0, m0, y0, g0, r0⟩ := hel 0 (by omega)
  obtain ⟨u1, m1, y1, g1, r1⟩ := hel 1 (by omega)
  obtain ⟨l0, B0, c0, rfl, k0⟩ := trod_bytes he hq cq r0
  obtain ⟨l1, B1, c1, rfl, k1⟩ := trod_bytes he hq cq r1
  refine ⟨B0, l0, c0, B1, l1, c1, ?_, k0, k1⟩
  congr 1
  refine Array.ext_getElem? fun i => ?_
  match i with
  | 0 => rw [g0]; rfl
  | 1 => rw [g1]; rfl
  | i + 2 => rw [Array.getElem?_eq_none (by omega), Array.getElem?_eq_none (by simp)]
theorem open_bytes3 (ht : P.underlying t = some (.array 3 e)) (he : P.underlying e = some (.slice q)) (hq : P.underlying q = some (.int .u8)) (ce : P.cellsOf e = 1) (cq : P.cellsOf q = 1) (hC : P.cellsOf t = 3) (hok : Value.okWide P W .any base t v) (h : DataW.Trod enc P W 0 (fun _ => true) true t v d p) :
    ∃ (A1 : Option Addr) (l1 : List UInt8) (c1 : Nat) (A2 : Option Addr) (l2 : List UInt8) (c2 : Nat) (A3 : Option Addr) (l3 : List UInt8) (c3 : Nat), v = .agg #[.slice A1 l1.length c1, .slice A2 l2.length c2, .slice A3 l3.length c3] ∧ (l1.length ≤ c1 ∧ c1 ≤ maxLen ∧ BytesAt W A1 l1) ∧ (l2.length ≤ c2 ∧ c2 ≤ maxLen ∧ BytesAt W A2 l2) ∧ (l3.length ≤ c3 ∧ c3 ≤ maxLen ∧ BytesAt W A3 l3) := by
  obtain ⟨cs, rfl, hs, hel⟩ := open_array ht ce hC hok h
  obtain ⟨u0, m0, y0, g0, r0⟩ := hel 0 (by omega)
  obtain ⟨u1, m1, y1, g1, r1⟩ := hel 1 (by omega)
  obtain ⟨u2, m2, y2, g2, r2⟩ := hel 2 (by omega)
  obtain ⟨l0, B0, c0, rfl, k0⟩ := trod_bytes he hq cq r0
  obtain ⟨l1, B1, c1, rfl, k1⟩ := trod_bytes he hq cq r1
  obtain ⟨l2, B2, c2, rfl, k2⟩ := trod_bytes he hq cq r2
  refine ⟨B0, l0, c0, B1, l1, c1, B2, l2, c2, ?_, k0, k1, k2⟩
  congr 1
  refine Array.ext_getElem? fun i => ?_
  match i with
  | 0 => rw [g0]; rfl
  | 1 => rw [g1]; rfl
  | 2 => rw [g2]; rfl
  | i + 3 => rw [Array.getElem?_eq_none (by omega), Array.getElem?_eq_none (by simp)]
/-- an array of numbers of one kind -/
theorem open_ints {k : IntKind} (ht : P.underlying t = some (.array n e)) (he : P.underlying e = some (.int k)) (ce : P.cellsOf e = 1) (hC : P.cellsOf t = n) (hok : Value.okWide P W .any base t v) (h : DataW.Trod enc P W 0 (fun _ => true) true t v d p) :
    ∃ cs : Array Value, v = .agg cs ∧ cs.size = n ∧ ∀ i, i < n → ∃ z : Int, cs[i]? = some (.int k z) ∧ k.min ≤ z ∧ z ≤ k.max := by
  obtain ⟨cs, rfl, hs, hel⟩ := open_array ht ce hC hok h
  refine ⟨cs, rfl, hs, fun i hi => ?_⟩
  obtain ⟨u, m, y, g, r⟩ := hel i hi
  obtain ⟨z, rfl, hz⟩ := trod_num he r
  exact ⟨z, g, hz⟩
/-! slices that lie in a cell (a struct's field, an array's element) -/
theorem elems_c {m : Nat} {u : Value} {y : DataW H × List MemPlace} (ht : P.underlying t = some (.slice e)) (hC : 0 < P.cellsOf e) (hf : DataW.trod enc P W 0 (fun _ => true) true m t [u] = some y) :
    ∃ (A : Option Addr) (len cap : Nat), u = .slice A len cap ∧ len ≤ cap ∧ cap ≤ maxLen ∧ ∀ i, i < len → ∃ (b o : Nat) (cs : List Value) (n : Nat) (x : DataW H × List MemPlace), A = some ⟨b, o, none⟩ ∧ cs.length = P.cellsOf e ∧
      (∀ j, j < P.cellsOf e → W.cell? ⟨b, o + (i * P.cellsOf e + j), none⟩ = cs[j]?) ∧ DataW.trod enc P W 0 (fun _ => true) true n e cs = some x := by
  rcases open_slice ht hf with ⟨hcs, _⟩ | ⟨a, l, c, m, n, D, Pl, hcs, _, hl, hm, hmm, _, hi⟩
  · simp at hcs
    subst hcs
    exact ⟨none, 0, 0, rfl, Nat.le_refl _, Nat.zero_le _, fun i hi => by omega⟩
  · simp at hcs
    subst hcs
    simp at hmm
    refine ⟨some a, l, c, rfl, hl, hm, fun i hil => ?_⟩
    have hsp : a.spot = none := by
      obtain ⟨cs, hc, _⟩ := hi 0 (by omega)
      obtain ⟨_, hcl, hat⟩ := World.cells?_some hc
      have h0 := hat 0 hC
      rw [List.getElem?_eq_getElem (by omega)] at h0
      have := World.cell?_spot h0
      simpa [Addr.add] using this
    obtain ⟨cs, hc, htr⟩ := hi i (by omega)
    obtain ⟨_, hcl, hat⟩ := World.cells?_some hc
    obtain ⟨b, o, s⟩ := a
    obtain rfl : s = none := hsp
    refine ⟨b, o, cs, n, _, rfl, hcl, fun j hj => ?_, htr⟩
    have hadd : ∀ k, (⟨b, o, none⟩ : Addr).add k = ⟨b, o + k, none⟩ := fun k => by unfold Addr.add; split <;> simp_all
    rw [← hadd, ← Go.Deep.add_add]; exact hat j hj
theorem nums_c {m : Nat} {u : Value} {y : DataW H × List MemPlace} (ht : P.underlying t = some (.slice e)) (he : P.underlying e = some (.int .i64)) (hC : P.cellsOf e = 1) (hf : DataW.trod enc P W 0 (fun _ => true) true m t [u] = some y) :
    ∃ (A : Option Addr) (l : List Int) (cap : Nat), u = .slice A l.length cap ∧ l.length ≤ cap ∧ cap ≤ maxLen ∧ IntsAt W A l ∧ ∀ x ∈ l, PlanM.In64 x := by
  obtain ⟨A, len, cap, rfl, h1, h2, hel⟩ := elems_c ht (by rw [hC]; omega) hf
  have each : ∀ i, i < len → ∃ s : Int, (∃ b o, A = some ⟨b, o, none⟩ ∧ W.cell? ⟨b, o + i, none⟩ = some (.int .i64 s)) ∧ PlanM.In64 s := by
    intro i hi
    obtain ⟨b, o, cs, n, x, hA, hcl, hat, htr⟩ := hel i hi
    rw [hC, Nat.mul_one] at hat
    obtain ⟨s, hs, _, hw⟩ := DataW.trod_int he htr
    have c0 := hat 0 (by omega)
    rw [hs] at c0
    exact ⟨s, ⟨b, o, hA, c0⟩, i64_in64 (by simpa [Lit.wf] using hw)⟩
  obtain ⟨f, hf⟩ : ∃ f : Nat → Int, ∀ i, i < len → (∃ b o, A = some ⟨b, o, none⟩ ∧ W.cell? ⟨b, o + i, none⟩ = some (.int .i64 (f i))) ∧ PlanM.In64 (f i) := by
    refine ⟨fun i => if hi : i < len then Classical.choose (each i hi) else 0, fun i hi => ?_⟩
    simp only [hi, dif_pos]
    exact Classical.choose_spec (each i hi)
  refine ⟨A, (List.range len).map f, cap, by simp, by simpa using h1, h2, fun i hi => ?_, fun x hx => ?_⟩
  · have hi' : i < len := by rw [intV_len] at hi; simpa using hi
    obtain ⟨b, o, hA, hc⟩ := (hf i hi').1
    exact ⟨b, o, hA, by rw [hc, intV_get]; simp⟩
  · simp only [List.mem_map, List.mem_range] at hx
    obtain ⟨i, hi, rfl⟩ := hx
    exact (hf i hi).2
theorem rows_c {m : Nat} {u : Value} {y : DataW H × List MemPlace} (ht : P.underlying t = some (.slice e)) (he : P.underlying e = some (.slice q)) (hq : P.underlying q = some (.int .u8)) (ce : P.cellsOf e = 1) (cq : P.cellsOf q = 1) (hf : DataW.trod enc P W 0 (fun _ => true) true m t [u] = some y) :
    ∃ (A : Option Addr) (m : List (List UInt8)) (cap : Nat), u = .slice A m.length cap ∧ m.length ≤ cap ∧ cap ≤ maxLen ∧ RowsAt W A m := by
  obtain ⟨A, len, cap, rfl, h1, h2, hel⟩ := elems_c ht (by rw [ce]; omega) hf
  have each : ∀ i, i < len → ∃ s : List UInt8, ∃ b o v, A = some ⟨b, o, none⟩ ∧ W.cell? ⟨b, o + i, none⟩ = some v ∧ SliceIs W v s := by
    intro i hi
    obtain ⟨b, o, cs, n, x, hA, hcl, hat, htr⟩ := hel i hi
    rw [ce] at hcl
    obtain ⟨v, rfl⟩ : ∃ v, cs = [v] := by
      rcases cs with _ | ⟨v, _ | ⟨_, _⟩⟩
      · simp at hcl
      · exact ⟨v, rfl⟩
      · simp at hcl
    rw [ce, Nat.mul_one] at hat
    obtain ⟨s, hs⟩ := trod_bytes he hq cq htr
    have c0 := hat 0 (by omega)
    exact ⟨s, b, o, v, hA, c0, hs⟩
  obtain ⟨f, hf⟩ : ∃ f : Nat → List UInt8, ∀ i, i < len → ∃ b o v, A = some ⟨b, o, none⟩ ∧ W.cell? ⟨b, o + i, none⟩ = some v ∧ SliceIs W v (f i) := by
    refine ⟨fun i => if hi : i < len then Classical.choose (each i hi) else [], fun i hi => ?_⟩
    simp only [hi, dif_pos]
    exact Classical.choose_spec (each i hi)
  refine ⟨A, (List.range len).map f, cap, by simp, by simpa using h1, h2, fun i hi => ?_⟩
  have hi' : i < len := by simpa using hi
  obtain ⟨b, o, v, hA, hc, hs⟩ := hf i hi'
  exact ⟨b, o, v, hA, hc, by simpa using hs⟩
/-- a struct of a number, a list of numbers, and a list of lists -/
theorem open_num_nums_rows {fs : Array Field} {f0 f1 f2 : Field} {te r r1 : TypeId} (ht : P.underlying t = some (.struct fs)) (hone : oneCellFields P fs = true) (hC : P.cellsOf t = fs.size) (hfs : fs = #[f0, f1, f2])
    (t0 : P.underlying f0.type = some (.int .i64)) (t1 : P.underlying f1.type = some (.slice te)) (t1e : P.underlying te = some (.int .i64)) (c1 : P.cellsOf te = 1) (t2 : P.underlying f2.type = some (.slice r)) (t2e : P.underlying r = some (.slice r1)) (t2q : P.underlying r1 = some (.int .u8)) (c2 : P.cellsOf r = 1) (c3 : P.cellsOf r1 = 1)
    (hok : Value.okWide P W .any base t v) (h : DataW.Trod enc P W 0 (fun _ => true) true t v d p) :
    ∃ (z : Int) (A1 : Option Addr) (l : List Int) (u1 : Nat) (A2 : Option Addr) (m : List (List UInt8)) (u2 : Nat), v = .agg #[.int .i64 z, .slice A1 l.length u1, .slice A2 m.length u2] ∧ PlanM.In64 z ∧ (l.length ≤ u1 ∧ u1 ≤ maxLen ∧ IntsAt W A1 l ∧ ∀ x ∈ l, PlanM.In64 x) ∧ (m.length ≤ u2 ∧ u2 ≤ maxLen ∧ RowsAt W A2 m) := by
  subst hfs
  obtain ⟨cs, rfl, hs, hf⟩ := open_struct ht hone hC hok h
  obtain ⟨a0, n0, y0, g0, r0⟩ := hf 0 f0 rfl
  obtain ⟨a1, n1, y1, g1, r1⟩ := hf 1 f1 rfl
  obtain ⟨a2, n2, y2, g2, r2⟩ := hf 2 f2 rfl
  obtain ⟨z, rfl, hz⟩ := trod_num t0 r0
  obtain ⟨A1, l, u1, rfl, k1⟩ := nums_c t1 t1e c1 r1
  obtain ⟨A2, m, u2, rfl, k2⟩ := rows_c t2 t2e t2q c2 c3 r2
  refine ⟨z, A1, l, u1, A2, m, u2, ?_, i64_in64 hz, k1, k2⟩
  congr 1
  refine Array.ext_getElem? fun i => ?_
  match i with
  | 0 => rw [g0]; rfl
  | 1 => rw [g1]; rfl
  | 2 => rw [g2]; rfl
  | i + 3 => rw [Array.getElem?_eq_none (by simp at hs; omega), Array.getElem?_eq_none (by simp)]
/-- two numbers, numbers, rows -/
theorem open_two_nums_rows {fs : Array Field} {f0 f1 f2 f3 : Field} {te r r1 : TypeId} (ht : P.underlying t = some (.struct fs)) (hone : oneCellFields P fs = true) (hC : P.cellsOf t = fs.size) (hfs : fs = #[f0, f1, f2, f3])
    (t0 : P.underlying f0.type = some (.int .i64)) (t0' : P.underlying f1.type = some (.int .i64)) (t1 : P.underlying f2.type = some (.slice te)) (t1e : P.underlying te = some (.int .i64)) (c1 : P.cellsOf te = 1) (t2 : P.underlying f3.type = some (.slice r)) (t2e : P.underlying r = some (.slice r1)) (t2q : P.underlying r1 = some (.int .u8)) (c2 : P.cellsOf r = 1) (c3 : P.cellsOf r1 = 1)
    (hok : Value.okWide P W .any base t v) (h : DataW.Trod enc P W 0 (fun _ => true) true t v d p) :
    ∃ (z y : Int) (A1 : Option Addr) (l : List Int) (u1 : Nat) (A2 : Option Addr) (m : List (List UInt8)) (u2 : Nat), v = .agg #[.int .i64 z, .int .i64 y, .slice A1 l.length u1, .slice A2 m.length u2] ∧ PlanM.In64 z ∧ PlanM.In64 y ∧ (l.length ≤ u1 ∧ u1 ≤ maxLen ∧ IntsAt W A1 l ∧ ∀ x ∈ l, PlanM.In64 x) ∧ (m.length ≤ u2 ∧ u2 ≤ maxLen ∧ RowsAt W A2 m) := by
  subst hfs
  obtain ⟨cs, rfl, hs, hf⟩ := open_struct ht hone hC hok h
  obtain ⟨a0, n0, y0, g0, r0⟩ := hf 0 f0 rfl
  obtain ⟨a1, n1, y1, g1, r1⟩ := hf 1 f1 rfl
  obtain ⟨a2, n2, y2, g2, r2⟩ := hf 2 f2 rfl
  obtain ⟨a3, n3, y3, g3, r3⟩ := hf 3 f3 rfl
  obtain ⟨z, rfl, hz⟩ := trod_num t0 r0
  obtain ⟨y, rfl, hy⟩ := trod_num t0' r1
  obtain ⟨A1, l, u1, rfl, k1⟩ := nums_c t1 t1e c1 r2
  obtain ⟨A2, m, u2, rfl, k2⟩ := rows_c t2 t2e t2q c2 c3 r3
  refine ⟨z, y, A1, l, u1, A2, m, u2, ?_, i64_in64 hz, i64_in64 hy, k1, k2⟩
  congr 1
  refine Array.ext_getElem? fun i => ?_
  match i with
  | 0 => rw [g0]; rfl
  | 1 => rw [g1]; rfl
  | 2 => rw [g2]; rfl
  | 3 => rw [g3]; rfl
  | i + 4 => rw [Array.getElem?_eq_none (by simp at hs; omega), Array.getElem?_eq_none (by simp)]
/-- an array of two numbers -/
theorem open_i64s2 (ht : P.underlying t = some (.array 2 e)) (he : P.underlying e = some (.int .i64)) (ce : P.cellsOf e = 1) (hC : P.cellsOf t = 2) (hok : Value.okWide P W .any base t v) (h : DataW.Trod enc P W 0 (fun _ => true) true t v d p) :
    ∃ x0 x1 : Int, v = .agg #[.int .i64 x0, .int .i64 x1] ∧ PlanM.In64 x0 ∧ PlanM.In64 x1 := by
  obtain ⟨cs, rfl, hs, hel⟩ := open_array ht ce hC hok h
  obtain ⟨u0, m0, y0, g0, r0⟩ := hel 0 (by omega)
  obtain ⟨u1, m1, y1, g1, r1⟩ := hel 1 (by omega)
  obtain ⟨z0, rfl, h0⟩ := trod_num he r0
  obtain ⟨z1, rfl, h1⟩ := trod_num he r1
  refine ⟨z0, z1, ?_, i64_in64 h0, i64_in64 h1⟩
  congr 1
  refine Array.ext_getElem? fun i => ?_
  match i with
  | 0 => rw [g0]; rfl
  | 1 => rw [g1]; rfl
  | i + 2 => rw [Array.getElem?_eq_none (by omega), Array.getElem?_eq_none (by simp)]
end
end Go.Proofs.Ytjoocjkakgjgmaa
