/- arguments opened: slices of structs, field by field -/
import Derived.Test.YtmeenipcfmeopaaOpenM
import Derived.Deep.Slices
import Derived.Deep.Fields
import Derived.ChangeSame
set_option maxRecDepth 100000
namespace Go.Proofs.Ytmeenipcfmeopaa
open Go.ChangeShapes Go.WideShapes Go.ChangeAt Go.RowKit Go.Deep

section
variable {H : Type} {enc : TypeId × Value → H} {P : Program} {W : World} {base : Nat} {v : Value} {d : DataW H} {p : List MemPlace} {t e q : TypeId} {held : Bool}
/-- one field of what a struct's cells read as -/
theorem trod_field {fs : Array Field} {n : Nat} {cs : List Value} {x : DataW H × List MemPlace} (ht : P.underlying e = some (.struct fs)) (hone : oneCellFields P fs = true) (hC : P.cellsOf e = fs.size)
    (h : DataW.trod enc P W base (fun _ => true) held n e cs = some x) {j : Nat} {f : Field} (hj : fs[j]? = some f) :
    ∃ (u : Value) (m : Nat) (y : DataW H × List MemPlace), cs[j]? = some u ∧ DataW.trod enc P W base (fun _ => true) held m f.type [u] = some y := by
  obtain ⟨xs, m, _, _, hcl, hxl, hf⟩ := DataW.trod_struct ht h
  obtain ⟨ho, hc1⟩ := hone_of hone j f hj
  have hjs : j < fs.size := by
    rcases Nat.lt_or_ge j fs.size with hlt | hge
    · exact hlt
    · rw [Array.getElem?_eq_none hge] at hj; cases hj
  have hjc : j < cs.length := by rw [hcl, hC]; exact hjs
  have hg := hf j f hj
  rw [ho, hc1, List.drop_eq_getElem_cons hjc, List.take_succ_cons, List.take_zero, List.getElem?_eq_getElem (by omega)] at hg
  exact ⟨cs[j], m, _, List.getElem?_eq_getElem hjc, hg⟩
theorem trod_num {k : IntKind} {n : Nat} {u : Value} {y : DataW H × List MemPlace} (ht : P.underlying t = some (.int k)) (h : DataW.trod enc P W base (fun _ => true) held n t [u] = some y) :
    ∃ z : Int, u = .int k z ∧ k.min ≤ z ∧ z ≤ k.max := by
  obtain ⟨z, hz, _, hw⟩ := DataW.trod_int ht h
  exact ⟨z, by simpa using hz, by simpa [Lit.wf] using hw⟩
theorem trod_flag {n : Nat} {u : Value} {y : DataW H × List MemPlace} (ht : P.underlying t = some .bool) (h : DataW.trod enc P W base (fun _ => true) held n t [u] = some y) :
    ∃ z : Bool, u = .bool z := by
  obtain ⟨z, hz, _⟩ := DataW.trod_bool ht h
  exact ⟨z, by simpa using hz⟩
theorem trod_bytes {n : Nat} {u : Value} {y : DataW H × List MemPlace} (ht : P.underlying t = some (.slice e)) (he : P.underlying e = some (.int .u8)) (hc : P.cellsOf e = 1)
    (h : DataW.trod enc P W base (fun _ => true) held n t [u] = some y) : ∃ l, SliceIs W u l := by
  rcases open_ints ht he hc h with ⟨hcs, _⟩ | ⟨x, l, c, zs, hcs, _, hl, hm, hz, _, hcell, hwz⟩
  · simp at hcs
    exact ⟨[], none, 0, by simpa using hcs, Nat.le_refl _, Nat.zero_le _, BytesAt.nil _ _⟩
  · have hu : u = .slice (some x) l c := by simpa using hcs
    have hz : zs.length = c := by simpa using hz
    have hlen := rowOf_len zs l (by omega)
    exact ⟨rowOf zs l, some x, c, by rw [hlen]; exact hu, by rw [hlen]; exact hl, hm, rowOf_at hl hz hwz (fun a' e i hi => by injection e with e; subst e; exact hcell i (by omega)) (fun h => by cases h)⟩
/-- a slice whose elements have any number of cells: element by element what its cells read as -/
theorem open_elems (ht : P.underlying t = some (.slice e)) (hC : 0 < P.cellsOf e) (hok : Value.okWide P W .any base t v) (h : DataW.Trod enc P W 0 (fun _ => true) true t v d p) :
    ∃ (A : Option Addr) (len cap : Nat), v = .slice A len cap ∧ len ≤ cap ∧ cap ≤ maxLen ∧ ∀ i, i < len → ∃ (b o : Nat) (cs : List Value) (n : Nat) (x : DataW H × List MemPlace), A = some ⟨b, o, none⟩ ∧ cs.length = P.cellsOf e ∧
      (∀ j, j < P.cellsOf e → W.cell? ⟨b, o + (i * P.cellsOf e + j), none⟩ = cs[j]?) ∧ DataW.trod enc P W 0 (fun _ => true) true n e cs = some x := by
  obtain ⟨A, len, cap, rfl⟩ := okWide_slice ht hok
  obtain ⟨fuel, hf⟩ := h
  rcases open_slice ht hf with ⟨hcs, _⟩ | ⟨a, l, c, m, n, D, Pl, hcs, _, hl, hm, hmm, _, hi⟩
  · simp [Value.cells] at hcs
    obtain ⟨rfl, rfl, rfl⟩ := hcs
    exact ⟨none, 0, 0, rfl, Nat.le_refl _, Nat.zero_le _, fun i hi => by omega⟩
  · simp [Value.cells] at hcs
    obtain ⟨rfl, rfl, rfl⟩ := hcs
    simp at hmm
    refine ⟨some a, len, cap, rfl, hl, hm, fun i hil => ?_⟩
    have hsp : a.spot = none := by
      obtain ⟨cs, hc, _⟩ := hi 0 (by omega)
      obtain ⟨_, hcl, hat⟩ := World.cells?_some hc
      have h0 := hat 0 hC
      rw [List.getElem?_eq_getElem (by omega)] at h0
      have := World.cell?_spot h0
      simpa [Addr.add] using this
    obtain ⟨cs, hc, htr⟩ := hi i (by omega)
    obtain ⟨_, hcl, hat⟩ := World.cells?_some hc
    obtain ⟨b, o, s⟩ := a
    obtain rfl : s = none := hsp
    refine ⟨b, o, cs, n, _, rfl, hcl, fun j hj => ?_, htr⟩
    have hadd : ∀ k, (⟨b, o, none⟩ : Addr).add k = ⟨b, o + k, none⟩ := fun k => by unfold Addr.add; split <;> simp_all
    rw [← hadd, ← Go.Deep.add_add]; exact hat j hj
end
end Go.Proofs.Ytmeenipcfmeopaa
