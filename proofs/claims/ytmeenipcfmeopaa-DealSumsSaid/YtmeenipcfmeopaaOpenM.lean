/- arguments opened: lists of lists of bytes -/
import Derived.Test.YtmeenipcfmeopaaOpen
import Derived.Test.YtmeenipcfmeopaaMats
import Derived.Deep.Matrix
set_option maxRecDepth 100000
namespace Go.Proofs.Ytmeenipcfmeopaa
open Go.ChangeShapes Go.WideShapes Go.ChangeAt Go.RowKit

def rowOf (zs : List Int) (n : Nat) : List UInt8 := (zs.take n).map fun z => UInt8.ofNat z.toNat
theorem rowOf_len (zs : List Int) (n : Nat) (h : n ≤ zs.length) : (rowOf zs n).length = n := by simp [rowOf]; omega
theorem rowOf_at {W : World} {A : Option Addr} {zs : List Int} {n c : Nat} (hn : n ≤ c) (hz : zs.length = c) (hw : ∀ z ∈ zs, (Lit.int .u8 z).wf = true)
    (hc : ∀ a', A = some a' → ∀ i, i < c → W.cell? (a'.add i) = some (.int .u8 (zs.getD i 0))) (hnone : A = none → c = 0) : BytesAt W A (rowOf zs n) := by
  intro i hi
  rw [rowOf_len _ _ (by omega)] at hi
  rcases A with _ | x
  · have := hnone rfl; omega
  · have h1 := hc x rfl i (by omega)
    have hspot : x.spot = none := by
      have h0 := hc x rfl 0 (by omega)
      have := World.cell?_spot h0
      simpa [Addr.add] using this
    obtain ⟨b, o, s⟩ := x
    obtain rfl : s = none := hspot
    have hadd : (⟨b, o, none⟩ : Addr).add i = ⟨b, o + i, none⟩ := by unfold Addr.add; split <;> simp_all
    rw [hadd] at h1
    refine ⟨b, o, rfl, ?_⟩
    rw [h1]
    have hw := hw (zs.getD i 0) (by rw [getD_at _ _ _ (by omega)]; exact List.getElem_mem _)
    have hx : 0 ≤ zs.getD i 0 ∧ zs.getD i 0 ≤ 255 := by simpa [Lit.wf, IntKind.min, IntKind.max, IntKind.signed, IntKind.bits] using hw
    have e : (rowOf zs n)[i]'(by rw [rowOf_len _ _ (by omega)]; exact hi) = UInt8.ofNat (zs.getD i 0).toNat := by
      rw [getD_at _ _ _ (show i < zs.length by omega)]; simp [rowOf]
    rw [e, UInt8.toNat_ofNat_of_lt' (by simp only [UInt8.size]; omega)]
    congr 2; omega
section
variable {H : Type} {enc : TypeId × Value → H} {P : Program} {W : World} {base : Nat} {v : Value} {d : DataW H} {p : List MemPlace} {t e q : TypeId}
theorem open_rows (ht : P.underlying t = some (.slice e)) (he : P.underlying e = some (.slice q)) (hq : P.underlying q = some (.int .u8)) (ce : P.cellsOf e = 1) (cq : P.cellsOf q = 1)
    (hok : Value.okWide P W .any base t v) (h : DataW.Trod enc P W 0 (fun _ => true) true t v d p) :
    ∃ (A : Option Addr) (m : List (List UInt8)) (cap : Nat), v = .slice A m.length cap ∧ m.length ≤ cap ∧ cap ≤ maxLen ∧ RowsAt W A m := by
  obtain ⟨a, len, cap, rfl⟩ := okWide_slice ht hok
  obtain ⟨fuel, hf⟩ := h
  rcases Go.Deep.open_int_rows ht he hq ce cq hf with ⟨hcs, _⟩ | ⟨x, l, c, A, L, C, Z, hcs, _, hl, hm, _, hrow⟩
  · simp [Value.cells] at hcs
    obtain ⟨rfl, rfl, rfl⟩ := hcs
    exact ⟨none, [], 0, rfl, by simp, by simp, RowsAt.nil _ _⟩
  · simp [Value.cells] at hcs
    obtain ⟨rfl, rfl, rfl⟩ := hcs
    refine ⟨some x, (List.range len).map fun r => rowOf (Z r) (L r), cap, by simp, by simp; exact hl, hm, fun i hi => ?_⟩
    have hi' : i < len := by simpa using hi
    obtain ⟨h1, r1, r2, r3, r4, r5, r6⟩ := hrow i (by omega)
    have hspot : x.spot = none := by
      obtain ⟨h0, _⟩ := hrow 0 (by omega)
      have := World.cell?_spot h0
      simpa [Addr.add] using this
    obtain ⟨b, o, s⟩ := x
    obtain rfl : s = none := hspot
    have hadd : (⟨b, o, none⟩ : Addr).add i = ⟨b, o + i, none⟩ := by unfold Addr.add; split <;> simp_all
    rw [hadd] at h1
    have hlen : (rowOf (Z i) (L i)).length = L i := rowOf_len _ _ (by omega)
    refine ⟨b, o, _, rfl, h1, ?_⟩
    simp only [List.getElem_map, List.getElem_range]
    refine ⟨A i, C i, by rw [hlen], by rw [hlen]; exact r1, r2, rowOf_at r1 r3 r4 (fun a' e => (r6 a' e).2) r5⟩
end
end Go.Proofs.Ytmeenipcfmeopaa
