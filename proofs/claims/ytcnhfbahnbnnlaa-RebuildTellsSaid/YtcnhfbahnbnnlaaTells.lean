/- words of RebuildTells: stores into what the call has gathered; an array of three bytes -/
import Derived.Test.YtcnhfbahnbnnlaaMO
import Derived.Test.YtcnhfbahnbnnlaaME
set_option maxRecDepth 100000
namespace Go.Proofs.Ytcnhfbahnbnnlaa
open Go.ChangeShapes Go.WideShapes Go.ChangeAt Go.RowKit Go.Deep

section
variable {H : Type} {enc : TypeId × Value → H} {P : Program} {W : World} {base : Nat} {v : Value} {d : DataW H} {p : List MemPlace} {t e q : TypeId} {n : Nat}
theorem u8_of {z : Int} (h : IntKind.u8.min ≤ z ∧ z ≤ IntKind.u8.max) : ∃ b : UInt8, z = (b.toNat : Nat) := by
  have hx : 0 ≤ z ∧ z ≤ 255 := by simpa [IntKind.min, IntKind.max, IntKind.signed, IntKind.bits] using h
  obtain ⟨m, rfl⟩ := Int.eq_ofNat_of_zero_le hx.1
  exact ⟨UInt8.ofNat m, by rw [UInt8.toNat_ofNat_of_lt' (show m < UInt8.size by simp only [UInt8.size]; omega)]⟩
theorem open_u8s3 (ht : P.underlying t = some (.array 3 e)) (he : P.underlying e = some (.int .u8)) (ce : P.cellsOf e = 1) (hC : P.cellsOf t = 3) (hok : Value.okWide P W .any base t v) (h : DataW.Trod enc P W 0 (fun _ => true) true t v d p) :
    ∃ x0 x1 x2 : UInt8, v = .agg #[.int .u8 (x0.toNat : Nat), .int .u8 (x1.toNat : Nat), .int .u8 (x2.toNat : Nat)] := by
  obtain ⟨cs, rfl, hs, hel⟩ := open_ints ht he ce hC hok h
  obtain ⟨z0, g0, r0⟩ := hel 0 (by omega)
  obtain ⟨z1, g1, r1⟩ := hel 1 (by omega)
  obtain ⟨z2, g2, r2⟩ := hel 2 (by omega)
  obtain ⟨x0, rfl⟩ := u8_of r0
  obtain ⟨x1, rfl⟩ := u8_of r1
  obtain ⟨x2, rfl⟩ := u8_of r2
  refine ⟨x0, x1, x2, ?_⟩
  congr 1
  refine Array.ext_getElem? fun i => ?_
  match i with
  | 0 => rw [g0]; rfl
  | 1 => rw [g1]; rfl
  | 2 => rw [g2]; rfl
  | i + 3 => rw [Array.getElem?_eq_none (by omega), Array.getElem?_eq_none (by simp)]
end
end Go.Proofs.Ytcnhfbahnbnnlaa
