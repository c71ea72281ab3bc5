/- arguments opened, each by its type -/
import Derived.Test.YtiibdebkihhikaaMem
import Derived.ShutString
import Derived.ChangeOld
set_option maxRecDepth 100000
namespace Go.Proofs.Ytiibdebkihhikaa
open Go.ChangeShapes Go.WideShapes Go.ChangeAt Go.RowKit
open Go.ChangeMaps (open_string shut_string)
theorem getD_at {α : Type} (l : List α) (d : α) (i : Nat) (h : i < l.length) : l.getD i d = l[i] := by simp [List.getD, h]
section
variable {H : Type} {enc : TypeId × Value → H} {P : Program} {W : World} {base : Nat} {v : Value} {d : DataW H} {p : List MemPlace} {t e : TypeId}

theorem open_u8 (ht : P.underlying t = some (.int .u8)) (hok : Value.okWide P W .any base t v) (h : DataW.Trod enc P W 0 (fun _ => true) true t v d p) :
    ∃ b : UInt8, v = .int .u8 (b.toNat : Nat) := by
  obtain ⟨n, rfl, _, _, hw⟩ := open_int ht hok h
  have hx : 0 ≤ n ∧ n ≤ 255 := by simpa [Lit.wf, IntKind.min, IntKind.max, IntKind.signed, IntKind.bits] using hw
  obtain ⟨m, rfl⟩ := Int.eq_ofNat_of_zero_le hx.1
  exact ⟨UInt8.ofNat m, by rw [UInt8.toNat_ofNat_of_lt' (show m < UInt8.size by simp only [UInt8.size]; omega)]⟩
theorem open_num {k : IntKind} (ht : P.underlying t = some (.int k)) (hok : Value.okWide P W .any base t v) (h : DataW.Trod enc P W 0 (fun _ => true) true t v d p) :
    ∃ n : Int, v = .int k n ∧ k.min ≤ n ∧ n ≤ k.max := by
  obtain ⟨n, rfl, _, _, hw⟩ := open_int ht hok h
  exact ⟨n, rfl, by simpa [Lit.wf] using hw⟩
theorem i64_range {n : Int} (h : IntKind.min .i64 ≤ n ∧ n ≤ IntKind.max .i64) : -9223372036854775808 ≤ n ∧ n ≤ 9223372036854775807 := by
  simpa [IntKind.min, IntKind.max, IntKind.signed, IntKind.bits] using h
theorem i16_range {n : Int} (h : IntKind.min .i16 ≤ n ∧ n ≤ IntKind.max .i16) : -32768 ≤ n ∧ n ≤ 32767 := by
  simpa [IntKind.min, IntKind.max, IntKind.signed, IntKind.bits] using h
theorem i8_range {n : Int} (h : IntKind.min .i8 ≤ n ∧ n ≤ IntKind.max .i8) : -128 ≤ n ∧ n ≤ 127 := by
  simpa [IntKind.min, IntKind.max, IntKind.signed, IntKind.bits] using h
theorem i32_range {n : Int} (h : IntKind.min .i32 ≤ n ∧ n ≤ IntKind.max .i32) : -2147483648 ≤ n ∧ n ≤ 2147483647 := by
  simpa [IntKind.min, IntKind.max, IntKind.signed, IntKind.bits] using h
theorem u16_range {n : Int} (h : IntKind.min .u16 ≤ n ∧ n ≤ IntKind.max .u16) : 0 ≤ n ∧ n ≤ 65535 := by
  simpa [IntKind.min, IntKind.max, IntKind.signed, IntKind.bits] using h
theorem u32_range {n : Int} (h : IntKind.min .u32 ≤ n ∧ n ≤ IntKind.max .u32) : 0 ≤ n ∧ n ≤ 4294967295 := by
  simpa [IntKind.min, IntKind.max, IntKind.signed, IntKind.bits] using h
theorem u64_range {n : Int} (h : IntKind.min .u64 ≤ n ∧ n ≤ IntKind.max .u64) : 0 ≤ n ∧ n ≤ 18446744073709551615 := by
  simpa [IntKind.min, IntKind.max, IntKind.signed, IntKind.bits] using h

theorem open_bytes (ht : P.underlying t = some (.slice e)) (he : P.underlying e = some (.int .u8)) (hc : P.cellsOf e = 1)
    (hok : Value.okWide P W .any base t v) (h : DataW.Trod enc P W 0 (fun _ => true) true t v d p) :
    ∃ (A : Option Addr) (l : List UInt8) (cap : Nat), v = .slice A l.length cap ∧ l.length ≤ cap ∧ cap ≤ maxLen ∧ BytesAt W A l := by
  obtain ⟨a, len, cap, rfl⟩ := okWide_slice ht hok
  obtain ⟨fuel, hf⟩ := h
  rcases open_ints ht he hc hf with ⟨hcs, _⟩ | ⟨x, l, c, zs, hcs, _, hl, hm, hz, _, hcell, hwz⟩
  · simp [Value.cells] at hcs
    obtain ⟨rfl, rfl, rfl⟩ := hcs
    exact ⟨none, [], 0, rfl, by simp, by simp, fun i hi => by simp at hi⟩
  · simp [Value.cells] at hcs
    obtain ⟨rfl, rfl, rfl⟩ := hcs
    have hz : zs.length = cap := by simpa using hz
    refine ⟨some x, (zs.take len).map fun n => UInt8.ofNat n.toNat, cap, by simp; omega, by simp; omega, hm, fun i hi => ?_⟩
    have hi' : i < len := by simp at hi; omega
    have h1 := hcell i (by omega)
    have hspot : x.spot = none := by
      have h0 := hcell 0 (by omega)
      have := World.cell?_spot h0
      simpa [Addr.add] using this
    obtain ⟨b, o, s⟩ := x
    obtain rfl : s = none := hspot
    have hadd : (⟨b, o, none⟩ : Addr).add i = ⟨b, o + i, none⟩ := by unfold Addr.add; split <;> simp_all
    rw [hadd] at h1
    refine ⟨b, o, rfl, ?_⟩
    rw [h1]
    have hw := hwz (zs.getD i 0) (by rw [getD_at _ _ _ (by omega)]; exact List.getElem_mem _)
    have hx : 0 ≤ zs.getD i 0 ∧ zs.getD i 0 ≤ 255 := by simpa [Lit.wf, IntKind.min, IntKind.max, IntKind.signed, IntKind.bits] using hw
    have e : ((zs.take len).map fun n : Int => UInt8.ofNat n.toNat)[i] = UInt8.ofNat (zs.getD i 0).toNat := by
      rw [getD_at _ _ _ (show i < zs.length by omega)]; simp
    rw [e, UInt8.toNat_ofNat_of_lt' (by simp only [UInt8.size]; omega)]
    congr 2; omega
end
end Go.Proofs.Ytiibdebkihhikaa
