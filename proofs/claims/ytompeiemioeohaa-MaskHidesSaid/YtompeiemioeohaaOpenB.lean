/- arguments opened: arrays of lists of numbers; how long a list in an array may be -/
import Derived.Test.YtompeiemioeohaaMO
import Derived.SizedLaws
set_option maxRecDepth 100000
namespace Go.Proofs.Ytompeiemioeohaa
open Go.ChangeShapes Go.WideShapes Go.ChangeAt Go.RowKit Go.Deep

section
variable {H : Type} {enc : TypeId × Value → H} {P : Program} {W : World} {base : Nat} {v : Value} {d : DataW H} {p : List MemPlace} {t e q : TypeId} {n : Nat}
/-- an array of two lists of numbers -/
theorem open_nums2 (ht : P.underlying t = some (.array 2 e)) (he : P.underlying e = some (.slice q)) (hq : P.underlying q = some (.int .i64)) (ce : P.cellsOf e = 1) (cq : P.cellsOf q = 1) (hC : P.cellsOf t = 2) (hok : Value.okWide P W .any base t v) (h : DataW.Trod enc P W 0 (fun _ => true) true t v d p) :
    ∃ (A1 : Option Addr) (l1 : List Int) (c1 : Nat) (A2 : Option Addr) (l2 : List Int) (c2 : Nat), v = .agg #[.slice A1 l1.length c1, .slice A2 l2.length c2] ∧ (l1.length ≤ c1 ∧ c1 ≤ maxLen ∧ IntsAt W A1 l1 ∧ ∀ x ∈ l1, PlanM.In64 x) ∧ (l2.length ≤ c2 ∧ c2 ≤ maxLen ∧ IntsAt W A2 l2 ∧ ∀ x ∈ l2, PlanM.In64 x) := by
  obtain ⟨cs, rfl, hs, hel⟩ := open_array ht ce hC hok h
  obtain ⟨u0, m0, y0, g0, r0⟩ := hel 0 (by omega)
  obtain ⟨u1, m1, y1, g1, r1⟩ := hel 1 (by omega)
  obtain ⟨B0, l0, c0, rfl, k0⟩ := nums_c he hq cq r0
  obtain ⟨B1, l1, c1, rfl, k1⟩ := nums_c he hq cq r1
  refine ⟨B0, l0, c0, B1, l1, c1, ?_, k0, k1⟩
  congr 1
  refine Array.ext_getElem? fun i => ?_
  match i with
  | 0 => rw [g0]; rfl
  | 1 => rw [g1]; rfl
  | i + 2 => rw [Array.getElem?_eq_none (by omega), Array.getElem?_eq_none (by simp)]
theorem weightsAll_mem {x : Nat} : ∀ {l : List (DataW H)}, d ∈ l → x ∈ d.weights P e → x ∈ DataW.weightsAll P e l
  | a :: l, h, hx => by
    rw [DataW.weightsAll]
    rcases List.mem_cons.mp h with rfl | h
    · exact List.mem_append_left _ hx
    · exact List.mem_append_right _ (weightsAll_mem h hx)
/-- a list of bytes in an array is no longer than memory is -/
theorem array_reach {cs : Array Value} (ht : P.underlying t = some (.array n e)) (he : P.underlying e = some (.slice q)) (hb : P.bytesOf q = 1) (ce : P.cellsOf e = 1) (h : DataW.Trod enc P W 0 (fun _ => true) true t (.agg cs) d p)
    (hw : (d.weights P t).all (· ≤ reachBytes) = true) {i : Nat} {A : Option Addr} {l c : Nat} (hi : i < n) (hv : cs[i]? = some (.slice A l c)) : l ≤ reachBytes := by
  obtain ⟨fuel, hf⟩ := h
  obtain ⟨xs, m, _, hx, hl, hxl, hel⟩ := DataW.trod_array ht hf
  have hd : d = .agg (xs.map (·.1)) := congrArg Prod.fst hx
  subst hd
  have h1 := hel i hi
  rw [ce, Nat.mul_one] at h1
  have hil : i < cs.size := by
    rcases Nat.lt_or_ge i cs.size with h | h
    · exact h
    · rw [Array.getElem?_eq_none h] at hv; cases hv
  have e1 : ((Value.agg cs).cells.toList.drop i).take 1 = [.slice A l c] := by
    show (cs.toList.drop i).take 1 = _
    rw [List.drop_eq_getElem_cons (by simpa using hil)]
    rw [Array.getElem?_eq_getElem hil] at hv
    injection hv with hv
    simp [hv]
  have hxi : xs[i]? = some xs[i] := List.getElem?_eq_getElem (by omega)
  rw [e1, hxi] at h1
  rcases DataW.trod_slice he h1 with ⟨hcs, _⟩ | ⟨a, len, cap, elems, rest, k, _, hcs, hxe, _, _, _, hel', _⟩
  · simp at hcs
    rw [hcs.2.1]; exact Nat.zero_le _
  · simp at hcs
    have hmem : (xs[i]).1 ∈ xs.map (·.1) := List.mem_map.mpr ⟨xs[i], List.getElem_mem _, rfl⟩
    have hwt : ((elems.map (·.1)).length + (rest.map (·.1)).length) * P.bytesOf q ∈ (xs[i]).1.weights P e := by rw [hxe]; simp [DataW.weights, he]
    have hall := List.all_eq_true.1 hw _ (by
      show _ ∈ DataW.weights P t (.agg (xs.map (·.1)))
      rw [DataW.weights, ht]
      exact weightsAll_mem hmem hwt)
    have hall := of_decide_eq_true hall
    rw [hb, List.length_map, List.length_map] at hall
    omega
end
end Go.Proofs.Ytompeiemioeohaa
