/- package stripe: Join -/
import Derived.Test.YtmeenipcfmeopaaStripeB
import Derived.Test.YtmeenipcfmeopaaStripeA
set_option maxRecDepth 100000
namespace Go.Proofs.Ytmeenipcfmeopaa.Stripe
open Go.RowKit Go.Shelf PlanM StripeM Plan PolyM
attribute [local go_sem] Oper.semAt_some

/-- the bytes of some stripes, the others 0 -/
def joinTo (L : Nat) (l : List (List UInt8)) (n N : Nat) (pre : List (Fin N)) : List UInt8 := tab n fun i => if pre.any (fun x => x.1 == i / L) then byteAt L l i else 0
theorem joinTo_len (L : Nat) (l : List (List UInt8)) (n N : Nat) (pre : List (Fin N)) : (joinTo L l n N pre).length = n := tab_len _ _
theorem joinTo_get (L : Nat) (l : List (List UInt8)) (n N : Nat) (pre : List (Fin N)) (i : Nat) (h : i < (joinTo L l n N pre).length) : (joinTo L l n N pre)[i] = if pre.any (fun x => x.1 == i / L) then byteAt L l i else 0 :=
  tab_get n (fun i => if pre.any (fun x => x.1 == i / L) then byteAt L l i else 0) i h
theorem joinTo_nil (L : Nat) (l : List (List UInt8)) (n N : Nat) : joinTo L l n N [] = List.replicate n 0 := by unfold joinTo; rw [← tab_rep]; exact tab_congr fun i _ => rfl
theorem joinTo_all (L : Nat) (l : List (List UInt8)) (n N : Nat) (hL : 1 ≤ L) (hn : n ≤ N * L) : joinTo L l n N (ks N) = join L l n := by
  unfold joinTo join
  refine tab_congr fun i hi => ?_
  have hk : i / L < N := by rw [Nat.div_lt_iff_lt_mul (by omega)]; omega
  rw [if_pos]
  rw [List.any_eq_true]
  exact ⟨⟨i / L, hk⟩, ks_mem _ _, by simp⟩
theorem joinTo_put (L : Nat) (l : List (List UInt8)) (n N : Nat) (pre : List (Fin N)) (k : Nat) (hk : k < N) (hL : 1 ≤ L) (hkl : k < l.length) (hl : l[k].length = L) (hkn : k * L < n) :
    splice (joinTo L l n N pre) (0 + k * L) (l[k].take (min (k * L + L) n - k * L)) = joinTo L l n N (pre ++ [⟨k, hk⟩]) := by
  obtain ⟨x, hx⟩ : ∃ x, x = k * L := ⟨_, rfl⟩
  have hdiv : ∀ i, i / L = k ↔ (x ≤ i ∧ i < x + L) := fun i => by
    rw [Nat.div_eq_iff (by omega), hx]
    constructor <;> intro h <;> omega
  have hmod : ∀ i, i / L = k → i % L = i - x := fun i h => by
    have := Nat.div_add_mod i L
    rw [h, Nat.mul_comm, ← hx] at this
    omega
  rw [← hx] at hkn ⊢
  rw [Nat.zero_add]
  unfold splice
  refine List.ext_getElem ?_ fun i h1 h2 => ?_
  · simp [joinTo_len]; omega
  · have hin : i < n := by rw [joinTo_len] at h2; exact h2
    have hr : (joinTo L l n N (pre ++ [⟨k, hk⟩]))[i] = if (pre.any fun x => x.1 == i / L) || (k == i / L) then byteAt L l i else 0 := by
      rw [joinTo_get, List.any_append]; simp
    have ho : ∀ h, (joinTo L l n N pre)[i]'h = if pre.any fun x => x.1 == i / L then byteAt L l i else 0 := fun h => joinTo_get _ _ _ _ _ _ h
    rw [hr]
    have hT : ((joinTo L l n N pre).take x).length = x := by rw [List.length_take, joinTo_len]; omega
    have hM : (l[k].take (min (x + L) n - x)).length = min (x + L) n - x := by rw [List.length_take, hl]; omega
    by_cases c1 : i < x
    · rw [List.getElem_append_left (by omega), List.getElem_take, ho]
      have : (k == i / L) = false := by
        rw [beq_eq_false_iff_ne]; intro e; have := (hdiv i).1 e.symm; omega
      rw [this, Bool.or_false]
    · rw [List.getElem_append_right (by omega)]
      by_cases c2 : i < x + L
      · have e := (hdiv i).2 ⟨by omega, c2⟩
        rw [List.getElem_append_left (by omega), List.getElem_take]
        have : (k == i / L) = true := by rw [e]; simp
        rw [this, Bool.or_true, if_pos rfl]
        unfold byteAt
        rw [e, hmod i e, ← List.getElem_eq_getD (h := hkl), co_get _ _ (by omega)]
        congr 1
        omega
      · have : (k == i / L) = false := by
          rw [beq_eq_false_iff_ne]; intro e; have := (hdiv i).1 e.symm; omega
        rw [List.getElem_append_right (by omega), List.getElem_drop]
        have e2 : x + (l[k].take (min (x + L) n - x)).length + (i - ((joinTo L l n N pre).take x).length - (l[k].take (min (x + L) n - x)).length) = i := by omega
        simp only [e2]
        rw [ho, this, Bool.or_false]
theorem row_own {β : Type} (g : Nat) (f : β → List UInt8) : Go.Own (fun (s : β) W => Row W g (f s)) := fun s A B row h hg hr => (grownBy_keeps_cells hg hr h rfl).trans h

end Go.Proofs.Ytmeenipcfmeopaa.Stripe
