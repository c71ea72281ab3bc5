/- the contracts of package label: Less, After -/
import Derived.Test.YtnjdioghjjaegaaTexts
import Derived.Test.YtnjdioghjjaegaaMergeMath
import Derived.Maps.AppendAt
import Derived.RangeFuncBox
set_option maxRecDepth 100000
namespace Go.Proofs.Ytnjdioghjjaegaa.Label
open Go.RowKit Go.Shelf R07

theorem bytesLess_less (x y : List UInt8) : Op.bytesLess x y = LabM.less x y := by
  induction x generalizing y with
  | nil => rcases y with _ | ⟨b, y⟩ <;> rfl
  | cons a x ih =>
    rcases y with _ | ⟨b, y⟩
    · rfl
    · unfold Op.bytesLess LabM.less
      rw [ih]
      by_cases e : a = b
      · subst e
        rw [if_pos rfl]
        have : decide (a < a) = false := decide_eq_false (by rw [UInt8.lt_iff_toNat_lt]; omega)
        rw [this]; simp
      · rw [if_neg e]
        have : (a == b) = false := by simpa using e
        rw [this, Bool.false_and, Bool.or_false]
        exact decide_eq_decide.2 UInt8.lt_iff_toNat_lt
theorem less_same (a b : ByteArray) (w : World) : Calls Try.prog 34 #[.string a, .string b] w fun e w' => e = .returned (.bool (LabM.lessS a b)) ∧ w' = w := by
  go_enter Try.func34, Try.ntmps34
  go_wp2
  go_ret
  refine ⟨ret_bool ?_, rfl⟩
  rw [bytesLess_less, ByteArray.toList_eq, ByteArray.toList_eq]
  rfl
theorem less_any (a b : ByteArray) (w : World) (_ha : a.size ≤ 9223372036854775807) (_hb : b.size ≤ 9223372036854775807) :
    Calls Try.prog 34 #[.string a, .string b] w fun e w' => e = .returned (.bool (LabM.lessS a b)) ∧ ∃ n, w' = w.drewN n :=
  (less_same a b w).mono fun _ _ h => ⟨h.1, 0, h.2⟩

attribute [local go_sem] Oper.semAt_some
/-- those of some texts that one is less than -/
def aft (pre : List LabM.Txt) (s : ByteArray) : List ByteArray := LabM.after (pre.map Subtype.val) s
theorem aft_yes {pre : List LabM.Txt} {s : ByteArray} {x : LabM.Txt} (h : LabM.lessS s x.1 = true) : aft (pre ++ [x]) s = aft pre s ++ [x.1] := by
  unfold aft LabM.after; rw [List.map_append, List.filter_append]; simp [h]
theorem aft_no {pre : List LabM.Txt} {s : ByteArray} {x : LabM.Txt} (h : LabM.lessS s x.1 = false) : aft (pre ++ [x]) s = aft pre s := by
  unfold aft LabM.after; rw [List.map_append, List.filter_append]; simp [h]
theorem aft_prefix {pre xs : List LabM.Txt} (s : ByteArray) (h : pre <+: xs) : aft pre s <+: aft xs s := by
  obtain ⟨t, rfl⟩ := h
  unfold aft LabM.after
  rw [List.map_append, List.filter_append]
  exact List.prefix_append _ _

theorem row_lt {W : World} {base : Nat} {e : TypeId} {v : Value} {n : Nat} {xs : List Value} (h : W.ownsRow base e 1 v n xs) {B : Nat} (hB : B < base) : some B ≠ v.ownBlock := fun e1 => by
  have := (World.ownsRow.lt h B e1.symm).1
  omega
theorem row_weak {W : World} {base base' : Nat} {e : TypeId} {v : Value} {n : Nat} {xs : List Value} (h : W.ownsRow base e 1 v n xs) (hb : base' ≤ base) : W.ownsRow base' e 1 v n xs := by
  refine ⟨h.1, ?_⟩
  rcases h.2 with h2 | ⟨g, cap, cur, h1, h2, h3⟩
  · exact .inl h2
  · exact .inr ⟨g, cap, cur, h1, by omega, h3⟩

end Go.Proofs.Ytnjdioghjjaegaa.Label
