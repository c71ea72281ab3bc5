/- contracts of Go's library on bytes: a copy; the text of bytes -/
import Derived.Test.YtjoocjkakgjgmaaMats
import Derived.Lib.AppendZeros
import Derived.Lib.SliceRun
set_option maxRecDepth 100000
namespace Go.Proofs.Ytjoocjkakgjgmaa.Clone
open Go.RowKit

theorem clone_any (A : Option Addr) (l : List UInt8) (c : Nat) (w : World) (h : BytesAt w A l) (hl : l.length ≤ 1099511627) :
    Calls Try.prog 45 #[.slice A l.length c] w (RetNew w l) := by
  rcases A with _ | a
  · have h0 : l = [] := by
      rcases l with _ | ⟨x, l⟩
      · rfl
      · obtain ⟨b, o, e, _⟩ := h 0 (by simp); cases e
    subst h0
    have he := fun w => Lib.run_eql_slice_nil (P := Try.prog) w 24 5 none 0 c 0 0 Try.underlying24
    go_enter Try.func45, Try.ntmps45
    go_wp2
    go_ret
    exact RetNew.of_nil (Below.refl _ _)
  · have H := Lib.hid h
    clear h
    have he := fun w => Lib.run_eql_slice_nil (P := Try.prog) w 24 5 (some a) l.length c 0 0 Try.underlying24
    go_enter Try.func45, Try.ntmps45
    go_wp2_with (at_builtin; refine wpList_append_bytes rfl _ _ rfl w.heap.size (.slice (some ⟨w.heap.size, 0, none⟩) 0 0) [] l rfl (Own.empty w _ (Nat.le_refl _)) (some a) l.length c rfl rfl (H.out.alloc _) (by simp; omega) (by simp) ?_; intro v1 w1 hown1 hb1; have hb1 : Below w.heap.size w w1 := (balloc w _).trans hb1; have HO := Lib.hid hown1; clear hown1)
    go_ret
    exact RetNew.of_own HO.out hb1
theorem convert_bytes {w : World} {A : Option Addr} {l : List UInt8} (h : BytesAt w A l) (c : Nat) : (convert 24 9 (.slice A l.length c)).run Try.prog w = .ok (.string ⟨l.toArray⟩) w := by
  rcases A with _ | a
  · have h0 : l = [] := by
      rcases l with _ | ⟨x, l⟩
      · rfl
      · obtain ⟨b, o, e, _⟩ := h 0 (by simp); cases e
    subst h0
    rw [List.length_nil, run_convert_bytes_string w 24 9 5 none 0 c Try.underlying24 Try.underlying5 Try.underlying9]
    simp [Conv.bytesToString]
    rfl
  · exact run_convert_bytes_back (P := Try.prog) w 24 9 5 a c l Try.underlying24 Try.underlying5 Try.underlying9 (fun j hj => by
      obtain ⟨x3, o3, e3, k3⟩ := h j hj
      injection e3 with e3; subst e3
      have hadd : (⟨x3, o3, none⟩ : Addr).add j = ⟨x3, o3 + j, none⟩ := by unfold Addr.add; split <;> simp_all
      rw [hadd]; exact k3)
end Go.Proofs.Ytjoocjkakgjgmaa.Clone
