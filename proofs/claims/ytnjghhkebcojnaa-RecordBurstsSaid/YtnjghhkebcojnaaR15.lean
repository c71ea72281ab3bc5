/- the document's answers of layer 15 -/
import Derived.Test.YtnjghhkebcojnaaR05
import Derived.Test.YtnjghhkebcojnaaMMA
set_option maxRecDepth 100000
namespace Go.Proofs.Ytnjghhkebcojnaa.R15
open Go.RowKit

theorem noughts_succ (l : List UInt8) (k : Nat) : l ++ SecM.noughts (k + 1) = (l ++ SecM.noughts k) ++ [0] := by
  unfold SecM.noughts
  rw [List.replicate_succ', List.append_assoc]
theorem seal_any (A : Option Addr) (l : List UInt8) (c : Nat) (w : World) (h : BytesAt w A l) (hl : l.length ≤ 60) :
    Calls Try.prog 43 #[.slice A l.length c] w (RetNew w (SecM.sec l)) := by
  have H := Lib.hid h
  have HC := Lib.hid (fun X (d : Nat) V (hB : BytesAt V X (SecM.pad l)) => R05.seal_any X (SecM.pad l) d V hB (by rw [SecM.pad_len l hl]; omega))
  have HE : Hid (CrcM.seal_ (SecM.pad l) = SecM.sec l) := Lib.hid rfl
  have HP : Hid (SecM.pad l = l ++ SecM.noughts (60 - l.length)) := Lib.hid rfl
  have HPL := Lib.hid (SecM.pad_len l hl)
  clear h
  go_enter Try.func43, Try.ntmps43
  go_wp2_with (at_builtin; refine wpList_append_bytes rfl (.tmp 4) (.tmp 5) rfl w.heap.size (.slice (some ⟨w.heap.size, 0, none⟩) 0 0) [] l rfl (Own.empty w _ (Nat.le_refl _)) A l.length c rfl rfl (H.out.alloc _) (by simp; omega) (by simp) ?_; intro v1 w1 hown1 hb1; have hb1 : Below w.heap.size w w1 := (balloc w _).trans hb1; have HO := Lib.hid hown1; clear hown1)
  go_loopw [3] (fun v wr => ∃ k : Nat, l.length + k ≤ 60 ∧ Own wr w.heap.size v (l ++ SecM.noughts k) ∧ Below w.heap.size w wr)
    (fun v _ => match v with | .slice _ n _ => 60 - n | _ => 0)
  case atStart => exact ⟨0, by omega, by have := HO.out; simpa [SecM.noughts] using this, hb1⟩
  case round =>
    obtain ⟨k, hk, hown, hb⟩ := hrel
    have hz := hb.size
    obtain ⟨L, hL⟩ : ∃ L, L = l ++ SecM.noughts k := ⟨_, rfl⟩
    have hlen : L.length = l.length + k := by rw [hL, List.length_append, SecM.noughts_len]
    have HS : Hid (l ++ SecM.noughts (k + 1) = L ++ [0]) := Lib.hid (by rw [hL]; exact noughts_succ l k)
    have HL := Lib.hid hL
    rw [← hL] at hown
    obtain ⟨A1, c1, hv1, hl1, hl1', hB1⟩ := hown.bytes
    have HR := Lib.hid hown; have HB1 := Lib.hid hB1
    have HLEN := Lib.hid hlen
    subst hv1
    clear hown HO hL hB1 hlen
    by_cases hlt : L.length < 60
    · have hk2 : l.length + (k + 1) ≤ 60 := by have := HLEN.out; omega
      have HK2 := Lib.hid hk2
      clear hk2
      go_wp2_with (at_builtin; refine wpList_append_u8 rfl _ _ rfl w.heap.size _ _ rfl (HR.out.alloc _) wr.heap.size 1 0 rfl (by simp) (by omega) (by simp; omega) ?_; intro v' w7 hown1 hb7; have HN := Lib.hid hown1; obtain ⟨A2, c2, hv2, _, _, _⟩ := hown1.bytes; subst hv2; clear hown1)
      go_roundw
      case rel => exact ⟨k + 1, HK2.out, by rw [HS.out]; have := HN.out; rw [List.length_append, List.length_singleton] at this; exact this, (hb.alloc hz _).trans hb7⟩
      case measure => simp <;> omega
    · have hk3 : k = 60 - l.length := by have := HLEN.out; omega
      have he : L = SecM.pad l := by rw [HL.out, HP.out, hk3]
      have HX := Lib.hid HB1.out
      rw [he] at HX
      have hl60 : L.length = 60 := by rw [he, HPL.out]
      rw [hl60] at *
      go_wp2_with fail
      have C := HC.out A1 c1 _ HX.out
      rw [HPL.out, HE.out] at C
      refine C.mono ?_
      rintro e w9 ⟨X, d, rfl, g1, g2, g3, hb9, hN⟩
      have G3 := Lib.hid g3; have HN := Lib.hid hN
      clear C g3 hN
      go_wp2
      go_ret
      exact ⟨X, d, rfl, g1, g2, G3.out, bstep hb hb9, HN.out.mono hz⟩
/-- what the document's Open tells -/
def openOf (l : List UInt8) : List UInt8 := if SecM.opens l then l.take 60 else []
theorem open_new (A : Option Addr) (l : List UInt8) (c : Nat) (w : World) (h : BytesAt w A l) (hc : l.length ≤ c) (hl : l.length ≤ 1099511627) (hc2 : c ≤ maxLen) :
    Calls Try.prog 44 #[.slice A l.length c] w fun e w' => ∃ X d, e = .returned (.tuple #[.slice X (openOf l).length d, .bool (SecM.opens l)]) ∧ (openOf l).length ≤ d ∧ d ≤ maxLen ∧ BytesAt w' X (openOf l) ∧ Below w.heap.size w w' ∧ New w X := by
  have H := Lib.hid h
  by_cases h64 : l.length = 64
  · have C := R05.good_any A l c w h hc hl hc2
    have ho : SecM.opens l = CrcM.good l := by unfold SecM.opens; rw [decide_eq_true h64]; rfl
    obtain ⟨O, hO⟩ : ∃ O, O = openOf l := ⟨_, rfl⟩
    have HO : Hid (O = if CrcM.good l then l.take 60 else []) := Lib.hid (by rw [hO]; unfold openOf; rw [ho])
    have q : ((l.length : Int) != 64) = false := by rw [h64]; rfl
    have HTL : Hid ((l.take 60).length = 60) := Lib.hid (by rw [List.length_take, h64]; rfl)
    have H6 := Lib.hid h64
    rw [← hO, ho]
    generalize CrcM.good l = g at *
    unfold maxLen at hc2
    clear h ho hO h64
    go_enter Try.func44, Try.ntmps44
    go_wp2_with fail
    refine C.mono ?_
    rintro e w1 ⟨rfl, hb1⟩
    have ho := HO.out
    cases g
    · rw [if_neg (by decide)] at ho
      subst ho
      go_wp2
      go_ret2
      exact ⟨none, 0, rfl, Nat.le_refl _, Nat.zero_le _, BytesAt.nil _ _, hb1, New.none _⟩
    · rw [if_pos rfl] at ho
      subst ho
      have HX : Hid (BytesAt w1 A (l.take 60)) := Lib.hid ((H.out.below hb1).take 60)
      have hc60 : 60 ≤ c := by have := H6.out; omega
      clear C
      go_wp2_with (at_builtin; refine wpList_append_bytes rfl (.tmp 12) (.tmp 14) rfl w1.heap.size (.slice (some ⟨w1.heap.size, 0, none⟩) 0 0) [] (l.take 60) rfl (Own.empty w1 _ (Nat.le_refl _)) A 60 c rfl HTL.out.symm (HX.out.alloc _) (by rw [HTL.out]; decide) (by simp) ?_; intro v1 w2 hown1 hb2; have hb2 : Below w1.heap.size w1 w2 := (balloc w1 _).trans hb2; have HO := Lib.hid hown1; clear hown1)
      go_ret2
      obtain ⟨X, d, rfl, g1, g2, g3, g4⟩ := HO.out.new
      exact ⟨X, d, rfl, g1, g2, g3, bstep hb1 hb2, fun a e => Nat.le_trans hb1.size (g4 a e)⟩
  · have ho : SecM.opens l = false := by unfold SecM.opens; rw [decide_eq_false h64]; rfl
    have he : openOf l = [] := by unfold openOf; rw [ho, if_neg (by decide)]
    have q : ((l.length : Int) != 64) = true := by rw [bne_iff_ne]; omega
    rw [he, ho]
    clear h64 h he ho hc hl hc2
    go_enter Try.func44, Try.ntmps44
    go_wp2
    go_ret2
    exact ⟨none, 0, rfl, Nat.le_refl _, Nat.zero_le _, BytesAt.nil _ _, Below.refl _ _, New.none _⟩
theorem open_any (A : Option Addr) (l : List UInt8) (c : Nat) (w : World) (h : BytesAt w A l) (hc : l.length ≤ c) (hl : l.length ≤ 1099511627) (hc2 : c ≤ maxLen) :
    Calls Try.prog 44 #[.slice A l.length c] w fun e w' => ∃ X d, e = .returned (.tuple #[.slice X (openOf l).length d, .bool (SecM.opens l)]) ∧ (openOf l).length ≤ d ∧ d ≤ maxLen ∧ BytesAt w' X (openOf l) ∧ Below w.heap.size w w' := by
  refine (open_new A l c w h hc hl hc2).mono ?_
  rintro e w' ⟨X, d, h1, h2, h3, h4, h5, _⟩
  exact ⟨X, d, h1, h2, h3, h4, h5⟩
end Go.Proofs.Ytnjghhkebcojnaa.R15
