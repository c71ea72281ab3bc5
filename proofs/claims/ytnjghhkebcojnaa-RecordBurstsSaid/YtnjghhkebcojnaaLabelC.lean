/- the contracts of package label: Get -/
import Derived.Test.YtnjghhkebcojnaaLabelB
set_option maxRecDepth 100000
namespace Go.Proofs.Ytnjghhkebcojnaa.LabM
theorem get_text (L : List UInt8) (h : L.length = 17) : PackM.textL L ⟨0, false⟩ = if (L.getD 0 0).toNat ≤ 16 then nameAt L else [] := by
  rcases L with _ | ⟨x, L⟩
  · simp at h
  have hl : L.length = 16 := by simpa using h
  have hx := x.toNat_lt
  have w1 : PackM.wid 1 = 1 := by decide
  have e1 : PackM.rawL (x :: L) ⟨0, false⟩ 1 = [x] := by
    unfold PackM.rawL; rw [if_neg (by simp [hl])]; simp
  have e2 : PackM.numS (x :: L) ⟨0, false⟩ 1 = ⟨1, false⟩ := by
    unfold PackM.numS PackM.rawS; rw [w1, if_neg (by simp [hl])]; rfl
  have e3 : PackM.numV (x :: L) ⟨0, false⟩ 1 = x.toNat := by
    unfold PackM.numV; rw [w1]; show PackM.val (PackM.rawL (x :: L) ⟨0, false⟩ 1) = _; rw [e1]; simp [PackM.val]
  unfold PackM.textL
  rw [e2, e3]
  unfold PackM.rawL nameAt
  simp only [List.getD_cons_zero]
  by_cases hn : x.toNat ≤ 16
  · rw [if_pos hn, if_neg (by simp [hl]; omega)]; simp
  · rw [if_neg hn, if_pos (by simp [hl]; omega)]
theorem get_text_nil : PackM.textL [] ⟨0, false⟩ = [] := by decide +kernel
theorem get_fact (L : List UInt8) (h : L.length = 17 ∨ L = []) :
    (right (PackM.textL L ⟨0, false⟩) && decide (L = putB (PackM.textL L ⟨0, false⟩))) = (decide (L.length = 17) && getOk L) ∧
    ((right (PackM.textL L ⟨0, false⟩) && decide (L = putB (PackM.textL L ⟨0, false⟩))) = true → (if L.length = 17 then getS L else ⟨#[]⟩) = (⟨(PackM.textL L ⟨0, false⟩).toArray⟩ : ByteArray)) ∧
    ((right (PackM.textL L ⟨0, false⟩) && decide (L = putB (PackM.textL L ⟨0, false⟩))) = false → (if L.length = 17 then getS L else ⟨#[]⟩) = (⟨#[]⟩ : ByteArray)) := by
  rcases h with h | h
  · rw [get_text L h, decide_eq_true h, Bool.true_and, if_pos h]
    unfold getS
    by_cases hn : (L.getD 0 0).toNat ≤ 16
    · rw [if_pos hn, ← getOk_put h]
      exact ⟨rfl, fun e => if_pos e, fun e => if_neg (by rw [e]; simp)⟩
    · rw [if_neg hn]
      have e : getOk L = false := by unfold getOk; rw [decide_eq_false hn]; rfl
      have e2 : right [] = false := by decide +kernel
      rw [e, e2, Bool.false_and]
      exact ⟨rfl, fun e => (by cases e), fun _ => if_neg (by simp)⟩
  · subst h
    rw [get_text_nil]
    have e2 : right [] = false := by decide +kernel
    rw [e2, Bool.false_and]
    exact ⟨rfl, fun e => (by cases e), fun _ => if_neg (by simp)⟩
theorem raw17 (b : List UInt8) (s : PackM.St) : (PackM.rawL b s 17).length = 17 ∨ PackM.rawL b s 17 = [] := by
  unfold PackM.rawL
  split
  · exact .inr rfl
  · rename_i h
    left
    simp at h
    have h2 := h.2
    rw [List.length_take, List.length_drop]
    show min 17 (b.length - s.at_) = 17
    omega
end Go.Proofs.Ytnjghhkebcojnaa.LabM
namespace Go.Proofs.Ytnjghhkebcojnaa.Label
open Go.RowKit R07

theorem equal_any (A B : Option Addr) (l m : List UInt8) (c d : Nat) (w : World) (h : BytesAt w A l) (k : BytesAt w B m) :
    Calls Try.prog 36 #[.slice A l.length c, .slice B m.length d] w fun e w' => e = .returned (.bool (decide (l = m))) ∧ w' = w := by
  have c1 := Clone.convert_bytes h c
  have c2 := Clone.convert_bytes k d
  clear h k
  obtain ⟨X, hX⟩ : ∃ X : ByteArray, X = ⟨l.toArray⟩ := ⟨_, rfl⟩
  obtain ⟨Y, hY⟩ : ∃ Y : ByteArray, Y = ⟨m.toArray⟩ := ⟨_, rfl⟩
  have hq : (X.toList == Y.toList) = decide (l = m) := by
    rw [hX, hY, ByteArray.toList_mk, ByteArray.toList_mk]
    rw [Bool.eq_iff_iff, beq_iff_eq]; simp
  have HQ := Lib.hid hq
  rw [← hX] at c1
  rw [← hY] at c2
  clear hX hY hq
  go_enter Try.func36, Try.ntmps36
  go_wp2
  go_ret
  exact ⟨ret_bool HQ.out, rfl⟩

set_option maxHeartbeats 1000000 in
theorem written_any (s : ByteArray) (w : World) (hs : s.size ≤ 9223372036854775807) :
    Calls Try.prog 77 #[.string s] w (RetNew w (LabM.putB s.data.toList)) := by
  have hp : (LabM.putB s.data.toList).length ≤ 17 := Nat.le_of_eq (LabM.putB_len _)
  have C := fun W g base v h hb => put_any g base v [] s W h (by simp) hb hs
  rw [List.nil_append] at C
  have HC := Lib.hid C
  clear C
  generalize LabM.putB s.data.toList = out at *
  go_enter Try.func77, Try.ntmps77
  go_wp2_with fail
  refine (HC.out _ _ _ _ (Pack.WAt.start w 79) (by simp)).mono ?_
  rintro e w1 ⟨rfl, v1, h1, q1, p1⟩
  have hb1 : Below w.heap.size w w1 := Pack.below_w (Pack.WAt.start w 79) (balloc _ _) q1 (Nat.le_refl _) (Nat.le_refl _) (by simp)
  have H1 := Lib.hid h1
  clear h1 q1 p1
  go_wp2_with fail
  refine (Pack.wbytes_any _ _ v1 out w1 H1.out (by omega)).mono ?_
  rintro e w2 ⟨X, d, rfl, hd1, hd2, hX, hb3, hn3⟩
  have HX := Lib.hid hX; have HN := Lib.hid hn3
  clear hX hn3
  go_wp2
  go_ret
  exact ⟨X, d, rfl, hd1, hd2, HX.out, bstep hb1 hb3, HN.out.mono hb1.size⟩

/-- what Get tells: the name that the next 17 bytes are -/
def GetPost (w : World) (g : Nat) (A : Option Addr) (b : List UInt8) (s : PackM.St) (e : Ending) (w' : World) : Prop :=
  e = .returned (.tuple #[.string (if (PackM.rawL b s 17).length = 17 then LabM.getS (PackM.rawL b s 17) else ⟨#[]⟩), .bool (decide ((PackM.rawL b s 17).length = 17) && LabM.getOk (PackM.rawL b s 17))]) ∧
    Pack.RdAt w' g A b (PackM.rawS b s 17) ∧ Keeps (fun x => x = g) w w'
theorem ret_two {s t : ByteArray} {b c : Bool} (h1 : s = t) (h2 : b = c) : Ending.returned (.tuple #[.string s, .bool b]) = .returned (.tuple #[.string t, .bool c]) := by rw [h1, h2]
set_option maxHeartbeats 1000000 in
theorem get_any (g : Nat) (A : Option Addr) (b : List UInt8) (s : PackM.St) (w : World) (h : Pack.RdAt w g A b s) (hbl : b.length ≤ 1048576) :
    Calls Try.prog 70 #[.pointer (some ⟨g, 0, none⟩)] w (GetPost w g A b s) := by
  have C1 := Pack.rraw_any g A b s 17 w h (by omega) hbl
  obtain ⟨f1, f2, f3⟩ := LabM.get_fact _ (LabM.raw17 b s)
  have hL := LabM.raw17 b s
  unfold GetPost
  generalize PackM.rawL b s 17 = L at *
  generalize PackM.rawS b s 17 = s' at *
  have hLl : L.length ≤ 17 := by
    rcases hL with h | h
    · omega
    · rw [h]; simp
  generalize (if L.length = 17 then LabM.getS L else ⟨#[]⟩) = RS at *
  generalize (decide (L.length = 17) && LabM.getOk L) = RB at *
  have HC1 := Lib.hid C1
  clear C1 h hL
  obtain ⟨TL, hTL⟩ : ∃ TL, TL = PackM.textL L ⟨0, false⟩ := ⟨_, rfl⟩
  have htl : TL.length ≤ 4294967296 := by
    rw [hTL]
    have h1 := PackM.rawL_len L (PackM.numS L ⟨0, false⟩ 1) (PackM.numV L ⟨0, false⟩ 1)
    have h2 := PackM.numV_lt L ⟨0, false⟩ 1
    unfold PackM.textL
    omega
  rw [← hTL] at f1 f2 f3
  have C2 := fun W g2 A2 h => Pack.rtext_any g2 A2 L ⟨0, false⟩ W h (by omega)
  rw [← hTL] at C2
  obtain ⟨S, hS⟩ : ∃ S : ByteArray, S = ⟨TL.toArray⟩ := ⟨_, rfl⟩
  have hST : S.data.toList = TL := by rw [hS]
  have hSs : S.size ≤ 9223372036854775807 := by rw [size_len, hST]; omega
  have C3 := fun W => right_any S W hSs
  have C4 := fun W => written_any S W hSs
  rw [hST] at C3 C4
  rw [← hS] at f2
  have HC2 := Lib.hid C2; have HS := Lib.hid hS
  clear hTL C2 hS hST
  go_enter Try.func70, Try.ntmps70
  go_wp2_with fail
  refine HC1.out.mono ?_
  rintro e w1 ⟨X, d, rfl, hX, hd1, hd2, hne, hr1, hg1⟩
  have HX := Lib.hid hX; have HNE := Lib.hid hne; have HR1 := Lib.hid hr1
  have K1 : Keeps (fun x => x = g) w w1 := .grow hg1 rfl
  clear hX hne hr1 hg1 hd2 HC1
  have HK1 := Lib.hid K1
  clear K1
  go_wp2_with fail
  refine (Pack.read_any X L d w1 HX.out (by omega)).mono ?_
  rintro e w2 ⟨g2, A2, rfl, hr2, hb2, hg2, _⟩
  have HR2 := Lib.hid hr2
  clear hr2
  go_wp2_with fail
  refine (HC2.out w2 g2 A2 HR2.out).mono ?_
  rintro e w3 ⟨Y, d3, rfl, hY, _, _, _, hr3, hg3⟩
  have hb3 : Below w1.heap.size w1 w3 := hb2.grown hg3 hb2.size (fun k e => by cases e; exact hg2)
  have hconv := Clone.convert_bytes hY d3
  rw [← HS.out] at hconv
  have HX3 := Lib.hid (HX.out.below hb3)
  have HB3 := Lib.hid hb3
  clear hY hr3 hg3 HC2 HR2 hb2
  rcases hr : LabM.right TL with _ | _
  · rw [hr] at C3
    rw [hr, Bool.false_and] at f1 f3
    have e1 := f3 rfl
    have HF := Lib.hid (ret_two e1.symm f1)
    have HC3 := Lib.hid C3
    clear f1 f2 f3 C3 C4 hr e1
    go_wp2_with fail
    refine (HC3.out _).mono ?_
    rintro e w4 ⟨rfl, hq⟩
    have hb4 := bstep HB3.out (bquiet hq)
    have HB4 := Lib.hid hb4
    clear hq hb4
    go_wp2
    go_ret2
    exact ⟨HF.out, HR1.out.below HB4.out, HK1.out.trans (.of_below _ HB4.out)⟩
  · rw [hr] at C3
    rw [hr, Bool.true_and] at f1 f2 f3
    have HC3 := Lib.hid C3; have HC4 := Lib.hid C4
    clear C3 C4 hr
    have HF1 := Lib.hid f1; have HF2 := Lib.hid f2; have HF3 := Lib.hid f3
    clear f1 f2 f3
    generalize LabM.putB TL = PB at *
    go_wp2_with fail
    refine (HC3.out _).mono ?_
    rintro e w4 ⟨rfl, hq⟩
    have hb4 := bstep HB3.out (bquiet hq)
    have HB4 := Lib.hid hb4
    clear hq hb4
    go_wp2_with fail
    refine (HC4.out _).mono ?_
    rintro e w5 ⟨Z, d5, rfl, _, _, hZ, hb5, _⟩
    have HZ := Lib.hid hZ
    have HB5 := Lib.hid (bstep HB4.out hb5)
    clear hZ hb5
    go_wp2_with fail
    have C := equal_any X Z L PB d d5 w5 (HX.out.below HB5.out) HZ.out
    rcases hq : decide (L = PB) with _ | _
    · have HQ := Lib.hid hq
      rw [hq] at C
      clear hq
      refine C.mono ?_
      clear C
      rintro e w6 ⟨rfl, rfl⟩
      go_wp2
      go_ret2
      exact ⟨ret_two (HF3.out HQ.out).symm (by rw [← HF1.out]; exact HQ.out.symm), HR1.out.below HB5.out, HK1.out.trans (.of_below _ HB5.out)⟩
    · have HQ := Lib.hid hq
      rw [hq] at C
      clear hq
      refine C.mono ?_
      clear C
      rintro e w6 ⟨rfl, rfl⟩
      go_wp2
      go_ret2
      exact ⟨ret_two (HF2.out HQ.out).symm (by rw [← HF1.out]; exact HQ.out.symm), HR1.out.below HB5.out, HK1.out.trans (.of_below _ HB5.out)⟩
end Go.Proofs.Ytnjghhkebcojnaa.Label
