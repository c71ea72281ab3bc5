/- the walk of layer 17's second law -/
import Derived.Test.YtmpkcnbphlfdcaaLaw17
set_option maxRecDepth 100000
namespace Go.Proofs.Ytmpkcnbphlfdcaa.Law17
open Go.RowKit SupM Super

/-- the two lists that are read, and the table -/
structure Both (w0 w : World) (g t : Nat) (A : Option Addr) (l : List UInt8) (c : Nat) (B : Option Addr) (m : List UInt8) (d : Nat) : Prop where
  tab : Crc.Tab w t
  c0 : w.cell? ⟨g, 0, none⟩ = some (.slice A l.length c)
  c1 : w.cell? ⟨g, 1, none⟩ = some (.slice B m.length d)
  b0 : BytesAt w A l
  b1 : BytesAt w B m
  below : Below w0.heap.size w0 w
theorem Both.next {w0 w w' : World} {g t : Nat} {A B : Option Addr} {l m : List UInt8} {c d : Nat} (h : Both w0 w g t A l c B m d) (hb : Below w.heap.size w w') : Both w0 w' g t A l c B m d :=
  ⟨h.tab.below hb, (hb.cell (p := ⟨g, 0, none⟩) (cell_lt h.c0)).trans h.c0, (hb.cell (p := ⟨g, 1, none⟩) (cell_lt h.c1)).trans h.c1, h.b0.below hb, h.b1.below hb, bstep h.below hb⟩
/-- what the row of a round is -/
theorem Both.row {w0 w : World} {g t : Nat} {A B : Option Addr} {l m : List UInt8} {c d : Nat} (h : Both w0 w g t A l c B m d) (hl : l.length ≤ 100) (hlc : l.length ≤ c) (hc : c ≤ maxLen) (hm : m.length ≤ 64) (hmd : m.length ≤ d) (hd : d ≤ maxLen) (k : Nat) (hk : k < 2) :
    ∃ X x e, w.cell? ⟨g, k, none⟩ = some (.slice X x.length e) ∧ (∀ V, Both w0 V g t A l c B m d → BytesAt V X x) ∧ x.length ≤ 100 ∧ x.length ≤ e ∧ e ≤ maxLen := by
  rcases (show k = 0 ∨ k = 1 by omega) with rfl | rfl
  · exact ⟨A, l, c, h.c0, fun V hV => hV.b0, hl, hlc, hc⟩
  · exact ⟨B, m, d, h.c1, fun V hV => hV.b1, by omega, hmd, hd⟩
theorem get_fits (l : List UInt8) (h : gets l = true) : Fits (get_ l) ∧ putOf (get_ l) = l := by
  obtain ⟨h1, h2⟩ := put_get l h
  refine ⟨?_, by unfold putOf; rw [if_pos (show (get_ l).right = true from decide_eq_true h2), h1]⟩
  unfold Sp.May SupM.blank at h2
  unfold Fits I64
  omega
set_option maxHeartbeats 2000000 in
theorem gets_any (A1 : Option Addr) (a : List UInt8) (c1 : Nat) (A2 : Option Addr) (b : List UInt8) (c2 : Nat) (w : World) (h1 : BytesAt w A1 a) (k1 : a.length ≤ c1) (m1 : c1 ≤ maxLen) (h2 : BytesAt w A2 b) (_k2 : b.length ≤ c2) (m2 : c2 ≤ maxLen) :
    Calls Try.prog 4 #[.slice A1 a.length c1, .slice A2 b.length c2] w fun e w' => e = .returned (.bool true) ∧ Below w.heap.size w w' := by
  have M1 := Lib.hid m1; have M2 := Lib.hid m2
  unfold maxLen at m1 m2
  by_cases hl1 : 100 < a.length
  · go_enter Try.func4, Try.ntmps4
    go_wp2_with fail
    refine (alive_any _).mono ?_
    rintro e w9 ⟨rfl, hb9⟩
    go_wp2
    go_ret
    exact ⟨rfl, hb9⟩
  by_cases hl2 : 60 < b.length
  · go_enter Try.func4, Try.ntmps4
    go_wp2_with fail
    refine (alive_any _).mono ?_
    rintro e w9 ⟨rfl, hb9⟩
    go_wp2
    go_ret
    exact ⟨rfl, hb9⟩
  have CS := Lib.hid (fun V (h : BytesAt V A2 b) => R15.seal_any A2 b c2 V h (by omega))
  have hsl : (SecM.sec b).length ≤ 64 := Nat.le_of_eq (SecM.sec_len b (by omega))
  generalize SecM.sec b = Z at *
  have H1 := Lib.hid h1; have H2 := Lib.hid h2; have K1 := Lib.hid k1
  clear h1 h2
  go_enter Try.func4, Try.ntmps4
  go_wp2_with fail
  refine (Crc.new_any _).mono ?_
  rintro e w1 ⟨t, rfl, ht, hb1⟩
  have HT := Lib.hid ht; have HB1 := Lib.hid hb1
  clear ht hb1
  go_wp2_with fail
  refine (CS.out w1 (H2.out.below HB1.out)).mono ?_
  rintro e w2 ⟨Y, d, rfl, y1, y2, g2, hb2, -⟩
  have HY := Lib.hid g2
  have HT2 := Lib.hid (HT.out.below hb2)
  have HB2 := Lib.hid (bstep HB1.out hb2)
  clear g2 hb2 CS HT HB1 H2
  have Y1 := Lib.hid y1; have Y2 := Lib.hid y2
  go_wp2_with fail
  have hst : Both w (w2.alloc (.cells #[.slice A1 a.length c1, .slice Y Z.length d] 26)) w2.heap.size t A1 a c1 Y Z d :=
    ⟨HT2.out.below (balloc _ _), by simp, by simp, (H1.out.below HB2.out).alloc _, HY.out.alloc _, bstep HB2.out (balloc _ _)⟩
  have HST := Lib.hid hst
  have hlz : a.length ≤ 100 := by omega
  have HLZ := Lib.hid hlz; have HSL := Lib.hid hsl
  clear hst y1 y2 hsl hlz HY HT2 HB2 H1
  obtain ⟨g, hg⟩ : ∃ g, g = w2.heap.size := ⟨_, rfl⟩
  rw [← hg] at HST ⊢
  clear hg
  have hgd := sup_guard
  go_loopw [27] (fun i wr => ∃ k : Nat, k ≤ 2 ∧ i = .int .i64 k ∧ Both w wr g t A1 a c1 Y Z d)
    (fun i _ => 2 - (intOf i).toNat)
  case atStart => exact ⟨0, Nat.zero_le _, rfl, HST.out⟩
  case round =>
    obtain ⟨k, hk, rfl, hrel⟩ := hrel
    have HR := Lib.hid hrel
    by_cases hlt : k < 2
    · obtain ⟨X, x, e, cx, hX, hx1, hx2, hx3⟩ := hrel.row HLZ.out K1.out M1.out HSL.out Y1.out Y2.out k hlt
      have CG := Lib.hid (fun V T h => get_any t X x e V T h (by omega))
      have CR := Lib.hid (fun V h => R17.get_any X x e V h hx2 (by omega) hx3)
      have CP := Lib.hid (fun (hg : gets x = true) V T => put_any t (get_ x).F (get_ x).D (get_ x).S (get_fits x hg).1 V T)
      have HPX := Lib.hid (fun (hg : gets x = true) => (get_fits x hg).2)
      have HX := Lib.hid hX
      have HXM := Lib.hid (show x.length ≤ maxLen from by unfold maxLen; omega)
      unfold R17.Told at CR
      clear hX hx1 hx2 hx3 hrel HST
      have HSE : Hid (∀ F D S : Int, (⟨F, D, S⟩ : Sp) = get_ x → putOf ⟨F, D, S⟩ = putOf (get_ x)) := Lib.hid (fun F D S h => by rw [h])
      obtain ⟨G, hG⟩ : ∃ G, G = gets x := ⟨_, rfl⟩
      obtain ⟨R, hR⟩ : ∃ R, R = get_ x := ⟨_, rfl⟩
      rw [← hR] at CP HPX CG CR
      rw [← hG] at CG CR CP HPX
      clear hG hR HSE
      obtain ⟨F, D, S⟩ := R
      simp only at CG CR CP
      have hq := eql_sup F D S F D S
      rw [decide_eq_true rfl] at hq
      have hgg : (G == G) = true := by simp
      go_wp2_with fail
      refine (CG.out wr HR.out.tab (HX.out wr HR.out)).mono ?_
      rintro e2 w3 ⟨rfl, hb3⟩
      have HR3 := Lib.hid ((HR.out.next hb3).next (balloc w3 (.cells #[.int .i64 F, .int .i64 D, .int .i64 S] 23)))
      have HS3 := Lib.hid (SpAt.new w3 F D S 23)
      clear hb3 HR CG
      go_wp2_with fail
      generalize w3.heap.size = p8 at *
      generalize w3.alloc (.cells #[.int .i64 F, .int .i64 D, .int .i64 S] 23) = w4 at *
      refine (CR.out w4 (HX.out w4 HR3.out)).mono ?_
      rintro e2 w5 ⟨rfl, hb5⟩
      have hb6 := balloc w5 (.cells #[.int .i64 F, .int .i64 D, .int .i64 S] 23)
      have HR6 := Lib.hid ((HR3.out.next hb5).next hb6)
      have hs8 := (HS3.out.below hb5).below hb6
      have hs10 := SpAt.new w5 F D S 23
      have HS8 := Lib.hid hs8
      have c0 := hs8.c0; have c1 := hs8.c1; have c2 := hs8.c2
      have d0 := hs10.c0; have d1 := hs10.c1; have d2 := hs10.c2
      clear hb5 hb6 hs8 hs10 HR3 HS3 CR
      cases G
      · go_wp2
        go_roundw
        case rel => exact ⟨k + 1, by omega, by go_num, HR6.out⟩
        case measure => simp [intOf] <;> omega
      · have CP2 := Lib.hid (CP.out rfl)
        rw [HPX.out rfl] at CP2
        go_wp2_with fail
        refine (CP2.out _ HR6.out.tab).mono ?_
        rintro e3 w7 ⟨V, v, rfl, -, -, g7, hb7, -⟩
        have HR7 := Lib.hid (HR6.out.next hb7)
        have HV := Lib.hid g7
        clear g7 hb7 HR6 CP CP2 c0 c1 c2 d0 d1 d2
        go_wp2_with fail
        refine (R01.same_eq V X x x v e w7 HV.out (HX.out w7 HR7.out) HXM.out rfl).mono ?_
        rintro e4 w8 ⟨rfl, hqq⟩
        have HR8 := Lib.hid (HR7.out.next (bquiet hqq))
        clear hqq HR7 HV
        go_wp2
        go_roundw
        case rel => exact ⟨k + 1, by omega, by go_num, HR8.out⟩
        case measure => simp [intOf] <;> omega
    · have hk2 : k = 2 := by omega
      subst hk2
      have HB := Lib.hid HR.out.below
      clear HR hrel HST
      go_wp2_with fail
      refine (alive_any _).mono ?_
      rintro e w9 ⟨rfl, hb9⟩
      go_wp2
      go_ret
      exact ⟨rfl, bstep HB.out hb9⟩
end Go.Proofs.Ytmpkcnbphlfdcaa.Law17
