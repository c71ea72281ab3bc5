/- the law MsgGets -/
import Derived.Test.YtjoocjkakgjgmaaLaw25
import Derived.Test.YtjoocjkakgjgmaaR25C
import Derived.Test.YtjoocjkakgjgmaaR25D
import Derived.Test.YtjoocjkakgjgmaaR25F
import Derived.Test.YtjoocjkakgjgmaaR05
import Derived.Test.YtjoocjkakgjgmaaR01
set_option maxRecDepth 100000
set_option maxHeartbeats 20000000
namespace Go.Proofs.Ytjoocjkakgjgmaa.Law25
open Go.RowKit MsgM Msg

/-- the two lists that are read, and the table -/
structure Both (w0 w : World) (g t : Nat) (A : Option Addr) (l : List UInt8) (c : Nat) (B : Option Addr) (m : List UInt8) (d : Nat) : Prop where
  tab : Crc.Tab w t
  c0 : w.cell? ⟨g, 0, none⟩ = some (.slice A l.length c)
  c1 : w.cell? ⟨g, 1, none⟩ = some (.slice B m.length d)
  b0 : BytesAt w A l
  b1 : BytesAt w B m
  below : Below w0.heap.size w0 w
theorem Both.next {w0 w w' : World} {g t : Nat} {A B : Option Addr} {l m : List UInt8} {c d : Nat} (h : Both w0 w g t A l c B m d) (hb : Below w.heap.size w w') : Both w0 w' g t A l c B m d :=
  ⟨h.tab.below hb, (hb.cell (p := ⟨g, 0, none⟩) (cell_lt h.c0)).trans h.c0, (hb.cell (p := ⟨g, 1, none⟩) (cell_lt h.c1)).trans h.c1, h.b0.below hb, h.b1.below hb, bstep h.below hb⟩
/-- what the row of a round is -/
theorem Both.row {w0 w : World} {g t : Nat} {A B : Option Addr} {l m : List UInt8} {c d : Nat} (h : Both w0 w g t A l c B m d) (hl : l.length ≤ 700) (hlc : l.length ≤ c) (hc : c ≤ maxLen) (hm : m.length ≤ 704) (hmd : m.length ≤ d) (hd : d ≤ maxLen) (k : Nat) (hk : k < 2) :
    ∃ X x e, w.cell? ⟨g, k, none⟩ = some (.slice X x.length e) ∧ (∀ V, Both w0 V g t A l c B m d → BytesAt V X x) ∧ x.length ≤ 704 ∧ x.length ≤ e ∧ e ≤ maxLen := by
  rcases (show k = 0 ∨ k = 1 by omega) with rfl | rfl
  · exact ⟨A, l, c, h.c0, fun V hV => hV.b0, by omega, hlc, hc⟩
  · exact ⟨B, m, d, h.c1, fun V hV => hV.b1, by omega, hmd, hd⟩
theorem got_fits {b : List UInt8} (h : getE b = 0) : Fits (getV b) := by
  rcases hg : CrcM.good b with _ | _
  · rw [(get_sum hg).2] at h; cases h
  · by_cases k : (said b).right = true ∧ (said b).put = b
    · rw [(get_ok hg k).1]; exact said_fits b
    · rw [(get_form hg k).2] at h; cases h
theorem gets_any (A1 : Option Addr) (a : List UInt8) (c1 : Nat) (w : World) (h1 : BytesAt w A1 a) (k1 : a.length ≤ c1) (m1 : c1 ≤ maxLen) :
    Calls Try.prog 4 #[.slice A1 a.length c1] w fun e w' => e = .returned (.bool true) ∧ Below w.heap.size w w' := by
  have M1 := Lib.hid m1
  have CAL := Lib.hid (fun W => alive_any W)
  unfold maxLen at m1
  by_cases hl1 : 700 < a.length
  · go_enter Try.func4, Try.ntmps4
    go_wp2_with fail
    refine (CAL.out _).mono ?_
    rintro e w9 ⟨rfl, hb9⟩
    go_wp2
    go_ret
    exact ⟨rfl, hb9⟩
  have CS := Lib.hid (fun V (h : BytesAt V A1 a) => R05.seal_any A1 a c1 V h (by omega))
  have hsl : (CrcM.seal_ a).length ≤ 704 := by rw [CrcM.seal_len]; omega
  generalize CrcM.seal_ a = Z at *
  have H1 := Lib.hid h1; have K1 := Lib.hid k1
  clear h1
  go_enter Try.func4, Try.ntmps4
  go_wp2_with fail
  refine (Crc.new_any _).mono ?_
  rintro e w1 ⟨t, rfl, ht, hb1⟩
  have HT := Lib.hid ht; have HB1 := Lib.hid hb1
  clear ht hb1
  go_wp2_with fail
  refine (CS.out w1 (H1.out.below HB1.out)).mono ?_
  rintro e w2 ⟨Y, d, rfl, y1, y2, g2, hb2, -⟩
  have HY := Lib.hid g2
  have HT2 := Lib.hid (HT.out.below hb2)
  have HB2 := Lib.hid (bstep HB1.out hb2)
  clear g2 hb2 CS HT HB1
  have Y1 := Lib.hid y1; have Y2 := Lib.hid y2
  go_wp2_with fail
  have hst : Both w (w2.alloc (.cells #[.slice A1 a.length c1, .slice Y Z.length d] 24)) w2.heap.size t A1 a c1 Y Z d :=
    ⟨HT2.out.below (balloc _ _), by simp, by simp, (H1.out.below HB2.out).alloc _, HY.out.alloc _, bstep HB2.out (balloc _ _)⟩
  have HST := Lib.hid hst
  have hlz : a.length ≤ 700 := by omega
  have HLZ := Lib.hid hlz; have HSL := Lib.hid hsl
  clear hst y1 y2 hsl hlz HY HT2 HB2 H1
  obtain ⟨g, hg⟩ : ∃ g, g = w2.heap.size := ⟨_, rfl⟩
  rw [← hg] at HST ⊢
  clear hg
  go_loopw [20] (fun i wr => ∃ k : Nat, k ≤ 2 ∧ i = .int .i64 k ∧ Hid (Both w wr g t A1 a c1 Y Z d))
    (fun i _ => 2 - (intOf i).toNat)
  case atStart => exact ⟨0, Nat.zero_le _, rfl, HST⟩
  case round =>
    obtain ⟨k, hk, rfl, HR⟩ := hrel
    by_cases hlt : k < 2
    · obtain ⟨X, x, e, cx, hX, hx1, hx2, hx3⟩ := HR.out.row HLZ.out K1.out M1.out HSL.out Y1.out Y2.out k hlt
      have CG := Lib.hid (fun V T h => get_any t X x e V T h hx2 hx3 (by omega))
      have CR := Lib.hid (fun V h => R25.get_any X x e V h hx2 hx3 (by omega))
      have CP := Lib.hid (fun (hg : getE x = 0) (y : Mv) (hy : y.m = getV x) W (hW : Lies W y) => by
        have h := R25.put_any y (by rw [hy]; exact got_fits hg) (by rw [hy]; exact (get_is hg).1) W hW
        rw [hy, (get_is hg).2, ← hy] at h
        exact h)
      have CSM := Lib.hid (fun (y z : Mv) (hyz : y.m = z.m) W (hy : Lies W y) (hz : Lies W z) => by
        have h := R25.same_any y z W hy hz
        rw [decide_eq_true hyz] at h
        exact h)
      have HX := Lib.hid hX
      have HXM := Lib.hid (show x.length ≤ maxLen from by unfold maxLen; omega)
      unfold RetGot at CG CR
      generalize getV x = GV at *
      generalize getE x = GE at *
      clear hX hx1 hx2 hx3 HST
      obtain ⟨xn, hxn⟩ : ∃ xn, xn = x.length := ⟨_, rfl⟩
      have HXN := Lib.hid hxn
      rw [← hxn] at cx CG CR
      clear hxn
      go_wp2_with fail
      refine (CG.out wr HR.out.tab (HX.out wr HR.out)).mono ?_
      rintro e2 w3 ⟨y, hy, rfl, hl, hb3⟩
      have HY := Lib.hid hy; have HL := Lib.hid hl
      have HR3 := Lib.hid (HR.out.next hb3)
      have HM0 : Hid (MsB (w3.alloc (.cells #[.int .i64 0, .int .i64 0, .int .i64 0, .int .i64 0, .string ⟨#[]⟩, .int .i64 0, .int .i64 0, .int .i64 0, .int .i64 0, .int .i64 0, .slice none 0 0, .slice none 0 0, .slice none 0 0] 26)) w3.heap.size mv0) := Lib.hid (MsB.new w3 mv0)
      have HBA := Lib.hid (balloc w3 (.cells #[.int .i64 0, .int .i64 0, .int .i64 0, .int .i64 0, .string ⟨#[]⟩, .int .i64 0, .int .i64 0, .int .i64 0, .int .i64 0, .int .i64 0, .slice none 0 0, .slice none 0 0, .slice none 0 0] 26))
      clear hy hl hb3 HR CG cx
      go_wp2_with ((with_reducible show wpList _ _ _ (_ :: _) _ _); refine wpList_store_ms rfl _ _ rfl w3.heap.size y rfl rfl mv0 HM0.out ?_; intro w4 hr4 hk4; have HP4 := Lib.hid hr4; have HK4 := Lib.hid hk4; clear hr4 hk4)
      have HL4 : Hid (Lies w4 y) := Lib.hid (Lies.keep (HL.out.below HBA.out) HK4.out (fun h0 a e => by have := CellsAt.lt HL.out.who (by rw [intV_len]; exact h0) a e; omega) (fun h0 a e => by have := CellsAt.lt HL.out.names (by rw [LabM.strV_len]; exact h0) a e; omega) (fun h0 a e => by have := HL.out.data.lt h0 a e; omega))
      have HB4 : Hid (Below w3.heap.size w3 w4) := Lib.hid (below_keeps HBA.out HK4.out (fun i e => by omega) HBA.out.size)
      have HR4 := Lib.hid (HR3.out.next HB4.out)
      obtain ⟨p, hp⟩ : ∃ p, p = w3.heap.size := ⟨_, rfl⟩
      rw [← hp] at HP4
      first | rw [← hp] | skip
      clear hp HM0 HBA HK4 HL HR3 HB4
      refine (CR.out w4 (HX.out w4 HR4.out)).mono ?_
      rintro e2 w5 ⟨z, hz, rfl, hl, hb5⟩
      have HYZ : Hid (y.m = z.m) := Lib.hid (by rw [HY.out, hz])
      have HL := Lib.hid hl
      have HR5 := Lib.hid (HR4.out.next hb5)
      have HP5 := Lib.hid (HP4.out.below hb5)
      have HL5 := Lib.hid (HL4.out.below hb5)
      have HN0 : Hid (MsB (w5.alloc (.cells #[.int .i64 0, .int .i64 0, .int .i64 0, .int .i64 0, .string ⟨#[]⟩, .int .i64 0, .int .i64 0, .int .i64 0, .int .i64 0, .int .i64 0, .slice none 0 0, .slice none 0 0, .slice none 0 0] 26)) w5.heap.size mv0) := Lib.hid (MsB.new w5 mv0)
      have HBN := Lib.hid (balloc w5 (.cells #[.int .i64 0, .int .i64 0, .int .i64 0, .int .i64 0, .string ⟨#[]⟩, .int .i64 0, .int .i64 0, .int .i64 0, .int .i64 0, .int .i64 0, .slice none 0 0, .slice none 0 0, .slice none 0 0] 26))
      have HPQ : Hid (p ≠ w5.heap.size) := Lib.hid (by have := HP5.out.lt; omega)
      have hgg : (GE != GE) = false := by simp
      clear hz hl hb5 HR4 CR HP4 HL4
      go_wp2_with (first
        | ((with_reducible show wpList _ _ _ (_ :: _) _ _); refine wpList_store_ms rfl _ _ rfl w5.heap.size z rfl rfl mv0 HN0.out ?_; intro w6 hr6 hk6; have HQ6 := Lib.hid hr6; have HK6 := Lib.hid hk6; have HP6 := Lib.hid ((HP5.out.below HBN.out).keep hk6 HPQ.out); clear hr6 hk6)
        | ((with_reducible show wpList _ _ _ (_ :: _) _ _); refine wpList_load_msw rfl _ rfl p rfl y HP6.out ?_)
        | ((with_reducible show wpList _ _ _ (_ :: _) _ _); refine wpList_load_msw rfl _ rfl w5.heap.size rfl z HQ6.out ?_))
      have HL6 : Hid (Lies w6 z) := Lib.hid (Lies.keep (HL.out.below HBN.out) HK6.out (fun h0 a e => by have := CellsAt.lt HL.out.who (by rw [intV_len]; exact h0) a e; omega) (fun h0 a e => by have := CellsAt.lt HL.out.names (by rw [LabM.strV_len]; exact h0) a e; omega) (fun h0 a e => by have := HL.out.data.lt h0 a e; omega))
      have HB6 : Hid (Below w5.heap.size w5 w6) := Lib.hid (below_keeps HBN.out HK6.out (fun i e => by omega) HBN.out.size)
      have HR6 := Lib.hid (HR5.out.next HB6.out)
      have HY6 := Lib.hid (HL5.out.below HB6.out)
      clear HN0 HBN HPQ HK6 HL HR5 HP5 HL5 HB6 hgg
      have C := Lib.hid (CSM.out y z HYZ.out w6 HY6.out HL6.out)
      refine C.out.mono ?_
      rintro e3 w7 ⟨rfl, hb7⟩
      have HR7 := Lib.hid (HR6.out.next hb7)
      have HP7 := Lib.hid (HP6.out.below hb7)
      have HY7 := Lib.hid (HY6.out.below hb7)
      clear hb7 C CSM HYZ HY6 HL6 HR6 HP6 HQ6
      by_cases hge : GE = 0
      rotate_left
      · have hg0 : (GE == 0) = false := by simp only [beq_eq_false_iff_ne]; exact hge
        clear CP hge
        go_wp2
        go_roundw
        case rel => exact ⟨k + 1, by omega, by go_num, HR7⟩
        case measure => simp [intOf] <;> omega
      · have CP2 := Lib.hid (CP.out hge y HY.out w7 HY7.out)
        subst hge
        clear CP HY HY7
        go_wp2_with ((with_reducible show wpList _ _ _ (_ :: _) _ _); refine wpList_load_msw rfl _ rfl p rfl y HP7.out ?_)
        refine CP2.out.mono ?_
        rintro e3 w8 ⟨V, v, rfl, v1, v2, g8, hb8, -⟩
        have HR8 := Lib.hid (HR7.out.next hb8)
        have C := Lib.hid (R01.same_eq V X x x v e w8 g8 (HX.out w8 HR8.out) HXM.out rfl)
        rw [← HXN.out] at C
        clear g8 hb8 v1 v2 HR7 CP2 HP7
        rw [← HXN.out]
        go_wp2_with fail
        refine C.out.mono ?_
        rintro e4 w9 ⟨rfl, hqq⟩
        have HR9 := Lib.hid (HR8.out.next (bquiet hqq))
        clear hqq HR8 C
        go_wp2
        go_roundw
        case rel => exact ⟨k + 1, by omega, by go_num, HR9⟩
        case measure => simp [intOf] <;> omega
    · have hk2 : k = 2 := by omega
      subst hk2
      have HB := Lib.hid HR.out.below
      clear HR HST
      go_wp2_with fail
      refine (CAL.out _).mono ?_
      rintro e w9 ⟨rfl, hb9⟩
      go_wp2
      go_ret
      exact ⟨rfl, bstep HB.out hb9⟩
end Go.Proofs.Ytjoocjkakgjgmaa.Law25
