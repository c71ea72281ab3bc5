/- the walk of DiskOwn -/
import Derived.Test.YteiemkaeeghhhaaLaw16A
set_option maxRecDepth 100000
namespace Go.Proofs.Yteiemkaeeghhhaa.Law16
open Go.RowKit DiskM Disk

theorem rot_len (m : Dk) (i bit : Int) (mask : Nat) : (m.rot i bit mask).1.b.length = m.b.length := by
  unfold Dk.rot
  split
  · rename_i h
    have h1 : isS m.b i = true := by revert h; cases isS m.b i <;> simp
    have hf := (isS_fit h1).1
    have ht : (turnZ (sect m.b i.toNat) bit mask).length = 64 := by
      unfold turnZ
      split
      · exact sect_len _ _ hf
      · rw [CrcM.turn_len, sect_len _ _ hf]
    exact setS_len _ _ _ hf ht
  · rfl
/-- what is kept by a disk's calls -/
def Fine (m : Dk) : Prop := (m.dead = true → m.left = 0) ∧ -9223372036854775808 ≤ m.left ∧ m.left ≤ 9223372036854775807
theorem Fine.write {m : Dk} (h : Fine m) (i : Int) (d : List UInt8) : Fine (m.write i d).1 := by
  unfold Dk.write
  split
  · split
    · rename_i h1 h2
      refine ⟨fun _ => ?_, h.2⟩
      unfold Dk.off at h2
      by_cases hz : m.left = 0
      · exact hz
      · rw [decide_eq_false hz, Bool.false_or] at h2
        exact h.1 h2
    · refine ⟨(fun e => nomatch e), ?_⟩
      have := h.2
      show _ ≤ (if 0 < m.left then m.left - 1 else m.left) ∧ (if 0 < m.left then m.left - 1 else m.left) ≤ _
      split <;> omega
  · exact h
theorem Fine.rot {m : Dk} (h : Fine m) (i bit : Int) (mask : Nat) : Fine (m.rot i bit mask).1 := by
  unfold Dk.rot
  split
  · exact h
  · exact h

set_option maxHeartbeats 4000000 in
theorem own_law (Bd : Option Addr) (b : List UInt8) (bc : Nat) (A : Option Addr) (l : List Act16) (cl : Nat) (w : World) (hb : BytesAt w Bd b) (_hbc : b.length ≤ bc) (hbm : bc ≤ maxLen) (h : ActsAt16 w A l) (hlc : l.length ≤ cl) (hcm : cl ≤ maxLen) :
    Calls Try.prog 4 #[.slice Bd b.length bc, .slice A l.length cl] w fun e w' => e = .returned (.bool true) ∧ Below w.heap.size w w' := by
  have hll : l.length ≤ 9223372036854775807 := by unfold maxLen at hcm; omega
  have hbl : b.length ≤ 9223372036854775807 := by unfold maxLen at hbm; omega
  by_cases h64 : b.length = 64
  case neg =>
    have q : ((b.length : Int) != 64) = true := by rw [bne_iff_ne]; omega
    clear h hb h64
    go_enter Try.func4, Try.ntmps4
    go_wp2_with fail
    refine (alive_any w).mono ?_
    rintro e w2 ⟨rfl, hb2⟩
    go_wp2
    go_ret
    exact ⟨rfl, hb2⟩
  have HLi := Lib.hid (light_any A l cl w h hll)
  have HBB := Lib.hid hb
  have H64 := Lib.hid h64
  rw [h64]
  rcases hlight : lightB l with _ | _
  · rw [hlight] at HLi
    clear h hb h64
    go_enter Try.func4, Try.ntmps4
    go_wp2_with fail
    refine HLi.out.mono ?_
    rintro e w1 ⟨rfl, hb1⟩
    go_wp2_with fail
    refine (alive_any w1).mono ?_
    rintro e w2 ⟨rfl, hb2⟩
    go_wp2
    go_ret
    exact ⟨rfl, bstep hb1 hb2⟩
  rw [hlight] at HLi
  obtain ⟨hl100, hl60⟩ := (lightB_iff l).1 hlight
  have HL100 := Lib.hid hl100
  have n0 : new_ 4 = ⟨SecM.noughts 256, -1, false⟩ := by kernel_rfl
  have HN : Hid (∀ W, Calls Try.prog 8 #[.int .i64 4] W fun e w' => ∃ p g c, e = .returned (.pointer (some ⟨p, 0, none⟩)) ∧ DAt w' p g c ⟨SecM.noughts 256, -1, false⟩ ∧ W.heap.size ≤ p ∧ W.heap.size ≤ g ∧ Below W.heap.size W w') := Lib.hid (fun W => by
    have := new_any 4 W (by omega)
    rw [n0] at this
    exact this)
  have hz0 : (SecM.noughts 256).length = 256 := SecM.noughts_len _
  generalize SecM.noughts 256 = b0 at *
  have hm1 : Dk.write ⟨b0, -1, false⟩ 1 b = (⟨setS b0 1 b, -1, false⟩, true) := write_on (m := ⟨b0, -1, false⟩) (i := 1) (decide_eq_true (by show (0 : Int) ≤ 1 ∧ (1 : Int) < ((b0.length / 64 : Nat) : Int); rw [hz0]; decide)) h64 (by show (-1 : Int) ≠ 0; omega) (fun e => by cases e)
  have hb1l : (setS b0 1 b).length = 256 := by rw [setS_len b0 1 b (by omega) h64, hz0]
  have hsect : sect (setS b0 1 b) 1 = b := sect_same b0 1 b (by omega) h64
  have hread : Dk.read ⟨setS b0 1 b, -1, false⟩ 1 = b := by
    unfold Dk.read
    rw [show isS (setS b0 1 b) 1 = true from decide_eq_true (by show (0 : Int) ≤ 1 ∧ (1 : Int) < (((setS b0 1 b).length / 64 : Nat) : Int); rw [hb1l]; decide), if_pos rfl]
    exact hsect
  have HW : Hid (∀ p g c W, DAt W p g c ⟨b0, -1, false⟩ → BytesAt W Bd b → (∀ a, Bd = some a → a.block ≠ p) → Calls Try.prog 10 #[.pointer (some ⟨p, 0, none⟩), .int .i64 1, .slice Bd 64 bc] W fun e w' => e = .returned (.bool true) ∧ DAt w' p g c ⟨setS b0 1 b, -1, false⟩ ∧ Keeps (PG p g) W w') := Lib.hid (fun p g c W hd hB hne => by
    have := write_any p g c ⟨b0, -1, false⟩ 1 Bd b bc W hd (by show b0.length ≤ _; rw [hz0]; omega) (fun e => by cases e) (by show _ ≤ (-1 : Int) ∧ (-1 : Int) ≤ _; omega) (by omega) hB (fun _ => hne) (by rw [h64]; unfold maxLen; omega)
    rw [hm1, h64] at this
    exact this)
  have HRd : Hid (∀ p g c W, DAt W p g c ⟨setS b0 1 b, -1, false⟩ → Calls Try.prog 18 #[.pointer (some ⟨p, 0, none⟩), .int .i64 1] W (RetOwn W b)) := Lib.hid (fun p g c W hd => by
    have := read_any p g c _ 1 W hd (by show (setS b0 1 b).length ≤ _; rw [hb1l]; omega) (by omega)
    rw [hread] at this
    exact this)
  have HL1 : Hid ((setS b0 1 b).length = 256) := Lib.hid hb1l
  generalize setS b0 1 b = b1 at *
  have HA := Lib.hid h
  clear h hb n0 hlight hl100 h64 hz0 hm1 hb1l hsect hread
  go_enter Try.func4, Try.ntmps4
  go_wp2_with fail
  refine HLi.out.mono ?_
  rintro e w1 ⟨rfl, hb1⟩
  have HB1 := Lib.hid hb1
  clear HLi hb1
  go_wp2_with fail
  refine (HN.out w1).mono ?_
  rintro e w2 ⟨p1, g1, c1, rfl, d2, hp1, hg1, hb2⟩
  have D2 := Lib.hid d2; have HB2 := Lib.hid (bstep HB1.out hb2)
  have hs1 := HB1.out.size
  have hF1 : Hid (w.heap.size ≤ p1 ∧ w.heap.size ≤ g1) := Lib.hid (by omega)
  clear d2 hb2 hp1 hg1 hs1 HB1 HN
  go_wp2_with fail
  refine (HW.out p1 g1 c1 w2 D2.out (HBB.out.below HB2.out) (fun a e => by have := HBB.out.lt (by rw [H64.out]; omega) a e; have := hF1.out; omega)).mono ?_
  rintro e w3 ⟨rfl, d3, q3⟩
  have D3 := Lib.hid d3; have HB3 := Lib.hid (own_keep HB2.out q3 hF1.out.1 hF1.out.2)
  clear d3 q3 D2 HB2 HW
  go_wp2_with fail
  refine (HRd.out p1 g1 c1 w3 D3.out).mono ?_
  rintro e w4 ⟨vx, rfl, ox, hb4⟩
  obtain ⟨gx, cx, rfl⟩ := own_form ox (by rw [H64.out]; omega)
  obtain ⟨gx', cx', hv, hgx, hgxl, hcx, hfx, _⟩ := ox.place (i := 5) (by rw [H64.out]; omega)
  injection hv with hv _ hv3
  injection hv with hv; injection hv with hv
  subst hv
  clear hv3 cx'
  rw [H64.out]
  have hlt3 := D3.out.lt
  obtain ⟨y, hy⟩ : ∃ y, y = b[5]'(by rw [H64.out]; omega) := ⟨_, rfl⟩
  rw [← hy] at hcx
  have D4 := Lib.hid (D3.out.below hb4)
  have HB4 := Lib.hid (bstep HB3.out hb4)
  have hs3 := HB3.out.size
  have HX : Hid (gx ≠ p1 ∧ gx ≠ g1 ∧ w.heap.size ≤ gx) := Lib.hid (by omega)
  clear ox hb4 hgx hlt3 hs3 hy D3 HB3
  go_wp2_with fail
  have k5 : Keeps (fun k => k = gx) w4 (w4.setCell ⟨gx, 5, none⟩ (.int .u8 (((y.toNat : Nat) + 1) % 256))) := .set _ _ _ _ rfl
  have D5 := Lib.hid (D4.out.keep k5 (fun e => HX.out.1 e.symm) (fun e => HX.out.2.1 e.symm))
  have HB5 : Hid (Below w.heap.size w (w4.setCell ⟨gx, 5, none⟩ (.int .u8 (((y.toNat : Nat) + 1) % 256)))) := Lib.hid (HB4.out.setCell (p := ⟨gx, 5, none⟩) HX.out.2.2 _)
  refine (image_any p1 g1 c1 _ _ D5.out (by show b1.length ≤ _; rw [HL1.out]; omega)).mono ?_
  rintro e w6 ⟨v6, rfl, o6, hb6⟩
  obtain ⟨Wd, wc, rfl, _, _, hwas⟩ := o6.bytes
  have HWAS := Lib.hid hwas
  have D6 := Lib.hid (D5.out.below hb6)
  have HB6 := Lib.hid (HB5.out.trans (hb6.mono HB5.out.size))
  clear k5 o6 hwas hb6 D5 D4 HB4 HB5 hcx hfx hgxl
  go_wp2_with fail
  refine (copy_any p1 g1 c1 _ w6 D6.out (by show b1.length ≤ _; rw [HL1.out]; omega) (by show 0 < b1.length; rw [HL1.out]; omega)).mono ?_
  rintro e w7 ⟨p2, g2, c2, rfl, d7, hp2, hg2, hb7⟩
  have hlt6 := D6.out.lt
  have hs6 := HB6.out.size
  have E7 := Lib.hid d7
  have D7 := Lib.hid (D6.out.below hb7)
  have HW7 := Lib.hid (HWAS.out.below hb7)
  have hF : Hid (p1 ≠ p2 ∧ p1 ≠ g2 ∧ g1 ≠ p2 ∧ g1 ≠ g2 ∧ w.heap.size ≤ p1 ∧ w.heap.size ≤ g1 ∧ w.heap.size ≤ p2 ∧ w.heap.size ≤ g2) := Lib.hid (by have := hF1.out; omega)
  have hWF : Hid (∀ a, Wd = some a → ¬ PG p2 g2 a.block) := Lib.hid (fun a e => by
    have := HWAS.out.lt (by rw [HL1.out]; omega) a e
    rintro (h | h) <;> omega)
  have HB7 := Lib.hid (bstep HB6.out hb7)
  clear d7 hp2 hg2 hb7 hlt6 hs6 D6 HWAS HB6 hF1
  go_wp2_with fail
  go_loopw [42] (fun iv wr => ∃ (k : Nat) (m : Dk), k ≤ l.length ∧ iv = .int .i64 (k : Nat) ∧ Fine m ∧ m.b.length = 256 ∧ DAt wr p1 g1 c1 ⟨b1, -1, false⟩ ∧ DAt wr p2 g2 c2 m ∧ BytesAt wr Wd b1 ∧ Below w.heap.size w wr)
    (fun iv _ => l.length - (intOf iv).toNat)
  case atStart => exact ⟨0, ⟨b1, -1, false⟩, Nat.zero_le _, rfl, ⟨(fun e => nomatch e), by show _ ≤ (-1 : Int); omega, by show (-1 : Int) ≤ _; omega⟩, HL1.out, D7.out, E7.out, HW7.out, HB7.out⟩
  case round =>
    obtain ⟨k, m, hk, rfl, hfi, hml, hd1, hd2, hwa, hb⟩ := hrel
    rename World => wr
    have HD1 := Lib.hid hd1; have HD2 := Lib.hid hd2; have HB := Lib.hid hb; have HFI := Lib.hid hfi; have HML := Lib.hid hml; have HWA := Lib.hid hwa
    clear hd1 hd2 hb hfi hml hwa D7 E7 HW7 HB7
    by_cases hlt : k < l.length
    · obtain ⟨b', o, BA, cb, hA, hact⟩ := HA.out k hlt
      subst hA
      have hact' := hact.below HB.out
      have e0 := hact'.c0; have e1 := hact'.c1; have e2 := hact'.c2; have e3 := hact'.c3; have e4 := hact'.c4
      have h100 := HL100.out k hlt
      have HACT := Lib.hid hact
      have hai := hact.i1
      have han := hact.i2
      have ham := hact.i3
      unfold i64In at hai han
      clear hact hact'
      generalize l[k] = a at *
      obtain ⟨kind, at_, an, mask, ab⟩ := a
      simp only at e0 e1 e2 e3 e4 h100 hai han ham
      have hwsz := HB.out.size
      have HBA : Hid (Below w.heap.size w (wr.alloc (.cells #[.int .i64 kind, .int .i64 at_, .int .i64 an, .int .u32 (mask : Nat), .slice BA ab.length cb] 32))) := Lib.hid (HB.out.alloc hwsz _)
      have hbl5 := balloc wr (.cells #[.int .i64 kind, .int .i64 at_, .int .i64 an, .int .u32 (mask : Nat), .slice BA ab.length cb] 32)
      have HD1A := Lib.hid (HD1.out.below hbl5)
      have HD2A := Lib.hid (HD2.out.below hbl5)
      have HWAA := Lib.hid (HWA.out.below hbl5)
      have hr1 : (wr.alloc (.cells #[.int .i64 kind, .int .i64 at_, .int .i64 an, .int .u32 (mask : Nat), .slice BA ab.length cb] 32)).cell? ⟨wr.heap.size, 1, none⟩ = some (.int .i64 at_) := by simp
      have hr2 : (wr.alloc (.cells #[.int .i64 kind, .int .i64 at_, .int .i64 an, .int .u32 (mask : Nat), .slice BA ab.length cb] 32)).cell? ⟨wr.heap.size, 2, none⟩ = some (.int .i64 an) := by simp
      have hr3 : (wr.alloc (.cells #[.int .i64 kind, .int .i64 at_, .int .i64 an, .int .u32 (mask : Nat), .slice BA ab.length cb] 32)).cell? ⟨wr.heap.size, 3, none⟩ = some (.int .u32 (mask : Nat)) := by simp
      have HR1 := Lib.hid hr1; have HR2 := Lib.hid hr2; have HR3 := Lib.hid hr3
      have HPL : Hid (p2 < wr.heap.size ∧ g2 < wr.heap.size) := Lib.hid HD2.out.lt
      have hCW : Hid (∀ W, DAt W p2 g2 c2 m → Below w.heap.size w W → Calls Try.prog 10 #[.pointer (some ⟨p2, 0, none⟩), .int .i64 at_, .slice BA ab.length cb] W fun e w' => e = .returned (.bool (m.write at_ ab).2) ∧ DAt w' p2 g2 c2 (m.write at_ ab).1 ∧ Keeps (PG p2 g2) W w') := Lib.hid (fun W hd hW =>
        write_any p2 g2 c2 m at_ BA ab cb W hd (by rw [HML.out]; omega) HFI.out.1 HFI.out.2 hai (HACT.out.bytes.below hW) (fun h0 a e => by
          have h1 := HACT.out.bytes.lt h0 a e
          have h2 := hF.out
          omega) (by unfold maxLen; omega))
      obtain ⟨m2, hm2⟩ : ∃ m2, m2 = (m.write at_ ab).1 := ⟨_, rfl⟩
      have HFI2 : Hid (Fine m2) := Lib.hid (by rw [hm2]; exact HFI.out.write _ _)
      have HML2 : Hid (m2.b.length = 256) := Lib.hid (by rw [hm2, write_len, HML.out])
      rw [← hm2] at hCW
      obtain ⟨m3, hm3⟩ : ∃ m3, m3 = (m2.rot at_ an mask).1 := ⟨_, rfl⟩
      have HFI3 : Hid (Fine m3) := Lib.hid (by rw [hm3]; exact HFI2.out.rot _ _ _)
      have HML3 : Hid (m3.b.length = 256) := Lib.hid (by rw [hm3, rot_len, HML2.out])
      have hCR : Hid (∀ W, DAt W p2 g2 c2 m2 → Calls Try.prog 14 #[.pointer (some ⟨p2, 0, none⟩), .int .i64 at_, .int .i64 an, .int .u32 (mask : Nat)] W fun e w' => e = .returned (.bool (m2.rot at_ an mask).2) ∧ DAt w' p2 g2 c2 (m2.rot at_ an mask).1 ∧ Keeps (PG p2 g2) W w') := Lib.hid (fun W hd =>
        rot_any p2 g2 c2 m2 at_ an mask W hd (by rw [HML2.out]; omega) hai han ham)
      rw [← hm3] at hCR
      clear hr1 hr2 hr3 hm2 hm3 hbl5
      go_wp2_with fail
      refine (hCW.out _ HD2A.out HBA.out).mono ?_
      rintro e w5 ⟨rfl, d5, q5⟩
      have D5 := Lib.hid d5
      have hk1 := q5.cell HR1.out (fun e => by have := HPL.out; rcases e with e | e <;> (simp only at e; omega))
      have hk2 := q5.cell HR2.out (fun e => by have := HPL.out; rcases e with e | e <;> (simp only at e; omega))
      have hk3 := q5.cell HR3.out (fun e => by have := HPL.out; rcases e with e | e <;> (simp only at e; omega))
      have E5 := Lib.hid (keep_far q5 HD1A.out (by have := hF.out; omega) (by have := hF.out; omega) (by have := hF.out; omega) (by have := hF.out; omega))
      have HB5 := Lib.hid (own_keep HBA.out q5 hF.out.2.2.2.2.2.2.1 hF.out.2.2.2.2.2.2.2)
      have HW5 := Lib.hid (q5.bytes HWAA.out hWF.out)
      clear d5 q5
      go_wp2_with fail
      refine (hCR.out w5 D5.out).mono ?_
      rintro e w6 ⟨rfl, d6, q6⟩
      have D6 := Lib.hid d6
      have E6 := Lib.hid (keep_far q6 E5.out (by have := hF.out; omega) (by have := hF.out; omega) (by have := hF.out; omega) (by have := hF.out; omega))
      have HB6 := Lib.hid (own_keep HB5.out q6 hF.out.2.2.2.2.2.2.1 hF.out.2.2.2.2.2.2.2)
      have HW6 := Lib.hid (q6.bytes HW5.out hWF.out)
      clear d6 q6 hk1 hk2 hk3
      go_wp2
      go_roundw
      case rel => exact ⟨k + 1, m3, by omega, by go_num, HFI3.out, HML3.out, E6.out, D6.out, HW6.out, HB6.out⟩
      case measure => simp [intOf] <;> omega
    · obtain rfl : k = l.length := by omega
      go_wp2_with fail
      refine (wipe_any p2 g2 c2 m wr HD2.out (by rw [HML.out]; omega)).mono ?_
      rintro e w5 ⟨rfl, _, q5⟩
      have q5 := q5.mono (G := PG p2 g2) fun k _ h => .inr h
      have E5 := Lib.hid (keep_far q5 HD1.out (by have := hF.out; omega) (by have := hF.out; omega) (by have := hF.out; omega) (by have := hF.out; omega))
      have HB5 := Lib.hid (own_keep HB.out q5 hF.out.2.2.2.2.2.2.1 hF.out.2.2.2.2.2.2.2)
      have HW5 := Lib.hid (q5.bytes HWA.out hWF.out)
      clear q5 HD1 HD2 HB HWA
      go_wp2_with fail
      refine (power_nil 3 w5).mono ?_
      rintro e w6 ⟨rfl, rfl⟩
      go_wp2_with fail
      refine (wipe_none w5).mono ?_
      rintro e w6 ⟨rfl, rfl⟩
      go_wp2_with fail
      refine (image_any p1 g1 c1 _ w5 E5.out (by show b1.length ≤ _; rw [HL1.out]; omega)).mono ?_
      rintro e w6 ⟨v6, rfl, o6, hb6⟩
      obtain ⟨X, xc, rfl, _, _, hX⟩ := o6.bytes
      have HX1 := Lib.hid hX
      have HW6 := Lib.hid (HW5.out.below hb6)
      have E6 := Lib.hid (E5.out.below hb6)
      have HB6 := Lib.hid (HB5.out.trans (hb6.mono HB5.out.size))
      clear o6 hX hb6 E5 HB5 HW5
      go_wp2_with fail
      refine (R01.same_eq X Wd b1 b1 xc wc w6 HX1.out HW6.out (by rw [HL1.out]; unfold maxLen; omega) rfl).mono ?_
      rintro e w7 ⟨rfl, hq⟩
      have hb7 := bquiet hq
      have E7 := Lib.hid (E6.out.below hb7)
      have HB7 := Lib.hid (HB6.out.trans (hb7.mono HB6.out.size))
      clear hq hb7 E6 HB6 HW6 HX1
      go_wp2_with fail
      refine (HRd.out p1 g1 c1 w7 E7.out).mono ?_
      rintro e w8 ⟨v8, rfl, o8, hb8⟩
      obtain ⟨Y, yc, rfl, _, _, hY⟩ := o8.bytes
      rw [H64.out]
      have HB8 := Lib.hid (HB7.out.trans (hb8.mono HB7.out.size))
      have hS8 : Calls Try.prog 17 #[.slice Y 64 yc, .slice Bd 64 bc] w8 fun e w' => e = .returned (.bool true) ∧ ∃ n, w' = w8.drewN n := by
        have := R01.same_eq Y Bd b b yc bc w8 hY (HBB.out.below HB8.out) (by rw [H64.out]; unfold maxLen; omega) rfl
        rw [H64.out] at this
        exact this
      clear o8 hY hb8 E7 HB7
      go_wp2_with fail
      refine hS8.mono ?_
      rintro e w9 ⟨rfl, hq⟩
      have hb9 := bquiet hq
      have HB9 := Lib.hid (HB8.out.trans (hb9.mono HB8.out.size))
      clear hq hb9 hS8 HB8
      go_wp2_with fail
      refine (dead_nil w9).mono ?_
      rintro e w10 ⟨rfl, rfl⟩
      go_wp2_with fail
      refine (size_nil w9).mono ?_
      rintro e w10 ⟨rfl, rfl⟩
      go_wp2_with fail
      refine (write_none 0 none 0 0 w9 (by omega)).mono ?_
      rintro e w10 ⟨rfl, hb10⟩
      have HB10 := Lib.hid (HB9.out.trans (hb10.mono HB9.out.size))
      clear hb10
      go_wp2_with fail
      refine (read_none 0 w10).mono ?_
      rintro e w11 ⟨v11, rfl, o11, hb11⟩
      obtain ⟨Z, zc, rfl, _, _, _⟩ := o11.bytes
      have HB11 := Lib.hid (HB10.out.trans (hb11.mono HB10.out.size))
      clear o11 hb11
      go_wp2_with fail
      refine (image_none w11).mono ?_
      rintro e w12 ⟨rfl, rfl⟩
      go_wp2_with fail
      refine (rot_none 0 0 1 w11).mono ?_
      rintro e w12 ⟨rfl, hb12⟩
      have HB12 := Lib.hid (HB11.out.trans (hb12.mono HB11.out.size))
      clear hb12
      go_wp2_with fail
      refine (copy_none w12).mono ?_
      rintro e w13 ⟨rfl, rfl⟩
      go_wp2_with fail
      refine (alive_any w12).mono ?_
      rintro e w13 ⟨rfl, hb13⟩
      have HB13 := Lib.hid (HB12.out.trans (hb13.mono HB12.out.size))
      go_wp2
      go_ret
      exact ⟨rfl, HB13.out⟩
end Go.Proofs.Yteiemkaeeghhhaa.Law16
