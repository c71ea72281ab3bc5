/- the walk of DiskPower -/
import Derived.Test.YteiemkaeeghhhaaLaw16
set_option maxRecDepth 100000
namespace Go.Proofs.Yteiemkaeeghhhaa.Law16
open Go.RowKit DiskM Disk

/-- the disk's power behind N sectors -/
def after (P N : Nat) (left : Int) (dead : Bool) : Prop := (N ≤ P ∧ left = (P : Int) - N ∧ dead = false) ∨ (P < N ∧ left = 0 ∧ dead = true)
theorem after_write {P N : Nat} {left : Int} {dead : Bool} (h : after P N left dead) (B : List UInt8) (hB : B.length = 384) (i : Int) (d : List UInt8) (hi : 0 ≤ i ∧ i < 6) (hd : okD d = true) :
    ∃ B' left' dead', Dk.write ⟨B, left, dead⟩ i d = (⟨B', left', dead'⟩, decide (N < P)) ∧ after P (N + 1) left' dead' ∧ B'.length = 384 ∧ (N < P → Dk.write ⟨B, -1, false⟩ i d = (⟨B', -1, false⟩, true)) ∧ (¬ N < P → B' = B) := by
  have hs : isS B i = true := decide_eq_true (by omega)
  have hm : Dk.write ⟨B, -1, false⟩ i d = (⟨setS B i.toNat (full d), -1, false⟩, true) := by
    have ho : Dk.off ⟨B, -1, false⟩ = false := rfl
    unfold Dk.write Dk.may
    simp only [hs, hd, ho]
    rfl
  have hfl := full_len d hd
  have hsl := setS_len B i.toNat (full d) (by omega) hfl
  rcases h with ⟨h1, h2, h3⟩ | ⟨h1, h2, h3⟩
  · subst h2 h3
    by_cases hN : N < P
    · refine ⟨setS B i.toNat (full d), (P : Int) - N - 1, false, ?_, .inl ⟨by omega, by omega, rfl⟩, by omega, fun _ => hm, fun h => absurd hN h⟩
      have ho : Dk.off ⟨B, (P : Int) - N, false⟩ = false := by unfold Dk.off; rw [decide_eq_false (by show ¬ (P : Int) - N = 0; omega)]; rfl
      unfold Dk.write Dk.may
      simp only [hs, hd, ho]
      rw [decide_eq_true hN, if_pos (by omega : 0 < (P : Int) - N)]
      rfl
    · refine ⟨B, (P : Int) - N, true, ?_, .inr ⟨by omega, by omega, rfl⟩, hB, fun h => absurd h hN, fun _ => rfl⟩
      have ho : Dk.off ⟨B, (P : Int) - N, false⟩ = true := by unfold Dk.off; rw [decide_eq_true (by show (P : Int) - N = 0; omega)]; rfl
      unfold Dk.write Dk.may
      simp only [hs, hd, ho]
      rw [decide_eq_false hN]
      rfl
  · subst h2 h3
    refine ⟨B, 0, true, ?_, .inr ⟨by omega, rfl, rfl⟩, hB, fun h => absurd h (by omega), fun _ => rfl⟩
    have ho : Dk.off ⟨B, 0, true⟩ = true := rfl
    unfold Dk.write Dk.may
    simp only [hs, hd, ho]
    rw [decide_eq_false (by omega)]
    rfl
theorem after_dead {P N : Nat} {left : Int} {dead : Bool} (h : after P N left dead) : dead = decide (P < N) := by
  rcases h with ⟨h1, _, h3⟩ | ⟨h1, _, h3⟩
  · rw [h3, decide_eq_false (by omega)]
  · rw [h3, decide_eq_true h1]
theorem after_wf {P N : Nat} {left : Int} {dead : Bool} (h : after P N left dead) (hP : P < 256) : (dead = true → left = 0) ∧ -9223372036854775808 ≤ left ∧ left ≤ 9223372036854775807 := by
  rcases h with ⟨_, h2, h3⟩ | ⟨_, h2, h3⟩
  · subst h3; exact ⟨(fun e => nomatch e), by omega, by omega⟩
  · subst h2; exact ⟨fun _ => rfl, by omega, by omega⟩
theorem keep_far {w w' : World} {p g p2 g2 c2 : Nat} {m : Dk} (q : Keeps (PG p g) w w') (h : DAt w p2 g2 c2 m) (h1 : p2 ≠ p) (h2 : p2 ≠ g) (h3 : g2 ≠ p) (h4 : g2 ≠ g) : DAt w' p2 g2 c2 m :=
  h.keep q (fun e => by rcases e with e | e; exact h1 e; exact h2 e) (fun e => by rcases e with e | e; exact h3 e; exact h4 e)

set_option maxHeartbeats 4000000 in
theorem power_any (pw : UInt8) (A : Option Addr) (l : List Act16) (cl : Nat) (w : World) (h : ActsAt16 w A l) (hlc : l.length ≤ cl) (hcm : cl ≤ maxLen) :
    Calls Try.prog 5 #[.int .u8 (pw.toNat : Nat), .slice A l.length cl] w fun e w' => e = .returned (.bool true) ∧ Below w.heap.size w w' := by
  have hll : l.length ≤ 9223372036854775807 := by unfold maxLen at hcm; omega
  have hP := pw.toNat_lt
  obtain ⟨P, hPw⟩ : ∃ P, P = pw.toNat := ⟨_, rfl⟩
  rw [← hPw] at hP ⊢
  have hP : P < 256 := hP
  clear hPw
  have HLi := Lib.hid (light_any A l cl w h hll)
  rcases hlight : lightB l with _ | _
  · rw [hlight] at HLi
    clear h
    go_enter Try.func5, Try.ntmps5
    go_wp2_with fail
    refine HLi.out.mono ?_
    rintro e w1 ⟨rfl, hb1⟩
    go_wp2_with fail
    refine (alive_any w1).mono ?_
    rintro e w2 ⟨rfl, hb2⟩
    go_wp2
    go_ret
    exact ⟨rfl, bstep hb1 hb2⟩
  rw [hlight] at HLi
  obtain ⟨hl100, hl60⟩ := (lightB_iff l).1 hlight
  have HL100 := Lib.hid hl100
  have n0 : new_ 6 = ⟨SecM.noughts 384, -1, false⟩ := by kernel_rfl
  have HN : Hid (∀ W, Calls Try.prog 8 #[.int .i64 6] W fun e w' => ∃ p g c, e = .returned (.pointer (some ⟨p, 0, none⟩)) ∧ DAt w' p g c ⟨SecM.noughts 384, -1, false⟩ ∧ W.heap.size ≤ p ∧ W.heap.size ≤ g ∧ Below W.heap.size W w') := Lib.hid (fun W => by
    have := new_any 6 W (by omega)
    rw [n0] at this
    exact this)
  have HZ : Hid ((SecM.noughts 384).length = 384) := Lib.hid (SecM.noughts_len _)
  generalize SecM.noughts 384 = b0 at *
  have HA := Lib.hid h
  clear h n0 hlight hl100
  go_enter Try.func5, Try.ntmps5
  go_wp2_with fail
  refine HLi.out.mono ?_
  rintro e w1 ⟨rfl, hb1⟩
  have HB1 := Lib.hid hb1
  clear HLi hb1
  go_wp2_with fail
  refine (HN.out w1).mono ?_
  rintro e w2 ⟨p1, g1, c1, rfl, d2, hp1, hg1, hb2⟩
  have D2 := Lib.hid d2; have HB2 := Lib.hid hb2
  clear d2 hb2
  go_wp2_with fail
  refine (HN.out w2).mono ?_
  rintro e w3 ⟨p2, g2, c2, rfl, d3, hp2, hg2, hb3⟩
  have hlt1 := D2.out.lt
  have hs1 := HB1.out.size
  have hs2 := HB2.out.size
  have D3 := Lib.hid d3; have D2 := Lib.hid (D2.out.below hb3)
  have HB3 := Lib.hid (bstep HB1.out (bstep HB2.out hb3))
  clear d3 hb3
  go_wp2_with fail
  refine (Disk.power_any p1 g1 c1 _ (P : Nat) w3 D2.out).mono ?_
  rintro e w4 ⟨rfl, d4, q4⟩
  have hF : Hid (p1 ≠ p2 ∧ p1 ≠ g2 ∧ g1 ≠ p2 ∧ g1 ≠ g2 ∧ w.heap.size ≤ p1 ∧ w.heap.size ≤ g1 ∧ w.heap.size ≤ p2 ∧ w.heap.size ≤ g2) := Lib.hid (by omega)
  have q4' := q4.mono (G := PG p1 g1) fun k _ h => .inl h
  have D4 := Lib.hid d4
  have D5 := Lib.hid (keep_far q4' D3.out (by have := hF.out; omega) (by have := hF.out; omega) (by have := hF.out; omega) (by have := hF.out; omega))
  have HB4 := Lib.hid (own_keep HB3.out q4' hF.out.2.2.2.2.1 hF.out.2.2.2.2.2.1)
  clear d4 q4 q4' D3 D2 HB1 HB2 HB3 hlt1 hs1 hs2 hp1 hg1 hp2 hg2 HN
  go_wp2
  go_loopw [7, 22] (fun nv iv wr => ∃ (k N : Nat) (B : List UInt8) (left : Int) (dead : Bool), k ≤ l.length ∧ iv = .int .i64 (k : Nat) ∧ N ≤ k ∧ nv = .int .i64 (N : Nat) ∧ B.length = 384 ∧ after P N left dead ∧ DAt wr p1 g1 c1 ⟨B, left, dead⟩ ∧ DAt wr p2 g2 c2 ⟨B, -1, false⟩ ∧ Below w.heap.size w wr)
    (fun _ iv _ => l.length - (intOf iv).toNat)
  case atStart => exact ⟨0, 0, b0, P, false, Nat.zero_le _, rfl, Nat.le_refl _, rfl, HZ.out, .inl ⟨Nat.zero_le _, by omega, rfl⟩, D4.out, D5.out, HB4.out⟩
  case round =>
    obtain ⟨k, N, B, left, dead, hk, rfl, hNk, rfl, hBl, haf, hd1, hd2, hb⟩ := hrel
    rename World => wr
    have HD1 := Lib.hid hd1; have HD2 := Lib.hid hd2; have HB := Lib.hid hb; have HAF := Lib.hid haf; have HBL := Lib.hid hBl
    clear hd1 hd2 hb haf hBl HB4 D4 D5
    by_cases hlt : k < l.length
    · obtain ⟨b, o, BA, cb, hA, hact⟩ := HA.out k hlt
      subst hA
      have hact' := hact.below HB.out
      have e0 := hact'.c0; have e1 := hact'.c1; have e2 := hact'.c2; have e3 := hact'.c3; have e4 := hact'.c4
      have h100 := HL100.out k hlt
      have HACT := Lib.hid hact
      have hai := hact.i1
      unfold i64In at hai
      clear hact hact'
      generalize l[k] = a at *
      obtain ⟨kind, at_, an, mask, ab⟩ := a
      simp only at e0 e1 e2 e3 e4 h100 hai
      have hwsz := HB.out.size
      have HBA : Hid (Below w.heap.size w (wr.alloc (.cells #[.int .i64 kind, .int .i64 at_, .int .i64 an, .int .u32 (mask : Nat), .slice BA ab.length cb] 32))) := Lib.hid (HB.out.alloc hwsz _)
      have HD1A := Lib.hid (HD1.out.below (balloc wr (.cells #[.int .i64 kind, .int .i64 at_, .int .i64 an, .int .u32 (mask : Nat), .slice BA ab.length cb] 32)))
      have HD2A := Lib.hid (HD2.out.below (balloc wr (.cells #[.int .i64 kind, .int .i64 at_, .int .i64 an, .int .u32 (mask : Nat), .slice BA ab.length cb] 32)))
      by_cases ha0 : at_ < 0
      · go_wp2
        go_roundw
        case rel => exact ⟨k + 1, N, B, left, dead, by omega, by go_num, by omega, rfl, HBL.out, HAF.out, HD1A.out, HD2A.out, HBA.out⟩
        case measure => simp [intOf] <;> omega
      by_cases ha6 : 6 ≤ at_
      · go_wp2
        go_roundw
        case rel => exact ⟨k + 1, N, B, left, dead, by omega, by go_num, by omega, rfl, HBL.out, HAF.out, HD1A.out, HD2A.out, HBA.out⟩
        case measure => simp [intOf] <;> omega
      rcases hok : okD ab with _ | _
      · have ho := of_decide_eq_false hok
        have q1 : ((ab.length : Int) != 0) = true := by rw [bne_iff_ne]; omega
        have q2 : ((ab.length : Int) != 64) = true := by rw [bne_iff_ne]; omega
        clear ho
        go_wp2
        go_roundw
        case rel => exact ⟨k + 1, N, B, left, dead, by omega, by go_num, by omega, rfl, HBL.out, HAF.out, HD1A.out, HD2A.out, HBA.out⟩
        case measure => simp [intOf] <;> omega
      obtain ⟨B', left', dead', hw1, haf', hBl', hw2, hBB⟩ := after_write HAF.out B HBL.out at_ ab (by omega) hok
      have ho := of_decide_eq_true hok
      have HAF2 := Lib.hid haf'; have HBL2 := Lib.hid hBl'
      have hbytes : Hid (∀ W, Below w.heap.size w W → BytesAt W BA ab) := Lib.hid (fun W hW => HACT.out.bytes.below hW)
      have hfar : Hid (0 < ab.length → ∀ a, BA = some a → a.block ≠ p1 ∧ a.block ≠ p2) := Lib.hid (fun h0 a e => by
        have h1 := HACT.out.bytes.lt h0 a e
        have h2 := hF.out
        omega)
      have hCW : Hid (∀ W, DAt W p1 g1 c1 ⟨B, left, dead⟩ → Below w.heap.size w W → Calls Try.prog 10 #[.pointer (some ⟨p1, 0, none⟩), .int .i64 at_, .slice BA ab.length cb] W fun e w' => e = .returned (.bool (decide (N < P))) ∧ DAt w' p1 g1 c1 ⟨B', left', dead'⟩ ∧ Keeps (PG p1 g1) W w') := Lib.hid (fun W hd hW => by
        have := write_any p1 g1 c1 ⟨B, left, dead⟩ at_ BA ab cb W hd (by show B.length ≤ _; rw [HBL.out]; omega) (after_wf HAF.out hP).1 (after_wf HAF.out hP).2 hai (hbytes.out W hW) (fun h0 a e => (hfar.out h0 a e).1) (by unfold maxLen; omega)
        rw [hw1] at this
        exact this)
      have hCW2 : Hid (N < P → ∀ W, DAt W p2 g2 c2 ⟨B, -1, false⟩ → Below w.heap.size w W → Calls Try.prog 10 #[.pointer (some ⟨p2, 0, none⟩), .int .i64 at_, .slice BA ab.length cb] W fun e w' => e = .returned (.bool true) ∧ DAt w' p2 g2 c2 ⟨B', -1, false⟩ ∧ Keeps (PG p2 g2) W w') := Lib.hid (fun hN W hd hW => by
        have := write_any p2 g2 c2 ⟨B, -1, false⟩ at_ BA ab cb W hd (by show B.length ≤ _; rw [HBL.out]; omega) (fun e => by cases e) (by show _ ≤ (-1 : Int) ∧ (-1 : Int) ≤ _; omega) hai (hbytes.out W hW) (fun h0 a e => (hfar.out h0 a e).2) (by unfold maxLen; omega)
        rw [hw2 hN] at this
        exact this)
      have HBB := Lib.hid hBB
      have hs5 : wr.heap.size < (wr.alloc (.cells #[.int .i64 kind, .int .i64 at_, .int .i64 an, .int .u32 (mask : Nat), .slice BA ab.length cb] 32)).heap.size := by simp
      have hr1 : (wr.alloc (.cells #[.int .i64 kind, .int .i64 at_, .int .i64 an, .int .u32 (mask : Nat), .slice BA ab.length cb] 32)).cell? ⟨wr.heap.size, 1, none⟩ = some (.int .i64 at_) := by simp
      have hr4 : (wr.alloc (.cells #[.int .i64 kind, .int .i64 at_, .int .i64 an, .int .u32 (mask : Nat), .slice BA ab.length cb] 32)).cell? ⟨wr.heap.size, 4, none⟩ = some (.slice BA ab.length cb) := by simp
      have HR1 := Lib.hid hr1; have HR4 := Lib.hid hr4
      have HPL : Hid (p1 < wr.heap.size ∧ g1 < wr.heap.size) := Lib.hid HD1.out.lt
      clear hw1 haf' hBl' hw2 hBB hok hs5 hr1 hr4
      rcases ho with ho | ho
      · have q1 : ((ab.length : Int) != 0) = false := by rw [ho]; rfl
        clear ho
        by_cases hN : N < P
        · rw [decide_eq_true hN] at hCW
          go_wp2_with fail
          refine (hCW.out _ HD1A.out HBA.out).mono ?_
          rintro e w5 ⟨rfl, d5, q5⟩
          have D5 := Lib.hid d5
          have hk1 := q5.cell HR1.out (fun e => by have := HPL.out; rcases e with e | e <;> (simp only at e; omega))
          have hk4 := q5.cell HR4.out (fun e => by have := HPL.out; rcases e with e | e <;> (simp only at e; omega))
          have E5 := Lib.hid (keep_far q5 HD2A.out (by have := hF.out; omega) (by have := hF.out; omega) (by have := hF.out; omega) (by have := hF.out; omega))
          have HB5 := Lib.hid (own_keep HBA.out q5 hF.out.2.2.2.2.1 hF.out.2.2.2.2.2.1)
          clear d5 q5
          go_wp2_with fail
          refine (hCW2.out hN w5 E5.out HB5.out).mono ?_
          rintro e w6 ⟨rfl, d6, q6⟩
          have D6 := Lib.hid d6
          have E6 := Lib.hid (keep_far q6 D5.out (by have := hF.out; omega) (by have := hF.out; omega) (by have := hF.out; omega) (by have := hF.out; omega))
          have HB6 := Lib.hid (own_keep HB5.out q6 hF.out.2.2.2.2.2.2.1 hF.out.2.2.2.2.2.2.2)
          clear d6 q6 hk1 hk4
          go_wp2
          go_roundw
          case rel => exact ⟨k + 1, N + 1, B', left', dead', by omega, by go_num, by omega, by go_num, HBL2.out, HAF2.out, E6.out, D6.out, HB6.out⟩
          case measure => simp [intOf] <;> omega
        · have hBe := HBB.out hN
          rw [decide_eq_false hN] at hCW
          go_wp2_with fail
          refine (hCW.out _ HD1A.out HBA.out).mono ?_
          rintro e w5 ⟨rfl, d5, q5⟩
          have D5 := Lib.hid d5
          have E5 : Hid (DAt w5 p2 g2 c2 ⟨B', -1, false⟩) := Lib.hid (by rw [hBe]; exact keep_far q5 HD2A.out (by have := hF.out; omega) (by have := hF.out; omega) (by have := hF.out; omega) (by have := hF.out; omega))
          have HB5 := Lib.hid (own_keep HBA.out q5 hF.out.2.2.2.2.1 hF.out.2.2.2.2.2.1)
          clear d5 q5 hBe
          go_wp2
          go_roundw
          case rel => exact ⟨k + 1, N + 1, B', left', dead', by omega, by go_num, by omega, by go_num, HBL2.out, HAF2.out, D5.out, E5.out, HB5.out⟩
          case measure => simp [intOf] <;> omega
      · have q1 : ((ab.length : Int) != 0) = true := by rw [ho]; rfl
        have q2 : ((ab.length : Int) != 64) = false := by rw [ho]; rfl
        clear ho
        by_cases hN : N < P
        · rw [decide_eq_true hN] at hCW
          go_wp2_with fail
          refine (hCW.out _ HD1A.out HBA.out).mono ?_
          rintro e w5 ⟨rfl, d5, q5⟩
          have D5 := Lib.hid d5
          have hk1 := q5.cell HR1.out (fun e => by have := HPL.out; rcases e with e | e <;> (simp only at e; omega))
          have hk4 := q5.cell HR4.out (fun e => by have := HPL.out; rcases e with e | e <;> (simp only at e; omega))
          have E5 := Lib.hid (keep_far q5 HD2A.out (by have := hF.out; omega) (by have := hF.out; omega) (by have := hF.out; omega) (by have := hF.out; omega))
          have HB5 := Lib.hid (own_keep HBA.out q5 hF.out.2.2.2.2.1 hF.out.2.2.2.2.2.1)
          clear d5 q5
          go_wp2_with fail
          refine (hCW2.out hN w5 E5.out HB5.out).mono ?_
          rintro e w6 ⟨rfl, d6, q6⟩
          have D6 := Lib.hid d6
          have E6 := Lib.hid (keep_far q6 D5.out (by have := hF.out; omega) (by have := hF.out; omega) (by have := hF.out; omega) (by have := hF.out; omega))
          have HB6 := Lib.hid (own_keep HB5.out q6 hF.out.2.2.2.2.2.2.1 hF.out.2.2.2.2.2.2.2)
          clear d6 q6 hk1 hk4
          go_wp2
          go_roundw
          case rel => exact ⟨k + 1, N + 1, B', left', dead', by omega, by go_num, by omega, by go_num, HBL2.out, HAF2.out, E6.out, D6.out, HB6.out⟩
          case measure => simp [intOf] <;> omega
        · have hBe := HBB.out hN
          rw [decide_eq_false hN] at hCW
          go_wp2_with fail
          refine (hCW.out _ HD1A.out HBA.out).mono ?_
          rintro e w5 ⟨rfl, d5, q5⟩
          have D5 := Lib.hid d5
          have E5 : Hid (DAt w5 p2 g2 c2 ⟨B', -1, false⟩) := Lib.hid (by rw [hBe]; exact keep_far q5 HD2A.out (by have := hF.out; omega) (by have := hF.out; omega) (by have := hF.out; omega) (by have := hF.out; omega))
          have HB5 := Lib.hid (own_keep HBA.out q5 hF.out.2.2.2.2.1 hF.out.2.2.2.2.2.1)
          clear d5 q5 hBe
          go_wp2
          go_roundw
          case rel => exact ⟨k + 1, N + 1, B', left', dead', by omega, by go_num, by omega, by go_num, HBL2.out, HAF2.out, D5.out, E5.out, HB5.out⟩
          case measure => simp [intOf] <;> omega
    · obtain rfl : k = l.length := by omega
      have hdd := after_dead HAF.out
      have hI1 := image_any p1 g1 c1 _ wr HD1.out (by show B.length ≤ _; rw [HBL.out]; omega)
      go_wp2_with fail
      refine hI1.mono ?_
      rintro e w5 ⟨v5, rfl, ho5, hb5⟩
      obtain ⟨X, d, rfl, _, _, hX⟩ := ho5.bytes
      have HX := Lib.hid hX
      have HD1 := Lib.hid (HD1.out.below hb5); have HD2 := Lib.hid (HD2.out.below hb5)
      have HB5 := Lib.hid (HB.out.trans (hb5.mono HB.out.size))
      clear ho5 hX hI1 hb5
      have hI2 := image_any p2 g2 c2 _ w5 HD2.out (by show B.length ≤ _; rw [HBL.out]; omega)
      go_wp2_with fail
      refine hI2.mono ?_
      rintro e w6 ⟨v6, rfl, ho6, hb6⟩
      obtain ⟨Y, dy, rfl, _, _, hY⟩ := ho6.bytes
      have HY := Lib.hid hY
      have HX := Lib.hid (HX.out.below hb6)
      have HD1 := Lib.hid (HD1.out.below hb6)
      have HB6 := Lib.hid (HB5.out.trans (hb6.mono HB5.out.size))
      clear ho6 hY hI2 hb6
      go_wp2_with fail
      refine (R01.same_eq X Y B B d dy w6 HX.out HY.out (by rw [HBL.out]; unfold maxLen; omega) rfl).mono ?_
      rintro e w7 ⟨rfl, hq⟩
      have hb7 := bquiet hq
      have HD1 := Lib.hid (HD1.out.below hb7)
      have HB7 := Lib.hid (HB6.out.trans (hb7.mono HB6.out.size))
      clear hq hb7
      have hDe := dead_any p1 g1 c1 _ w7 HD1.out
      simp only at hDe
      rw [hdd] at hDe
      by_cases hPN : P < N
      · rw [decide_eq_true hPN] at hDe
        clear hdd
        go_wp2_with fail
        refine hDe.mono ?_
        rintro e w8 ⟨rfl, rfl⟩
        go_wp2_with fail
        refine (alive_any w7).mono ?_
        rintro e w9 ⟨rfl, hb9⟩
        have HB9 := Lib.hid (HB7.out.trans (hb9.mono HB7.out.size))
        go_wp2
        go_ret
        exact ⟨rfl, HB9.out⟩
      · rw [decide_eq_false hPN] at hDe
        clear hdd
        go_wp2_with fail
        refine hDe.mono ?_
        rintro e w8 ⟨rfl, rfl⟩
        go_wp2_with fail
        refine (alive_any w7).mono ?_
        rintro e w9 ⟨rfl, hb9⟩
        have HB9 := Lib.hid (HB7.out.trans (hb9.mono HB7.out.size))
        go_wp2
        go_ret
        exact ⟨rfl, HB9.out⟩
end Go.Proofs.Yteiemkaeeghhhaa.Law16
