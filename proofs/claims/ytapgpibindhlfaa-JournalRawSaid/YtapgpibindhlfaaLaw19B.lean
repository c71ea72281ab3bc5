/- the walk of JournalRaw -/
import Derived.Test.YtapgpibindhlfaaMLJ
import Derived.Test.YtapgpibindhlfaaMRJ
import Derived.Test.YtapgpibindhlfaaSkip
set_option maxRecDepth 100000
namespace Go.Proofs.Ytapgpibindhlfaa.Law19
open Go.RowKit EntM DiskM JourM Disk Jour
open Law16 (Fine nrm nrm_write)

theorem nrm_runW (m : Dk) (cs : List Ch) : runW (nrm m) cs = (nrm (runW m cs).1, (runW m cs).2) := by
  induction cs generalizing m with
  | nil => rfl
  | cons c cs ih =>
    rw [runW_cons, runW_cons, nrm_write]
    simp only
    split
    · exact ih _
    · rfl
theorem write_still {b s : List UInt8} {n : Nat} (i : Int) (hb : b.length = 64 * n) (hs : s.length = 64) : ∃ b', ((⟨b, -1, false⟩ : Dk).write i s).1 = ⟨b', -1, false⟩ ∧ b'.length = 64 * n := by
  rcases hi : isS b i with _ | _
  · exact ⟨b, by rw [show (⟨b, -1, false⟩ : Dk).write i s = (⟨b, -1, false⟩, false) from Disk.write_no (m := ⟨b, -1, false⟩) hi], hb⟩
  · have e2 : okD s = true := decide_eq_true (.inr hs)
    have := R16.write_goes (m := ⟨b, -1, false⟩) (i := i) (d := s) hi e2 (by simp) rfl
    rw [this]
    exact ⟨setS b i.toNat (DiskM.full s), rfl, by rw [setS_len _ _ _ (isS_fit hi).1 (full_len s e2), hb]⟩
set_option maxHeartbeats 8000000 in
theorem raw_any (n : UInt8) (A : Option Addr) (l : List (List UInt8)) (cl : Nat) (pw : Int) (w : World) (h : RowsAt w A l) (hlc : l.length ≤ cl) (hcm : cl ≤ maxLen) (hpw : -9223372036854775808 ≤ pw ∧ pw ≤ 9223372036854775807) :
    Calls Try.prog 4 #[.int .u8 (n.toNat : Nat), .slice A l.length cl, .int .i64 pw] w fun e w' => e = .returned (.bool true) ∧ Below w.heap.size w w' := by
  have hl64 : l.length ≤ 9223372036854775807 := by unfold maxLen at hcm; omega
  obtain ⟨ln, hln⟩ : ∃ ln, ln = l.length := ⟨_, rfl⟩
  have HLN := Lib.hid hln
  rw [← hln] at hlc hl64 ⊢
  have HA := Lib.hid h
  clear h hln
  by_cases h34 : 34 < ln
  · go_enter Try.func4, Try.ntmps4
    go_wp2_with fail
    refine (alive_any w).mono ?_
    rintro e w2 ⟨rfl, hb2⟩
    go_wp2
    go_ret
    exact ⟨rfl, hb2⟩
  obtain ⟨y, hy⟩ : ∃ y, y = n.toNat % 60 := ⟨_, rfl⟩
  have hy60 : y < 60 := by rw [hy]; exact Nat.mod_lt _ (by omega)
  have i1 : (((n.toNat : Nat) : Int)).tmod 60 = ((y : Nat) : Int) := by rw [hy]; rfl
  have i2 : (((n.toNat : Nat) : Int)) % 60 = ((y : Nat) : Int) := by rw [hy]; rfl
  have i3 : IntKind.i64.wrap ((y : Nat) : Int) = ((y : Nat) : Int) := IntWalk.i64_in _ (by omega)
  have CS := Lib.hid (fun W A c (hA : BytesAt W A [5]) => some_any y A [5] c W (by omega) hA (by simp) (by simp))
  obtain ⟨z, hz⟩ : ∃ z, z = size (y : Int) := ⟨_, rfl⟩
  have hsz := size_range (y : Int)
  have hz60 := (size_small (n := y) (by omega)).1
  rw [← hz] at CS hsz hz60
  have HSZ := Lib.hid hsz; have HZ60 := Lib.hid hz60
  have CW1 := Lib.hid (fun W p g c b (i : Nat) X (s : List UInt8) cs (hd : DAt W p g c ⟨b, -1, false⟩) (hb : b.length = 64 * z) (hi : i < 100) (hX : BytesAt W X s) (hs : s.length = 64) (hp : 0 < s.length → ∀ a, X = some a → a.block ≠ p) => write_any p g c ⟨b, -1, false⟩ ((i : Nat) : Int) X s cs W hd (by show b.length ≤ _; omega) (fun e => nomatch e) ⟨by show _ ≤ (-1 : Int); omega, by show (-1 : Int) ≤ _; omega⟩ (by omega) hX hp (by rw [hs]; unfold maxLen; omega))
  have CW2 := Lib.hid (fun W p g c b (i : Nat) X (s : List UInt8) cs (hd : DAt W p g c ⟨b, -1, false⟩) (hb : b.length = 64 * z) (hX : BytesAt W X s) (hs : s.length = 64) (hp : 0 < s.length → ∀ a, X = some a → a.block ≠ p ∧ a.block ≠ g) => R16.write_any p g c ⟨b, -1, false⟩ ((i : Nat) : Int) X s cs W hd (by show b.length ≤ _; omega) ⟨by show _ ≤ (-1 : Int); omega, by show (-1 : Int) ≤ _; omega⟩ hX hp (by rw [hs]; unfold maxLen; omega))
  have HWS : Hid (∀ (b s : List UInt8) (i : Nat), b.length = 64 * z → s.length = 64 → ∃ b', ((⟨b, -1, false⟩ : Dk).write ((i : Nat) : Int) s).1 = ⟨b', -1, false⟩ ∧ b'.length = 64 * z) := Lib.hid fun b s i hb hs => write_still _ hb hs
  clear hy hz hsz hz60
  go_enter Try.func4, Try.ntmps4
  go_wp2_with fail
  refine (Crc.new_any _).mono ?_
  rintro e w1 ⟨tb, rfl, ht, hb1⟩
  have hb2 := balloc w1 (.cells #[.int .u8 5] 5)
  have HT2 := Lib.hid (ht.below hb2)
  have HB2 := Lib.hid (bstep hb1 hb2)
  have htl : tb < w1.heap.size := cell_lt (a := ⟨tb, 0, none⟩) (ht 0 (by decide))
  have hlit : BytesAt (w1.alloc (.cells #[.int .u8 5] 5)) (some ⟨w1.heap.size, 0, none⟩) [5] := bytes_mark w1 [5] (0, 0) w1.heap.size rfl
  have C2 := Lib.hid (CS.out _ _ 1 hlit)
  have hz2 : (w1.alloc (.cells #[.int .u8 5] 5)).heap.size = w1.heap.size + 1 := by simp
  clear ht hb1 hb2 hlit CS
  go_wp2_with fail
  refine C2.out.mono ?_
  rintro e w3 ⟨p1, g1, c1, p2, g2, c2, b0, rfl, hpr, hbl0, -⟩
  have hwz := HB2.out.size
  have hn1 := hpr.n1; have hn2 := hpr.n2
  have HTB : Hid (tb ≠ p1 ∧ tb ≠ g1 ∧ tb ≠ p2 ∧ tb ≠ g2) := Lib.hid (by omega)
  have HT3 := Lib.hid (HT2.out.below hpr.below)
  have HP3 : Hid (Pair w p1 g1 c1 p2 g2 c2 ⟨b0, -1, false⟩ ⟨b0, -1, false⟩ w3) := Lib.hid ⟨hpr.d1, hpr.d2, ⟨by omega, by omega⟩, ⟨by omega, by omega⟩, hpr.apart, bstep HB2.out hpr.below⟩
  have HL0 := Lib.hid hbl0
  clear hpr hbl0 hwz hn1 hn2 hz2 htl HT2 HB2 C2
  have HTK : Hid (∀ W W', Crc.Tab W tb → Keeps (fun k => PG p1 g1 k ∨ PG p2 g2 k) W W' → Crc.Tab W' tb) := Lib.hid fun W W' hT q i hi => q.cell (hT i hi) (fun e => by
    have := HTB.out
    rcases e with (e | e) | (e | e) <;> (simp only at e; omega))
  go_wp2
  go_loopw [30] (fun iv wr => ∃ (k : Nat) (b : List UInt8), k ≤ ln ∧ iv = .int .i64 (k : Nat) ∧ Pair w p1 g1 c1 p2 g2 c2 ⟨b, -1, false⟩ ⟨b, -1, false⟩ wr ∧ b.length = 64 * z ∧ Crc.Tab wr tb)
    (fun iv _ => ln - (intOf iv).toNat)
  case atStart => exact ⟨0, b0, by omega, rfl, HP3.out, HL0.out, HT3.out⟩
  case round =>
    obtain ⟨k, b, hk, rfl, hpr, hbl, htk⟩ := hrel
    rename World => w4
    have HP := Lib.hid hpr; have HBL := Lib.hid hbl; have HT := Lib.hid htk
    clear hpr hbl htk HP3 HL0 HT3
    by_cases hlt : k < ln
    · have hk2 : k < l.length := by rw [← HLN.out]; exact hlt
      obtain ⟨bx, ox, B, d, hAe, e1, x1, x2, hX0⟩ := HA.out.row hk2
      have hXl : 0 < l[k].length → ∀ a, B = some a → a.block < w.heap.size := fun h a e => hX0.lt h a e
      have e1' := (HP.out.below.cell (p := ⟨bx, ox + k, none⟩) (cell_lt e1)).trans e1
      have HX := Lib.hid (hX0.below HP.out.below)
      have HXL := Lib.hid hXl
      subst hAe
      have hxn : l[k].length ≤ 9223372036854775807 := by unfold maxLen at x2; omega
      generalize l[k] = s at *
      obtain ⟨sn, hsn⟩ : ∃ sn, sn = s.length := ⟨_, rfl⟩
      have HSN := Lib.hid hsn
      rw [← hsn] at e1' x1 hxn
      clear e1 hX0 hXl hsn
      by_cases h64 : sn = 64
      · subst h64
        obtain ⟨a, ha⟩ : ∃ a, a = 1 + k := ⟨_, rfl⟩
        have haw : IntKind.i64.wrap (1 + ((k : Nat) : Int)) = ((a : Nat) : Int) := by rw [IntWalk.i64_in _ (by omega)]; omega
        have hpn := HP.out
        have C1 := CW1.out w4 p1 g1 c1 b a B s d hpn.d1 HBL.out (by omega) HX.out HSN.out.symm (fun h0 x e => by have := HXL.out h0 x e; have := hpn.n1; omega)
        rw [← HSN.out] at C1
        have C1h := Lib.hid C1
        obtain ⟨b', hb', hbl'⟩ := HWS.out b s a HBL.out HSN.out.symm
        obtain ⟨r, hr⟩ : ∃ r, r = ((⟨b, -1, false⟩ : Dk).write ((a : Nat) : Int) s).2 := ⟨_, rfl⟩
        rw [hb', ← hr] at C1h
        have C2 := Lib.hid (fun W (hd : DAt W p2 g2 c2 ⟨b, -1, false⟩) (hX : BytesAt W B s) => CW2.out W p2 g2 c2 b a B s d hd HBL.out hX HSN.out.symm (fun h0 x e => by have := HXL.out h0 x e; have := hpn.n2; omega))
        rw [← HSN.out, hb', ← hr] at C2
        have HBL' := Lib.hid hbl'
        clear C1 hb' hbl' hr hpn ha
        go_wp2_with fail
        refine C1h.out.mono ?_
        rintro e w5 ⟨rfl, hd5, hk5⟩
        have HP5 := Lib.hid (HP.out.step1 hd5 hk5)
        have hX5 := hk5.bytes' HX.out (fun h0 x e => Off.not (by have := HXL.out h0 x e; have := HP.out.n1; exact ⟨by omega, by omega⟩))
        have C2h := Lib.hid (C2.out w5 HP5.out.d2 hX5)
        have HT5 := Lib.hid (HTK.out w4 w5 HT.out (hk5.mono fun _ _ h => .inl h))
        clear hd5 hk5 hX5 C2 C1h
        go_wp2_with fail
        refine C2h.out.mono ?_
        rintro e w6 ⟨rfl, hd6, hk6⟩
        have HP6 := Lib.hid (HP5.out.step2 hd6 hk6)
        have HT6 := Lib.hid (HTK.out w5 w6 HT5.out (hk6.mono fun _ _ h => .inr h))
        clear hd6 hk6 C2h
        go_wp2
        go_roundw
        case rel => exact ⟨k + 1, b', by omega, by go_num, HP6.out, HBL'.out, HT6.out⟩
        case measure => simp [intOf] <;> omega
      · have hq : (((sn : Nat) : Int) != 64) = true := by rw [bne_iff_ne]; omega
        go_wp2
        go_roundw
        case rel => exact ⟨k + 1, b, by omega, by go_num, HP.out, HBL.out, HT.out⟩
        case measure => simp [intOf] <;> omega
    · have hfin : Fine ⟨b, pw, false⟩ := ⟨(fun e => nomatch e), hpw⟩
      have CP1 := Lib.hid (power_any p1 g1 c1 ⟨b, -1, false⟩ pw w4 HP.out.d1)
      have HBL2 : Hid ((⟨b, pw, false⟩ : Dk).b.length = 64 * z) := HBL
      have HFI := Lib.hid hfin
      clear hfin
      go_wp2_with fail
      refine CP1.out.mono ?_
      rintro e w5 ⟨rfl, hd5, hk5⟩
      have HP5 := Lib.hid (HP.out.step1 hd5 (hk5.mono (G := PG p1 g1) fun _ _ h => .inl h))
      have HT5 := Lib.hid (HTK.out w4 w5 HT.out (hk5.mono fun _ _ h => .inl (.inl h)))
      clear hd5 hk5 CP1
      go_wp2_with fail
      refine (R16.power_any p2 g2 c2 ⟨b, -1, false⟩ pw w5 HP5.out.d2).mono ?_
      rintro e w6 ⟨rfl, hd6, hk6⟩
      rw [show (⟨b, -1, false⟩ : Dk).power pw = nrm ⟨b, pw, false⟩ from rfl] at hd6
      have HP6 := Lib.hid (HP5.out.step2 hd6 (hk6.mono (G := PG p2 g2) fun _ _ h => .inl h))
      have HT6 := Lib.hid (HTK.out w5 w6 HT5.out (hk6.mono fun _ _ h => .inr (.inl h)))
      clear hd6 hk6
      have CRC := Lib.hid (recover_any tb p1 g1 c1 z ⟨b, pw, false⟩ w6 HT6.out HP6.out.d1 HBL2.out (by have := HSZ.out; omega) HFI.out)
      have CAG := Lib.hid (fun W (hd : DAt W p2 g2 c2 (nrm ⟨b, pw, false⟩)) => R19.again_any p2 g2 c2 z (nrm ⟨b, pw, false⟩) W hd HBL2.out (by have := HSZ.out; omega))
      rw [show (nrm ⟨b, pw, false⟩).b = b from rfl] at CAG
      have hinr : R19.InR (nrm ⟨b, pw, false⟩).left := Law16.nrm_range HFI.out
      have CWA := Lib.hid (fun W X d (hd : DAt W p2 g2 c2 (nrm ⟨b, pw, false⟩)) hX hXa hll => R19.writeAll_any p2 g2 c2 (nrm ⟨b, pw, false⟩) X (againN z b) d W hd (by show b.length ≤ _; rw [HBL.out]; have := HZ60.out; omega) hinr hX hXa hll)
      rw [nrm_runW] at CWA
      have hrl : (recD z ⟨b, pw, false⟩).1.b.length = 64 * z := by unfold recD; rw [runW_len]; exact HBL.out
      have hcl2 := fun hok => recD_clean (n := z) (m := ⟨b, pw, false⟩) HBL2.out hok
      rw [show runW ⟨b, pw, false⟩ (againN z b) = recD z ⟨b, pw, false⟩ from rfl] at CWA
      have hag : (againN z b).length ≤ 1000000 := by
        unfold againN
        rw [List.length_append]
        have h1 := (said_may z b).1.few
        have h2 : (clearsN z b).length ≤ 33 := by rw [← R19.clearsTo_all]; exact R19.clearsTo_len _ _ _
        omega
      generalize recD z ⟨b, pw, false⟩ = st at *
      obtain ⟨m9, ok⟩ := st
      simp only at CRC CWA hrl hcl2
      have HRL := Lib.hid hrl; have HCL2 := Lib.hid hcl2; have HAG := Lib.hid hag
      obtain ⟨E, hE⟩ : ∃ E : Int, E = (if ok = true then 0 else 15) := ⟨_, rfl⟩
      rw [← hE] at CRC CWA
      have HE := Lib.hid hE
      clear hinr hrl hcl2 hag hE HP HP5 HT HT5
      go_wp2_with fail
      refine CRC.out.mono ?_
      rintro e w7 ⟨rfl, hd7, hk7⟩
      have HP7 := Lib.hid (HP6.out.step1 hd7 hk7)
      have HT7 := Lib.hid (HTK.out w6 w7 HT6.out (hk7.mono fun _ _ h => .inl h))
      have CA2 := Lib.hid (CAG.out w7 HP7.out.d2)
      have hlt7 := HP7.out.lt
      clear hd7 hk7 CRC CAG HP6 HT6
      generalize againN z b = AG at *
      go_wp2_with fail
      refine CA2.out.mono ?_
      rintro e w8 ⟨X8, d8, rfl, y1, y2, y3, hb8, y4⟩
      have HP8 := Lib.hid (HP7.out.step hb8)
      have CW8 := Lib.hid (CWA.out w8 X8 d8 HP8.out.d2 (y3.mono fun k _ hk => ⟨by omega, by omega⟩) (fun _ a e => by have := y4 a e; exact ⟨by omega, by omega⟩) HAG.out)
      have HT8 := Lib.hid (HT7.out.below hb8)
      clear y3 y4 hb8 CA2 CWA HP7 HT7 hlt7
      generalize AG.length = agn at *
      go_wp2_with fail
      refine CW8.out.mono ?_
      rintro e w9 ⟨rfl, hd9, hk9⟩
      have HP9 := Lib.hid (HP8.out.step2 hd9 hk9)
      have HEB := HP9.out.d2.c0
      clear hd9 hk9 CW8 HP8 HT8
      have hb9l : m9.b.length ≤ 32768 := by rw [HRL.out]; have := HZ60.out; omega
      have CIM : Hid (∀ W, Below w9.heap.size w9 W → Calls Try.prog 15 #[.pointer (some ⟨p1, 0, none⟩)] W (Disk.RetOwn W m9.b)) := Lib.hid fun W hb => image_any p1 g1 c1 m9 W (HP9.out.d1.below hb) hb9l
      have CCL : Hid (∀ W, Below w9.heap.size w9 W → Calls Try.prog 14 #[.pointer (some ⟨p1, 0, none⟩)] W fun e w' => e = .returned (.bool (cleanV z m9.b)) ∧ Below W.heap.size W w') := Lib.hid fun W hb => clean_any p1 g1 c1 z m9 W (HP9.out.d1.below hb) HRL.out (by have := HSZ.out; omega)
      have CSA : Hid (∀ W X d, Below w9.heap.size w9 W → BytesAt W X m9.b → m9.b.length ≤ maxLen → Calls Try.prog 16 #[.slice X m9.b.length d, .slice (some ⟨g2, 0, none⟩) m9.b.length c2] W fun e w' => e = .returned (.bool true) ∧ ∃ n, w' = W.drewN n) := Lib.hid fun W X d hb hX hm => R01.same_eq X (some ⟨g2, 0, none⟩) m9.b m9.b d c2 W hX ((HP9.out.d2.bytes).below hb) hm rfl
      have hml : m9.b.length ≤ maxLen := by unfold maxLen; omega
      rw [show (nrm (m9, ok).1).b = m9.b from rfl] at HEB
      generalize m9.b = b9 at *
      have EB := Lib.hid HEB
      clear HEB hb9l CW1 CW2 HWS HTK i1 i2 i3 hy60 hl64 hlc hcm hpw HA HLN HSZ HZ60 HTB h34 hlt HBL HBL2 HFI HRL HAG hk
      cases ok
      · have he := HE.out
        rw [if_neg (by decide)] at he
        subst he
        clear CCL HCL2
        go_wp2_with fail
        refine Drawn.wp_region_flowL 35 [Drawn.SP.is (.int .i64 15), Drawn.SP.is (.int .i64 15), Drawn.SP.is (.bool true), Drawn.SP.is (.bool true), Drawn.SP.is (.pointer (some ⟨p1, 0, none⟩)), Drawn.SP.bytes b9, Drawn.SP.is (.pointer (some ⟨p2, 0, none⟩)), Drawn.SP.is (.pointer (some ⟨p2, 0, none⟩)), Drawn.SP.is (.pointer (some ⟨p2, 0, none⟩)), Drawn.SP.is (.slice (some ⟨g2, 0, none⟩) b9.length c2), Drawn.SP.is (.bool true), Drawn.SP.is (.bool true), Drawn.SP.is (.bool true), Drawn.SP.is (.int .i64 15), Drawn.SP.is (.bool true), Drawn.SP.is (.bool true), Drawn.SP.is (undef), Drawn.SP.is (undef), Drawn.SP.is (.bool true), Drawn.SP.is (.bool true), Drawn.SP.is (.bool true), Drawn.SP.is (.pointer (some ⟨tb, 0, none⟩)), Drawn.SP.is (.pointer none), Drawn.SP.is (.int .i64 15), Drawn.SP.is (.bool true), Drawn.SP.is (.bool true), Drawn.SP.is (.bool true), Drawn.SP.is (.pointer none), Drawn.SP.is (.bool false), Drawn.SP.is (.bool true), Drawn.SP.is (.bool true), Drawn.SP.is (.bool true), Drawn.SP.is (.bool true), Drawn.SP.is (.bool true), Drawn.SP.is (.bool true)] (by kernel_rfl) (by kernel_rfl) ?_ ?_
        · intro i hi a w1 hb hev hdep
          rcases (show i = 0 ∨ i = 1 ∨ i = 2 ∨ i = 3 ∨ i = 4 ∨ i = 5 ∨ i = 6 ∨ i = 7 ∨ i = 8 ∨ i = 9 ∨ i = 10 ∨ i = 11 ∨ i = 12 ∨ i = 13 ∨ i = 14 ∨ i = 15 ∨ i = 16 ∨ i = 17 ∨ i = 18 ∨ i = 19 ∨ i = 20 ∨ i = 21 ∨ i = 22 ∨ i = 23 ∨ i = 24 ∨ i = 25 ∨ i = 26 ∨ i = 27 ∨ i = 28 ∨ i = 29 ∨ i = 30 ∨ i = 31 ∨ i = 32 ∨ i = 33 ∨ i = 34 by omega) with rfl | rfl | rfl | rfl | rfl | rfl | rfl | rfl | rfl | rfl | rfl | rfl | rfl | rfl | rfl | rfl | rfl | rfl | rfl | rfl | rfl | rfl | rfl | rfl | rfl | rfl | rfl | rfl | rfl | rfl | rfl | rfl | rfl | rfl | rfl
          · have e12 : a.tmps[12]?.getD undef = .int .i64 15 := hev 12 rfl
            refine Drawn.wpOp_flow 62 rfl rfl rfl ?_
            clear hev hdep hb
            go_simp
            exact ⟨_, rfl, rfl, Below.refl _ _⟩
          · have e13 : a.tmps[13]?.getD undef = .int .i64 15 := hev 13 rfl
            refine Drawn.wpOp_flow 63 rfl rfl rfl ?_
            clear hev hdep hb
            go_simp
            exact ⟨_, rfl, rfl, Below.refl _ _⟩
          · have d0 : a.tmps[62]?.getD undef = .int .i64 15 := hdep 0 rfl
            have d1 : a.tmps[63]?.getD undef = .int .i64 15 := hdep 1 rfl
            refine Drawn.wpOp_flow 64 rfl rfl rfl ?_
            clear hev hdep hb
            go_simp
            exact ⟨_, rfl, rfl, Below.refl _ _⟩
          · have d2 : a.tmps[64]?.getD undef = .bool true := hdep 2 rfl
            refine Drawn.wpOp_flow 65 rfl rfl rfl ?_
            clear hev hdep hb
            go_simp
            exact ⟨_, rfl, rfl, Below.refl _ _⟩
          · have e8 : a.tmps[8]?.getD undef = .pointer (some ⟨p1, 0, none⟩) := hev 8 rfl
            have dg : a.tmps[65]?.getD undef = .bool true := hdep 3 rfl
            refine Drawn.wpOp_flow 66 rfl (Drawn.wanted_of rfl rfl rfl dg) rfl ?_
            clear dg
            clear hev hdep hb
            go_simp
            exact ⟨_, rfl, rfl, Below.refl _ _⟩
          · have d4 : a.tmps[66]?.getD undef = .pointer (some ⟨p1, 0, none⟩) := hdep 4 rfl
            have dg : a.tmps[65]?.getD undef = .bool true := hdep 3 rfl
            refine Drawn.wpOp_flow 67 rfl (Drawn.wanted_of rfl rfl rfl dg) rfl ?_
            clear hev hdep
            have C := CIM.out w1 hb
            clear hb
            go_simp
            refine C.mono ?_
            rintro e w' ⟨v, rfl, ho, hb'⟩
            obtain ⟨X, d, rfl, q1, q2, q3⟩ := ho.bytes
            exact ⟨_, rfl, ⟨X, d, rfl, q1, q2, q3⟩, hb'⟩
          · have e9 : a.tmps[9]?.getD undef = .pointer (some ⟨p2, 0, none⟩) := hev 9 rfl
            have dg : a.tmps[65]?.getD undef = .bool true := hdep 3 rfl
            refine Drawn.wpOp_flow 68 rfl (Drawn.wanted_of rfl rfl rfl dg) rfl ?_
            clear dg
            clear hev hdep hb
            go_simp
            exact ⟨_, rfl, rfl, Below.refl _ _⟩
          · have d6 : a.tmps[68]?.getD undef = .pointer (some ⟨p2, 0, none⟩) := hdep 6 rfl
            have dg : a.tmps[65]?.getD undef = .bool true := hdep 3 rfl
            refine Drawn.wpOp_flow 69 rfl (Drawn.wanted_of rfl rfl rfl dg) rfl ?_
            clear dg
            clear hev hdep hb
            go_simp
            exact ⟨_, rfl, rfl, Below.refl _ _⟩
          · have d7 : a.tmps[69]?.getD undef = .pointer (some ⟨p2, 0, none⟩) := hdep 7 rfl
            have dg : a.tmps[65]?.getD undef = .bool true := hdep 3 rfl
            refine Drawn.wpOp_flow 70 rfl (Drawn.wanted_of rfl rfl rfl dg) rfl ?_
            clear dg
            clear hev hdep hb
            go_simp
            exact ⟨_, rfl, rfl, Below.refl _ _⟩
          · have d8 : a.tmps[70]?.getD undef = .pointer (some ⟨p2, 0, none⟩) := hdep 8 rfl
            have dg : a.tmps[65]?.getD undef = .bool true := hdep 3 rfl
            refine Drawn.wpOp_flow 71 rfl (Drawn.wanted_of rfl rfl rfl dg) rfl ?_
            have k1 := (hb.cell (p := ⟨p2, 0, none⟩) (cell_lt EB.out)).trans EB.out
            clear dg
            clear hev hdep hb
            go_simp
            exact ⟨_, rfl, rfl, Below.refl _ _⟩
          · obtain ⟨Xd5, dd5, d5, hd5, kd5, qd5⟩ : (Drawn.SP.bytes b9).p (a.tmps[67]?.getD undef) w1 := hdep 5 rfl
            have d9 : a.tmps[71]?.getD undef = .slice (some ⟨g2, 0, none⟩) b9.length c2 := hdep 9 rfl
            have dg : a.tmps[65]?.getD undef = .bool true := hdep 3 rfl
            refine Drawn.wpOp_flow 72 rfl (Drawn.wanted_of rfl rfl rfl dg) rfl ?_
            clear hev hdep
            have C := CSA.out w1 Xd5 dd5 hb qd5 hml
            clear hb
            go_simp
            refine C.mono ?_
            rintro e w' ⟨rfl, hq⟩
            exact ⟨_, rfl, rfl, bquiet hq⟩
          · have d3 : a.tmps[65]?.getD undef = .bool true := hdep 3 rfl
            have d10 : a.tmps[72]?.getD undef = .bool true := hdep 10 rfl
            refine Drawn.wpOp_flow 73 rfl rfl rfl ?_
            clear hev hdep hb
            go_simp
            exact ⟨_, rfl, rfl, Below.refl _ _⟩
          · have d11 : a.tmps[73]?.getD undef = .bool true := hdep 11 rfl
            refine Drawn.wpOp_flow 74 rfl rfl rfl ?_
            clear hev hdep hb
            go_simp
            exact ⟨_, rfl, rfl, Below.refl _ _⟩
          · have e12 : a.tmps[12]?.getD undef = .int .i64 15 := hev 12 rfl
            have dg : a.tmps[74]?.getD undef = .bool true := hdep 12 rfl
            refine Drawn.wpOp_flow 75 rfl (Drawn.wanted_of rfl rfl rfl dg) rfl ?_
            clear dg
            clear hev hdep hb
            go_simp
            exact ⟨_, rfl, rfl, Below.refl _ _⟩
          · have d13 : a.tmps[75]?.getD undef = .int .i64 15 := hdep 13 rfl
            have dg : a.tmps[74]?.getD undef = .bool true := hdep 12 rfl
            refine Drawn.wpOp_flow 76 rfl (Drawn.wanted_of rfl rfl rfl dg) rfl ?_
            clear dg
            clear hev hdep hb
            go_simp
            exact ⟨_, rfl, rfl, Below.refl _ _⟩
          · have d14 : a.tmps[76]?.getD undef = .bool true := hdep 14 rfl
            have dg : a.tmps[74]?.getD undef = .bool true := hdep 12 rfl
            refine Drawn.wpOp_flow 77 rfl (Drawn.wanted_of rfl rfl rfl dg) rfl ?_
            clear dg
            clear hev hdep hb
            go_simp
            exact ⟨_, rfl, rfl, Below.refl _ _⟩
          · have dg : a.tmps[77]?.getD undef = .bool true := hdep 15 rfl
            exact Drawn.wpOp_flow_skip 78 rfl (Drawn.unwanted_of rfl rfl rfl dg rfl) rfl rfl
          · have dg : a.tmps[77]?.getD undef = .bool true := hdep 15 rfl
            exact Drawn.wpOp_flow_skip 79 rfl (Drawn.unwanted_of rfl rfl rfl dg rfl) rfl rfl
          · have d15 : a.tmps[77]?.getD undef = .bool true := hdep 15 rfl
            have d17 : a.tmps[79]?.getD undef = undef := hdep 17 rfl
            have dg : a.tmps[74]?.getD undef = .bool true := hdep 12 rfl
            refine Drawn.wpOp_flow 80 rfl (Drawn.wanted_of rfl rfl rfl dg) rfl ?_
            clear dg
            clear hev hdep hb
            go_simp
            exact ⟨_, rfl, rfl, Below.refl _ _⟩
          · have d12 : a.tmps[74]?.getD undef = .bool true := hdep 12 rfl
            have d18 : a.tmps[80]?.getD undef = .bool true := hdep 18 rfl
            refine Drawn.wpOp_flow 81 rfl rfl rfl ?_
            clear hev hdep hb
            go_simp
            exact ⟨_, rfl, rfl, Below.refl _ _⟩
          · have d19 : a.tmps[81]?.getD undef = .bool true := hdep 19 rfl
            refine Drawn.wpOp_flow 82 rfl rfl rfl ?_
            clear hev hdep hb
            go_simp
            exact ⟨_, rfl, rfl, Below.refl _ _⟩
          · have e7 : a.tmps[7]?.getD undef = .pointer (some ⟨tb, 0, none⟩) := hev 7 rfl
            have dg : a.tmps[82]?.getD undef = .bool true := hdep 20 rfl
            refine Drawn.wpOp_flow 83 rfl (Drawn.wanted_of rfl rfl rfl dg) rfl ?_
            clear dg
            clear hev hdep hb
            go_simp
            exact ⟨_, rfl, rfl, Below.refl _ _⟩
          · have e14 : a.tmps[14]?.getD undef = .pointer none := hev 14 rfl
            have dg : a.tmps[82]?.getD undef = .bool true := hdep 20 rfl
            refine Drawn.wpOp_flow 84 rfl (Drawn.wanted_of rfl rfl rfl dg) rfl ?_
            clear dg
            clear hev hdep hb
            go_simp
            exact ⟨_, rfl, rfl, Below.refl _ _⟩
          · have d21 : a.tmps[83]?.getD undef = .pointer (some ⟨tb, 0, none⟩) := hdep 21 rfl
            have d22 : a.tmps[84]?.getD undef = .pointer none := hdep 22 rfl
            have dg : a.tmps[82]?.getD undef = .bool true := hdep 20 rfl
            refine Drawn.wpOp_flow 85 rfl (Drawn.wanted_of rfl rfl rfl dg) rfl ?_
            clear hev hdep
            have C := recover_none tb w1
            clear hb
            go_simp
            refine C.mono ?_
            rintro e w' ⟨rfl, rfl⟩
            exact ⟨_, rfl, rfl, Below.refl _ _⟩
          · have d23 : a.tmps[85]?.getD undef = .int .i64 15 := hdep 23 rfl
            have dg : a.tmps[82]?.getD undef = .bool true := hdep 20 rfl
            refine Drawn.wpOp_flow 86 rfl (Drawn.wanted_of rfl rfl rfl dg) rfl ?_
            clear dg
            clear hev hdep hb
            go_simp
            exact ⟨_, rfl, rfl, Below.refl _ _⟩
          · have d20 : a.tmps[82]?.getD undef = .bool true := hdep 20 rfl
            have d24 : a.tmps[86]?.getD undef = .bool true := hdep 24 rfl
            refine Drawn.wpOp_flow 87 rfl rfl rfl ?_
            clear hev hdep hb
            go_simp
            exact ⟨_, rfl, rfl, Below.refl _ _⟩
          · have d25 : a.tmps[87]?.getD undef = .bool true := hdep 25 rfl
            refine Drawn.wpOp_flow 88 rfl rfl rfl ?_
            clear hev hdep hb
            go_simp
            exact ⟨_, rfl, rfl, Below.refl _ _⟩
          · have e14 : a.tmps[14]?.getD undef = .pointer none := hev 14 rfl
            have dg : a.tmps[88]?.getD undef = .bool true := hdep 26 rfl
            refine Drawn.wpOp_flow 89 rfl (Drawn.wanted_of rfl rfl rfl dg) rfl ?_
            clear dg
            clear hev hdep hb
            go_simp
            exact ⟨_, rfl, rfl, Below.refl _ _⟩
          · have d27 : a.tmps[89]?.getD undef = .pointer none := hdep 27 rfl
            have dg : a.tmps[88]?.getD undef = .bool true := hdep 26 rfl
            refine Drawn.wpOp_flow 90 rfl (Drawn.wanted_of rfl rfl rfl dg) rfl ?_
            clear hev hdep
            have C := clean_none w1
            clear hb
            go_simp
            refine C.mono ?_
            rintro e w' ⟨rfl, rfl⟩
            exact ⟨_, rfl, rfl, Below.refl _ _⟩
          · have d28 : a.tmps[90]?.getD undef = .bool false := hdep 28 rfl
            have dg : a.tmps[88]?.getD undef = .bool true := hdep 26 rfl
            refine Drawn.wpOp_flow 91 rfl (Drawn.wanted_of rfl rfl rfl dg) rfl ?_
            clear dg
            clear hev hdep hb
            go_simp
            exact ⟨_, rfl, rfl, Below.refl _ _⟩
          · have d26 : a.tmps[88]?.getD undef = .bool true := hdep 26 rfl
            have d29 : a.tmps[91]?.getD undef = .bool true := hdep 29 rfl
            refine Drawn.wpOp_flow 92 rfl rfl rfl ?_
            clear hev hdep hb
            go_simp
            exact ⟨_, rfl, rfl, Below.refl _ _⟩
          · have d30 : a.tmps[92]?.getD undef = .bool true := hdep 30 rfl
            refine Drawn.wpOp_flow 93 rfl rfl rfl ?_
            clear hev hdep hb
            go_simp
            exact ⟨_, rfl, rfl, Below.refl _ _⟩
          · have dg : a.tmps[93]?.getD undef = .bool true := hdep 31 rfl
            refine Drawn.wpOp_flow 94 rfl (Drawn.wanted_of rfl rfl rfl dg) rfl ?_
            clear hev hdep
            have C := alive_any w1
            clear hb
            go_simp
            refine C.mono ?_
            rintro e w' ⟨rfl, hb'⟩
            exact ⟨_, rfl, rfl, hb'⟩
          · have d31 : a.tmps[93]?.getD undef = .bool true := hdep 31 rfl
            have d32 : a.tmps[94]?.getD undef = .bool true := hdep 32 rfl
            refine Drawn.wpOp_flow 95 rfl rfl rfl ?_
            clear hev hdep hb
            go_simp
            exact ⟨_, rfl, rfl, Below.refl _ _⟩
          · have d33 : a.tmps[95]?.getD undef = .bool true := hdep 33 rfl
            refine Drawn.wpOp_flow 6 rfl rfl rfl ?_
            clear hev hdep hb
            go_simp
            exact ⟨_, rfl, rfl, Below.refl _ _⟩
        · intro xq w1 hb hxq
          have vq0 : xq 0 = .int .i64 15 := hxq 0 (by omega)
          have vq1 : xq 1 = .int .i64 15 := hxq 1 (by omega)
          have vq2 : xq 2 = .bool true := hxq 2 (by omega)
          have vq3 : xq 3 = .bool true := hxq 3 (by omega)
          have vq4 : xq 4 = .pointer (some ⟨p1, 0, none⟩) := hxq 4 (by omega)
          have vq6 : xq 6 = .pointer (some ⟨p2, 0, none⟩) := hxq 6 (by omega)
          have vq7 : xq 7 = .pointer (some ⟨p2, 0, none⟩) := hxq 7 (by omega)
          have vq8 : xq 8 = .pointer (some ⟨p2, 0, none⟩) := hxq 8 (by omega)
          have vq9 : xq 9 = .slice (some ⟨g2, 0, none⟩) b9.length c2 := hxq 9 (by omega)
          have vq10 : xq 10 = .bool true := hxq 10 (by omega)
          have vq11 : xq 11 = .bool true := hxq 11 (by omega)
          have vq12 : xq 12 = .bool true := hxq 12 (by omega)
          have vq13 : xq 13 = .int .i64 15 := hxq 13 (by omega)
          have vq14 : xq 14 = .bool true := hxq 14 (by omega)
          have vq15 : xq 15 = .bool true := hxq 15 (by omega)
          have vq16 : xq 16 = undef := hxq 16 (by omega)
          have vq17 : xq 17 = undef := hxq 17 (by omega)
          have vq18 : xq 18 = .bool true := hxq 18 (by omega)
          have vq19 : xq 19 = .bool true := hxq 19 (by omega)
          have vq20 : xq 20 = .bool true := hxq 20 (by omega)
          have vq21 : xq 21 = .pointer (some ⟨tb, 0, none⟩) := hxq 21 (by omega)
          have vq22 : xq 22 = .pointer none := hxq 22 (by omega)
          have vq23 : xq 23 = .int .i64 15 := hxq 23 (by omega)
          have vq24 : xq 24 = .bool true := hxq 24 (by omega)
          have vq25 : xq 25 = .bool true := hxq 25 (by omega)
          have vq26 : xq 26 = .bool true := hxq 26 (by omega)
          have vq27 : xq 27 = .pointer none := hxq 27 (by omega)
          have vq28 : xq 28 = .bool false := hxq 28 (by omega)
          have vq29 : xq 29 = .bool true := hxq 29 (by omega)
          have vq30 : xq 30 = .bool true := hxq 30 (by omega)
          have vq31 : xq 31 = .bool true := hxq 31 (by omega)
          have vq32 : xq 32 = .bool true := hxq 32 (by omega)
          have vq33 : xq 33 = .bool true := hxq 33 (by omega)
          have vq34 : xq 34 = .bool true := hxq 34 (by omega)
          show Exit.then _ _ Exit.normal (Drawn.acts _ [(6, some (xq 34)), (95, some (xq 33)), (94, some (xq 32)), (93, some (xq 31)), (92, some (xq 30)), (91, some (xq 29)), (90, some (xq 28)), (89, some (xq 27)), (88, some (xq 26)), (87, some (xq 25)), (86, some (xq 24)), (85, some (xq 23)), (84, some (xq 22)), (83, some (xq 21)), (82, some (xq 20)), (81, some (xq 19)), (80, some (xq 18)), (79, some (xq 17)), (78, some (xq 16)), (77, some (xq 15)), (76, some (xq 14)), (75, some (xq 13)), (74, some (xq 12)), (73, some (xq 11)), (72, some (xq 10)), (71, some (xq 9)), (70, some (xq 8)), (69, some (xq 7)), (68, some (xq 6)), (67, some (xq 5)), (66, some (xq 4)), (65, some (xq 3)), (64, some (xq 2)), (63, some (xq 1)), (62, some (xq 0))]) _
          rw [vq0, vq1, vq2, vq3, vq4, vq6, vq7, vq8, vq9, vq10, vq11, vq12, vq13, vq14, vq15, vq16, vq17, vq18, vq19, vq20, vq21, vq22, vq23, vq24, vq25, vq26, vq27, vq28, vq29, vq30, vq31, vq32, vq33, vq34]
          clear hxq vq0 vq1 vq2 vq3 vq4 vq6 vq7 vq8 vq9 vq10 vq11 vq12 vq13 vq14 vq15 vq16 vq17 vq18 vq19 vq20 vq21 vq22 vq23 vq24 vq25 vq26 vq27 vq28 vq29 vq30 vq31 vq32 vq33 vq34
          generalize xq 5 = yq5
          clear xq
          simp only [Drawn.acts]
          go_simp
          have HB := Lib.hid (bstep HP9.out.below hb)
          clear hb
          go_wp2
          go_ret
          exact ⟨rfl, HB.out⟩
      · have he := HE.out
        rw [if_pos rfl] at he
        subst he
        rw [HCL2.out rfl] at CCL
        go_wp2_with fail
        refine Drawn.wp_region_flowL 35 [Drawn.SP.is (.int .i64 0), Drawn.SP.is (.int .i64 0), Drawn.SP.is (.bool true), Drawn.SP.is (.bool true), Drawn.SP.is (.pointer (some ⟨p1, 0, none⟩)), Drawn.SP.bytes b9, Drawn.SP.is (.pointer (some ⟨p2, 0, none⟩)), Drawn.SP.is (.pointer (some ⟨p2, 0, none⟩)), Drawn.SP.is (.pointer (some ⟨p2, 0, none⟩)), Drawn.SP.is (.slice (some ⟨g2, 0, none⟩) b9.length c2), Drawn.SP.is (.bool true), Drawn.SP.is (.bool true), Drawn.SP.is (.bool true), Drawn.SP.is (.int .i64 0), Drawn.SP.is (.bool false), Drawn.SP.is (.bool false), Drawn.SP.is (.pointer (some ⟨p1, 0, none⟩)), Drawn.SP.is (.bool true), Drawn.SP.is (.bool true), Drawn.SP.is (.bool true), Drawn.SP.is (.bool true), Drawn.SP.is (.pointer (some ⟨tb, 0, none⟩)), Drawn.SP.is (.pointer none), Drawn.SP.is (.int .i64 15), Drawn.SP.is (.bool true), Drawn.SP.is (.bool true), Drawn.SP.is (.bool true), Drawn.SP.is (.pointer none), Drawn.SP.is (.bool false), Drawn.SP.is (.bool true), Drawn.SP.is (.bool true), Drawn.SP.is (.bool true), Drawn.SP.is (.bool true), Drawn.SP.is (.bool true), Drawn.SP.is (.bool true)] (by kernel_rfl) (by kernel_rfl) ?_ ?_
        · intro i hi a w1 hb hev hdep
          rcases (show i = 0 ∨ i = 1 ∨ i = 2 ∨ i = 3 ∨ i = 4 ∨ i = 5 ∨ i = 6 ∨ i = 7 ∨ i = 8 ∨ i = 9 ∨ i = 10 ∨ i = 11 ∨ i = 12 ∨ i = 13 ∨ i = 14 ∨ i = 15 ∨ i = 16 ∨ i = 17 ∨ i = 18 ∨ i = 19 ∨ i = 20 ∨ i = 21 ∨ i = 22 ∨ i = 23 ∨ i = 24 ∨ i = 25 ∨ i = 26 ∨ i = 27 ∨ i = 28 ∨ i = 29 ∨ i = 30 ∨ i = 31 ∨ i = 32 ∨ i = 33 ∨ i = 34 by omega) with rfl | rfl | rfl | rfl | rfl | rfl | rfl | rfl | rfl | rfl | rfl | rfl | rfl | rfl | rfl | rfl | rfl | rfl | rfl | rfl | rfl | rfl | rfl | rfl | rfl | rfl | rfl | rfl | rfl | rfl | rfl | rfl | rfl | rfl | rfl
          · have e12 : a.tmps[12]?.getD undef = .int .i64 0 := hev 12 rfl
            refine Drawn.wpOp_flow 62 rfl rfl rfl ?_
            clear hev hdep hb
            go_simp
            exact ⟨_, rfl, rfl, Below.refl _ _⟩
          · have e13 : a.tmps[13]?.getD undef = .int .i64 0 := hev 13 rfl
            refine Drawn.wpOp_flow 63 rfl rfl rfl ?_
            clear hev hdep hb
            go_simp
            exact ⟨_, rfl, rfl, Below.refl _ _⟩
          · have d0 : a.tmps[62]?.getD undef = .int .i64 0 := hdep 0 rfl
            have d1 : a.tmps[63]?.getD undef = .int .i64 0 := hdep 1 rfl
            refine Drawn.wpOp_flow 64 rfl rfl rfl ?_
            clear hev hdep hb
            go_simp
            exact ⟨_, rfl, rfl, Below.refl _ _⟩
          · have d2 : a.tmps[64]?.getD undef = .bool true := hdep 2 rfl
            refine Drawn.wpOp_flow 65 rfl rfl rfl ?_
            clear hev hdep hb
            go_simp
            exact ⟨_, rfl, rfl, Below.refl _ _⟩
          · have e8 : a.tmps[8]?.getD undef = .pointer (some ⟨p1, 0, none⟩) := hev 8 rfl
            have dg : a.tmps[65]?.getD undef = .bool true := hdep 3 rfl
            refine Drawn.wpOp_flow 66 rfl (Drawn.wanted_of rfl rfl rfl dg) rfl ?_
            clear dg
            clear hev hdep hb
            go_simp
            exact ⟨_, rfl, rfl, Below.refl _ _⟩
          · have d4 : a.tmps[66]?.getD undef = .pointer (some ⟨p1, 0, none⟩) := hdep 4 rfl
            have dg : a.tmps[65]?.getD undef = .bool true := hdep 3 rfl
            refine Drawn.wpOp_flow 67 rfl (Drawn.wanted_of rfl rfl rfl dg) rfl ?_
            clear hev hdep
            have C := CIM.out w1 hb
            clear hb
            go_simp
            refine C.mono ?_
            rintro e w' ⟨v, rfl, ho, hb'⟩
            obtain ⟨X, d, rfl, q1, q2, q3⟩ := ho.bytes
            exact ⟨_, rfl, ⟨X, d, rfl, q1, q2, q3⟩, hb'⟩
          · have e9 : a.tmps[9]?.getD undef = .pointer (some ⟨p2, 0, none⟩) := hev 9 rfl
            have dg : a.tmps[65]?.getD undef = .bool true := hdep 3 rfl
            refine Drawn.wpOp_flow 68 rfl (Drawn.wanted_of rfl rfl rfl dg) rfl ?_
            clear dg
            clear hev hdep hb
            go_simp
            exact ⟨_, rfl, rfl, Below.refl _ _⟩
          · have d6 : a.tmps[68]?.getD undef = .pointer (some ⟨p2, 0, none⟩) := hdep 6 rfl
            have dg : a.tmps[65]?.getD undef = .bool true := hdep 3 rfl
            refine Drawn.wpOp_flow 69 rfl (Drawn.wanted_of rfl rfl rfl dg) rfl ?_
            clear dg
            clear hev hdep hb
            go_simp
            exact ⟨_, rfl, rfl, Below.refl _ _⟩
          · have d7 : a.tmps[69]?.getD undef = .pointer (some ⟨p2, 0, none⟩) := hdep 7 rfl
            have dg : a.tmps[65]?.getD undef = .bool true := hdep 3 rfl
            refine Drawn.wpOp_flow 70 rfl (Drawn.wanted_of rfl rfl rfl dg) rfl ?_
            clear dg
            clear hev hdep hb
            go_simp
            exact ⟨_, rfl, rfl, Below.refl _ _⟩
          · have d8 : a.tmps[70]?.getD undef = .pointer (some ⟨p2, 0, none⟩) := hdep 8 rfl
            have dg : a.tmps[65]?.getD undef = .bool true := hdep 3 rfl
            refine Drawn.wpOp_flow 71 rfl (Drawn.wanted_of rfl rfl rfl dg) rfl ?_
            have k1 := (hb.cell (p := ⟨p2, 0, none⟩) (cell_lt EB.out)).trans EB.out
            clear dg
            clear hev hdep hb
            go_simp
            exact ⟨_, rfl, rfl, Below.refl _ _⟩
          · obtain ⟨Xd5, dd5, d5, hd5, kd5, qd5⟩ : (Drawn.SP.bytes b9).p (a.tmps[67]?.getD undef) w1 := hdep 5 rfl
            have d9 : a.tmps[71]?.getD undef = .slice (some ⟨g2, 0, none⟩) b9.length c2 := hdep 9 rfl
            have dg : a.tmps[65]?.getD undef = .bool true := hdep 3 rfl
            refine Drawn.wpOp_flow 72 rfl (Drawn.wanted_of rfl rfl rfl dg) rfl ?_
            clear hev hdep
            have C := CSA.out w1 Xd5 dd5 hb qd5 hml
            clear hb
            go_simp
            refine C.mono ?_
            rintro e w' ⟨rfl, hq⟩
            exact ⟨_, rfl, rfl, bquiet hq⟩
          · have d3 : a.tmps[65]?.getD undef = .bool true := hdep 3 rfl
            have d10 : a.tmps[72]?.getD undef = .bool true := hdep 10 rfl
            refine Drawn.wpOp_flow 73 rfl rfl rfl ?_
            clear hev hdep hb
            go_simp
            exact ⟨_, rfl, rfl, Below.refl _ _⟩
          · have d11 : a.tmps[73]?.getD undef = .bool true := hdep 11 rfl
            refine Drawn.wpOp_flow 74 rfl rfl rfl ?_
            clear hev hdep hb
            go_simp
            exact ⟨_, rfl, rfl, Below.refl _ _⟩
          · have e12 : a.tmps[12]?.getD undef = .int .i64 0 := hev 12 rfl
            have dg : a.tmps[74]?.getD undef = .bool true := hdep 12 rfl
            refine Drawn.wpOp_flow 75 rfl (Drawn.wanted_of rfl rfl rfl dg) rfl ?_
            clear dg
            clear hev hdep hb
            go_simp
            exact ⟨_, rfl, rfl, Below.refl _ _⟩
          · have d13 : a.tmps[75]?.getD undef = .int .i64 0 := hdep 13 rfl
            have dg : a.tmps[74]?.getD undef = .bool true := hdep 12 rfl
            refine Drawn.wpOp_flow 76 rfl (Drawn.wanted_of rfl rfl rfl dg) rfl ?_
            clear dg
            clear hev hdep hb
            go_simp
            exact ⟨_, rfl, rfl, Below.refl _ _⟩
          · have d14 : a.tmps[76]?.getD undef = .bool false := hdep 14 rfl
            have dg : a.tmps[74]?.getD undef = .bool true := hdep 12 rfl
            refine Drawn.wpOp_flow 77 rfl (Drawn.wanted_of rfl rfl rfl dg) rfl ?_
            clear dg
            clear hev hdep hb
            go_simp
            exact ⟨_, rfl, rfl, Below.refl _ _⟩
          · have e8 : a.tmps[8]?.getD undef = .pointer (some ⟨p1, 0, none⟩) := hev 8 rfl
            have dg : a.tmps[77]?.getD undef = .bool false := hdep 15 rfl
            refine Drawn.wpOp_flow 78 rfl (Drawn.wanted_of rfl rfl rfl dg) rfl ?_
            clear dg
            clear hev hdep hb
            go_simp
            exact ⟨_, rfl, rfl, Below.refl _ _⟩
          · have d16 : a.tmps[78]?.getD undef = .pointer (some ⟨p1, 0, none⟩) := hdep 16 rfl
            have dg : a.tmps[77]?.getD undef = .bool false := hdep 15 rfl
            refine Drawn.wpOp_flow 79 rfl (Drawn.wanted_of rfl rfl rfl dg) rfl ?_
            clear hev hdep
            have C := CCL.out w1 hb
            clear hb
            go_simp
            refine C.mono ?_
            rintro e w' ⟨rfl, hb'⟩
            exact ⟨_, rfl, rfl, hb'⟩
          · have d15 : a.tmps[77]?.getD undef = .bool false := hdep 15 rfl
            have d17 : a.tmps[79]?.getD undef = .bool true := hdep 17 rfl
            have dg : a.tmps[74]?.getD undef = .bool true := hdep 12 rfl
            refine Drawn.wpOp_flow 80 rfl (Drawn.wanted_of rfl rfl rfl dg) rfl ?_
            clear dg
            clear hev hdep hb
            go_simp
            exact ⟨_, rfl, rfl, Below.refl _ _⟩
          · have d12 : a.tmps[74]?.getD undef = .bool true := hdep 12 rfl
            have d18 : a.tmps[80]?.getD undef = .bool true := hdep 18 rfl
            refine Drawn.wpOp_flow 81 rfl rfl rfl ?_
            clear hev hdep hb
            go_simp
            exact ⟨_, rfl, rfl, Below.refl _ _⟩
          · have d19 : a.tmps[81]?.getD undef = .bool true := hdep 19 rfl
            refine Drawn.wpOp_flow 82 rfl rfl rfl ?_
            clear hev hdep hb
            go_simp
            exact ⟨_, rfl, rfl, Below.refl _ _⟩
          · have e7 : a.tmps[7]?.getD undef = .pointer (some ⟨tb, 0, none⟩) := hev 7 rfl
            have dg : a.tmps[82]?.getD undef = .bool true := hdep 20 rfl
            refine Drawn.wpOp_flow 83 rfl (Drawn.wanted_of rfl rfl rfl dg) rfl ?_
            clear dg
            clear hev hdep hb
            go_simp
            exact ⟨_, rfl, rfl, Below.refl _ _⟩
          · have e14 : a.tmps[14]?.getD undef = .pointer none := hev 14 rfl
            have dg : a.tmps[82]?.getD undef = .bool true := hdep 20 rfl
            refine Drawn.wpOp_flow 84 rfl (Drawn.wanted_of rfl rfl rfl dg) rfl ?_
            clear dg
            clear hev hdep hb
            go_simp
            exact ⟨_, rfl, rfl, Below.refl _ _⟩
          · have d21 : a.tmps[83]?.getD undef = .pointer (some ⟨tb, 0, none⟩) := hdep 21 rfl
            have d22 : a.tmps[84]?.getD undef = .pointer none := hdep 22 rfl
            have dg : a.tmps[82]?.getD undef = .bool true := hdep 20 rfl
            refine Drawn.wpOp_flow 85 rfl (Drawn.wanted_of rfl rfl rfl dg) rfl ?_
            clear hev hdep
            have C := recover_none tb w1
            clear hb
            go_simp
            refine C.mono ?_
            rintro e w' ⟨rfl, rfl⟩
            exact ⟨_, rfl, rfl, Below.refl _ _⟩
          · have d23 : a.tmps[85]?.getD undef = .int .i64 15 := hdep 23 rfl
            have dg : a.tmps[82]?.getD undef = .bool true := hdep 20 rfl
            refine Drawn.wpOp_flow 86 rfl (Drawn.wanted_of rfl rfl rfl dg) rfl ?_
            clear dg
            clear hev hdep hb
            go_simp
            exact ⟨_, rfl, rfl, Below.refl _ _⟩
          · have d20 : a.tmps[82]?.getD undef = .bool true := hdep 20 rfl
            have d24 : a.tmps[86]?.getD undef = .bool true := hdep 24 rfl
            refine Drawn.wpOp_flow 87 rfl rfl rfl ?_
            clear hev hdep hb
            go_simp
            exact ⟨_, rfl, rfl, Below.refl _ _⟩
          · have d25 : a.tmps[87]?.getD undef = .bool true := hdep 25 rfl
            refine Drawn.wpOp_flow 88 rfl rfl rfl ?_
            clear hev hdep hb
            go_simp
            exact ⟨_, rfl, rfl, Below.refl _ _⟩
          · have e14 : a.tmps[14]?.getD undef = .pointer none := hev 14 rfl
            have dg : a.tmps[88]?.getD undef = .bool true := hdep 26 rfl
            refine Drawn.wpOp_flow 89 rfl (Drawn.wanted_of rfl rfl rfl dg) rfl ?_
            clear dg
            clear hev hdep hb
            go_simp
            exact ⟨_, rfl, rfl, Below.refl _ _⟩
          · have d27 : a.tmps[89]?.getD undef = .pointer none := hdep 27 rfl
            have dg : a.tmps[88]?.getD undef = .bool true := hdep 26 rfl
            refine Drawn.wpOp_flow 90 rfl (Drawn.wanted_of rfl rfl rfl dg) rfl ?_
            clear hev hdep
            have C := clean_none w1
            clear hb
            go_simp
            refine C.mono ?_
            rintro e w' ⟨rfl, rfl⟩
            exact ⟨_, rfl, rfl, Below.refl _ _⟩
          · have d28 : a.tmps[90]?.getD undef = .bool false := hdep 28 rfl
            have dg : a.tmps[88]?.getD undef = .bool true := hdep 26 rfl
            refine Drawn.wpOp_flow 91 rfl (Drawn.wanted_of rfl rfl rfl dg) rfl ?_
            clear dg
            clear hev hdep hb
            go_simp
            exact ⟨_, rfl, rfl, Below.refl _ _⟩
          · have d26 : a.tmps[88]?.getD undef = .bool true := hdep 26 rfl
            have d29 : a.tmps[91]?.getD undef = .bool true := hdep 29 rfl
            refine Drawn.wpOp_flow 92 rfl rfl rfl ?_
            clear hev hdep hb
            go_simp
            exact ⟨_, rfl, rfl, Below.refl _ _⟩
          · have d30 : a.tmps[92]?.getD undef = .bool true := hdep 30 rfl
            refine Drawn.wpOp_flow 93 rfl rfl rfl ?_
            clear hev hdep hb
            go_simp
            exact ⟨_, rfl, rfl, Below.refl _ _⟩
          · have dg : a.tmps[93]?.getD undef = .bool true := hdep 31 rfl
            refine Drawn.wpOp_flow 94 rfl (Drawn.wanted_of rfl rfl rfl dg) rfl ?_
            clear hev hdep
            have C := alive_any w1
            clear hb
            go_simp
            refine C.mono ?_
            rintro e w' ⟨rfl, hb'⟩
            exact ⟨_, rfl, rfl, hb'⟩
          · have d31 : a.tmps[93]?.getD undef = .bool true := hdep 31 rfl
            have d32 : a.tmps[94]?.getD undef = .bool true := hdep 32 rfl
            refine Drawn.wpOp_flow 95 rfl rfl rfl ?_
            clear hev hdep hb
            go_simp
            exact ⟨_, rfl, rfl, Below.refl _ _⟩
          · have d33 : a.tmps[95]?.getD undef = .bool true := hdep 33 rfl
            refine Drawn.wpOp_flow 6 rfl rfl rfl ?_
            clear hev hdep hb
            go_simp
            exact ⟨_, rfl, rfl, Below.refl _ _⟩
        · intro xq w1 hb hxq
          have vq0 : xq 0 = .int .i64 0 := hxq 0 (by omega)
          have vq1 : xq 1 = .int .i64 0 := hxq 1 (by omega)
          have vq2 : xq 2 = .bool true := hxq 2 (by omega)
          have vq3 : xq 3 = .bool true := hxq 3 (by omega)
          have vq4 : xq 4 = .pointer (some ⟨p1, 0, none⟩) := hxq 4 (by omega)
          have vq6 : xq 6 = .pointer (some ⟨p2, 0, none⟩) := hxq 6 (by omega)
          have vq7 : xq 7 = .pointer (some ⟨p2, 0, none⟩) := hxq 7 (by omega)
          have vq8 : xq 8 = .pointer (some ⟨p2, 0, none⟩) := hxq 8 (by omega)
          have vq9 : xq 9 = .slice (some ⟨g2, 0, none⟩) b9.length c2 := hxq 9 (by omega)
          have vq10 : xq 10 = .bool true := hxq 10 (by omega)
          have vq11 : xq 11 = .bool true := hxq 11 (by omega)
          have vq12 : xq 12 = .bool true := hxq 12 (by omega)
          have vq13 : xq 13 = .int .i64 0 := hxq 13 (by omega)
          have vq14 : xq 14 = .bool false := hxq 14 (by omega)
          have vq15 : xq 15 = .bool false := hxq 15 (by omega)
          have vq16 : xq 16 = .pointer (some ⟨p1, 0, none⟩) := hxq 16 (by omega)
          have vq17 : xq 17 = .bool true := hxq 17 (by omega)
          have vq18 : xq 18 = .bool true := hxq 18 (by omega)
          have vq19 : xq 19 = .bool true := hxq 19 (by omega)
          have vq20 : xq 20 = .bool true := hxq 20 (by omega)
          have vq21 : xq 21 = .pointer (some ⟨tb, 0, none⟩) := hxq 21 (by omega)
          have vq22 : xq 22 = .pointer none := hxq 22 (by omega)
          have vq23 : xq 23 = .int .i64 15 := hxq 23 (by omega)
          have vq24 : xq 24 = .bool true := hxq 24 (by omega)
          have vq25 : xq 25 = .bool true := hxq 25 (by omega)
          have vq26 : xq 26 = .bool true := hxq 26 (by omega)
          have vq27 : xq 27 = .pointer none := hxq 27 (by omega)
          have vq28 : xq 28 = .bool false := hxq 28 (by omega)
          have vq29 : xq 29 = .bool true := hxq 29 (by omega)
          have vq30 : xq 30 = .bool true := hxq 30 (by omega)
          have vq31 : xq 31 = .bool true := hxq 31 (by omega)
          have vq32 : xq 32 = .bool true := hxq 32 (by omega)
          have vq33 : xq 33 = .bool true := hxq 33 (by omega)
          have vq34 : xq 34 = .bool true := hxq 34 (by omega)
          show Exit.then _ _ Exit.normal (Drawn.acts _ [(6, some (xq 34)), (95, some (xq 33)), (94, some (xq 32)), (93, some (xq 31)), (92, some (xq 30)), (91, some (xq 29)), (90, some (xq 28)), (89, some (xq 27)), (88, some (xq 26)), (87, some (xq 25)), (86, some (xq 24)), (85, some (xq 23)), (84, some (xq 22)), (83, some (xq 21)), (82, some (xq 20)), (81, some (xq 19)), (80, some (xq 18)), (79, some (xq 17)), (78, some (xq 16)), (77, some (xq 15)), (76, some (xq 14)), (75, some (xq 13)), (74, some (xq 12)), (73, some (xq 11)), (72, some (xq 10)), (71, some (xq 9)), (70, some (xq 8)), (69, some (xq 7)), (68, some (xq 6)), (67, some (xq 5)), (66, some (xq 4)), (65, some (xq 3)), (64, some (xq 2)), (63, some (xq 1)), (62, some (xq 0))]) _
          rw [vq0, vq1, vq2, vq3, vq4, vq6, vq7, vq8, vq9, vq10, vq11, vq12, vq13, vq14, vq15, vq16, vq17, vq18, vq19, vq20, vq21, vq22, vq23, vq24, vq25, vq26, vq27, vq28, vq29, vq30, vq31, vq32, vq33, vq34]
          clear hxq vq0 vq1 vq2 vq3 vq4 vq6 vq7 vq8 vq9 vq10 vq11 vq12 vq13 vq14 vq15 vq16 vq17 vq18 vq19 vq20 vq21 vq22 vq23 vq24 vq25 vq26 vq27 vq28 vq29 vq30 vq31 vq32 vq33 vq34
          generalize xq 5 = yq5
          clear xq
          simp only [Drawn.acts]
          go_simp
          have HB := Lib.hid (bstep HP9.out.below hb)
          clear hb
          go_wp2
          go_ret
          exact ⟨rfl, HB.out⟩
end Go.Proofs.Ytapgpibindhlfaa.Law19
