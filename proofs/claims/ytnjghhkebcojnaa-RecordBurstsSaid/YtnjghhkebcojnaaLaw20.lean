/- the laws of layer 20: what they share -/
import Derived.Test.YtnjghhkebcojnaaMRY
import Derived.Test.YtnjghhkebcojnaaR04
import Derived.Test.YtnjghhkebcojnaaAppV
set_option maxRecDepth 100000
namespace Go.Proofs.Ytnjghhkebcojnaa.Law20
open Go.RowKit RecM Record
open Entry (RetPut)

/-- the document's example -/
def exH : Hd := ⟨2, ⟨#[97]⟩, 3, 5, 7, 9⟩
def nz (n : Nat) : List UInt8 := List.replicate n 0
theorem nz_len (n : Nat) : (nz n).length = n := List.length_replicate
theorem ex_fits : Fits exH := ⟨by decide, by decide, by decide, by decide, by decide, by decide⟩
theorem ex_may : (exH.rc (nz 49)).May := (right_iff _).1 (by decide +kernel)
theorem ex_len : (exH.rc (nz 49)).put.length = 3 := by rw [put_len]; decide +kernel
theorem ex_count : (exH.rc (nz 49)).count = 3 := by decide +kernel
theorem ex_same : decide (exH.rc (nz 49) = exH.rc (nz 49)) = true := decide_eq_true rfl
theorem ex_diff : decide (exH.rc (nz 49) = exH.rc (nz 48)) = false := decide_eq_false fun e => by
  have h := (Hd.rc_inj e).2
  have := congrArg List.length h
  rw [nz_len, nz_len] at this
  omega
/-- a record: where its share lies -/
def SP.rc (l : List UInt8) (n : Nat) : Drawn.SP := ⟨fun v w => ∃ X d, v = .agg #[.int .i64 2, .string ⟨#[97]⟩, .int .i64 3, .int .i64 5, .int .i64 7, .int .i64 9, .slice X n d] ∧ n ≤ d ∧ d ≤ maxLen ∧ BytesAt w X l, fun _ _ _ h hb => by
  obtain ⟨X, d, h1, h2, h3, h4⟩ := h
  exact ⟨X, d, h1, h2, h3, h4.below hb⟩⟩
theorem some_any (n : Nat) (hn : n ≤ 1000) (w : World) : Calls Try.prog 25 #[.int .i64 (n : Nat)] w fun e w' => ∃ X d, e = .returned (.agg #[.int .i64 2, .string ⟨#[97]⟩, .int .i64 3, .int .i64 5, .int .i64 7, .int .i64 9, .slice X n d]) ∧ n ≤ d ∧ d ≤ maxLen ∧ BytesAt w' X (nz n) ∧ Below w.heap.size w w' := by
  have hm := fun W => make_u8 n (by omega) W
  have HR : Hid (RecB (w.alloc (.cells #[.int .i64 0, .string ⟨#[]⟩, .int .i64 0, .int .i64 0, .int .i64 0, .int .i64 0, .slice none 0 0] 24)) w.heap.size hd0 none 0 0) := Lib.hid (RecB.new w hd0 none 0 0)
  have HB := Lib.hid (balloc w (.cells #[.int .i64 0, .string ⟨#[]⟩, .int .i64 0, .int .i64 0, .int .i64 0, .int .i64 0, .slice none 0 0] 24))
  have HB2 := Lib.hid (balloc (w.alloc (.cells #[.int .i64 0, .string ⟨#[]⟩, .int .i64 0, .int .i64 0, .int .i64 0, .int .i64 0, .slice none 0 0] 24)) (.cells (cells (List.replicate n 0)) 5))
  have HRW := Lib.hid (Row.new (w.alloc (.cells #[.int .i64 0, .string ⟨#[]⟩, .int .i64 0, .int .i64 0, .int .i64 0, .int .i64 0, .slice none 0 0] 24)) (nz n))
  have HR2 := Lib.hid (HR.out.below HB2.out)
  have hz : (w.alloc (.cells #[.int .i64 0, .string ⟨#[]⟩, .int .i64 0, .int .i64 0, .int .i64 0, .int .i64 0, .slice none 0 0] 24)).heap.size = w.heap.size + 1 := by simp
  rw [hz] at HRW
  clear hz
  go_enter Try.func25, Try.ntmps25
  go_wp2_with (refine wpList_store_rec rfl _ _ rfl w.heap.size exH (some ⟨w.heap.size + 1, 0, none⟩) n n rfl rfl hd0 none 0 0 HR2.out ?_; intro w3 hr3 hk3; have HR3 := Lib.hid hr3; have HK3 := Lib.hid hk3; clear hr3 hk3)
  have hx := HK3.out.bytes HRW.out.bytes (fun a e h => by injection e with e; subst e; simp at h)
  exact Go.bodyPost_ret (results_rec1 rfl _ _ w.heap.size exH (some ⟨w.heap.size + 1, 0, none⟩) n n rfl HR3.out) rfl ⟨_, n, rfl, Nat.le_refl _, by unfold maxLen; omega, hx, keeps_bstep (bstep HB.out HB2.out) HK3.out (fun k e => by omega)⟩
theorem lenIn_head (r : Rc) (hm : r.May) : lenIn (SecM.sec r.head) = r.sh.length := by
  have hl : r.head.length ≤ 60 := by rw [head_len]; omega
  have hsh := hm.sh
  obtain ⟨_, k2⟩ := saidH_long (SecM.sec r.head) (by rw [SecM.sec_len _ hl]; omega)
  obtain ⟨_, _, _, _, _, _, h7⟩ := head_at r
  rw [k2, sec_at _ hl 33 1 (by rw [head_len]; omega), h7, val_one, UInt8.toNat_ofNat_of_lt' (by simp only [UInt8.size]; omega)]
theorem fit_put (r : Rc) (hm : r.May) (more : List (List UInt8)) : Fit (r.put ++ more) := fun s rest e => by
  unfold Rc.put at e
  rw [List.cons_append] at e
  injection e with e1 e2
  subst e1; subst e2
  rw [lenIn_head r hm, SecM.sec_len _ (by rw [head_len]; omega)]
  refine ⟨by omega, fun i hi h => ?_⟩
  rw [List.getElem_append_left (by simpa using h)]
  simp only [List.getElem_map, List.getElem_range]
  rw [SecM.sec_len _ (body_len r i)]; omega
theorem ex_cells {w : World} {g : Nat} {B : Option Addr} {n c : Nat} (k : RecB w g exH B n c) : w.cell? ⟨g, 0, none⟩ = some (.int .i64 2) ∧ w.cell? ⟨g, 1, none⟩ = some (.string ⟨#[97]⟩) ∧ w.cell? ⟨g, 2, none⟩ = some (.int .i64 3) ∧ w.cell? ⟨g, 3, none⟩ = some (.int .i64 5) ∧ w.cell? ⟨g, 4, none⟩ = some (.int .i64 7) ∧ w.cell? ⟨g, 5, none⟩ = some (.int .i64 9) ∧ w.cell? ⟨g, 6, none⟩ = some (.slice B n c) := k.all
set_option maxHeartbeats 4000000 in
theorem alive_any (w : World) : Calls Try.prog 8 #[] w fun e w' => e = .returned (.bool true) ∧ Below w.heap.size w w' := by
  have C1 := Lib.hid (fun W t (ht : Crc.Tab W t) X c hX h1 h2 => put_any t exH ex_fits X (nz 49) c W ht hX h1 h2)
  have hf := fit_put (exH.rc (nz 49)) ex_may []
  rw [List.append_nil] at hf
  have C2 := Lib.hid (fun W t (ht : Crc.Tab W t) A c (h : RowsAt W A (exH.rc (nz 49)).put) h1 h2 => Record.get_any t A (exH.rc (nz 49)).put c W ht h h1 h2 (by rw [ex_len]; omega) hf)
  have HGO : Hid (∀ (h : Hd) sh n ok, Got (exH.rc (nz 49)).put (h.rc sh) n ok → h = exH ∧ sh = nz 49 ∧ n = 3 ∧ ok = true) := Lib.hid fun h sh n ok hg => by
    have k := Are.back ex_may []
    rw [List.append_nil] at k
    obtain ⟨e1, e2, e3⟩ := hg.one (.inl ⟨rfl, k, rfl⟩)
    obtain ⟨e4, e5⟩ := Hd.rc_inj e1
    exact ⟨e4, e5, by rw [e2, ex_count]; rfl, e3⟩
  rw [putV_may ex_may, putE_may ex_may] at C1
  unfold RetPut at C1
  rw [ex_len, nz_len] at C1
  rw [ex_len] at C2
  unfold RetGot at C2
  have S49 := Lib.hid (fun W => some_any 49 (by omega) W)
  have S48 := Lib.hid (fun W => some_any 48 (by omega) W)
  have CS1 := Lib.hid (fun W X Y c d hX hY => Record.same_any exH exH X Y (nz 49) (nz 49) c d W hX hY)
  have CS2 := Lib.hid (fun W X Y c d hX hY => Record.same_any exH exH X Y (nz 49) (nz 48) c d W hX hY)
  have CC := Lib.hid (fun W X c => Record.count_any exH ex_fits X (nz 49) c (by rw [nz_len]; omega) W)
  have CR := Lib.hid (fun W => Record.role_any 5 W)
  rw [ex_same, nz_len] at CS1
  rw [ex_diff, nz_len, nz_len] at CS2
  rw [if_pos ((right_iff _).2 ex_may), ex_count, nz_len] at CC
  rw [show role 5 = 2 from rfl] at CR
  generalize (exH.rc (nz 49)).put = P at *
  clear hf
  go_enter Try.func8, Try.ntmps8
  go_wp2_with fail
  refine (Crc.new_any _).mono ?_
  rintro e w1 ⟨t, rfl, ht, hb1⟩
  have HT := Lib.hid ht; have HB1 := Lib.hid hb1
  clear ht hb1
  go_wp2_with fail
  refine (S49.out _).mono ?_
  rintro e w2 ⟨X, d, rfl, x1, x2, x3, hb2⟩
  have HX := Lib.hid x3; have HT2 := Lib.hid (HT.out.below hb2); have HB2 := Lib.hid (bstep HB1.out hb2)
  clear x3 hb2 HT HB1
  go_wp2_with fail
  refine (C1.out w2 t HT2.out X d HX.out x1 x2).mono ?_
  rintro e w3 ⟨A, c, rfl, a1, a2, a3, hb3⟩
  have HA := Lib.hid a3; have HT3 := Lib.hid (HT2.out.below hb3); have HB3 := Lib.hid (bstep HB2.out hb3)
  clear a3 hb3 HT2 HB2 HX C1
  go_wp2_with fail
  refine (C2.out w3 t HT3.out A c HA.out a1 a2).mono ?_
  rintro e w4 ⟨h, sh, n, ok, Y, f, rfl, f1, f2, f3, -, g3, hb4, -⟩
  obtain ⟨rfl, rfl, rfl, rfl⟩ := HGO.out h sh n ok g3
  have HY := Lib.hid f3; have HB4 := Lib.hid (bstep HB3.out hb4)
  rw [nz_len] at f1 ⊢
  clear f3 g3 hb4 HB3 HA HT3 C2 HGO
  have HRp : Hid (RecB (w4.alloc (.cells #[.int .i64 0, .string ⟨#[]⟩, .int .i64 0, .int .i64 0, .int .i64 0, .int .i64 0, .slice none 0 0] 24)) w4.heap.size hd0 none 0 0) := Lib.hid (RecB.new w4 hd0 none 0 0)
  have HBZ := Lib.hid (balloc w4 (.cells #[.int .i64 0, .string ⟨#[]⟩, .int .i64 0, .int .i64 0, .int .i64 0, .int .i64 0, .slice none 0 0] 24))
  go_wp2_with (refine wpList_store_rec rfl _ _ rfl w4.heap.size exH Y 49 f rfl rfl hd0 none 0 0 HRp.out ?_; intro w5 hr5 hk5; have HR5 := Lib.hid hr5; have HK5 := Lib.hid hk5; clear hr5 hk5)
  have HB5 := Lib.hid (keeps_bstep (bstep HB4.out HBZ.out) HK5.out (fun k e => by have := HB4.out.size; omega))
  have HY5 := Lib.hid (HK5.out.bytes' (HY.out.below HBZ.out) (fun h0 a e h => by have := HY.out.lt h0 a e; omega))
  obtain ⟨p, hp⟩ : ∃ p, p = w4.heap.size := ⟨_, rfl⟩
  rw [← hp] at HR5
  first | rw [← hp] | skip
  clear hp HRp HBZ HK5 HY HB4
  refine Drawn.wp_region_flowL 35 [Drawn.SP.is (.int .i64 0), Drawn.SP.is (.bool true), Drawn.SP.is (.bool true), Drawn.SP.is (.slice A 3 c), Drawn.SP.is (.int .i64 3), Drawn.SP.is (.bool true), Drawn.SP.is (.bool true), Drawn.SP.is (.bool true), Drawn.SP.is (.int .i64 3), Drawn.SP.is (.bool true), Drawn.SP.is (.bool true), Drawn.SP.is (.bool true), Drawn.SP.is (.bool true), Drawn.SP.is (.bool true), Drawn.SP.is (.bool true), Drawn.SP.is (.agg #[.int .i64 2, .string ⟨#[97]⟩, .int .i64 3, .int .i64 5, .int .i64 7, .int .i64 9, .slice Y 49 f]), SP.rc (nz 49) 49, Drawn.SP.is (.bool true), Drawn.SP.is (.bool true), Drawn.SP.is (.bool true), Drawn.SP.is (.agg #[.int .i64 2, .string ⟨#[97]⟩, .int .i64 3, .int .i64 5, .int .i64 7, .int .i64 9, .slice Y 49 f]), SP.rc (nz 48) 48, Drawn.SP.is (.bool false), Drawn.SP.is (.bool true), Drawn.SP.is (.bool true), Drawn.SP.is (.bool true), Drawn.SP.is (.agg #[.int .i64 2, .string ⟨#[97]⟩, .int .i64 3, .int .i64 5, .int .i64 7, .int .i64 9, .slice Y 49 f]), Drawn.SP.is (.int .i64 3), Drawn.SP.is (.bool true), Drawn.SP.is (.bool true), Drawn.SP.is (.bool true), Drawn.SP.is (.int .i64 2), Drawn.SP.is (.bool true), Drawn.SP.is (.bool true), Drawn.SP.is (.bool true)] (by kernel_rfl) (by kernel_rfl) ?_ ?_
  · intro i hi a w6 hb hev hdep
    rcases (show i = 0 ∨ i = 1 ∨ i = 2 ∨ i = 3 ∨ i = 4 ∨ i = 5 ∨ i = 6 ∨ i = 7 ∨ i = 8 ∨ i = 9 ∨ i = 10 ∨ i = 11 ∨ i = 12 ∨ i = 13 ∨ i = 14 ∨ i = 15 ∨ i = 16 ∨ i = 17 ∨ i = 18 ∨ i = 19 ∨ i = 20 ∨ i = 21 ∨ i = 22 ∨ i = 23 ∨ i = 24 ∨ i = 25 ∨ i = 26 ∨ i = 27 ∨ i = 28 ∨ i = 29 ∨ i = 30 ∨ i = 31 ∨ i = 32 ∨ i = 33 ∨ i = 34 by omega) with rfl | rfl | rfl | rfl | rfl | rfl | rfl | rfl | rfl | rfl | rfl | rfl | rfl | rfl | rfl | rfl | rfl | rfl | rfl | rfl | rfl | rfl | rfl | rfl | rfl | rfl | rfl | rfl | rfl | rfl | rfl | rfl | rfl | rfl | rfl
    · have e3 : a.tmps[3]?.getD undef = .int .i64 0 := hev 3 rfl
      refine Drawn.wpOp_flow 21 rfl rfl rfl ?_
      clear hev hdep hb
      go_simp
      exact ⟨_, rfl, rfl, Below.refl _ _⟩
    · have d0 : a.tmps[21]?.getD undef = .int .i64 0 := hdep 0 rfl
      refine Drawn.wpOp_flow 22 rfl rfl rfl ?_
      clear hev hdep hb
      go_simp
      exact ⟨_, rfl, rfl, Below.refl _ _⟩
    · have d1 : a.tmps[22]?.getD undef = .bool true := hdep 1 rfl
      refine Drawn.wpOp_flow 23 rfl rfl rfl ?_
      clear hev hdep hb
      go_simp
      exact ⟨_, rfl, rfl, Below.refl _ _⟩
    · have e2 : a.tmps[2]?.getD undef = .slice A 3 c := hev 2 rfl
      have dg : a.tmps[23]?.getD undef = .bool true := hdep 2 rfl
      refine Drawn.wpOp_flow 24 rfl (Drawn.wanted_of rfl rfl rfl dg) rfl ?_
      clear dg
      clear hev hdep hb
      go_simp
      exact ⟨_, rfl, rfl, Below.refl _ _⟩
    · have d3 : a.tmps[24]?.getD undef = .slice A 3 c := hdep 3 rfl
      have dg : a.tmps[23]?.getD undef = .bool true := hdep 2 rfl
      refine Drawn.wpOp_flow 25 rfl (Drawn.wanted_of rfl rfl rfl dg) rfl ?_
      clear dg
      clear hev hdep hb
      go_simp
      exact ⟨_, rfl, rfl, Below.refl _ _⟩
    · have d4 : a.tmps[25]?.getD undef = .int .i64 3 := hdep 4 rfl
      have dg : a.tmps[23]?.getD undef = .bool true := hdep 2 rfl
      refine Drawn.wpOp_flow 26 rfl (Drawn.wanted_of rfl rfl rfl dg) rfl ?_
      clear dg
      clear hev hdep hb
      go_simp
      exact ⟨_, rfl, rfl, Below.refl _ _⟩
    · have d2 : a.tmps[23]?.getD undef = .bool true := hdep 2 rfl
      have d5 : a.tmps[26]?.getD undef = .bool true := hdep 5 rfl
      refine Drawn.wpOp_flow 27 rfl rfl rfl ?_
      clear hev hdep hb
      go_simp
      exact ⟨_, rfl, rfl, Below.refl _ _⟩
    · have d6 : a.tmps[27]?.getD undef = .bool true := hdep 6 rfl
      refine Drawn.wpOp_flow 28 rfl rfl rfl ?_
      clear hev hdep hb
      go_simp
      exact ⟨_, rfl, rfl, Below.refl _ _⟩
    · have e5 : a.tmps[5]?.getD undef = .int .i64 3 := hev 5 rfl
      have dg : a.tmps[28]?.getD undef = .bool true := hdep 7 rfl
      refine Drawn.wpOp_flow 29 rfl (Drawn.wanted_of rfl rfl rfl dg) rfl ?_
      clear dg
      clear hev hdep hb
      go_simp
      exact ⟨_, rfl, rfl, Below.refl _ _⟩
    · have d8 : a.tmps[29]?.getD undef = .int .i64 3 := hdep 8 rfl
      have dg : a.tmps[28]?.getD undef = .bool true := hdep 7 rfl
      refine Drawn.wpOp_flow 30 rfl (Drawn.wanted_of rfl rfl rfl dg) rfl ?_
      clear dg
      clear hev hdep hb
      go_simp
      exact ⟨_, rfl, rfl, Below.refl _ _⟩
    · have d7 : a.tmps[28]?.getD undef = .bool true := hdep 7 rfl
      have d9 : a.tmps[30]?.getD undef = .bool true := hdep 9 rfl
      refine Drawn.wpOp_flow 31 rfl rfl rfl ?_
      clear hev hdep hb
      go_simp
      exact ⟨_, rfl, rfl, Below.refl _ _⟩
    · have d10 : a.tmps[31]?.getD undef = .bool true := hdep 10 rfl
      refine Drawn.wpOp_flow 32 rfl rfl rfl ?_
      clear hev hdep hb
      go_simp
      exact ⟨_, rfl, rfl, Below.refl _ _⟩
    · have e6 : a.tmps[6]?.getD undef = .bool true := hev 6 rfl
      have dg : a.tmps[32]?.getD undef = .bool true := hdep 11 rfl
      refine Drawn.wpOp_flow 33 rfl (Drawn.wanted_of rfl rfl rfl dg) rfl ?_
      clear dg
      clear hev hdep hb
      go_simp
      exact ⟨_, rfl, rfl, Below.refl _ _⟩
    · have d11 : a.tmps[32]?.getD undef = .bool true := hdep 11 rfl
      have d12 : a.tmps[33]?.getD undef = .bool true := hdep 12 rfl
      refine Drawn.wpOp_flow 34 rfl rfl rfl ?_
      clear hev hdep hb
      go_simp
      exact ⟨_, rfl, rfl, Below.refl _ _⟩
    · have d13 : a.tmps[34]?.getD undef = .bool true := hdep 13 rfl
      refine Drawn.wpOp_flow 35 rfl rfl rfl ?_
      clear hev hdep hb
      go_simp
      exact ⟨_, rfl, rfl, Below.refl _ _⟩
    · have e4 : a.tmps[4]?.getD undef = .pointer (some ⟨p, 0, none⟩) := hev 4 rfl
      have dg : a.tmps[35]?.getD undef = .bool true := hdep 14 rfl
      refine Drawn.wpOp_flow 36 rfl (Drawn.wanted_of rfl rfl rfl dg) rfl ?_
      obtain ⟨c0, c1, c2, c3, c4, c5, c6⟩ := ex_cells (HR5.out.below hb)
      clear dg
      clear hev hdep hb
      go_simp
      exact ⟨_, rfl, rfl, Below.refl _ _⟩
    · have dg : a.tmps[35]?.getD undef = .bool true := hdep 14 rfl
      refine Drawn.wpOp_flow 37 rfl (Drawn.wanted_of rfl rfl rfl dg) rfl ?_
      clear hev hdep
      have C := S49.out w6
      clear hb dg
      go_simp
      refine C.mono ?_
      rintro e w' ⟨X, d, rfl, q1, q2, q3, hb'⟩
      exact ⟨_, rfl, ⟨X, d, rfl, q1, q2, q3⟩, hb'⟩
    · have d15 : a.tmps[36]?.getD undef = .agg #[.int .i64 2, .string ⟨#[97]⟩, .int .i64 3, .int .i64 5, .int .i64 7, .int .i64 9, .slice Y 49 f] := hdep 15 rfl
      obtain ⟨Xd16, dd16, d16, nd16, md16, bd16⟩ : (SP.rc (nz 49) 49).p (a.tmps[37]?.getD undef) w6 := hdep 16 rfl
      have dg : a.tmps[35]?.getD undef = .bool true := hdep 14 rfl
      refine Drawn.wpOp_flow 38 rfl (Drawn.wanted_of rfl rfl rfl dg) rfl ?_
      clear hev hdep
      have C := CS1.out w6 Y Xd16 f dd16 (HY5.out.below hb) bd16
      clear hb dg
      go_simp
      refine C.mono ?_
      rintro e w' ⟨rfl, hb'⟩
      exact ⟨_, rfl, rfl, hb'⟩
    · have d14 : a.tmps[35]?.getD undef = .bool true := hdep 14 rfl
      have d17 : a.tmps[38]?.getD undef = .bool true := hdep 17 rfl
      refine Drawn.wpOp_flow 39 rfl rfl rfl ?_
      clear hev hdep hb
      go_simp
      exact ⟨_, rfl, rfl, Below.refl _ _⟩
    · have d18 : a.tmps[39]?.getD undef = .bool true := hdep 18 rfl
      refine Drawn.wpOp_flow 40 rfl rfl rfl ?_
      clear hev hdep hb
      go_simp
      exact ⟨_, rfl, rfl, Below.refl _ _⟩
    · have e4 : a.tmps[4]?.getD undef = .pointer (some ⟨p, 0, none⟩) := hev 4 rfl
      have dg : a.tmps[40]?.getD undef = .bool true := hdep 19 rfl
      refine Drawn.wpOp_flow 41 rfl (Drawn.wanted_of rfl rfl rfl dg) rfl ?_
      obtain ⟨c0, c1, c2, c3, c4, c5, c6⟩ := ex_cells (HR5.out.below hb)
      clear dg
      clear hev hdep hb
      go_simp
      exact ⟨_, rfl, rfl, Below.refl _ _⟩
    · have dg : a.tmps[40]?.getD undef = .bool true := hdep 19 rfl
      refine Drawn.wpOp_flow 42 rfl (Drawn.wanted_of rfl rfl rfl dg) rfl ?_
      clear hev hdep
      have C := S48.out w6
      clear hb dg
      go_simp
      refine C.mono ?_
      rintro e w' ⟨X, d, rfl, q1, q2, q3, hb'⟩
      exact ⟨_, rfl, ⟨X, d, rfl, q1, q2, q3⟩, hb'⟩
    · have d20 : a.tmps[41]?.getD undef = .agg #[.int .i64 2, .string ⟨#[97]⟩, .int .i64 3, .int .i64 5, .int .i64 7, .int .i64 9, .slice Y 49 f] := hdep 20 rfl
      obtain ⟨Xd21, dd21, d21, nd21, md21, bd21⟩ : (SP.rc (nz 48) 48).p (a.tmps[42]?.getD undef) w6 := hdep 21 rfl
      have dg : a.tmps[40]?.getD undef = .bool true := hdep 19 rfl
      refine Drawn.wpOp_flow 43 rfl (Drawn.wanted_of rfl rfl rfl dg) rfl ?_
      clear hev hdep
      have C := CS2.out w6 Y Xd21 f dd21 (HY5.out.below hb) bd21
      clear hb dg
      go_simp
      refine C.mono ?_
      rintro e w' ⟨rfl, hb'⟩
      exact ⟨_, rfl, rfl, hb'⟩
    · have d22 : a.tmps[43]?.getD undef = .bool false := hdep 22 rfl
      have dg : a.tmps[40]?.getD undef = .bool true := hdep 19 rfl
      refine Drawn.wpOp_flow 44 rfl (Drawn.wanted_of rfl rfl rfl dg) rfl ?_
      clear dg
      clear hev hdep hb
      go_simp
      exact ⟨_, rfl, rfl, Below.refl _ _⟩
    · have d19 : a.tmps[40]?.getD undef = .bool true := hdep 19 rfl
      have d23 : a.tmps[44]?.getD undef = .bool true := hdep 23 rfl
      refine Drawn.wpOp_flow 45 rfl rfl rfl ?_
      clear hev hdep hb
      go_simp
      exact ⟨_, rfl, rfl, Below.refl _ _⟩
    · have d24 : a.tmps[45]?.getD undef = .bool true := hdep 24 rfl
      refine Drawn.wpOp_flow 46 rfl rfl rfl ?_
      clear hev hdep hb
      go_simp
      exact ⟨_, rfl, rfl, Below.refl _ _⟩
    · have e4 : a.tmps[4]?.getD undef = .pointer (some ⟨p, 0, none⟩) := hev 4 rfl
      have dg : a.tmps[46]?.getD undef = .bool true := hdep 25 rfl
      refine Drawn.wpOp_flow 47 rfl (Drawn.wanted_of rfl rfl rfl dg) rfl ?_
      obtain ⟨c0, c1, c2, c3, c4, c5, c6⟩ := ex_cells (HR5.out.below hb)
      clear dg
      clear hev hdep hb
      go_simp
      exact ⟨_, rfl, rfl, Below.refl _ _⟩
    · have d26 : a.tmps[47]?.getD undef = .agg #[.int .i64 2, .string ⟨#[97]⟩, .int .i64 3, .int .i64 5, .int .i64 7, .int .i64 9, .slice Y 49 f] := hdep 26 rfl
      have dg : a.tmps[46]?.getD undef = .bool true := hdep 25 rfl
      refine Drawn.wpOp_flow 48 rfl (Drawn.wanted_of rfl rfl rfl dg) rfl ?_
      clear hev hdep
      have C := CC.out w6 Y f
      clear hb dg
      go_simp
      refine C.mono ?_
      rintro e w' ⟨rfl, hb'⟩
      exact ⟨_, rfl, rfl, hb'⟩
    · have d27 : a.tmps[48]?.getD undef = .int .i64 3 := hdep 27 rfl
      have dg : a.tmps[46]?.getD undef = .bool true := hdep 25 rfl
      refine Drawn.wpOp_flow 49 rfl (Drawn.wanted_of rfl rfl rfl dg) rfl ?_
      clear dg
      clear hev hdep hb
      go_simp
      exact ⟨_, rfl, rfl, Below.refl _ _⟩
    · have d25 : a.tmps[46]?.getD undef = .bool true := hdep 25 rfl
      have d28 : a.tmps[49]?.getD undef = .bool true := hdep 28 rfl
      refine Drawn.wpOp_flow 50 rfl rfl rfl ?_
      clear hev hdep hb
      go_simp
      exact ⟨_, rfl, rfl, Below.refl _ _⟩
    · have d29 : a.tmps[50]?.getD undef = .bool true := hdep 29 rfl
      refine Drawn.wpOp_flow 51 rfl rfl rfl ?_
      clear hev hdep hb
      go_simp
      exact ⟨_, rfl, rfl, Below.refl _ _⟩
    · have dg : a.tmps[51]?.getD undef = .bool true := hdep 30 rfl
      refine Drawn.wpOp_flow 52 rfl (Drawn.wanted_of rfl rfl rfl dg) rfl ?_
      clear hev hdep
      have C := CR.out w6
      clear hb dg
      go_simp
      refine C.mono ?_
      rintro e w' ⟨rfl, rfl⟩
      exact ⟨_, rfl, rfl, Below.refl _ _⟩
    · have d31 : a.tmps[52]?.getD undef = .int .i64 2 := hdep 31 rfl
      have dg : a.tmps[51]?.getD undef = .bool true := hdep 30 rfl
      refine Drawn.wpOp_flow 53 rfl (Drawn.wanted_of rfl rfl rfl dg) rfl ?_
      clear dg
      clear hev hdep hb
      go_simp
      exact ⟨_, rfl, rfl, Below.refl _ _⟩
    · have d30 : a.tmps[51]?.getD undef = .bool true := hdep 30 rfl
      have d32 : a.tmps[53]?.getD undef = .bool true := hdep 32 rfl
      refine Drawn.wpOp_flow 54 rfl rfl rfl ?_
      clear hev hdep hb
      go_simp
      exact ⟨_, rfl, rfl, Below.refl _ _⟩
    · have d33 : a.tmps[54]?.getD undef = .bool true := hdep 33 rfl
      refine Drawn.wpOp_flow 0 rfl rfl rfl ?_
      clear hev hdep hb
      go_simp
      exact ⟨_, rfl, rfl, Below.refl _ _⟩
  · intro xq w6 hb hxq
    have vq0 : xq 0 = .int .i64 0 := hxq 0 (by omega)
    have vq1 : xq 1 = .bool true := hxq 1 (by omega)
    have vq2 : xq 2 = .bool true := hxq 2 (by omega)
    have vq3 : xq 3 = .slice A 3 c := hxq 3 (by omega)
    have vq4 : xq 4 = .int .i64 3 := hxq 4 (by omega)
    have vq5 : xq 5 = .bool true := hxq 5 (by omega)
    have vq6 : xq 6 = .bool true := hxq 6 (by omega)
    have vq7 : xq 7 = .bool true := hxq 7 (by omega)
    have vq8 : xq 8 = .int .i64 3 := hxq 8 (by omega)
    have vq9 : xq 9 = .bool true := hxq 9 (by omega)
    have vq10 : xq 10 = .bool true := hxq 10 (by omega)
    have vq11 : xq 11 = .bool true := hxq 11 (by omega)
    have vq12 : xq 12 = .bool true := hxq 12 (by omega)
    have vq13 : xq 13 = .bool true := hxq 13 (by omega)
    have vq14 : xq 14 = .bool true := hxq 14 (by omega)
    have vq15 : xq 15 = .agg #[.int .i64 2, .string ⟨#[97]⟩, .int .i64 3, .int .i64 5, .int .i64 7, .int .i64 9, .slice Y 49 f] := hxq 15 (by omega)
    have vq17 : xq 17 = .bool true := hxq 17 (by omega)
    have vq18 : xq 18 = .bool true := hxq 18 (by omega)
    have vq19 : xq 19 = .bool true := hxq 19 (by omega)
    have vq20 : xq 20 = .agg #[.int .i64 2, .string ⟨#[97]⟩, .int .i64 3, .int .i64 5, .int .i64 7, .int .i64 9, .slice Y 49 f] := hxq 20 (by omega)
    have vq22 : xq 22 = .bool false := hxq 22 (by omega)
    have vq23 : xq 23 = .bool true := hxq 23 (by omega)
    have vq24 : xq 24 = .bool true := hxq 24 (by omega)
    have vq25 : xq 25 = .bool true := hxq 25 (by omega)
    have vq26 : xq 26 = .agg #[.int .i64 2, .string ⟨#[97]⟩, .int .i64 3, .int .i64 5, .int .i64 7, .int .i64 9, .slice Y 49 f] := hxq 26 (by omega)
    have vq27 : xq 27 = .int .i64 3 := hxq 27 (by omega)
    have vq28 : xq 28 = .bool true := hxq 28 (by omega)
    have vq29 : xq 29 = .bool true := hxq 29 (by omega)
    have vq30 : xq 30 = .bool true := hxq 30 (by omega)
    have vq31 : xq 31 = .int .i64 2 := hxq 31 (by omega)
    have vq32 : xq 32 = .bool true := hxq 32 (by omega)
    have vq33 : xq 33 = .bool true := hxq 33 (by omega)
    have vq34 : xq 34 = .bool true := hxq 34 (by omega)
    show Exit.then _ _ Exit.normal (Drawn.acts _ [(0, some (xq 34)), (54, some (xq 33)), (53, some (xq 32)), (52, some (xq 31)), (51, some (xq 30)), (50, some (xq 29)), (49, some (xq 28)), (48, some (xq 27)), (47, some (xq 26)), (46, some (xq 25)), (45, some (xq 24)), (44, some (xq 23)), (43, some (xq 22)), (42, some (xq 21)), (41, some (xq 20)), (40, some (xq 19)), (39, some (xq 18)), (38, some (xq 17)), (37, some (xq 16)), (36, some (xq 15)), (35, some (xq 14)), (34, some (xq 13)), (33, some (xq 12)), (32, some (xq 11)), (31, some (xq 10)), (30, some (xq 9)), (29, some (xq 8)), (28, some (xq 7)), (27, some (xq 6)), (26, some (xq 5)), (25, some (xq 4)), (24, some (xq 3)), (23, some (xq 2)), (22, some (xq 1)), (21, some (xq 0))]) _
    rw [vq0, vq1, vq2, vq3, vq4, vq5, vq6, vq7, vq8, vq9, vq10, vq11, vq12, vq13, vq14, vq15, vq17, vq18, vq19, vq20, vq22, vq23, vq24, vq25, vq26, vq27, vq28, vq29, vq30, vq31, vq32, vq33, vq34]
    clear hxq vq0 vq1 vq2 vq3 vq4 vq5 vq6 vq7 vq8 vq9 vq10 vq11 vq12 vq13 vq14 vq15 vq17 vq18 vq19 vq20 vq22 vq23 vq24 vq25 vq26 vq27 vq28 vq29 vq30 vq31 vq32 vq33 vq34
    generalize xq 16 = yq16
    generalize xq 21 = yq21
    clear xq
    simp only [Drawn.acts]
    go_simp
    go_wp2
    go_ret
    exact ⟨rfl, bstep HB5.out hb⟩
end Go.Proofs.Ytnjghhkebcojnaa.Law20
