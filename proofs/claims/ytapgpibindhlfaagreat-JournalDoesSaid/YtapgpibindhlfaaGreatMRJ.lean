/- merged: R19, R19B, R19C -/
import Derived.Test.YtapgpibindhlfaaGreatMMA
import Derived.Test.YtapgpibindhlfaaGreatMRE
import Derived.Test.YtapgpibindhlfaaGreatMRD
import Derived.Test.YtapgpibindhlfaaGreatMJO
import Derived.Test.YtapgpibindhlfaaGreatFlow
import Derived.Test.YtapgpibindhlfaaGreatChsApp

/- the document's own answers of layer 19: There, Check, Write, With -/
set_option maxRecDepth 100000
namespace Go.Proofs.YtapgpibindhlfaaGreat.R19
open Go.RowKit DiskM EntM JourM Disk Jour

theorem there_yes {n : Nat} {l : List Ch} (h : ∀ j, (hj : j < l.length) → l[j].at_ < n) : decide (there n l) = decide (34 ≤ n) := by
  rw [there_any]
  have e : l.any (behind (n : Int)) = false := by
    rw [List.any_eq_false]
    intro x hx he
    obtain ⟨j, hj, rfl⟩ := List.mem_iff_getElem.1 hx
    have := h j hj
    have := of_decide_eq_true he
    omega
  rw [e]; simp
theorem there_no {n : Nat} {l : List Ch} {k : Nat} (hk : k < l.length) (h : (n : Int) ≤ l[k].at_) : decide (there n l) = false := by
  rw [there_any]
  have e : l.any (behind (n : Int)) = true := List.any_eq_true.2 ⟨l[k], List.getElem_mem hk, decide_eq_true h⟩
  rw [e]; simp
theorem there_ref (n : Nat) (A : Option Addr) (l : List Ch) (cl : Nat) (w : World) (hn : n ≤ 512) (h : ChsAt w A l) (hl : l.length ≤ 1000000) :
    Calls Tryz.prog 32 #[.int .i64 (n : Nat), .slice A l.length cl] w fun e w' => e = .returned (.bool (decide (there n l))) ∧ w = w' := by
  have H := Lib.hid h
  have HY : Hid ((∀ j, (hj : j < l.length) → l[j].at_ < n) → decide (there n l) = decide (34 ≤ n)) := Lib.hid there_yes
  have HNO : Hid (∀ k, (hk : k < l.length) → (n : Int) ≤ l[k].at_ → decide (there n l) = false) := Lib.hid fun k hk h => there_no hk h
  obtain ⟨r, hr⟩ : ∃ r, r = decide (there n l) := ⟨_, rfl⟩
  rw [← hr] at HY HNO ⊢
  obtain ⟨ln, hln⟩ : ∃ ln, ln = l.length := ⟨_, rfl⟩
  have HLN := Lib.hid hln
  rw [← hln] at hl ⊢
  clear h hr hln
  go_enter Tryz.func32, Tryz.ntmps32
  go_wp2
  go_loopw [5] (fun i wr => ∃ k : Nat, k ≤ ln ∧ i = .int .i64 k ∧ w = wr ∧ ∀ j, (hj : j < l.length) → j < k → l[j].at_ < n)
    (fun i _ => ln - (intOf i).toNat)
  case atStart => exact ⟨0, Nat.zero_le _, rfl, rfl, fun j _ h => by omega⟩
  case round =>
    obtain ⟨k, hk, rfl, rfl, hall⟩ := hrel
    have HALL := Lib.hid hall
    clear hall
    by_cases hlt : k < ln
    · have hk2 : k < l.length := by rw [← HLN.out]; exact hlt
      obtain ⟨b, o, B, d, hA, hx⟩ := H.out k hk2
      subst hA
      have e0 := hx.c0
      have HNK := Lib.hid (HNO.out k hk2)
      obtain ⟨z, hz⟩ : ∃ z, z = l[k].at_ := ⟨_, rfl⟩
      rw [← hz] at e0 HNK
      have HZ := Lib.hid hz
      clear hx hz
      by_cases hq : (n : Int) ≤ z
      · have hr := HNK.out hq
        subst hr
        go_wp2
        go_ret
        exact ⟨rfl, rfl⟩
      · go_wp2
        go_roundw
        case rel =>
          refine ⟨k + 1, by omega, by go_num, by first | trivial | rfl, fun j hj hjk => ?_⟩
          by_cases e : j = k
          · subst e; rw [← HZ.out]; omega
          · exact HALL.out j hj (by omega)
        case measure => simp [intOf] <;> omega
    · obtain rfl : k = ln := by omega
      have hr := HY.out (fun j hj => HALL.out j hj (by rw [HLN.out]; exact hj))
      have hq : decide ((34 : Int) ≤ (n : Int)) = r := by rw [hr]; rw [decide_eq_decide]; omega
      clear hr HY HNO
      go_wp2
      go_ret
      exact ⟨rfl, rfl⟩
/-- what is wrong, as the document says -/
def chkV (n : Nat) (l : List Ch) : Int := if checkV l ≠ 0 then checkV l else if there n l then 0 else 2
theorem chk_any (n : Nat) (A : Option Addr) (l : List Ch) (cl : Nat) (w : World) (hn : n ≤ 512) (h : ChsAt w A l) (hl : l.length ≤ 15000) :
    Calls Tryz.prog 11 #[.int .i64 (n : Nat), .slice A l.length cl] w fun e w' => e = .returned (.int .i64 (chkV n l)) ∧ Below w.heap.size w w' := by
  have C := Lib.hid (R18.check_any A l cl w h hl)
  have CT := Lib.hid (fun W (h : ChsAt W A l) => there_ref n A l cl W hn h (by omega))
  have H := Lib.hid h
  have HV1 : Hid (checkV l ≠ 0 → chkV n l = checkV l) := Lib.hid fun h => if_pos h
  have HV2 : Hid (checkV l = 0 → chkV n l = if there n l then 0 else 2) := Lib.hid fun h => if_neg (by simpa using h)
  generalize chkV n l = r at *
  generalize checkV l = v at *
  obtain ⟨ln, hln⟩ : ∃ ln, ln = l.length := ⟨_, rfl⟩
  rw [← hln] at C CT ⊢
  clear h hln hl
  by_cases hv : v = 0
  · subst hv
    have hr := HV2.out rfl
    by_cases ht : there n l
    · rw [if_pos ht] at hr
      rw [decide_eq_true ht] at CT
      subst hr
      clear HV1 HV2 ht
      go_enter Tryz.func11, Tryz.ntmps11
      go_wp2_with fail
      refine C.out.mono ?_
      rintro e w1 ⟨rfl, hb1⟩
      have HB1 := Lib.hid hb1
      have C2 := Lib.hid (CT.out w1 (H.out.below hb1))
      clear hb1 C
      go_wp2_with fail
      refine C2.out.mono ?_
      rintro e w2 ⟨rfl, rfl⟩
      go_wp2
      go_ret
      exact ⟨rfl, HB1.out⟩
    · rw [if_neg ht] at hr
      rw [decide_eq_false ht] at CT
      subst hr
      clear HV1 HV2 ht
      go_enter Tryz.func11, Tryz.ntmps11
      go_wp2_with fail
      refine C.out.mono ?_
      rintro e w1 ⟨rfl, hb1⟩
      have HB1 := Lib.hid hb1
      have C2 := Lib.hid (CT.out w1 (H.out.below hb1))
      clear hb1 C
      go_wp2_with fail
      refine C2.out.mono ?_
      rintro e w2 ⟨rfl, rfl⟩
      go_wp2
      go_ret
      exact ⟨rfl, HB1.out⟩
  · have hr := HV1.out hv
    subst hr
    have hq : (r == 0) = false := by rw [beq_eq_false_iff_ne]; exact hv
    clear HV1 HV2 hv CT
    go_enter Tryz.func11, Tryz.ntmps11
    go_wp2_with fail
    refine C.out.mono ?_
    rintro e w1 ⟨rfl, hb1⟩
    have HB1 := Lib.hid hb1
    clear hb1 C
    go_wp2
    go_ret
    exact ⟨rfl, HB1.out⟩

/-! what is written, one by one -/
def InR (z : Int) : Prop := -9223372036854775808 ≤ z ∧ z ≤ 9223372036854775807
theorem InR.write {m : Dk} (h : InR m.left) (i : Int) (d : List UInt8) : InR (m.write i d).1.left := by
  unfold InR at *
  unfold Dk.write
  split
  · split
    · exact h
    · show _ ≤ (if 0 < m.left then m.left - 1 else m.left) ∧ (if 0 < m.left then m.left - 1 else m.left) ≤ _
      split <;> omega
  · exact h
theorem runW_snoc {m m' : Dk} {xs : List Ch} (h : runW m xs = (m', true)) (c : Ch) : runW m (xs ++ [c]) = m'.write c.at_ c.data := by
  rw [runW_append, h, if_pos rfl, runW_cons]
  show (if (m'.write c.at_ c.data).2 = true then ((m'.write c.at_ c.data).1, true) else ((m'.write c.at_ c.data).1, false)) = _
  obtain ⟨a, b⟩ := m'.write c.at_ c.data
  cases b <;> rfl
theorem runW_stop {m m' : Dk} {xs : List Ch} (h : runW m xs = (m', false)) (ys : List Ch) : runW m (xs ++ ys) = (m', false) := by
  rw [runW_append, h]; rfl
structure Wn (w : World) (p g c : Nat) (m : Dk) (xs : List Ch) (m' : Dk) (wr : World) : Prop where
  run : runW m xs = (m', true)
  dk : DAt wr p g c m'
  keeps : Keeps (PG p g) w wr
  inR : InR m'.left
  len : m'.b.length = m.b.length
theorem chs_keep {P F : Nat → Prop} {w w' : World} {b o i : Nat} {B : Option Addr} {d : Nat} {x : Ch} (h : ChLies w b (o + i * 2) B d x) (q : Keeps F w w') (hb : ¬ F b) (hB : 0 < x.data.length → ∀ a, B = some a → P a.block) (hP : ∀ k, P k → ¬ F k) : ChLies w' b (o + i * 2) B d x := h.keep q hb fun h0 a e => hP _ (hB h0 a e)
set_option maxHeartbeats 4000000 in
theorem writeAll_any (p g c : Nat) (m : Dk) (A : Option Addr) (l : List Ch) (cl : Nat) (w : World) (h : DAt w p g c m) (hml : m.b.length ≤ 32768) (hz : InR m.left) (hl : ChsP (Off p g) w A l) (hA : 0 < l.length → ∀ a, A = some a → Off p g a.block) (hll : l.length ≤ 1000000) :
    Calls Tryz.prog 13 #[.pointer (some ⟨p, 0, none⟩), .slice A l.length cl] w fun e w' => e = .returned (.int .i64 (if (runW m l).2 = true then 0 else 15)) ∧ DAt w' p g c (runW m l).1 ∧ Keeps (PG p g) w w' := by
  have H := Lib.hid hl
  have HAO := Lib.hid hA
  have H0 : Hid (Wn w p g c m [] m w) := Lib.hid ⟨rfl, h, .refl _ _, hz, rfl⟩
  obtain ⟨E, hE⟩ : ∃ E : Int, E = (if (runW m l).2 = true then 0 else 15) := ⟨_, rfl⟩
  have HEND : Hid (∀ k m' wr, runW m (l.take k) = (m', false) → DAt wr p g c m' → Keeps (PG p g) w wr → Ending.returned (Value.int .i64 15) = .returned (.int .i64 E) ∧ DAt wr p g c (runW m l).1 ∧ Keeps (PG p g) w wr) := Lib.hid fun k m' wr h1 h2 h3 => by
    have e := runW_stop h1 (l.drop k)
    rw [List.take_append_drop] at e
    rw [hE, e]
    exact ⟨rfl, h2, h3⟩
  have HOK : Hid (∀ m' wr, Wn w p g c m l m' wr → Ending.returned (Value.int .i64 0) = .returned (.int .i64 E) ∧ DAt wr p g c (runW m l).1 ∧ Keeps (PG p g) w wr) := Lib.hid fun m' wr hd => by
    rw [hE, hd.run]
    exact ⟨rfl, hd.dk, hd.keeps⟩
  rw [← hE]
  obtain ⟨n, hnn⟩ : ∃ n, n = l.length := ⟨_, rfl⟩
  have HN := Lib.hid hnn
  rw [← hnn] at hll ⊢
  clear h hl hA hnn hE
  go_enter Tryz.func13, Tryz.ntmps13
  go_wp2
  go_loopw [5] (fun i wr => ∃ (k : Nat) (m' : Dk), k ≤ n ∧ i = .int .i64 k ∧ Wn w p g c m (l.take k) m' wr)
    (fun i _ => n - (intOf i).toNat)
  case atStart => exact ⟨0, m, Nat.zero_le _, rfl, H0.out⟩
  case round =>
    obtain ⟨k, m', hk, rfl, hW⟩ := hrel
    rename World => w2
    have HW := Lib.hid hW
    clear hW H0
    by_cases hlt : k < n
    · have hk2 : k < l.length := by rw [← HN.out]; exact hlt
      obtain ⟨bx, ox, hAe, B, dc, hx0, hxP⟩ := H.out k hk2
      have hbo := HAO.out (by omega) _ hAe
      subst hAe
      simp only at hbo
      have hx := chs_keep (P := Off p g) hx0 HW.out.keeps hbo.not hxP fun _ => Off.not
      have hsn : l.take (k + 1) = l.take k ++ [l[k]] := List.take_succ_eq_append_getElem hk2
      have HSN : Hid (runW m (l.take (k + 1)) = m'.write l[k].at_ l[k].data) := Lib.hid (by rw [hsn]; exact runW_snoc HW.out.run _)
      have HIN := Lib.hid (HW.out.inR.write l[k].at_ l[k].data)
      have HLE := Lib.hid (write_len m' l[k].at_ l[k].data)
      have hl2 : m'.b.length ≤ 32768 := by rw [HW.out.len]; exact hml
      have CW := Lib.hid (fun W (hd : DAt W p g c m') (hB : BytesAt W B l[k].data) => R16.write_any p g c m' l[k].at_ B l[k].data dc W hd hl2 HW.out.inR hB hxP (by have := hx.h1; have := hx.h2; omega))
      have HX := Lib.hid hx.bytes
      have E0 := Lib.hid hx.c0; have E1 := Lib.hid hx.c1
      generalize l[k] = x at *
      obtain ⟨z, dt⟩ := x
      simp only at E0 E1 HX HSN HIN HLE CW
      obtain ⟨dn, hdn⟩ : ∃ dn, dn = dt.length := ⟨_, rfl⟩
      rw [← hdn] at E1 CW
      clear hx hx0 hxP hsn hdn hl2 hbo
      generalize hst : m'.write z dt = st at *
      obtain ⟨m3, r⟩ := st
      simp only at HIN HLE CW
      clear hst
      have e0 := E0.out; have e1 := E1.out
      go_wp2_with fail
      refine Drawn.wp_region_flowT 11 [Drawn.SP.is (.pointer (some ⟨p, 0, none⟩)), Drawn.SP.is (.slice (some ⟨bx, ox, none⟩) n cl), Drawn.SP.is (.int .i64 (k : Nat)), Drawn.SP.is (.pointer (some ⟨bx, ox + k * 2, none⟩)), Drawn.SP.is (.pointer (some ⟨bx, ox + k * 2, none⟩)), Drawn.SP.is (.int .i64 z), Drawn.SP.is (.slice (some ⟨bx, ox, none⟩) n cl), Drawn.SP.is (.int .i64 (k : Nat)), Drawn.SP.is (.pointer (some ⟨bx, ox + k * 2, none⟩)), Drawn.SP.is (.pointer (some ⟨bx, ox + k * 2 + 1, none⟩)), Drawn.SP.is (.slice B dn dc)] (by kernel_rfl) (by kernel_rfl) ?_ ?_
      · intro i hi a w3 hb hev hdep
        rcases (show i = 0 ∨ i = 1 ∨ i = 2 ∨ i = 3 ∨ i = 4 ∨ i = 5 ∨ i = 6 ∨ i = 7 ∨ i = 8 ∨ i = 9 ∨ i = 10 by omega) with rfl | rfl | rfl | rfl | rfl | rfl | rfl | rfl | rfl | rfl | rfl
        · have e0 : a.tmps[0]?.getD undef = .pointer (some ⟨p, 0, none⟩) := hev 0 rfl
          refine Drawn.wpOp_flow 12 rfl rfl rfl ?_
          clear hev hdep hb
          go_simp
          exact ⟨_, rfl, rfl, Below.refl _ _⟩
        · have e1 : a.tmps[1]?.getD undef = .slice (some ⟨bx, ox, none⟩) n cl := hev 1 rfl
          refine Drawn.wpOp_flow 13 rfl rfl rfl ?_
          clear hev hdep hb
          go_simp
          exact ⟨_, rfl, rfl, Below.refl _ _⟩
        · have e5 : a.tmps[5]?.getD undef = .int .i64 (k : Nat) := hev 5 rfl
          refine Drawn.wpOp_flow 14 rfl rfl rfl ?_
          clear hev hdep hb
          go_simp
          exact ⟨_, rfl, rfl, Below.refl _ _⟩
        · have d1 : a.tmps[13]?.getD undef = .slice (some ⟨bx, ox, none⟩) n cl := hdep 1 rfl
          have d2 : a.tmps[14]?.getD undef = .int .i64 (k : Nat) := hdep 2 rfl
          refine Drawn.wpOp_flow 15 rfl rfl rfl ?_
          clear hev hdep hb
          go_simp
          exact ⟨_, rfl, rfl, Below.refl _ _⟩
        · have d3 : a.tmps[15]?.getD undef = .pointer (some ⟨bx, ox + k * 2, none⟩) := hdep 3 rfl
          refine Drawn.wpOp_flow 16 rfl rfl rfl ?_
          clear hev hdep hb
          go_simp
          exact ⟨_, rfl, rfl, Below.refl _ _⟩
        · have d4 : a.tmps[16]?.getD undef = .pointer (some ⟨bx, ox + k * 2, none⟩) := hdep 4 rfl
          refine Drawn.wpOp_flow 17 rfl rfl rfl ?_
          have k1 := (hb.cell (p := ⟨bx, ox + k * 2, none⟩) (cell_lt E0.out)).trans E0.out
          have k2 := (hb.cell (p := ⟨bx, ox + k * 2 + 1, none⟩) (cell_lt E1.out)).trans E1.out
          clear hev hdep hb
          go_simp
          exact ⟨_, rfl, rfl, Below.refl _ _⟩
        · have e1 : a.tmps[1]?.getD undef = .slice (some ⟨bx, ox, none⟩) n cl := hev 1 rfl
          refine Drawn.wpOp_flow 18 rfl rfl rfl ?_
          clear hev hdep hb
          go_simp
          exact ⟨_, rfl, rfl, Below.refl _ _⟩
        · have e5 : a.tmps[5]?.getD undef = .int .i64 (k : Nat) := hev 5 rfl
          refine Drawn.wpOp_flow 19 rfl rfl rfl ?_
          clear hev hdep hb
          go_simp
          exact ⟨_, rfl, rfl, Below.refl _ _⟩
        · have d6 : a.tmps[18]?.getD undef = .slice (some ⟨bx, ox, none⟩) n cl := hdep 6 rfl
          have d7 : a.tmps[19]?.getD undef = .int .i64 (k : Nat) := hdep 7 rfl
          refine Drawn.wpOp_flow 20 rfl rfl rfl ?_
          clear hev hdep hb
          go_simp
          exact ⟨_, rfl, rfl, Below.refl _ _⟩
        · have d8 : a.tmps[20]?.getD undef = .pointer (some ⟨bx, ox + k * 2, none⟩) := hdep 8 rfl
          refine Drawn.wpOp_flow 21 rfl rfl rfl ?_
          clear hev hdep hb
          go_simp
          exact ⟨_, rfl, rfl, Below.refl _ _⟩
        · have d9 : a.tmps[21]?.getD undef = .pointer (some ⟨bx, ox + k * 2 + 1, none⟩) := hdep 9 rfl
          refine Drawn.wpOp_flow 22 rfl rfl rfl ?_
          have k1 := (hb.cell (p := ⟨bx, ox + k * 2, none⟩) (cell_lt E0.out)).trans E0.out
          have k2 := (hb.cell (p := ⟨bx, ox + k * 2 + 1, none⟩) (cell_lt E1.out)).trans E1.out
          clear hev hdep hb
          go_simp
          exact ⟨_, rfl, rfl, Below.refl _ _⟩
      · intro xq w3 hb hxq
        have vq0 : xq 0 = .pointer (some ⟨p, 0, none⟩) := hxq 0 (by omega)
        have vq1 : xq 1 = .slice (some ⟨bx, ox, none⟩) n cl := hxq 1 (by omega)
        have vq2 : xq 2 = .int .i64 (k : Nat) := hxq 2 (by omega)
        have vq3 : xq 3 = .pointer (some ⟨bx, ox + k * 2, none⟩) := hxq 3 (by omega)
        have vq4 : xq 4 = .pointer (some ⟨bx, ox + k * 2, none⟩) := hxq 4 (by omega)
        have vq5 : xq 5 = .int .i64 z := hxq 5 (by omega)
        have vq6 : xq 6 = .slice (some ⟨bx, ox, none⟩) n cl := hxq 6 (by omega)
        have vq7 : xq 7 = .int .i64 (k : Nat) := hxq 7 (by omega)
        have vq8 : xq 8 = .pointer (some ⟨bx, ox + k * 2, none⟩) := hxq 8 (by omega)
        have vq9 : xq 9 = .pointer (some ⟨bx, ox + k * 2 + 1, none⟩) := hxq 9 (by omega)
        have vq10 : xq 10 = .slice B dn dc := hxq 10 (by omega)
        show wpList _ _ _ _ (Drawn.acts _ [(22, some (xq 10)), (21, some (xq 9)), (20, some (xq 8)), (19, some (xq 7)), (18, some (xq 6)), (17, some (xq 5)), (16, some (xq 4)), (15, some (xq 3)), (14, some (xq 2)), (13, some (xq 1)), (12, some (xq 0))]) _
        rw [vq0, vq1, vq2, vq3, vq4, vq5, vq6, vq7, vq8, vq9, vq10]
        clear hxq vq0 vq1 vq2 vq3 vq4 vq5 vq6 vq7 vq8 vq9 vq10
        clear xq
        simp only [Drawn.acts, List.drop_succ_cons, List.drop_zero]
        go_simp
        have C := Lib.hid (CW.out w3 (HW.out.dk.below hb) (HX.out.below hb))
        have HB := Lib.hid hb
        clear hb CW
        go_wp2_with fail
        refine C.out.mono ?_
        rintro e w6 ⟨rfl, hd6, hk6⟩
        have HD6 := Lib.hid hd6
        have HK6 : Hid (Keeps (PG p g) w w6) := Lib.hid (HW.out.keeps.trans ((Keeps.of_below (PG p g) HB.out).trans hk6))
        have HLEN3 : Hid (m3.b.length = m.b.length) := Lib.hid (HLE.out.trans HW.out.len)
        clear hd6 hk6 C
        cases r
        · have hend := HEND.out (k + 1) m3 w6 HSN.out HD6.out HK6.out
          have HE := Lib.hid hend
          clear hend HEND
          go_wp2
          go_ret
          exact HE.out
        · have hdn : Wn w p g c m (l.take (k + 1)) m3 w6 := ⟨HSN.out, HD6.out, HK6.out, HIN.out, HLEN3.out⟩
          have HDN := Lib.hid hdn
          clear hdn HEND
          go_wp2
          go_roundw
          case rel => exact ⟨k + 1, m3, by omega, by go_num, HDN.out⟩
          case measure => simp [intOf] <;> omega
    · obtain rfl : k = n := by omega
      have hall := HW.out
      rw [HN.out, List.take_length] at hall
      have HALL := Lib.hid hall
      clear hall
      go_wp2
      go_ret
      exact HOK.out m' w2 HALL.out
end Go.Proofs.YtapgpibindhlfaaGreat.R19

/- the document's own answers of layer 19: With, Again -/
set_option maxRecDepth 100000
namespace Go.Proofs.YtapgpibindhlfaaGreat.R19
open Go.RowKit DiskM EntM JourM Disk Jour

theorem chs_block {w : World} {A : Option Addr} {l : List Ch} (h : ChsAt w A l) (h0 : 0 < l.length) : ∀ a, A = some a → a.block < w.heap.size := fun a e => by
  obtain ⟨b, o, B, c, hA, hx⟩ := h 0 h0
  rw [e] at hA
  injection hA with hA
  subst hA
  exact cell_lt hx.c0
/-! Again -/
def clearsTo (n : Nat) (b : List UInt8) (k : Nat) : List Ch := (((List.range (nj n)).take k).filter fun i => !SecM.clear_ (sect b (1 + i))).map fun i => ⟨((1 + i : Nat) : Int), []⟩
theorem clearsTo_yes {n k : Nat} {b : List UInt8} (h : k < nj n) (hc : SecM.clear_ (sect b (1 + k)) = true) : clearsTo n b (k + 1) = clearsTo n b k := by
  unfold clearsTo
  rw [List.take_succ_eq_append_getElem (by simpa using h), List.getElem_range, List.filter_append, List.filter_cons, if_neg (by rw [hc]; decide)]
  simp
theorem clearsTo_no {n k : Nat} {b : List UInt8} (h : k < nj n) (hc : SecM.clear_ (sect b (1 + k)) = false) : clearsTo n b (k + 1) = clearsTo n b k ++ [⟨((1 + k : Nat) : Int), []⟩] := by
  unfold clearsTo
  rw [List.take_succ_eq_append_getElem (by simpa using h), List.getElem_range, List.filter_append, List.filter_cons, if_pos (by rw [hc]; rfl)]
  simp
theorem clearsTo_all (n : Nat) (b : List UInt8) : clearsTo n b (nj n) = clearsN n b := by
  unfold clearsTo clearsN
  rw [List.take_of_length_le (by simp)]
theorem clearsTo_len (n : Nat) (b : List UInt8) (k : Nat) : (clearsTo n b k).length ≤ 33 := by
  unfold clearsTo
  rw [List.length_map]
  refine Nat.le_trans (List.length_filter_le _ _) ?_
  rw [List.length_take, List.length_range]
  have := nj_le n
  omega
theorem clearsTo_zero (n : Nat) (b : List UInt8) : clearsTo n b 0 = [] := by unfold clearsTo; simp
theorem jourN_get {n k : Nat} (b : List UInt8) (h : k < (jourN n b).length) : (jourN n b)[k] = sect b (1 + k) := by
  have e : ∀ (l : List (List UInt8)) (hl : l = jourN n b) (hk : k < l.length), l[k] = sect b (1 + k) := fun l hl hk => by
    have h2 : l[k]? = some (sect b (1 + k)) := by
      rw [hl]
      unfold jourN
      rw [List.getElem?_map, List.getElem?_range (by rw [hl, jourN_len] at hk; exact hk)]
      rfl
    rw [List.getElem?_eq_getElem hk] at h2
    injection h2
  exact e _ rfl h
/-- changes in new memory -/
def RetChsN (w : World) (l : List Ch) (e : Ending) (w' : World) : Prop :=
  ∃ X d, e = .returned (.slice X l.length d) ∧ l.length ≤ d ∧ d ≤ maxLen ∧ ChsP (fun k => w.heap.size ≤ k) w' X l ∧ Below w.heap.size w w' ∧ ∀ a, X = some a → w.heap.size ≤ a.block
set_option maxHeartbeats 4000000 in
theorem again_any (p g c n : Nat) (m : Dk) (w : World) (h : DAt w p g c m) (hb : m.b.length = 64 * n) (hn : n ≤ 512) :
    Calls Tryz.prog 18 #[.pointer (some ⟨p, 0, none⟩)] w (RetChsN w (againN n m.b)) := by
  have HD := Lib.hid h
  have CI := Lib.hid (fun W i (hd : DAt W p g c m) => R16.is_any p g c m i W hd (by omega))
  have HIS : Hid (∀ k : Nat, 1 + k < 34 → isS m.b ((1 + k : Nat) : Int) = decide (k < nj n)) := Lib.hid fun k hk => by
    unfold isS
    rw [decide_eq_decide, hb]
    unfold nj
    omega
  have CR := Lib.hid (fun W i (hd : DAt W p g c m) => R16.read_any p g c m i W hd (by omega))
  have HRD : Hid (∀ k : Nat, k < nj n → m.read ((1 + k : Nat) : Int) = sect m.b (1 + k)) := Lib.hid fun k hk => read_nat (b := m.b) (l := m.left) (d := m.dead) hb (by unfold nj at hk; omega)
  have HSL : Hid (∀ k, k < nj n → (sect m.b (1 + k)).length = 64) := Lib.hid fun k hk => sect_len _ _ (by unfold nj at hk; omega)
  have HJT : Hid (∀ k, k < nj n → (jourN n m.b).take (k + 1) = (jourN n m.b).take k ++ [sect m.b (1 + k)]) := Lib.hid fun k hk => jourN_take m.b hk
  have HTL : Hid (∀ k, ((jourN n m.b).take k).length ≤ k) := Lib.hid fun k => by rw [List.length_take]; omega
  have HALL : Hid ((jourN n m.b).take (nj n) = jourN n m.b) := Lib.hid (List.take_of_length_le (by rw [jourN_len]; exact Nat.le_refl _))
  have HM0 : Hid (OwnM w w.heap.size (.slice none 0 0) ((jourN n m.b).take 0)) := Lib.hid (OwnM.nil _ _)
  have HJL := Lib.hid (jourN_len n m.b)
  have HGET : Hid (∀ k, (hk : k < (jourN n m.b).length) → (jourN n m.b)[k] = sect m.b (1 + k)) := Lib.hid fun k hk => jourN_get m.b hk
  have hj := nj_le n
  have CG := Lib.hid (fun A d W hR => R18.get_new A (jourN n m.b) d W hR (by rw [jourN_len]; omega) (fun x hx => by rw [jourN_rows hb x hx]; omega))
  have HSD : Hid (∀ l ok, Got (jourN n m.b) l ok → said n m.b = if ok = true ∧ there n l then l else []) := Lib.hid fun l ok h => said_of h
  have CTH := Lib.hid (fun W A l cl (hl : ChsAt W A l) hll => there_ref n A l cl W hn hl hll)
  have CC := Lib.hid (fun W A k d (hA : BytesAt W A (sect m.b (1 + k))) (hk : k < nj n) => R15.clear_any A (sect m.b (1 + k)) d W hA (by rw [sect_len _ _ (by unfold nj at hk; omega)]; omega))
  have HC0 := Lib.hid (clearsTo_zero n m.b)
  have HCY : Hid (∀ k, k < nj n → SecM.clear_ (sect m.b (1 + k)) = true → clearsTo n m.b (k + 1) = clearsTo n m.b k) := Lib.hid fun k hk hc => clearsTo_yes hk hc
  have HCN : Hid (∀ k, k < nj n → SecM.clear_ (sect m.b (1 + k)) = false → clearsTo n m.b (k + 1) = clearsTo n m.b k ++ [⟨((1 + k : Nat) : Int), []⟩]) := Lib.hid fun k hk hc => clearsTo_no hk hc
  have HCL : Hid (∀ k, (clearsTo n m.b k).length ≤ 33) := Lib.hid fun k => clearsTo_len n m.b k
  have hag : againN n m.b = said n m.b ++ clearsTo n m.b (nj n) := by rw [clearsTo_all]; rfl
  rw [hag]
  have hbl : m.b.length / 64 = n := by omega
  have hq64 : ((m.b.length : Nat) : Int).tdiv 64 = (n : Int) := by
    have : ((m.b.length : Nat) : Int).tdiv 64 = ((m.b.length / 64 : Nat) : Int) := rfl
    rw [this, hbl]
  have HQ := Lib.hid hq64
  obtain ⟨J, hJ⟩ : ∃ J, J = nj n := ⟨_, rfl⟩
  have HJ := Lib.hid hJ
  rw [← hJ] at HIS HRD HSL HJT HALL HJL CC HCY HCN hj ⊢
  generalize jourN n m.b = R at *
  generalize said n m.b = S at *
  generalize clearsTo n m.b = K at *
  have HSN := Lib.hid hn
  clear h hag hq64 hbl hJ
  go_enter Tryz.func18, Tryz.ntmps18
  go_wp2
  go_loopw [3, 4] (fun v i wr => ∃ k a : Nat, k ≤ J ∧ a = 1 + k ∧ i = .int .i64 (a : Nat) ∧ OwnM wr w.heap.size v (R.take k) ∧ Below w.heap.size w wr)
    (fun _ i _ => 34 - (intOf i).toNat)
  case atStart => exact ⟨0, 1, Nat.zero_le _, rfl, rfl, HM0.out, Below.refl _ _⟩
  case round =>
    obtain ⟨k, a, hk, ha, rfl, hown, hbw⟩ := hrel
    rename World => w1
    have HO := Lib.hid hown; have HB := Lib.hid hbw
    have HD1 := Lib.hid (HD.out.below hbw)
    have CI1 := CI.out w1 ((a : Nat) : Int) HD1.out
    have his := fun h34 => HIS.out k h34
    rw [← ha] at his
    have HIK : Hid (a < 34 → isS m.b ((a : Nat) : Int) = decide (k < J)) := Lib.hid his
    have HAK := Lib.hid ha
    clear hown hbw his HM0
    by_cases h34 : a < 34
    · have hia := HIK.out h34
      rw [hia] at CI1
      by_cases hlt : k < J
      · rw [decide_eq_true hlt] at CI1
        have CI2 := Lib.hid CI1
        have hrd := HRD.out k hlt
        rw [← ha] at hrd
        have C2 := CR.out w1 ((a : Nat) : Int) HD1.out
        rw [hrd] at C2
        have hs64 := HSL.out k hlt
        have hsn := HJT.out k hlt
        rw [← ha] at hs64 hsn
        have HSNN := Lib.hid hsn
        have C3 := Lib.hid C2
        have HLL := Lib.hid (HTL.out k)
        generalize sect m.b a = s at *
        have HS64 := Lib.hid hs64
        clear hia CI1 hrd C2 hs64 hsn ha HIK
        go_wp2_with fail
        refine CI2.out.mono ?_
        rintro e w2 ⟨rfl, rfl⟩
        go_wp2_with fail
        refine C3.out.mono ?_
        rintro e w3 ⟨X, d, rfl, x1, x2, hX, hb3, hXn⟩
        rw [HS64.out] at x1 ⊢
        have hox := HO.out.ownlt
        have HB4 := Lib.hid (bstep hb3 (balloc w3 (.cells #[.slice X 64 d] 32)))
        have HO4 := Lib.hid (HO.out.below HB4.out)
        have HX4 := Lib.hid (hX.alloc (.cells #[.slice X 64 d] 32))
        have HC4 : Hid ((w3.alloc (.cells #[.slice X 64 d] 32)).cell? ⟨w3.heap.size, 0, none⟩ = some (.slice X s.length d)) := Lib.hid (by rw [HS64.out]; simp)
        have HNE : Hid (∀ a, X = some a → u3.ownBlock ≠ some a.block) := Lib.hid fun a e e2 => by have h1 := (hox _ e2).2; have h2 := hXn a e; omega
        have Q1 : Hid (s.length ≤ d) := Lib.hid (by rw [HS64.out]; exact x1)
        have Q2 := Lib.hid x2
        have HBW := Lib.hid (HB.out.trans (HB4.out.mono HB.out.size))
        clear hb3 x1 x2 hX hXn hox C3
        go_wp2_with (at_builtin; refine wpList_append_row rfl (.tmp 18) (.tmp 22) rfl w.heap.size u3 (R.take k) rfl HO4.out w3.heap.size 1 s X d rfl HC4.out Q1.out Q2.out HX4.out (fun _ a e => HNE.out a e) (by have := HLL.out; omega) HBW.out.size ?_; rw [← HSNN.out]; intro v6 w6 own6 hb6; have HO6 := Lib.hid own6; have HB6 := Lib.hid (HBW.out.trans hb6); clear own6 hb6)
        go_roundw
        case rel => exact ⟨k + 1, a + 1, by omega, by have := HAK.out; omega, by go_num, HO6.out, HB6.out⟩
        case measure => simp [intOf] <;> omega
      · rw [decide_eq_false hlt] at CI1
        have CI2 := Lib.hid CI1
        obtain rfl : J = k := by omega
        clear hia CI1 ha HIK
        go_wp2_with fail
        refine CI2.out.mono ?_
        rintro e w2 ⟨rfl, rfl⟩
        go_wp2_with fail
        have hall := HO.out
        rw [HALL.out] at hall
        obtain ⟨A, dA, hv3, r1, r2, hR, -⟩ := hall.rows
        subst hv3
        have HR := Lib.hid hR
        have CG2 := Lib.hid (CG.out A dA w1 hR)
        have HBW1 := Lib.hid HB.out
        have HWW : Hid (w.heap.size ≤ w1.heap.size) := Lib.hid HB.out.size
        clear hall hR CG CR CI HO HIS HRD HJT HTL HALL CI2 HB HAK h34
        obtain ⟨rn, hrn⟩ : ∃ rn, rn = R.length := ⟨_, rfl⟩
        have HRN := Lib.hid hrn
        rw [← hrn] at r1 CG2 ⊢
        clear hrn
        refine CG2.out.mono ?_
        rintro e w4 ⟨l, ok, X, dx, rfl, b1, b2, b3, hgot, hb4⟩
        have hsd := HSD.out l ok hgot
        have hfew := got_few hgot
        have HCH := Lib.hid b3
        have HBL := Lib.hid hb4
        have e0 := (HD1.out.below hb4).c0
        have hq64 := HQ.out
        have CT := Lib.hid (CTH.out w4 X l dx b3.chs (by omega))
        obtain ⟨xn, hxn⟩ : ∃ xn, xn = l.length := ⟨_, rfl⟩
        have HXN := Lib.hid hxn
        rw [← hxn] at b1 CT ⊢
        clear hxn hgot b3 hb4 CG2 HSD CTH
        generalize m.b.length = mbl at *
        cases ok
        · rw [if_neg (by simp)] at hsd
          have HSF : Hid (S.length ≤ 618) := Lib.hid (by rw [hsd]; simp)
          have HOC : Hid (OwnC w4 w1.heap.size (fun k => k < w1.heap.size) (.slice none 0 0) S) := Lib.hid (by rw [hsd]; exact OwnC.nil _ _ _)
          clear hsd e0 hq64 CT HCH HXN b1
          go_wp2
          have HZ0 := Lib.hid (show w1.heap.size ≤ w4.heap.size from HBL.out.size)
          go_loopw [7, 8] (fun v i wr => ∃ k : Nat, k ≤ rn ∧ i = .int .i64 (k : Nat) ∧ OwnC wr w1.heap.size (fun k => k < w1.heap.size) v (S ++ K k) ∧ Below w1.heap.size w1 wr)
            (fun _ i _ => rn - (intOf i).toNat)
          case atStart => exact ⟨0, Nat.zero_le _, rfl, by rw [HC0.out, List.append_nil]; exact HOC.out, HBL.out⟩
          case round =>
            obtain ⟨k, hk, rfl, hown, hbw⟩ := hrel
            rename World => w6
            have HO6 := Lib.hid hown; have HB6 := Lib.hid hbw
            clear hown hbw HOC HBL HZ0
            by_cases hlt : k < rn
            · have hk2 : k < R.length := by rw [← HRN.out]; exact hlt
              have hkJ : k < J := by rw [← HJL.out]; exact hk2
              obtain ⟨b, o, B, d6, rfl, e1, x1, x2, hX⟩ := (HR.out.below HB6.out).row hk2
              rw [HGET.out k hk2] at e1 x1 hX
              have C6 := CC.out w6 B k d6 hX hkJ
              have hs64 := HSL.out k hkJ
              have hcy := HCY.out k hkJ
              have hcn := HCN.out k hkJ
              rw [hs64] at e1 x1 C6
              obtain ⟨cl, hcl⟩ : ∃ cl, cl = SecM.clear_ (sect m.b (1 + k)) := ⟨_, rfl⟩
              rw [← hcl] at C6 hcy hcn
              have HCYK := Lib.hid hcy; have HCNK := Lib.hid hcn
              have C7 := Lib.hid C6
              have hsl : S.length ≤ 618 := HSF.out
              have hkl := HCL.out k
              have HLK : Hid ((S ++ K k).length < 1099511627776) := Lib.hid (by rw [List.length_append]; omega)
              clear hX hcy hcn C6 hcl hs64 hsl hkl
              cases cl
              · have hkk := HCNK.out rfl
                obtain ⟨a, ha⟩ : ∃ a, a = 1 + k := ⟨_, rfl⟩
                have haw : IntKind.i64.wrap (1 + (k : Int)) = (a : Int) := by rw [IntWalk.i64_in _ (by omega)]; omega
                rw [← ha] at hkk
                have HKK : Hid (S ++ K (k + 1) = (S ++ K k) ++ [⟨(a : Nat), []⟩]) := Lib.hid (by rw [hkk, List.append_assoc])
                have hai : AtIn ((a : Nat) : Int) := by unfold AtIn; omega
                have HAI := Lib.hid hai
                clear hkk ha hai HCYK HCNK
                go_wp2_with fail
                refine C7.out.mono ?_
                rintro e w7 ⟨rfl, hb7⟩
                have HB7 := Lib.hid (HB6.out.trans (hb7.mono HB6.out.size))
                have hbw8 := balloc w7 (.cells #[.int .i64 (a : Nat), .slice none 0 0] 49)
                have HO7 := Lib.hid ((HO6.out.below hb7).below hbw8)
                have HB8 := Lib.hid (HB7.out.trans (hbw8.mono HB7.out.size))
                have HC0 : Hid ((w7.alloc (.cells #[.int .i64 (a : Nat), .slice none 0 0] 49)).cell? ⟨w7.heap.size, 0, none⟩ = some (.int .i64 (a : Nat))) := Lib.hid (by simp)
                have HC1 : Hid ((w7.alloc (.cells #[.int .i64 (a : Nat), .slice none 0 0] 49)).cell? ⟨w7.heap.size, 1, none⟩ = some (.slice none 0 0)) := Lib.hid (by simp)
                have hz8 := HB8.out.size
                have HGS : Hid (∀ j, j < w1.heap.size → j < (w7.alloc (.cells #[.int .i64 (a : Nat), .slice none 0 0] 49)).heap.size) := Lib.hid fun j hj => by omega
                have HBS : Hid (w1.heap.size ≤ (w7.alloc (.cells #[.int .i64 (a : Nat), .slice none 0 0] 49)).heap.size) := Lib.hid (by omega)
                have HNE : Hid (0 < ([] : List UInt8).length → ∀ x, (none : Option Addr) = some x → u7.ownBlock ≠ some x.block ∧ ¬ x.block < w1.heap.size) := Lib.hid fun h0 => by simp at h0
                have HNIL := Lib.hid (BytesAt.nil (w7.alloc (.cells #[.int .i64 (a : Nat), .slice none 0 0] 49)) none)
                clear hb7 hbw8 C7 hz8
                go_wp2_with (at_builtin; refine wpList_append_ch rfl (.tmp 55) (.tmp 59) rfl w1.heap.size (fun j => j < w1.heap.size) u7 (S ++ K k) rfl HO7.out w7.heap.size 1 ⟨(a : Nat), []⟩ none 0 rfl HC0.out HC1.out (Nat.le_refl _) (Nat.zero_le _) HNIL.out HAI.out HNE.out HGS.out HLK.out HBS.out ?_; rw [← HKK.out]; intro v9 w9 own9 hg9 _; have HB9 := Lib.hid (HB8.out.grown hg9 HB8.out.size fun k hk => (HO7.out.lt k hk).1); have HO9 := Lib.hid own9; clear own9 hg9)
                go_roundw
                case rel => exact ⟨k + 1, by omega, by go_num, HO9.out, HB9.out⟩
                case measure => simp [intOf] <;> omega
              · have HKK : Hid (K (k + 1) = K k) := Lib.hid (HCYK.out rfl)
                clear HCYK HCNK
                go_wp2_with fail
                refine C7.out.mono ?_
                rintro e w7 ⟨rfl, hb7⟩
                have HB7 := Lib.hid (HB6.out.trans (hb7.mono HB6.out.size))
                have HO7 := Lib.hid (HO6.out.below hb7)
                clear hb7 C7
                go_wp2
                go_roundw
                case rel => exact ⟨k + 1, by omega, by go_num, by rw [HKK.out]; exact HO7.out, HB7.out⟩
                case measure => simp [intOf] <;> omega
            · obtain rfl : k = rn := by omega
              go_wp2
              go_ret
              have ho := HO6.out
              rw [HRN.out, HJL.out] at ho
              obtain ⟨X9, c9, hv9, y1, y2, y3, y4⟩ := ho.chsP (P := fun k => w.heap.size ≤ k) fun k hk => Nat.le_trans HWW.out (Nat.le_of_not_lt hk)
              exact ⟨X9, c9, by rw [hv9]; rfl, y1, y2, y3, HBW1.out.trans (HB6.out.mono HWW.out), fun a e => Nat.le_trans HWW.out (y4 a e)⟩
        · by_cases hth : there n l
          · rw [if_pos ⟨rfl, hth⟩] at hsd
            rw [decide_eq_true hth] at CT
            have HSF : Hid (S.length ≤ 618) := Lib.hid (by rw [hsd]; exact hfew)
            have HSL2 := Lib.hid hsd
            have HFW := Lib.hid hfew
            have HZ4 : Hid (w1.heap.size ≤ w4.heap.size) := Lib.hid HBL.out.size
            have HP4 : Hid (ChsP (fun k => (Value.slice none 0 0).ownBlock ≠ some k ∧ ¬ k < w1.heap.size) w4 X l) := Lib.hid (HCH.out.mono fun k _ hk => ⟨by simp [Value.ownBlock], by omega⟩)
            clear hsd hth hfew b1
            go_wp2_with fail
            refine CT.out.mono ?_
            rintro e w5 ⟨rfl, rfl⟩
            clear CT e0 hq64
            go_wp2_with (at_builtin; refine wpList_append_chs rfl (.tmp 40) (.tmp 41) rfl w1.heap.size (fun k => k < w1.heap.size) (.slice none 0 0) [] l rfl (OwnC.nil _ _ _) X xn dx rfl HXN.out HP4.out (fun k hk => Nat.lt_of_lt_of_le hk HZ4.out) (by have := HFW.out; simp; omega) HZ4.out ?_; rw [List.nil_append, ← HSL2.out]; intro v5 w5 own5 hb5; have HOC := Lib.hid own5; have HBL := Lib.hid (HBL.out.trans hb5); clear own5 hb5)
            have HZ0 := Lib.hid (show w1.heap.size ≤ w5.heap.size from HBL.out.size)
            go_loopw [7, 8] (fun v i wr => ∃ k : Nat, k ≤ rn ∧ i = .int .i64 (k : Nat) ∧ OwnC wr w1.heap.size (fun k => k < w1.heap.size) v (S ++ K k) ∧ Below w1.heap.size w1 wr)
              (fun _ i _ => rn - (intOf i).toNat)
            case atStart => exact ⟨0, Nat.zero_le _, rfl, by rw [HC0.out, List.append_nil]; exact HOC.out, HBL.out⟩
            case round =>
              obtain ⟨k, hk, rfl, hown, hbw⟩ := hrel
              rename World => w6
              have HO6 := Lib.hid hown; have HB6 := Lib.hid hbw
              clear hown hbw HOC HBL HZ0
              by_cases hlt : k < rn
              · have hk2 : k < R.length := by rw [← HRN.out]; exact hlt
                have hkJ : k < J := by rw [← HJL.out]; exact hk2
                obtain ⟨b, o, B, d6, rfl, e1, x1, x2, hX⟩ := (HR.out.below HB6.out).row hk2
                rw [HGET.out k hk2] at e1 x1 hX
                have C6 := CC.out w6 B k d6 hX hkJ
                have hs64 := HSL.out k hkJ
                have hcy := HCY.out k hkJ
                have hcn := HCN.out k hkJ
                rw [hs64] at e1 x1 C6
                obtain ⟨cl, hcl⟩ : ∃ cl, cl = SecM.clear_ (sect m.b (1 + k)) := ⟨_, rfl⟩
                rw [← hcl] at C6 hcy hcn
                have HCYK := Lib.hid hcy; have HCNK := Lib.hid hcn
                have C7 := Lib.hid C6
                have hsl : S.length ≤ 618 := HSF.out
                have hkl := HCL.out k
                have HLK : Hid ((S ++ K k).length < 1099511627776) := Lib.hid (by rw [List.length_append]; omega)
                clear hX hcy hcn C6 hcl hs64 hsl hkl
                cases cl
                · have hkk := HCNK.out rfl
                  obtain ⟨a, ha⟩ : ∃ a, a = 1 + k := ⟨_, rfl⟩
                  have haw : IntKind.i64.wrap (1 + (k : Int)) = (a : Int) := by rw [IntWalk.i64_in _ (by omega)]; omega
                  rw [← ha] at hkk
                  have HKK : Hid (S ++ K (k + 1) = (S ++ K k) ++ [⟨(a : Nat), []⟩]) := Lib.hid (by rw [hkk, List.append_assoc])
                  have hai : AtIn ((a : Nat) : Int) := by unfold AtIn; omega
                  have HAI := Lib.hid hai
                  clear hkk ha hai HCYK HCNK
                  go_wp2_with fail
                  refine C7.out.mono ?_
                  rintro e w7 ⟨rfl, hb7⟩
                  have HB7 := Lib.hid (HB6.out.trans (hb7.mono HB6.out.size))
                  have hbw8 := balloc w7 (.cells #[.int .i64 (a : Nat), .slice none 0 0] 49)
                  have HO7 := Lib.hid ((HO6.out.below hb7).below hbw8)
                  have HB8 := Lib.hid (HB7.out.trans (hbw8.mono HB7.out.size))
                  have HC0 : Hid ((w7.alloc (.cells #[.int .i64 (a : Nat), .slice none 0 0] 49)).cell? ⟨w7.heap.size, 0, none⟩ = some (.int .i64 (a : Nat))) := Lib.hid (by simp)
                  have HC1 : Hid ((w7.alloc (.cells #[.int .i64 (a : Nat), .slice none 0 0] 49)).cell? ⟨w7.heap.size, 1, none⟩ = some (.slice none 0 0)) := Lib.hid (by simp)
                  have hz8 := HB8.out.size
                  have HGS : Hid (∀ j, j < w1.heap.size → j < (w7.alloc (.cells #[.int .i64 (a : Nat), .slice none 0 0] 49)).heap.size) := Lib.hid fun j hj => by omega
                  have HBS : Hid (w1.heap.size ≤ (w7.alloc (.cells #[.int .i64 (a : Nat), .slice none 0 0] 49)).heap.size) := Lib.hid (by omega)
                  have HNE : Hid (0 < ([] : List UInt8).length → ∀ x, (none : Option Addr) = some x → u7.ownBlock ≠ some x.block ∧ ¬ x.block < w1.heap.size) := Lib.hid fun h0 => by simp at h0
                  have HNIL := Lib.hid (BytesAt.nil (w7.alloc (.cells #[.int .i64 (a : Nat), .slice none 0 0] 49)) none)
                  clear hb7 hbw8 C7 hz8
                  go_wp2_with (at_builtin; refine wpList_append_ch rfl (.tmp 55) (.tmp 59) rfl w1.heap.size (fun j => j < w1.heap.size) u7 (S ++ K k) rfl HO7.out w7.heap.size 1 ⟨(a : Nat), []⟩ none 0 rfl HC0.out HC1.out (Nat.le_refl _) (Nat.zero_le _) HNIL.out HAI.out HNE.out HGS.out HLK.out HBS.out ?_; rw [← HKK.out]; intro v9 w9 own9 hg9 _; have HB9 := Lib.hid (HB8.out.grown hg9 HB8.out.size fun k hk => (HO7.out.lt k hk).1); have HO9 := Lib.hid own9; clear own9 hg9)
                  go_roundw
                  case rel => exact ⟨k + 1, by omega, by go_num, HO9.out, HB9.out⟩
                  case measure => simp [intOf] <;> omega
                · have HKK : Hid (K (k + 1) = K k) := Lib.hid (HCYK.out rfl)
                  clear HCYK HCNK
                  go_wp2_with fail
                  refine C7.out.mono ?_
                  rintro e w7 ⟨rfl, hb7⟩
                  have HB7 := Lib.hid (HB6.out.trans (hb7.mono HB6.out.size))
                  have HO7 := Lib.hid (HO6.out.below hb7)
                  clear hb7 C7
                  go_wp2
                  go_roundw
                  case rel => exact ⟨k + 1, by omega, by go_num, by rw [HKK.out]; exact HO7.out, HB7.out⟩
                  case measure => simp [intOf] <;> omega
              · obtain rfl : k = rn := by omega
                go_wp2
                go_ret
                have ho := HO6.out
                rw [HRN.out, HJL.out] at ho
                obtain ⟨X9, c9, hv9, y1, y2, y3, y4⟩ := ho.chsP (P := fun k => w.heap.size ≤ k) fun k hk => Nat.le_trans HWW.out (Nat.le_of_not_lt hk)
                exact ⟨X9, c9, by rw [hv9]; rfl, y1, y2, y3, HBW1.out.trans (HB6.out.mono HWW.out), fun a e => Nat.le_trans HWW.out (y4 a e)⟩
          · rw [if_neg (fun h => hth h.2)] at hsd
            rw [decide_eq_false hth] at CT
            have HSF : Hid (S.length ≤ 618) := Lib.hid (by rw [hsd]; simp)
            have HOC : Hid (OwnC w4 w1.heap.size (fun k => k < w1.heap.size) (.slice none 0 0) S) := Lib.hid (by rw [hsd]; exact OwnC.nil _ _ _)
            clear hsd hth HCH HXN b1
            go_wp2_with fail
            refine CT.out.mono ?_
            rintro e w5 ⟨rfl, rfl⟩
            clear CT e0 hq64
            go_wp2
            have HZ0 := Lib.hid (show w1.heap.size ≤ w4.heap.size from HBL.out.size)
            go_loopw [7, 8] (fun v i wr => ∃ k : Nat, k ≤ rn ∧ i = .int .i64 (k : Nat) ∧ OwnC wr w1.heap.size (fun k => k < w1.heap.size) v (S ++ K k) ∧ Below w1.heap.size w1 wr)
              (fun _ i _ => rn - (intOf i).toNat)
            case atStart => exact ⟨0, Nat.zero_le _, rfl, by rw [HC0.out, List.append_nil]; exact HOC.out, HBL.out⟩
            case round =>
              obtain ⟨k, hk, rfl, hown, hbw⟩ := hrel
              rename World => w6
              have HO6 := Lib.hid hown; have HB6 := Lib.hid hbw
              clear hown hbw HOC HBL HZ0
              by_cases hlt : k < rn
              · have hk2 : k < R.length := by rw [← HRN.out]; exact hlt
                have hkJ : k < J := by rw [← HJL.out]; exact hk2
                obtain ⟨b, o, B, d6, rfl, e1, x1, x2, hX⟩ := (HR.out.below HB6.out).row hk2
                rw [HGET.out k hk2] at e1 x1 hX
                have C6 := CC.out w6 B k d6 hX hkJ
                have hs64 := HSL.out k hkJ
                have hcy := HCY.out k hkJ
                have hcn := HCN.out k hkJ
                rw [hs64] at e1 x1 C6
                obtain ⟨cl, hcl⟩ : ∃ cl, cl = SecM.clear_ (sect m.b (1 + k)) := ⟨_, rfl⟩
                rw [← hcl] at C6 hcy hcn
                have HCYK := Lib.hid hcy; have HCNK := Lib.hid hcn
                have C7 := Lib.hid C6
                have hsl : S.length ≤ 618 := HSF.out
                have hkl := HCL.out k
                have HLK : Hid ((S ++ K k).length < 1099511627776) := Lib.hid (by rw [List.length_append]; omega)
                clear hX hcy hcn C6 hcl hs64 hsl hkl
                cases cl
                · have hkk := HCNK.out rfl
                  obtain ⟨a, ha⟩ : ∃ a, a = 1 + k := ⟨_, rfl⟩
                  have haw : IntKind.i64.wrap (1 + (k : Int)) = (a : Int) := by rw [IntWalk.i64_in _ (by omega)]; omega
                  rw [← ha] at hkk
                  have HKK : Hid (S ++ K (k + 1) = (S ++ K k) ++ [⟨(a : Nat), []⟩]) := Lib.hid (by rw [hkk, List.append_assoc])
                  have hai : AtIn ((a : Nat) : Int) := by unfold AtIn; omega
                  have HAI := Lib.hid hai
                  clear hkk ha hai HCYK HCNK
                  go_wp2_with fail
                  refine C7.out.mono ?_
                  rintro e w7 ⟨rfl, hb7⟩
                  have HB7 := Lib.hid (HB6.out.trans (hb7.mono HB6.out.size))
                  have hbw8 := balloc w7 (.cells #[.int .i64 (a : Nat), .slice none 0 0] 49)
                  have HO7 := Lib.hid ((HO6.out.below hb7).below hbw8)
                  have HB8 := Lib.hid (HB7.out.trans (hbw8.mono HB7.out.size))
                  have HC0 : Hid ((w7.alloc (.cells #[.int .i64 (a : Nat), .slice none 0 0] 49)).cell? ⟨w7.heap.size, 0, none⟩ = some (.int .i64 (a : Nat))) := Lib.hid (by simp)
                  have HC1 : Hid ((w7.alloc (.cells #[.int .i64 (a : Nat), .slice none 0 0] 49)).cell? ⟨w7.heap.size, 1, none⟩ = some (.slice none 0 0)) := Lib.hid (by simp)
                  have hz8 := HB8.out.size
                  have HGS : Hid (∀ j, j < w1.heap.size → j < (w7.alloc (.cells #[.int .i64 (a : Nat), .slice none 0 0] 49)).heap.size) := Lib.hid fun j hj => by omega
                  have HBS : Hid (w1.heap.size ≤ (w7.alloc (.cells #[.int .i64 (a : Nat), .slice none 0 0] 49)).heap.size) := Lib.hid (by omega)
                  have HNE : Hid (0 < ([] : List UInt8).length → ∀ x, (none : Option Addr) = some x → u7.ownBlock ≠ some x.block ∧ ¬ x.block < w1.heap.size) := Lib.hid fun h0 => by simp at h0
                  have HNIL := Lib.hid (BytesAt.nil (w7.alloc (.cells #[.int .i64 (a : Nat), .slice none 0 0] 49)) none)
                  clear hb7 hbw8 C7 hz8
                  go_wp2_with (at_builtin; refine wpList_append_ch rfl (.tmp 55) (.tmp 59) rfl w1.heap.size (fun j => j < w1.heap.size) u7 (S ++ K k) rfl HO7.out w7.heap.size 1 ⟨(a : Nat), []⟩ none 0 rfl HC0.out HC1.out (Nat.le_refl _) (Nat.zero_le _) HNIL.out HAI.out HNE.out HGS.out HLK.out HBS.out ?_; rw [← HKK.out]; intro v9 w9 own9 hg9 _; have HB9 := Lib.hid (HB8.out.grown hg9 HB8.out.size fun k hk => (HO7.out.lt k hk).1); have HO9 := Lib.hid own9; clear own9 hg9)
                  go_roundw
                  case rel => exact ⟨k + 1, by omega, by go_num, HO9.out, HB9.out⟩
                  case measure => simp [intOf] <;> omega
                · have HKK : Hid (K (k + 1) = K k) := Lib.hid (HCYK.out rfl)
                  clear HCYK HCNK
                  go_wp2_with fail
                  refine C7.out.mono ?_
                  rintro e w7 ⟨rfl, hb7⟩
                  have HB7 := Lib.hid (HB6.out.trans (hb7.mono HB6.out.size))
                  have HO7 := Lib.hid (HO6.out.below hb7)
                  clear hb7 C7
                  go_wp2
                  go_roundw
                  case rel => exact ⟨k + 1, by omega, by go_num, by rw [HKK.out]; exact HO7.out, HB7.out⟩
                  case measure => simp [intOf] <;> omega
              · obtain rfl : k = rn := by omega
                go_wp2
                go_ret
                have ho := HO6.out
                rw [HRN.out, HJL.out] at ho
                obtain ⟨X9, c9, hv9, y1, y2, y3, y4⟩ := ho.chsP (P := fun k => w.heap.size ≤ k) fun k hk => Nat.le_trans HWW.out (Nat.le_of_not_lt hk)
                exact ⟨X9, c9, by rw [hv9]; rfl, y1, y2, y3, HBW1.out.trans (HB6.out.mono HWW.out), fun a e => Nat.le_trans HWW.out (y4 a e)⟩
    · obtain rfl : J = k := by omega
      clear CI1 ha HIK
      go_wp2_with fail
      have hall := HO.out
      rw [HALL.out] at hall
      obtain ⟨A, dA, hv3, r1, r2, hR, -⟩ := hall.rows
      subst hv3
      have HR := Lib.hid hR
      have CG2 := Lib.hid (CG.out A dA w1 hR)
      have HBW1 := Lib.hid HB.out
      have HWW : Hid (w.heap.size ≤ w1.heap.size) := Lib.hid HB.out.size
      clear hall hR CG CR CI HO HIS HRD HJT HTL HALL HB HAK h34
      obtain ⟨rn, hrn⟩ : ∃ rn, rn = R.length := ⟨_, rfl⟩
      have HRN := Lib.hid hrn
      rw [← hrn] at r1 CG2 ⊢
      clear hrn
      refine CG2.out.mono ?_
      rintro e w4 ⟨l, ok, X, dx, rfl, b1, b2, b3, hgot, hb4⟩
      have hsd := HSD.out l ok hgot
      have hfew := got_few hgot
      have HCH := Lib.hid b3
      have HBL := Lib.hid hb4
      have e0 := (HD1.out.below hb4).c0
      have hq64 := HQ.out
      have CT := Lib.hid (CTH.out w4 X l dx b3.chs (by omega))
      obtain ⟨xn, hxn⟩ : ∃ xn, xn = l.length := ⟨_, rfl⟩
      have HXN := Lib.hid hxn
      rw [← hxn] at b1 CT ⊢
      clear hxn hgot b3 hb4 CG2 HSD CTH
      generalize m.b.length = mbl at *
      cases ok
      · rw [if_neg (by simp)] at hsd
        have HSF : Hid (S.length ≤ 618) := Lib.hid (by rw [hsd]; simp)
        have HOC : Hid (OwnC w4 w1.heap.size (fun k => k < w1.heap.size) (.slice none 0 0) S) := Lib.hid (by rw [hsd]; exact OwnC.nil _ _ _)
        clear hsd e0 hq64 CT HCH HXN b1
        go_wp2
        have HZ0 := Lib.hid (show w1.heap.size ≤ w4.heap.size from HBL.out.size)
        go_loopw [7, 8] (fun v i wr => ∃ k : Nat, k ≤ rn ∧ i = .int .i64 (k : Nat) ∧ OwnC wr w1.heap.size (fun k => k < w1.heap.size) v (S ++ K k) ∧ Below w1.heap.size w1 wr)
          (fun _ i _ => rn - (intOf i).toNat)
        case atStart => exact ⟨0, Nat.zero_le _, rfl, by rw [HC0.out, List.append_nil]; exact HOC.out, HBL.out⟩
        case round =>
          obtain ⟨k, hk, rfl, hown, hbw⟩ := hrel
          rename World => w6
          have HO6 := Lib.hid hown; have HB6 := Lib.hid hbw
          clear hown hbw HOC HBL HZ0
          by_cases hlt : k < rn
          · have hk2 : k < R.length := by rw [← HRN.out]; exact hlt
            have hkJ : k < J := by rw [← HJL.out]; exact hk2
            obtain ⟨b, o, B, d6, rfl, e1, x1, x2, hX⟩ := (HR.out.below HB6.out).row hk2
            rw [HGET.out k hk2] at e1 x1 hX
            have C6 := CC.out w6 B k d6 hX hkJ
            have hs64 := HSL.out k hkJ
            have hcy := HCY.out k hkJ
            have hcn := HCN.out k hkJ
            rw [hs64] at e1 x1 C6
            obtain ⟨cl, hcl⟩ : ∃ cl, cl = SecM.clear_ (sect m.b (1 + k)) := ⟨_, rfl⟩
            rw [← hcl] at C6 hcy hcn
            have HCYK := Lib.hid hcy; have HCNK := Lib.hid hcn
            have C7 := Lib.hid C6
            have hsl : S.length ≤ 618 := HSF.out
            have hkl := HCL.out k
            have HLK : Hid ((S ++ K k).length < 1099511627776) := Lib.hid (by rw [List.length_append]; omega)
            clear hX hcy hcn C6 hcl hs64 hsl hkl
            cases cl
            · have hkk := HCNK.out rfl
              obtain ⟨a, ha⟩ : ∃ a, a = 1 + k := ⟨_, rfl⟩
              have haw : IntKind.i64.wrap (1 + (k : Int)) = (a : Int) := by rw [IntWalk.i64_in _ (by omega)]; omega
              rw [← ha] at hkk
              have HKK : Hid (S ++ K (k + 1) = (S ++ K k) ++ [⟨(a : Nat), []⟩]) := Lib.hid (by rw [hkk, List.append_assoc])
              have hai : AtIn ((a : Nat) : Int) := by unfold AtIn; omega
              have HAI := Lib.hid hai
              clear hkk ha hai HCYK HCNK
              go_wp2_with fail
              refine C7.out.mono ?_
              rintro e w7 ⟨rfl, hb7⟩
              have HB7 := Lib.hid (HB6.out.trans (hb7.mono HB6.out.size))
              have hbw8 := balloc w7 (.cells #[.int .i64 (a : Nat), .slice none 0 0] 49)
              have HO7 := Lib.hid ((HO6.out.below hb7).below hbw8)
              have HB8 := Lib.hid (HB7.out.trans (hbw8.mono HB7.out.size))
              have HC0 : Hid ((w7.alloc (.cells #[.int .i64 (a : Nat), .slice none 0 0] 49)).cell? ⟨w7.heap.size, 0, none⟩ = some (.int .i64 (a : Nat))) := Lib.hid (by simp)
              have HC1 : Hid ((w7.alloc (.cells #[.int .i64 (a : Nat), .slice none 0 0] 49)).cell? ⟨w7.heap.size, 1, none⟩ = some (.slice none 0 0)) := Lib.hid (by simp)
              have hz8 := HB8.out.size
              have HGS : Hid (∀ j, j < w1.heap.size → j < (w7.alloc (.cells #[.int .i64 (a : Nat), .slice none 0 0] 49)).heap.size) := Lib.hid fun j hj => by omega
              have HBS : Hid (w1.heap.size ≤ (w7.alloc (.cells #[.int .i64 (a : Nat), .slice none 0 0] 49)).heap.size) := Lib.hid (by omega)
              have HNE : Hid (0 < ([] : List UInt8).length → ∀ x, (none : Option Addr) = some x → u7.ownBlock ≠ some x.block ∧ ¬ x.block < w1.heap.size) := Lib.hid fun h0 => by simp at h0
              have HNIL := Lib.hid (BytesAt.nil (w7.alloc (.cells #[.int .i64 (a : Nat), .slice none 0 0] 49)) none)
              clear hb7 hbw8 C7 hz8
              go_wp2_with (at_builtin; refine wpList_append_ch rfl (.tmp 55) (.tmp 59) rfl w1.heap.size (fun j => j < w1.heap.size) u7 (S ++ K k) rfl HO7.out w7.heap.size 1 ⟨(a : Nat), []⟩ none 0 rfl HC0.out HC1.out (Nat.le_refl _) (Nat.zero_le _) HNIL.out HAI.out HNE.out HGS.out HLK.out HBS.out ?_; rw [← HKK.out]; intro v9 w9 own9 hg9 _; have HB9 := Lib.hid (HB8.out.grown hg9 HB8.out.size fun k hk => (HO7.out.lt k hk).1); have HO9 := Lib.hid own9; clear own9 hg9)
              go_roundw
              case rel => exact ⟨k + 1, by omega, by go_num, HO9.out, HB9.out⟩
              case measure => simp [intOf] <;> omega
            · have HKK : Hid (K (k + 1) = K k) := Lib.hid (HCYK.out rfl)
              clear HCYK HCNK
              go_wp2_with fail
              refine C7.out.mono ?_
              rintro e w7 ⟨rfl, hb7⟩
              have HB7 := Lib.hid (HB6.out.trans (hb7.mono HB6.out.size))
              have HO7 := Lib.hid (HO6.out.below hb7)
              clear hb7 C7
              go_wp2
              go_roundw
              case rel => exact ⟨k + 1, by omega, by go_num, by rw [HKK.out]; exact HO7.out, HB7.out⟩
              case measure => simp [intOf] <;> omega
          · obtain rfl : k = rn := by omega
            go_wp2
            go_ret
            have ho := HO6.out
            rw [HRN.out, HJL.out] at ho
            obtain ⟨X9, c9, hv9, y1, y2, y3, y4⟩ := ho.chsP (P := fun k => w.heap.size ≤ k) fun k hk => Nat.le_trans HWW.out (Nat.le_of_not_lt hk)
            exact ⟨X9, c9, by rw [hv9]; rfl, y1, y2, y3, HBW1.out.trans (HB6.out.mono HWW.out), fun a e => Nat.le_trans HWW.out (y4 a e)⟩
      · by_cases hth : there n l
        · rw [if_pos ⟨rfl, hth⟩] at hsd
          rw [decide_eq_true hth] at CT
          have HSF : Hid (S.length ≤ 618) := Lib.hid (by rw [hsd]; exact hfew)
          have HSL2 := Lib.hid hsd
          have HFW := Lib.hid hfew
          have HZ4 : Hid (w1.heap.size ≤ w4.heap.size) := Lib.hid HBL.out.size
          have HP4 : Hid (ChsP (fun k => (Value.slice none 0 0).ownBlock ≠ some k ∧ ¬ k < w1.heap.size) w4 X l) := Lib.hid (HCH.out.mono fun k _ hk => ⟨by simp [Value.ownBlock], by omega⟩)
          clear hsd hth hfew b1
          go_wp2_with fail
          refine CT.out.mono ?_
          rintro e w5 ⟨rfl, rfl⟩
          clear CT e0 hq64
          go_wp2_with (at_builtin; refine wpList_append_chs rfl (.tmp 40) (.tmp 41) rfl w1.heap.size (fun k => k < w1.heap.size) (.slice none 0 0) [] l rfl (OwnC.nil _ _ _) X xn dx rfl HXN.out HP4.out (fun k hk => Nat.lt_of_lt_of_le hk HZ4.out) (by have := HFW.out; simp; omega) HZ4.out ?_; rw [List.nil_append, ← HSL2.out]; intro v5 w5 own5 hb5; have HOC := Lib.hid own5; have HBL := Lib.hid (HBL.out.trans hb5); clear own5 hb5)
          have HZ0 := Lib.hid (show w1.heap.size ≤ w5.heap.size from HBL.out.size)
          go_loopw [7, 8] (fun v i wr => ∃ k : Nat, k ≤ rn ∧ i = .int .i64 (k : Nat) ∧ OwnC wr w1.heap.size (fun k => k < w1.heap.size) v (S ++ K k) ∧ Below w1.heap.size w1 wr)
            (fun _ i _ => rn - (intOf i).toNat)
          case atStart => exact ⟨0, Nat.zero_le _, rfl, by rw [HC0.out, List.append_nil]; exact HOC.out, HBL.out⟩
          case round =>
            obtain ⟨k, hk, rfl, hown, hbw⟩ := hrel
            rename World => w6
            have HO6 := Lib.hid hown; have HB6 := Lib.hid hbw
            clear hown hbw HOC HBL HZ0
            by_cases hlt : k < rn
            · have hk2 : k < R.length := by rw [← HRN.out]; exact hlt
              have hkJ : k < J := by rw [← HJL.out]; exact hk2
              obtain ⟨b, o, B, d6, rfl, e1, x1, x2, hX⟩ := (HR.out.below HB6.out).row hk2
              rw [HGET.out k hk2] at e1 x1 hX
              have C6 := CC.out w6 B k d6 hX hkJ
              have hs64 := HSL.out k hkJ
              have hcy := HCY.out k hkJ
              have hcn := HCN.out k hkJ
              rw [hs64] at e1 x1 C6
              obtain ⟨cl, hcl⟩ : ∃ cl, cl = SecM.clear_ (sect m.b (1 + k)) := ⟨_, rfl⟩
              rw [← hcl] at C6 hcy hcn
              have HCYK := Lib.hid hcy; have HCNK := Lib.hid hcn
              have C7 := Lib.hid C6
              have hsl : S.length ≤ 618 := HSF.out
              have hkl := HCL.out k
              have HLK : Hid ((S ++ K k).length < 1099511627776) := Lib.hid (by rw [List.length_append]; omega)
              clear hX hcy hcn C6 hcl hs64 hsl hkl
              cases cl
              · have hkk := HCNK.out rfl
                obtain ⟨a, ha⟩ : ∃ a, a = 1 + k := ⟨_, rfl⟩
                have haw : IntKind.i64.wrap (1 + (k : Int)) = (a : Int) := by rw [IntWalk.i64_in _ (by omega)]; omega
                rw [← ha] at hkk
                have HKK : Hid (S ++ K (k + 1) = (S ++ K k) ++ [⟨(a : Nat), []⟩]) := Lib.hid (by rw [hkk, List.append_assoc])
                have hai : AtIn ((a : Nat) : Int) := by unfold AtIn; omega
                have HAI := Lib.hid hai
                clear hkk ha hai HCYK HCNK
                go_wp2_with fail
                refine C7.out.mono ?_
                rintro e w7 ⟨rfl, hb7⟩
                have HB7 := Lib.hid (HB6.out.trans (hb7.mono HB6.out.size))
                have hbw8 := balloc w7 (.cells #[.int .i64 (a : Nat), .slice none 0 0] 49)
                have HO7 := Lib.hid ((HO6.out.below hb7).below hbw8)
                have HB8 := Lib.hid (HB7.out.trans (hbw8.mono HB7.out.size))
                have HC0 : Hid ((w7.alloc (.cells #[.int .i64 (a : Nat), .slice none 0 0] 49)).cell? ⟨w7.heap.size, 0, none⟩ = some (.int .i64 (a : Nat))) := Lib.hid (by simp)
                have HC1 : Hid ((w7.alloc (.cells #[.int .i64 (a : Nat), .slice none 0 0] 49)).cell? ⟨w7.heap.size, 1, none⟩ = some (.slice none 0 0)) := Lib.hid (by simp)
                have hz8 := HB8.out.size
                have HGS : Hid (∀ j, j < w1.heap.size → j < (w7.alloc (.cells #[.int .i64 (a : Nat), .slice none 0 0] 49)).heap.size) := Lib.hid fun j hj => by omega
                have HBS : Hid (w1.heap.size ≤ (w7.alloc (.cells #[.int .i64 (a : Nat), .slice none 0 0] 49)).heap.size) := Lib.hid (by omega)
                have HNE : Hid (0 < ([] : List UInt8).length → ∀ x, (none : Option Addr) = some x → u7.ownBlock ≠ some x.block ∧ ¬ x.block < w1.heap.size) := Lib.hid fun h0 => by simp at h0
                have HNIL := Lib.hid (BytesAt.nil (w7.alloc (.cells #[.int .i64 (a : Nat), .slice none 0 0] 49)) none)
                clear hb7 hbw8 C7 hz8
                go_wp2_with (at_builtin; refine wpList_append_ch rfl (.tmp 55) (.tmp 59) rfl w1.heap.size (fun j => j < w1.heap.size) u7 (S ++ K k) rfl HO7.out w7.heap.size 1 ⟨(a : Nat), []⟩ none 0 rfl HC0.out HC1.out (Nat.le_refl _) (Nat.zero_le _) HNIL.out HAI.out HNE.out HGS.out HLK.out HBS.out ?_; rw [← HKK.out]; intro v9 w9 own9 hg9 _; have HB9 := Lib.hid (HB8.out.grown hg9 HB8.out.size fun k hk => (HO7.out.lt k hk).1); have HO9 := Lib.hid own9; clear own9 hg9)
                go_roundw
                case rel => exact ⟨k + 1, by omega, by go_num, HO9.out, HB9.out⟩
                case measure => simp [intOf] <;> omega
              · have HKK : Hid (K (k + 1) = K k) := Lib.hid (HCYK.out rfl)
                clear HCYK HCNK
                go_wp2_with fail
                refine C7.out.mono ?_
                rintro e w7 ⟨rfl, hb7⟩
                have HB7 := Lib.hid (HB6.out.trans (hb7.mono HB6.out.size))
                have HO7 := Lib.hid (HO6.out.below hb7)
                clear hb7 C7
                go_wp2
                go_roundw
                case rel => exact ⟨k + 1, by omega, by go_num, by rw [HKK.out]; exact HO7.out, HB7.out⟩
                case measure => simp [intOf] <;> omega
            · obtain rfl : k = rn := by omega
              go_wp2
              go_ret
              have ho := HO6.out
              rw [HRN.out, HJL.out] at ho
              obtain ⟨X9, c9, hv9, y1, y2, y3, y4⟩ := ho.chsP (P := fun k => w.heap.size ≤ k) fun k hk => Nat.le_trans HWW.out (Nat.le_of_not_lt hk)
              exact ⟨X9, c9, by rw [hv9]; rfl, y1, y2, y3, HBW1.out.trans (HB6.out.mono HWW.out), fun a e => Nat.le_trans HWW.out (y4 a e)⟩
        · rw [if_neg (fun h => hth h.2)] at hsd
          rw [decide_eq_false hth] at CT
          have HSF : Hid (S.length ≤ 618) := Lib.hid (by rw [hsd]; simp)
          have HOC : Hid (OwnC w4 w1.heap.size (fun k => k < w1.heap.size) (.slice none 0 0) S) := Lib.hid (by rw [hsd]; exact OwnC.nil _ _ _)
          clear hsd hth HCH HXN b1
          go_wp2_with fail
          refine CT.out.mono ?_
          rintro e w5 ⟨rfl, rfl⟩
          clear CT e0 hq64
          go_wp2
          have HZ0 := Lib.hid (show w1.heap.size ≤ w4.heap.size from HBL.out.size)
          go_loopw [7, 8] (fun v i wr => ∃ k : Nat, k ≤ rn ∧ i = .int .i64 (k : Nat) ∧ OwnC wr w1.heap.size (fun k => k < w1.heap.size) v (S ++ K k) ∧ Below w1.heap.size w1 wr)
            (fun _ i _ => rn - (intOf i).toNat)
          case atStart => exact ⟨0, Nat.zero_le _, rfl, by rw [HC0.out, List.append_nil]; exact HOC.out, HBL.out⟩
          case round =>
            obtain ⟨k, hk, rfl, hown, hbw⟩ := hrel
            rename World => w6
            have HO6 := Lib.hid hown; have HB6 := Lib.hid hbw
            clear hown hbw HOC HBL HZ0
            by_cases hlt : k < rn
            · have hk2 : k < R.length := by rw [← HRN.out]; exact hlt
              have hkJ : k < J := by rw [← HJL.out]; exact hk2
              obtain ⟨b, o, B, d6, rfl, e1, x1, x2, hX⟩ := (HR.out.below HB6.out).row hk2
              rw [HGET.out k hk2] at e1 x1 hX
              have C6 := CC.out w6 B k d6 hX hkJ
              have hs64 := HSL.out k hkJ
              have hcy := HCY.out k hkJ
              have hcn := HCN.out k hkJ
              rw [hs64] at e1 x1 C6
              obtain ⟨cl, hcl⟩ : ∃ cl, cl = SecM.clear_ (sect m.b (1 + k)) := ⟨_, rfl⟩
              rw [← hcl] at C6 hcy hcn
              have HCYK := Lib.hid hcy; have HCNK := Lib.hid hcn
              have C7 := Lib.hid C6
              have hsl : S.length ≤ 618 := HSF.out
              have hkl := HCL.out k
              have HLK : Hid ((S ++ K k).length < 1099511627776) := Lib.hid (by rw [List.length_append]; omega)
              clear hX hcy hcn C6 hcl hs64 hsl hkl
              cases cl
              · have hkk := HCNK.out rfl
                obtain ⟨a, ha⟩ : ∃ a, a = 1 + k := ⟨_, rfl⟩
                have haw : IntKind.i64.wrap (1 + (k : Int)) = (a : Int) := by rw [IntWalk.i64_in _ (by omega)]; omega
                rw [← ha] at hkk
                have HKK : Hid (S ++ K (k + 1) = (S ++ K k) ++ [⟨(a : Nat), []⟩]) := Lib.hid (by rw [hkk, List.append_assoc])
                have hai : AtIn ((a : Nat) : Int) := by unfold AtIn; omega
                have HAI := Lib.hid hai
                clear hkk ha hai HCYK HCNK
                go_wp2_with fail
                refine C7.out.mono ?_
                rintro e w7 ⟨rfl, hb7⟩
                have HB7 := Lib.hid (HB6.out.trans (hb7.mono HB6.out.size))
                have hbw8 := balloc w7 (.cells #[.int .i64 (a : Nat), .slice none 0 0] 49)
                have HO7 := Lib.hid ((HO6.out.below hb7).below hbw8)
                have HB8 := Lib.hid (HB7.out.trans (hbw8.mono HB7.out.size))
                have HC0 : Hid ((w7.alloc (.cells #[.int .i64 (a : Nat), .slice none 0 0] 49)).cell? ⟨w7.heap.size, 0, none⟩ = some (.int .i64 (a : Nat))) := Lib.hid (by simp)
                have HC1 : Hid ((w7.alloc (.cells #[.int .i64 (a : Nat), .slice none 0 0] 49)).cell? ⟨w7.heap.size, 1, none⟩ = some (.slice none 0 0)) := Lib.hid (by simp)
                have hz8 := HB8.out.size
                have HGS : Hid (∀ j, j < w1.heap.size → j < (w7.alloc (.cells #[.int .i64 (a : Nat), .slice none 0 0] 49)).heap.size) := Lib.hid fun j hj => by omega
                have HBS : Hid (w1.heap.size ≤ (w7.alloc (.cells #[.int .i64 (a : Nat), .slice none 0 0] 49)).heap.size) := Lib.hid (by omega)
                have HNE : Hid (0 < ([] : List UInt8).length → ∀ x, (none : Option Addr) = some x → u7.ownBlock ≠ some x.block ∧ ¬ x.block < w1.heap.size) := Lib.hid fun h0 => by simp at h0
                have HNIL := Lib.hid (BytesAt.nil (w7.alloc (.cells #[.int .i64 (a : Nat), .slice none 0 0] 49)) none)
                clear hb7 hbw8 C7 hz8
                go_wp2_with (at_builtin; refine wpList_append_ch rfl (.tmp 55) (.tmp 59) rfl w1.heap.size (fun j => j < w1.heap.size) u7 (S ++ K k) rfl HO7.out w7.heap.size 1 ⟨(a : Nat), []⟩ none 0 rfl HC0.out HC1.out (Nat.le_refl _) (Nat.zero_le _) HNIL.out HAI.out HNE.out HGS.out HLK.out HBS.out ?_; rw [← HKK.out]; intro v9 w9 own9 hg9 _; have HB9 := Lib.hid (HB8.out.grown hg9 HB8.out.size fun k hk => (HO7.out.lt k hk).1); have HO9 := Lib.hid own9; clear own9 hg9)
                go_roundw
                case rel => exact ⟨k + 1, by omega, by go_num, HO9.out, HB9.out⟩
                case measure => simp [intOf] <;> omega
              · have HKK : Hid (K (k + 1) = K k) := Lib.hid (HCYK.out rfl)
                clear HCYK HCNK
                go_wp2_with fail
                refine C7.out.mono ?_
                rintro e w7 ⟨rfl, hb7⟩
                have HB7 := Lib.hid (HB6.out.trans (hb7.mono HB6.out.size))
                have HO7 := Lib.hid (HO6.out.below hb7)
                clear hb7 C7
                go_wp2
                go_roundw
                case rel => exact ⟨k + 1, by omega, by go_num, by rw [HKK.out]; exact HO7.out, HB7.out⟩
                case measure => simp [intOf] <;> omega
            · obtain rfl : k = rn := by omega
              go_wp2
              go_ret
              have ho := HO6.out
              rw [HRN.out, HJL.out] at ho
              obtain ⟨X9, c9, hv9, y1, y2, y3, y4⟩ := ho.chsP (P := fun k => w.heap.size ≤ k) fun k hk => Nat.le_trans HWW.out (Nat.le_of_not_lt hk)
              exact ⟨X9, c9, by rw [hv9]; rfl, y1, y2, y3, HBW1.out.trans (HB6.out.mono HWW.out), fun a e => Nat.le_trans HWW.out (y4 a e)⟩
end Go.Proofs.YtapgpibindhlfaaGreat.R19

/- the document's own answers of layer 19: Writes -/
set_option maxRecDepth 100000
namespace Go.Proofs.YtapgpibindhlfaaGreat.R19
open Go.RowKit DiskM EntM JourM Disk Jour

def bodTo (s : List (List UInt8)) (k : Nat) : List Ch := (List.range k).map (bodyW s)
theorem bodTo_succ (s : List (List UInt8)) (k : Nat) : bodTo s (k + 1) = bodTo s k ++ [bodyW s k] := by unfold bodTo; rw [List.range_succ, List.map_append]; rfl
def nulTo (k : Nat) : List Ch := (List.range k).map fun i => ⟨((1 + i : Nat) : Int), []⟩
theorem nulTo_succ (k : Nat) : nulTo (k + 1) = nulTo k ++ [⟨((1 + k : Nat) : Int), []⟩] := by unfold nulTo; rw [List.range_succ, List.map_append]; rfl
theorem writes_as {l : List Ch} (h : l ≠ []) : writes l = (bodTo (put l) (bodies (text l)) ++ [⟨1, (put l).getD 0 []⟩]) ++ l ++ nulTo (bodies (text l) + 1) := by
  unfold writes bodTo nulTo
  rw [if_neg h, List.range_succ_eq_map, List.map_cons, List.map_map, List.append_assoc, List.append_assoc]
  congr 1
  rw [List.singleton_append]
  congr 2
  show (⟨1, []⟩ : Ch) :: _ = ⟨((1 + 0 : Nat) : Int), []⟩ :: _
  congr 1
  refine List.map_congr_left fun i _ => ?_
  show (⟨((2 + i : Nat) : Int), []⟩ : Ch) = ⟨((1 + (i + 1) : Nat) : Int), []⟩
  rw [show 2 + i = 1 + (i + 1) from by omega]
/-- changes apart from a disk -/
def RetChsOff (p g : Nat) (w : World) (l : List Ch) (e : Ending) (w' : World) : Prop :=
  ∃ X d, e = .returned (.slice X l.length d) ∧ l.length ≤ d ∧ d ≤ maxLen ∧ ChsP (Off p g) w' X l ∧ Below w.heap.size w w' ∧ ∀ a, X = some a → w.heap.size ≤ a.block
set_option maxHeartbeats 4000000 in
theorem writes_any (p g : Nat) (A : Option Addr) (l : List Ch) (cl : Nat) (w : World) (hm : May l) (h : ChsP (Off p g) w A l) (hp : p < w.heap.size) (hg : g < w.heap.size) :
    Calls Tryz.prog 14 #[.slice A l.length cl] w (RetChsOff p g w (writes l)) := by
  by_cases hnil : l = []
  · subst hnil
    rw [show writes [] = [] from rfl, List.length_nil]
    clear h
    go_enter Tryz.func14, Tryz.ntmps14
    go_wp2
    go_ret
    exact ⟨none, 0, rfl, Nat.le_refl _, Nat.zero_le _, ChsP.nil _ _ _, Below.refl _ _, fun a e => by cases e⟩
  have hfew := hm.few
  have CP := Lib.hid (R18.put_new A l cl w h.chs hm)
  have hbl := JourM.bodies_le hm
  have hpl := JourM.put_len l
  have hsl := JourM.put_get l
  rw [writes_as hnil]
  have hlen0 : l.length ≠ 0 := fun e => hnil (List.eq_nil_of_length_eq_zero e)
  have HW := Lib.hid h
  have HLB : Hid (0 < l.length → ∀ a, A = some a → a.block < w.heap.size) := Lib.hid (chs_block h.chs)
  obtain ⟨bd, hbd⟩ : ∃ bd, bd = bodies (text l) := ⟨_, rfl⟩
  rw [← hbd] at hbl hpl hsl ⊢
  obtain ⟨D0, hD0⟩ : ∃ D0, D0 = (put l).getD 0 [] := ⟨_, rfl⟩
  rw [← hD0]
  generalize put l = S at *
  have HS0 : Hid (bodTo S 0 = []) := Lib.hid rfl
  have HSS := Lib.hid (bodTo_succ S)
  have HBL : Hid (∀ k, (bodTo S k).length = k) := Lib.hid fun k => by unfold bodTo; simp
  have HBW : Hid (∀ k, bodyW S k = ⟨((2 + k : Nat) : Int), S.getD (1 + k) []⟩) := Lib.hid fun k => rfl
  generalize bodTo S = BT at *
  have HD0 : Hid ((hk : 0 < S.length) → S[0] = D0) := Lib.hid fun hk => by rw [hD0, List.getD_eq_getElem?_getD, List.getElem?_eq_getElem hk]; rfl
  obtain ⟨H, hH⟩ : ∃ H, H = (BT bd ++ [⟨1, D0⟩]) ++ l := ⟨_, rfl⟩
  have HH := Lib.hid hH
  rw [← hH]
  clear hD0 hH
  have HN0 : Hid (nulTo 0 = []) := Lib.hid rfl
  have HNS := Lib.hid nulTo_succ
  have HNL : Hid (∀ k, (nulTo k).length = k) := Lib.hid fun k => by unfold nulTo; simp
  generalize nulTo = NT at *
  obtain ⟨sn, hsn⟩ : ∃ sn, sn = S.length := ⟨_, rfl⟩
  have HSN := Lib.hid hsn
  have HGD : Hid (∀ k, (hk : k < S.length) → S.getD k [] = S[k]) := Lib.hid fun k hk => by rw [List.getD_eq_getElem?_getD, List.getElem?_eq_getElem hk]; rfl
  have hsb : sn = bd + 1 := by omega
  have HSB := Lib.hid hsb
  obtain ⟨ln, hln⟩ : ∃ ln, ln = l.length := ⟨_, rfl⟩
  have HLN := Lib.hid hln
  have hln0 : ¬ ln = 0 := by omega
  have hln6 : ln ≤ 618 := by omega
  rw [← hln] at CP ⊢
  have hsn33 : sn ≤ 33 := by omega
  clear h hnil hm hfew hbl hpl hsl hlen0 hbd hsn hsb hln
  go_enter Tryz.func14, Tryz.ntmps14
  go_wp2_with fail
  refine CP.out.mono ?_
  rintro e w1 ⟨X, dx, rfl, x1, x2, x3, hb1, -⟩
  rw [← HSN.out] at x1 ⊢
  have HR := Lib.hid (x3.mono (Q := Off p g) fun k _ hk => ⟨by omega, by omega⟩)
  have HB1 := Lib.hid hb1
  have hs1 := hb1.size
  have HL1 := Lib.hid (HW.out.below hb1)
  have HW0 : Hid (OwnC w1 w1.heap.size (PG p g) (.slice none 0 0) (BT 0)) := Lib.hid (by rw [HS0.out]; exact OwnC.nil _ _ _)
  have HPG : Hid (p < w1.heap.size ∧ g < w1.heap.size) := Lib.hid (by omega)
  clear x3 hb1 CP
  go_wp2
  go_loopw [3, 5] (fun v i wr => ∃ k a : Nat, k < sn ∧ a = 1 + k ∧ i = .int .i64 (a : Nat) ∧ OwnC wr w1.heap.size (PG p g) v (BT k) ∧ Below w1.heap.size w1 wr)
    (fun _ i _ => sn - (intOf i).toNat)
  case atStart => exact ⟨0, 1, by have := HSB.out; omega, rfl, rfl, HW0.out, Below.refl _ _⟩
  case round =>
    obtain ⟨k, a, hk, ha, rfl, hown, hb⟩ := hrel
    rename World => w2
    have HO := Lib.hid hown; have HB := Lib.hid hb
    clear hown hb HW0
    by_cases hlt : a < sn
    · have hk2 : a < S.length := by rw [← HSN.out]; exact hlt
      obtain ⟨bx, ox, hXe, B, d, e1, y1, y2, hX, hXP⟩ := (HR.out.below HB.out) a hk2
      have hXl : 0 < S[a].length → ∀ x, B = some x → x.block < w1.heap.size := by
        obtain ⟨b0, o0, hX0, B0, d0, e10, _, _, hY, _⟩ := HR.out a hk2
        rw [hXe] at hX0
        injection hX0 with hX0
        injection hX0 with f1 f2
        subst f1; subst f2
        have := (HB.out.cell (p := ⟨bx, ox + a, none⟩) (cell_lt e10)).trans e10
        rw [e1] at this
        injection this with this
        injection this with this _ _
        subst this
        exact fun h0 x e => hY.lt h0 x e
      subst hXe
      have hsn2 := HSS.out k
      rw [HBW.out k, ← ha, HGD.out a hk2] at hsn2
      have HBK := Lib.hid (HBL.out k)
      have HX := Lib.hid hX; have HXP := Lib.hid hXP; have HXL := Lib.hid hXl; have Y1 := Lib.hid y1; have Y2 := Lib.hid y2
      clear hX hXP hXl y1 y2
      generalize S[a] = dt at *
      obtain ⟨a2, ha2⟩ : ∃ a2, a2 = 2 + k := ⟨_, rfl⟩
      have haw : IntKind.i64.wrap (1 + ((a : Nat) : Int)) = ((a2 : Nat) : Int) := by rw [IntWalk.i64_in _ (by omega)]; omega
      rw [← ha2] at hsn2
      have hai : AtIn ((a2 : Nat) : Int) := by unfold AtIn; omega
      have HAI := Lib.hid hai
      have HSNN := Lib.hid hsn2
      have HAK := Lib.hid ha
      obtain ⟨dn, hdn⟩ : ∃ dn, dn = dt.length := ⟨_, rfl⟩
      have HDN := Lib.hid hdn
      rw [← hdn] at e1
      clear hsn2 hai ha ha2 hdn
      have hW := balloc w2 (.cells #[.int .i64 (a2 : Nat), .slice B dn d] 49)
      have HO3 := Lib.hid (HO.out.below hW)
      have hox := HO.out.lt
      have hws := HB.out.size
      have HC0 : Hid ((w2.alloc (.cells #[.int .i64 (a2 : Nat), .slice B dn d] 49)).cell? ⟨w2.heap.size, 0, none⟩ = some (.int .i64 (a2 : Nat))) := Lib.hid (by simp)
      have HC1 : Hid ((w2.alloc (.cells #[.int .i64 (a2 : Nat), .slice B dn d] 49)).cell? ⟨w2.heap.size, 1, none⟩ = some (.slice B dt.length d)) := Lib.hid (by rw [← HDN.out]; simp)
      have HX3 := Lib.hid (HX.out.below hW)
      have HNE : Hid (0 < dt.length → ∀ x, B = some x → u3.ownBlock ≠ some x.block ∧ ¬ PG p g x.block) := Lib.hid fun h0 x e => ⟨fun e2 => by
        have := (hox _ e2).1; have := HXL.out h0 x e; omega, (HXP.out h0 x e).not⟩
      have hsz : (w2.alloc (.cells #[.int .i64 (a2 : Nat), .slice B dn d] 49)).heap.size = w2.heap.size + 1 := by simp
      have HGS : Hid (∀ j, PG p g j → j < (w2.alloc (.cells #[.int .i64 (a2 : Nat), .slice B dn d] 49)).heap.size) := Lib.hid fun j hj => by
        have := HPG.out
        rcases hj with hj | hj <;> omega
      have HBW2 := Lib.hid (HB.out.trans (hW.mono hws))
      clear hW hox hws hsz
      go_wp2_with (at_builtin; refine wpList_append_ch rfl (.tmp 19) (.tmp 27) rfl w1.heap.size (PG p g) u3 (BT k) rfl HO3.out w2.heap.size 1 ⟨(a2 : Nat), dt⟩ B d rfl HC0.out HC1.out Y1.out Y2.out HX3.out HAI.out HNE.out HGS.out (by rw [HBK.out]; omega) HBW2.out.size ?_; rw [← HSNN.out]; intro v5 w5 own5 hg5 _; have HB5 := Lib.hid (HBW2.out.grown hg5 HBW2.out.size fun k hk => (HO3.out.lt k hk).1); have HO5 := Lib.hid own5; clear own5 hg5)
      go_roundw
      case rel => exact ⟨k + 1, a + 1, by have := HAK.out; omega, by have := HAK.out; omega, by go_num, HO5.out, HB5.out⟩
      case measure => simp [intOf] <;> omega
    · have hkb : k = bd := by have := HSB.out; omega
      subst hkb
      have hk2 : 0 < S.length := by rw [← HSN.out]; omega
      obtain ⟨bx, ox, hXe, B, d, e1, y1, y2, hX, hXP⟩ := (HR.out.below HB.out) 0 hk2
      rw [Nat.add_zero] at e1
      have hXl : 0 < S[0].length → ∀ x, B = some x → x.block < w1.heap.size := by
        obtain ⟨b0, o0, hX0, B0, d0, e10, _, _, hY, _⟩ := HR.out 0 hk2
        rw [hXe] at hX0
        injection hX0 with hX0
        injection hX0 with f1 f2
        subst f1; subst f2
        rw [Nat.add_zero] at e10
        have := (HB.out.cell (p := ⟨bx, ox, none⟩) (cell_lt e10)).trans e10
        rw [e1] at this
        injection this with this
        injection this with this _ _
        subst this
        exact fun h0 x e => hY.lt h0 x e
      subst hXe
      rw [HD0.out hk2] at e1 y1 hX hXP hXl
      have HBK := Lib.hid (HBL.out k)
      have HX := Lib.hid hX; have HXP := Lib.hid hXP; have HXL := Lib.hid hXl; have Y1 := Lib.hid y1; have Y2 := Lib.hid y2
      clear hX hXP hXl y1 y2
      obtain ⟨dt, hdt⟩ : ∃ dt, dt = D0 := ⟨_, rfl⟩
      rw [← hdt] at e1 HX HXP HXL Y1 HH
      clear hdt
      obtain ⟨dn, hdn⟩ : ∃ dn, dn = dt.length := ⟨_, rfl⟩
      have HDN := Lib.hid hdn
      rw [← hdn] at e1
      clear hdn ha
      have hW := balloc w2 (.cells #[.int .i64 1, .slice B dn d] 49)
      have HO3 := Lib.hid (HO.out.below hW)
      have hox := HO.out.lt
      have hws := HB.out.size
      have HC0 : Hid ((w2.alloc (.cells #[.int .i64 1, .slice B dn d] 49)).cell? ⟨w2.heap.size, 0, none⟩ = some (.int .i64 1)) := Lib.hid (by simp)
      have HC1 : Hid ((w2.alloc (.cells #[.int .i64 1, .slice B dn d] 49)).cell? ⟨w2.heap.size, 1, none⟩ = some (.slice B dt.length d)) := Lib.hid (by rw [← HDN.out]; simp)
      have HX3 := Lib.hid (HX.out.below hW)
      have HNE : Hid (0 < dt.length → ∀ x, B = some x → u3.ownBlock ≠ some x.block ∧ ¬ PG p g x.block) := Lib.hid fun h0 x e => ⟨fun e2 => by
        have := (hox _ e2).1; have := HXL.out h0 x e; omega, (HXP.out h0 x e).not⟩
      have hsz : (w2.alloc (.cells #[.int .i64 1, .slice B dn d] 49)).heap.size = w2.heap.size + 1 := by simp
      have HGS : Hid (∀ j, PG p g j → j < (w2.alloc (.cells #[.int .i64 1, .slice B dn d] 49)).heap.size) := Lib.hid fun j hj => by
        have := HPG.out
        rcases hj with hj | hj <;> omega
      have HBW2 := Lib.hid (HB.out.trans (hW.mono hws))
      have HLC : Hid (∀ (v : Value) W, (∀ k, v.ownBlock = some k → w1.heap.size ≤ k) → Below w1.heap.size w1 W → ChsP (fun k => v.ownBlock ≠ some k ∧ ¬ PG p g k) W A l) := Lib.hid fun v W hv hb => by
        have h2 : ChsP (fun k => k < w1.heap.size ∧ Off p g k) w1 A l := HL1.out.mono fun k hk hO => ⟨hk, hO⟩
        exact (h2.below hb).mono (Q := fun k => v.ownBlock ≠ some k ∧ ¬ PG p g k) fun k _ hk => ⟨fun e => by have := hv k e; have := hk.1; omega, hk.2.not⟩
      clear hW hox hws hsz
      go_wp2_with (first | (at_builtin; refine wpList_append_ch rfl (.tmp 29) (.tmp 34) rfl w1.heap.size (PG p g) u3 (BT k) rfl HO3.out w2.heap.size 1 ⟨1, dt⟩ B d rfl HC0.out HC1.out Y1.out Y2.out HX3.out (by unfold AtIn; simp) HNE.out HGS.out (by rw [HBK.out]; omega) HBW2.out.size ?_; intro v5 w5 own5 hg5 _; have HB5 := Lib.hid (HBW2.out.grown hg5 HBW2.out.size fun k hk => (HO3.out.lt k hk).1); have HO5 := Lib.hid own5; clear own5 hg5) | (at_builtin; refine wpList_append_chs rfl (.tmp 36) (.tmp 37) rfl w1.heap.size (PG p g) v5 (BT k ++ [⟨1, dt⟩]) l rfl HO5.out A ln cl rfl HLN.out (HLC.out v5 w5 (fun k hk => (HO5.out.lt k hk).1) HB5.out) (fun j hj => by have h1 := HPG.out; have h2 := HB5.out.size; rcases hj with hj | hj <;> omega) (by have h1 := HLN.out; have h2 := HBK.out; rw [List.length_append, h2, ← h1]; simp; omega) HB5.out.size ?_; intro v6 w6 own6 hb6; have HB6 := Lib.hid (HB5.out.trans hb6); have HO6 := Lib.hid own6; clear own6 hb6))
      have HO7 : Hid (OwnC w6 w1.heap.size (PG p g) v6 (H ++ NT 0)) := Lib.hid (by rw [HN0.out, List.append_nil, HH.out]; exact HO6.out)
      have HHL : Hid (H.length ≤ 1000) := Lib.hid (by rw [HH.out, List.length_append, List.length_append, HBK.out, ← HLN.out]; simp; omega)
      clear HO5 HB5 HO6 HLC HC0 HC1 HNE HGS HBW2 HX3 HO3
      go_loopw [3, 6] (fun v i wr => ∃ j : Nat, j ≤ sn ∧ i = .int .i64 (j : Nat) ∧ OwnC wr w1.heap.size (PG p g) v (H ++ NT j) ∧ Below w1.heap.size w1 wr)
        (fun _ i _ => sn - (intOf i).toNat)
      case atStart => exact ⟨0, by omega, rfl, HO7.out, HB6.out⟩
      case round =>
        obtain ⟨j, hj, rfl, hown, hb⟩ := hrel
        rename World => w8
        have HO8 := Lib.hid hown; have HB8 := Lib.hid hb
        clear hown hb HO7 HB6
        by_cases hlt2 : j < sn
        · obtain ⟨a3, ha3⟩ : ∃ a3, a3 = 1 + j := ⟨_, rfl⟩
          have haw : IntKind.i64.wrap (1 + ((j : Nat) : Int)) = ((a3 : Nat) : Int) := by rw [IntWalk.i64_in _ (by omega)]; omega
          have hns := HNS.out j
          rw [← ha3] at hns
          have HNN : Hid (H ++ NT (j + 1) = (H ++ NT j) ++ [⟨(a3 : Nat), []⟩]) := Lib.hid (by rw [hns, List.append_assoc])
          have hai : AtIn ((a3 : Nat) : Int) := by unfold AtIn; omega
          have HAI := Lib.hid hai
          have HLL : Hid ((H ++ NT j).length < 1099511627776) := Lib.hid (by rw [List.length_append, HNL.out]; have := HHL.out; omega)
          have hW := balloc w8 (.cells #[.int .i64 (a3 : Nat), .slice none 0 0] 49)
          have HO9 := Lib.hid (HO8.out.below hW)
          have hws := HB8.out.size
          have HC0 : Hid ((w8.alloc (.cells #[.int .i64 (a3 : Nat), .slice none 0 0] 49)).cell? ⟨w8.heap.size, 0, none⟩ = some (.int .i64 (a3 : Nat))) := Lib.hid (by simp)
          have HC1 : Hid ((w8.alloc (.cells #[.int .i64 (a3 : Nat), .slice none 0 0] 49)).cell? ⟨w8.heap.size, 1, none⟩ = some (.slice none 0 0)) := Lib.hid (by simp)
          have HNIL := Lib.hid (BytesAt.nil (w8.alloc (.cells #[.int .i64 (a3 : Nat), .slice none 0 0] 49)) none)
          have HNE : Hid (0 < ([] : List UInt8).length → ∀ x, (none : Option Addr) = some x → u3.ownBlock ≠ some x.block ∧ ¬ PG p g x.block) := Lib.hid fun h0 => by simp at h0
          have hsz : (w8.alloc (.cells #[.int .i64 (a3 : Nat), .slice none 0 0] 49)).heap.size = w8.heap.size + 1 := by simp
          have HGS : Hid (∀ j, PG p g j → j < (w8.alloc (.cells #[.int .i64 (a3 : Nat), .slice none 0 0] 49)).heap.size) := Lib.hid fun j hj => by
            have := HPG.out
            rcases hj with hj | hj <;> omega
          have HBW3 := Lib.hid (HB8.out.trans (hW.mono hws))
          clear hW hws hsz hns hai ha3
          go_wp2_with (at_builtin; refine wpList_append_ch rfl (.tmp 45) (.tmp 49) rfl w1.heap.size (PG p g) u3 (H ++ NT j) rfl HO9.out w8.heap.size 1 ⟨(a3 : Nat), []⟩ none 0 rfl HC0.out HC1.out (Nat.le_refl _) (Nat.zero_le _) HNIL.out HAI.out HNE.out HGS.out HLL.out HBW3.out.size ?_; rw [← HNN.out]; intro v5 w5 own5 hg5 _; have HB5 := Lib.hid (HBW3.out.grown hg5 HBW3.out.size fun k hk => (HO9.out.lt k hk).1); have HO5 := Lib.hid own5; clear own5 hg5)
          go_roundw
          case rel => exact ⟨j + 1, by omega, by go_num, HO5.out, HB5.out⟩
          case measure => simp [intOf] <;> omega
        · have hjs : j = k + 1 := by have := HSB.out; omega
          subst hjs
          go_wp2
          go_ret
          obtain ⟨X9, c9, hv9, z1, z2, z3, z4⟩ := HO8.out.chsP (P := Off p g) fun k hk => ⟨fun e => hk (.inl e), fun e => hk (.inr e)⟩
          exact ⟨X9, c9, by rw [hv9]; rfl, z1, z2, z3, HB1.out.trans (HB8.out.mono hs1), fun a e => Nat.le_trans hs1 (z4 a e)⟩
end Go.Proofs.YtapgpibindhlfaaGreat.R19
