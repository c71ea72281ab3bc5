/- the walk of RecordBursts -/
import Derived.Test.YtnjghhkebcojnaaLaw20
set_option maxRecDepth 100000
namespace Go.Proofs.Ytnjghhkebcojnaa.Law20
open Go.RowKit RecM Record
open Entry (RetPut)

def Box2 (V : World) (p q : Nat) (h : Hd) (B : Option Addr) (n c : Nat) (a0 a1 : Int) : Prop :=
  (V.cell? ⟨p, 0, none⟩ = some (.int .i64 h.K) ∧ V.cell? ⟨p, 1, none⟩ = some (.string h.s) ∧ V.cell? ⟨p, 2, none⟩ = some (.int .i64 h.A) ∧ V.cell? ⟨p, 3, none⟩ = some (.int .i64 h.E) ∧ V.cell? ⟨p, 4, none⟩ = some (.int .i64 h.M) ∧ V.cell? ⟨p, 5, none⟩ = some (.int .i64 h.S) ∧ V.cell? ⟨p, 6, none⟩ = some (.slice B n c)) ∧
  V.cell? ⟨q, 0, none⟩ = some (.int .i64 a0) ∧ V.cell? ⟨q, 1, none⟩ = some (.int .i64 a1)
theorem box2 (w : World) (h : Hd) (B : Option Addr) (n c : Nat) (a0 a1 : Int) : ∀ V, Below ((w.alloc (.cells #[.int .i64 h.K, .string h.s, .int .i64 h.A, .int .i64 h.E, .int .i64 h.M, .int .i64 h.S, .slice B n c] 24)).alloc (.cells #[.int .i64 a0, .int .i64 a1] 44)).heap.size ((w.alloc (.cells #[.int .i64 h.K, .string h.s, .int .i64 h.A, .int .i64 h.E, .int .i64 h.M, .int .i64 h.S, .slice B n c] 24)).alloc (.cells #[.int .i64 a0, .int .i64 a1] 44)) V → Box2 V w.heap.size (w.heap.size + 1) h B n c a0 a1 := fun V hb => by
  have h1 := ((RecB.new w h B n c).below (balloc _ (.cells #[.int .i64 a0, .int .i64 a1] 44))).below hb
  have hz : (w.alloc (.cells #[.int .i64 h.K, .string h.s, .int .i64 h.A, .int .i64 h.E, .int .i64 h.M, .int .i64 h.S, .slice B n c] 24)).heap.size = w.heap.size + 1 := by simp
  have k0 : ((w.alloc (.cells #[.int .i64 h.K, .string h.s, .int .i64 h.A, .int .i64 h.E, .int .i64 h.M, .int .i64 h.S, .slice B n c] 24)).alloc (.cells #[.int .i64 a0, .int .i64 a1] 44)).cell? ⟨w.heap.size + 1, 0, none⟩ = some (.int .i64 a0) := by rw [← hz]; simp
  have k1 : ((w.alloc (.cells #[.int .i64 h.K, .string h.s, .int .i64 h.A, .int .i64 h.E, .int .i64 h.M, .int .i64 h.S, .slice B n c] 24)).alloc (.cells #[.int .i64 a0, .int .i64 a1] 44)).cell? ⟨w.heap.size + 1, 1, none⟩ = some (.int .i64 a1) := by rw [← hz]; simp
  exact ⟨h1.all, (hb.cell (p := ⟨w.heap.size + 1, 0, none⟩) (cell_lt k0)).trans k0, (hb.cell (p := ⟨w.heap.size + 1, 1, none⟩) (cell_lt k1)).trans k1⟩
theorem bytes_off {w : World} {A : Option Addr} {l : List UInt8} (h : BytesAt w A l) {g j : Nat} {B : Option Addr} {n c : Nat} (hc : w.cell? ⟨g, j, none⟩ = some (.slice B n c)) (v : Value) : BytesAt (w.setCell ⟨g, j, none⟩ v) A l := fun i hi => by
  obtain ⟨b, o, e, hx⟩ := h i hi
  refine ⟨b, o, e, ?_⟩
  rw [World.cell?_setCell_other, hx]
  intro e2
  rw [e2, hx] at hc
  cases hc
/-- one row of a list stored anew -/
theorem rows_set {w : World} {g o : Nat} {m : List (List UInt8)} (h : RowsAt w (some ⟨g, o, none⟩) m) {i : Nat} (hi : i < m.length) {T : List UInt8} {X : Option Addr} {d : Nat} (hT : BytesAt w X T) (h1 : T.length ≤ d) (h2 : d ≤ maxLen) : RowsAt (w.setCell ⟨g, o + i, none⟩ (.slice X T.length d)) (some ⟨g, o, none⟩) (m.set i T) := fun k hk => by
  obtain ⟨b0, o0, B0, d0, e0, hc, _, _, _⟩ := h.row hi
  injection e0 with e0; injection e0 with e1 e2
  subst e1; subst e2
  rw [List.length_set] at hk
  by_cases e : k = i
  · subst e
    refine ⟨g, o, .slice X T.length d, rfl, ?_, ⟨X, d, by rw [List.getElem_set_self], by rw [List.getElem_set_self]; exact h1, h2, by rw [List.getElem_set_self]; exact bytes_off hT hc _⟩⟩
    exact World.cell?_setCell_same _ _ _ hc
  · obtain ⟨b, o', B', d', e3, hck, k1, k2, k3⟩ := h.row hk
    injection e3 with e3; injection e3 with e4 e5
    subst e4; subst e5
    refine ⟨g, o, .slice B' m[k].length d', rfl, ?_, ⟨B', d', by rw [List.getElem_set_ne (fun e2 => e e2.symm)], by rw [List.getElem_set_ne (fun e2 => e e2.symm)]; exact k1, k2, by rw [List.getElem_set_ne (fun e2 => e e2.symm)]; exact bytes_off k3 hc _⟩⟩
    rw [World.cell?_setCell_other, hck]
    intro e2
    injection e2 with e2
    omega
theorem put_sec (r : Rc) (i : Nat) (hi : i < r.put.length) : ∃ x : List UInt8, x.length ≤ 60 ∧ r.put[i] = SecM.sec x := by
  have hm := List.getElem_mem hi
  unfold Rc.put at hm
  simp only [List.mem_cons, List.mem_map, List.mem_range] at hm
  rcases hm with hm | ⟨k, _, hm⟩
  · exact ⟨_, by rw [head_len]; omega, hm⟩
  · exact ⟨_, body_len r k, hm.symm⟩
theorem burst_tells (r : Rc) (hm : r.May) (i : Nat) (hi : i < r.put.length) (first : Int) (mask : Nat) : ∀ x n ok, Got (r.put.set i (R05.turnI r.put[i] first mask)) x n ok → ok = decide (r.put[i] = R05.turnI r.put[i] first mask) ∧ decide (0 < n) = decide (r.put[i] = R05.turnI r.put[i] first mask) := fun x n ok hg => by
  obtain ⟨s, hs, e⟩ := put_sec r i hi
  by_cases hq : r.put[i] = R05.turnI r.put[i] first mask
  · rw [← hq, List.set_getElem_self] at hg
    have k := Are.back hm []
    rw [List.append_nil] at k
    obtain ⟨_, e2, e3⟩ := hg.one (.inl ⟨rfl, k, rfl⟩)
    rw [decide_eq_true hq, e3, e2]
    exact ⟨rfl, decide_eq_true (by unfold Rc.count; omega)⟩
  · have ho : SecM.opens (R05.turnI r.put[i] first mask) = false := by
      have h1 : SecM.opens (R05.turnI (SecM.sec s) first mask) = decide (R05.turnI (SecM.sec s) first mask = SecM.sec s) := by
        unfold R05.turnI
        split
        · rw [SecM.sec_opens s hs]; simp
        · exact SecM.sec_burst s hs _ _
      rw [e, h1]
      rw [e] at hq
      exact decide_eq_false fun k => hq k.symm
    have hn := bad_none r hm i (by rw [← put_len]; exact hi) _ ho
    obtain ⟨_, e2, e3⟩ := hg.one (Got.of_getR.2 hn)
    rw [decide_eq_false hq, e3, e2]
    exact ⟨rfl, rfl⟩
theorem fit_set (r : Rc) (i : Nat) (T : List UInt8) (hT : T.length = 64) : Fit (r.put.set i T) := fun s rest e => by
  have h64 : ∀ x ∈ r.put.set i T, x.length = 64 := fun x hx => by
    rcases List.mem_or_eq_of_mem_set hx with h | h
    · exact put_rows r x h
    · rw [h]; exact hT
  rw [e] at h64
  exact ⟨by rw [h64 s (by simp)]; omega, fun k hk _ => by rw [h64 rest[k] (List.mem_cons_of_mem _ (List.getElem_mem hk))]; omega⟩
theorem str_eq (a b : List UInt8) : ((⟨a.toArray⟩ : ByteArray).toList == (⟨b.toArray⟩ : ByteArray).toList) = decide (a = b) := by
  rw [ByteArray.toList_mk, ByteArray.toList_mk]
  rw [Bool.eq_iff_iff, beq_iff_eq]; simp
set_option maxHeartbeats 4000000 in
theorem bursts_any (h : Hd) (B : Option Addr) (l : List UInt8) (c : Nat) (a0 a1 : Int) (mask : Nat) (w : World) (fh : Fits h) (hB : BytesAt w B l) (hl : l.length ≤ c) (hc : c ≤ maxLen) (hf : -9223372036854775808 ≤ a1 ∧ a1 ≤ 9223372036854775807) (hm : mask < 4294967296) :
    Calls Try.prog 5 #[.agg #[.int .i64 h.K, .string h.s, .int .i64 h.A, .int .i64 h.E, .int .i64 h.M, .int .i64 h.S, .slice B l.length c], .agg #[.int .i64 a0, .int .i64 a1], .int .u32 (mask : Nat)] w fun e w' => e = .returned (.bool true) ∧ Below w.heap.size w w' := by
  have HT := Lib.hid (box2 w h B l.length c a0 a1)
  have HB0 := Lib.hid (bstep (balloc w (.cells #[.int .i64 h.K, .string h.s, .int .i64 h.A, .int .i64 h.E, .int .i64 h.M, .int .i64 h.S, .slice B l.length c] 24)) (balloc _ (.cells #[.int .i64 a0, .int .i64 a1] 44)))
  have CF1 := Lib.hid (fun W => R20.far_any h B l.length c W)
  have CR1 := Lib.hid (fun W => R20.right_any h fh.s B l c W)
  have CP1 := Lib.hid (fun W t (ht : Crc.Tab W t) hB hm => Record.put_may t h fh B l c W ht hB hl hc hm)
  have HMAY : Hid ((h.rc l).right = true → (h.rc l).May) := Lib.hid (right_iff _).1
  have HBY := Lib.hid hB
  clear fh hB
  obtain ⟨n, hn⟩ : ∃ n, n = l.length := ⟨_, rfl⟩
  rw [← hn] at HT HB0 CF1 CR1 CP1 hl ⊢
  clear hn
  generalize R20.farB h n = b1 at *
  obtain ⟨r, hr⟩ : ∃ r, r = h.rc l := ⟨_, rfl⟩
  rw [← hr] at CR1 CP1 HMAY
  clear hr
  generalize r.right = r1 at *
  go_enter Try.func5, Try.ntmps5
  go_wp2_with fail
  obtain ⟨p, hp⟩ : ∃ p, p = w.heap.size := ⟨_, rfl⟩
  obtain ⟨q, hq⟩ : ∃ q, q = w.heap.size + 1 := ⟨_, rfl⟩
  rw [← hq, ← hp] at HT
  first | rw [← hq] | skip
  first | rw [← hp] | skip
  clear hq hp
  generalize ((w.alloc (.cells #[.int .i64 h.K, .string h.s, .int .i64 h.A, .int .i64 h.E, .int .i64 h.M, .int .i64 h.S, .slice B n c] 24)).alloc (.cells #[.int .i64 a0, .int .i64 a1] 44)) = w0 at *
  refine (CF1.out w0).mono ?_
  rintro e w1 ⟨rfl, hb1⟩
  have HB1 := Lib.hid hb1
  have HW1 := Lib.hid (bstep HB0.out hb1)
  obtain ⟨⟨c0, c1, c2, c3, c4, c5, c6⟩, d0, d1⟩ := HT.out w1 hb1
  clear hb1 CF1
  cases b1
  rotate_left
  · go_wp2_with fail
    refine (alive_any _).mono ?_
    rintro e wz ⟨rfl, hbz⟩
    go_wp2
    go_ret
    exact ⟨rfl, bstep HW1.out hbz⟩
  go_wp2_with fail
  refine (CR1.out w1).mono ?_
  rintro e w3 ⟨rfl, hb3⟩
  have HB3 := Lib.hid (bstep HB1.out hb3)
  have HW3 := Lib.hid (bstep HW1.out hb3)
  clear c0 c1 c2 c3 c4 c5 c6 d0 d1
  obtain ⟨⟨c0, c1, c2, c3, c4, c5, c6⟩, d0, d1⟩ := HT.out w3 HB3.out
  clear hb3 CR1 HB1 HW1
  cases r1
  · go_wp2_with fail
    refine (alive_any _).mono ?_
    rintro e wz ⟨rfl, hbz⟩
    go_wp2
    go_ret
    exact ⟨rfl, bstep HW3.out hbz⟩
  have hmay := HMAY.out (by first | rfl | trivial)
  have hcn : r.put.length ≤ 6 := by rw [put_len]; exact count_le hmay
  have hpos := put_pos r
  have CP := Lib.hid (fun W t ht hB => CP1.out W t ht hB hmay)
  have HTL := Lib.hid (fun i (hi : i < r.put.length) => burst_tells r hmay i hi a1 mask)
  have HFS := Lib.hid (fun i T hT => fit_set r i T hT)
  have HRW := Lib.hid (put_rows r)
  unfold RetPutF at CP
  clear hmay CP1 HMAY
  obtain ⟨P, hP⟩ : ∃ P, P = r.put := ⟨_, rfl⟩
  rw [← hP] at CP HTL HFS HRW hcn hpos
  clear hP
  go_wp2_with fail
  refine (Crc.new_any _).mono ?_
  rintro e w5 ⟨t, rfl, ht, hb5⟩
  have HB5 := Lib.hid (bstep HB3.out hb5)
  have HW5 := Lib.hid (bstep HW3.out hb5)
  have HTB := Lib.hid ht
  clear c0 c1 c2 c3 c4 c5 c6 d0 d1
  obtain ⟨⟨c0, c1, c2, c3, c4, c5, c6⟩, d0, d1⟩ := HT.out w5 HB5.out
  clear hb5 ht HB3 HW3
  go_wp2_with fail
  refine (CP.out w5 t HTB.out (HBY.out.below HW5.out)).mono ?_
  rintro e w6 ⟨X1, x1, rfl, y1, z1, r1, hb6, fz⟩
  have HB6 := Lib.hid (bstep HB5.out hb6)
  have HW6 := Lib.hid (bstep HW5.out hb6)
  have HT6 := Lib.hid (HTB.out.below hb6)
  have HX1 := Lib.hid r1.rows
  have HFZ := Lib.hid fz
  clear c0 c1 c2 c3 c4 c5 c6 d0 d1
  obtain ⟨⟨c0, c1, c2, c3, c4, c5, c6⟩, d0, d1⟩ := HT.out w6 HB6.out
  have HS5 : Hid (w.heap.size ≤ w5.heap.size) := Lib.hid HW5.out.size
  clear hb6 r1 HB5 HW5 HTB CP fz c0 c1 c2 c3 c4 c5 c6
  obtain ⟨m, hmm⟩ : ∃ m, m = P.length := ⟨_, rfl⟩
  have HM := Lib.hid hmm
  rw [← hmm] at y1 hcn hpos ⊢
  clear hmm
  obtain ⟨U, hU⟩ : ∃ U : Nat, IntKind.u64.wrap a0 = U := ⟨(IntKind.u64.wrap a0).toNat, (Int.toNat_of_nonneg (wrap_u64_nonneg _)).symm⟩
  have hm64 : IntKind.u64.wrap (m : Int) = m := IntWalk.u64_in _ (by omega)
  obtain ⟨i, hi⟩ : ∃ i : Nat, i = U % m := ⟨_, rfl⟩
  have him : i < m := by rw [hi]; exact Nat.mod_lt _ (by omega)
  have hrem : (U : Int).tmod (m : Int) = (i : Int) := by rw [hi, Int.tmod_eq_emod_of_nonneg (by omega)]; exact (Int.natCast_emod _ _).symm
  have hi64 : IntKind.u64.wrap (i : Int) = i := IntWalk.u64_in _ (by omega)
  have hii : IntKind.i64.wrap (i : Int) = i := IntWalk.i64_in _ (by omega)
  have hm0 : ¬ (m : Int) = 0 := by omega
  have hiP : i < P.length := by rw [← HM.out]; exact him
  obtain ⟨xb, xo, Bi, di, rfl, k1, q1, q2, hBi⟩ := HX1.out.row hiP
  have h64 : P[i].length = 64 := HRW.out _ (List.getElem_mem hiP)
  have htl : (R05.turnI P[i] a1 mask).length = 64 := by rw [R05.turnI_len, h64]
  have HTI := Lib.hid (HTL.out i hiP)
  have HFI := Lib.hid (HFS.out i (R05.turnI P[i] a1 mask) htl)
  have CT := Lib.hid (fun V (h : BytesAt V Bi P[i]) => R05.turn_any Bi P[i] di a1 mask V h (by omega) hf hm)
  have HLT := Lib.hid htl; have HL0 := Lib.hid h64
  obtain ⟨T, hT⟩ : ∃ T, T = R05.turnI P[i] a1 mask := ⟨_, rfl⟩
  rw [← hT] at HTI HFI CT HLT
  obtain ⟨Z, hZ⟩ : ∃ Z, Z = P[i] := ⟨_, rfl⟩
  rw [← hZ] at HTI CT k1 q1 hBi HL0
  have HBI := Lib.hid hBi
  rw [HL0.out] at k1 q1 CT
  clear hi hiP h64 htl HTL HFS HRW hBi hT hf hm hZ
  have hrest := HX1.out
  go_wp2_with fail
  refine (CT.out w6 HBI.out).mono ?_
  rintro e w7 ⟨Y, dy, rfl, g1, g2, g3, hb7, -⟩
  have HG := Lib.hid g3
  have HB7 := Lib.hid (bstep HB6.out hb7)
  have HW7 := Lib.hid (bstep HW6.out hb7)
  have HT7 := Lib.hid (HT6.out.below hb7)
  have HR7 := Lib.hid (HX1.out.below hb7)
  have HZ7 := Lib.hid (HBI.out.below hb7)
  have kc := (hb7.cell (p := ⟨xb, xo + i, none⟩) (cell_lt k1)).trans k1
  have kf : w7.frozen? ⟨xb, xo + i, none⟩ = false := (hb7.frozen (p := ⟨xb, xo + i, none⟩) (cell_lt k1)).trans ((HFZ.out ⟨xb, xo, none⟩ rfl).2 _)
  have hxw : w.heap.size ≤ xb := by have h1 := (HFZ.out ⟨xb, xo, none⟩ rfl).1; have h2 := HS5.out; simp only at h1; omega
  have HKC := Lib.hid kc
  rw [HLT.out] at g1 ⊢
  have HR8 : Hid (RowsAt (w7.setCell ⟨xb, xo + i, none⟩ (.slice Y 64 dy)) (some ⟨xb, xo, none⟩) (P.set i T)) := Lib.hid (by
    have := rows_set HR7.out (i := i) (by rw [← HM.out]; exact him) (T := T) (X := Y) (d := dy) HG.out (by rw [HLT.out]; exact g1) g2
    rw [HLT.out] at this
    exact this)
  have HK8 : Hid (Keeps (fun j => j = xb) w7 (w7.setCell ⟨xb, xo + i, none⟩ (.slice Y 64 dy))) := Lib.hid (.set _ _ _ _ rfl)
  have HB8 : Hid (Below w.heap.size w (w7.setCell ⟨xb, xo + i, none⟩ (.slice Y 64 dy))) := Lib.hid (keeps_bstep HW7.out HK8.out (fun j e => by omega))
  have HZ8 : Hid (BytesAt (w7.setCell ⟨xb, xo + i, none⟩ (.slice Y 64 dy)) Bi Z) := Lib.hid (bytes_off HZ7.out HKC.out _)
  have HG8 : Hid (BytesAt (w7.setCell ⟨xb, xo + i, none⟩ (.slice Y 64 dy)) Y T) := Lib.hid (bytes_off HG.out HKC.out _)
  have HT8 : Hid (Crc.Tab (w7.setCell ⟨xb, xo + i, none⟩ (.slice Y 64 dy)) t) := Lib.hid fun a ha => by
    have h1 := HT7.out a ha
    rw [World.cell?_setCell_other, h1]
    intro e2
    have h2 := HKC.out
    rw [e2, h1] at h2
    cases h2
  have HKI : Hid ((w7.setCell ⟨xb, xo + i, none⟩ (.slice Y 64 dy)).cell? ⟨xb, xo + i, none⟩ = some (.slice Y 64 dy)) := Lib.hid (World.cell?_setCell_same _ _ _ HKC.out)
  have hlen : (P.set i T).length = m := by rw [List.length_set, HM.out]
  have CG := Lib.hid (fun W t (ht : Crc.Tab W t) A c (h : RowsAt W A (P.set i T)) h1 h2 => Record.get_any t A (P.set i T) c W ht h h1 h2 (by rw [hlen]; omega) HFI.out)
  rw [hlen] at CG
  unfold RetGot at CG
  have HXL : Hid (m ≤ x1) := Lib.hid y1
  clear hlen HR7 HX1 HT6 HFZ HW6 HB6 HT7 HW7 HFI CT HZ7 HG HK8 hrest g1
  generalize P.set i T = PS at *
  go_wp2_with fail
  generalize w7.setCell ⟨xb, xo + i, none⟩ (.slice Y 64 dy) = w8 at *
  refine (CG.out w8 t HT8.out (some ⟨xb, xo, none⟩) x1 HR8.out HXL.out z1).mono ?_
  rintro e w9 ⟨hh, sh, nn, ok, X9, d9, rfl, f1, f2, f3, -, g3, hb9, -⟩
  obtain ⟨o1, o2⟩ := HTI.out _ _ _ g3
  have HO1 := Lib.hid o1; have HO2 := Lib.hid o2
  have HB9 := Lib.hid (bstep HB8.out hb9)
  have HZ9 := Lib.hid (HZ8.out.below hb9); have HG9 := Lib.hid (HG8.out.below hb9)
  have HKI9 : Hid (w9.cell? ⟨xb, xo + i, none⟩ = some (.slice Y 64 dy)) := Lib.hid ((hb9.cell (p := ⟨xb, xo + i, none⟩) (cell_lt HKI.out)).trans HKI.out)
  have HRp : Hid (RecB (w9.alloc (.cells #[.int .i64 0, .string ⟨#[]⟩, .int .i64 0, .int .i64 0, .int .i64 0, .int .i64 0, .slice none 0 0] 24)) w9.heap.size hd0 none 0 0) := Lib.hid (RecB.new w9 hd0 none 0 0)
  have HBZ := Lib.hid (balloc w9 (.cells #[.int .i64 0, .string ⟨#[]⟩, .int .i64 0, .int .i64 0, .int .i64 0, .int .i64 0, .slice none 0 0] 24))
  obtain ⟨sn, hsn⟩ : ∃ sn, sn = sh.length := ⟨_, rfl⟩
  rw [← hsn] at f1 ⊢
  clear f3 g3 hb9 o1 o2 HB8 HZ8 HG8 HT8 HKI CG HTI HR8 hsn kc kf
  go_wp2_with (refine wpList_store_rec rfl _ _ rfl w9.heap.size hh X9 sn d9 rfl rfl hd0 none 0 0 HRp.out ?_; intro w10 hr10 hk10; have HK10 := Lib.hid hk10; clear hr10 hk10)
  have HB10 := Lib.hid (keeps_bstep (bstep HB9.out HBZ.out) HK10.out (fun j e => by have := HB9.out.size; omega))
  have HZ10 := Lib.hid (HK10.out.bytes' (HZ9.out.below HBZ.out) (fun h0 a e h => by have := HZ9.out.lt h0 a e; omega))
  have HG10 := Lib.hid (HK10.out.bytes' (HG9.out.below HBZ.out) (fun h0 a e h => by have := HG9.out.lt h0 a e; omega))
  have HKI10 : Hid (w10.cell? ⟨xb, xo + i, none⟩ = some (.slice Y 64 dy)) := Lib.hid (HK10.out.cell ((HBZ.out.cell (p := ⟨xb, xo + i, none⟩) (cell_lt HKI9.out)).trans HKI9.out) (fun e => by have := cell_lt HKI9.out; simp only at this e; omega))
  have HST := Lib.hid (str_eq Z T)
  obtain ⟨S1, hS1⟩ : ∃ S1 : ByteArray, S1 = ⟨Z.toArray⟩ := ⟨_, rfl⟩
  obtain ⟨S2, hS2⟩ : ∃ S2 : ByteArray, S2 = ⟨T.toArray⟩ := ⟨_, rfl⟩
  have CV1 : Hid (∀ W, BytesAt W Bi Z → (convert 22 9 (.slice Bi 64 di)).run Try.prog W = .ok (.string S1) W) := Lib.hid fun W h => by
    have := h.convert di
    rw [HL0.out, ← hS1] at this
    exact this
  have CV2 : Hid (∀ W, BytesAt W Y T → (convert 22 9 (.slice Y 64 dy)).run Try.prog W = .ok (.string S2) W) := Lib.hid fun W h => by
    have := h.convert dy
    rw [HLT.out, ← hS2] at this
    exact this
  rw [← hS1, ← hS2] at HST
  generalize decide (Z = T) = z at *
  clear hS1 hS2 HK10 HBZ HB9 HZ9 HG9 HKI9 HRp
  refine Drawn.wp_region_flowL 9 [Drawn.SP.is (.slice Bi 64 di), Drawn.SP.is (.string S1), Drawn.SP.is (.slice (some ⟨xb, xo, none⟩) m x1), Drawn.SP.is (.int .i64 (i : Nat)), Drawn.SP.is (.pointer (some ⟨xb, xo + i, none⟩)), Drawn.SP.is (.slice Y 64 dy), Drawn.SP.is (.string S2), Drawn.SP.is (.bool z), Drawn.SP.is (.bool z)] (by kernel_rfl) (by kernel_rfl) ?_ ?_
  · intro i hi a w11 hb hev hdep
    rcases (show i = 0 ∨ i = 1 ∨ i = 2 ∨ i = 3 ∨ i = 4 ∨ i = 5 ∨ i = 6 ∨ i = 7 ∨ i = 8 by omega) with rfl | rfl | rfl | rfl | rfl | rfl | rfl | rfl | rfl
    · have e11 : a.tmps[11]?.getD undef = .slice Bi 64 di := hev 11 rfl
      refine Drawn.wpOp_flow 65 rfl rfl rfl ?_
      clear hev hdep hb
      go_simp
      exact ⟨_, rfl, rfl, Below.refl _ _⟩
    · have d0 : a.tmps[65]?.getD undef = .slice Bi 64 di := hdep 0 rfl
      refine Drawn.wpOp_flow 66 rfl rfl rfl ?_
      clear hev hdep
      have C := CV1.out w11 (HZ10.out.below hb)
      clear hb
      go_simp
      exact ⟨_, rfl, rfl, Below.refl _ _⟩
    · have e8 : a.tmps[8]?.getD undef = .slice (some ⟨xb, xo, none⟩) m x1 := hev 8 rfl
      refine Drawn.wpOp_flow 67 rfl rfl rfl ?_
      clear hev hdep hb
      go_simp
      exact ⟨_, rfl, rfl, Below.refl _ _⟩
    · have e10 : a.tmps[10]?.getD undef = .int .i64 (i : Nat) := hev 10 rfl
      refine Drawn.wpOp_flow 68 rfl rfl rfl ?_
      clear hev hdep hb
      go_simp
      exact ⟨_, rfl, rfl, Below.refl _ _⟩
    · have d2 : a.tmps[67]?.getD undef = .slice (some ⟨xb, xo, none⟩) m x1 := hdep 2 rfl
      have d3 : a.tmps[68]?.getD undef = .int .i64 (i : Nat) := hdep 3 rfl
      refine Drawn.wpOp_flow 69 rfl rfl rfl ?_
      clear hev hdep hb
      go_simp
      exact ⟨_, rfl, rfl, Below.refl _ _⟩
    · have d4 : a.tmps[69]?.getD undef = .pointer (some ⟨xb, xo + i, none⟩) := hdep 4 rfl
      refine Drawn.wpOp_flow 70 rfl rfl rfl ?_
      have k1 := (hb.cell (p := ⟨xb, xo + i, none⟩) (cell_lt HKI10.out)).trans HKI10.out
      clear hev hdep hb
      go_simp
      exact ⟨_, rfl, rfl, Below.refl _ _⟩
    · have d5 : a.tmps[70]?.getD undef = .slice Y 64 dy := hdep 5 rfl
      refine Drawn.wpOp_flow 71 rfl rfl rfl ?_
      clear hev hdep
      have C := CV2.out w11 (HG10.out.below hb)
      clear hb
      go_simp
      exact ⟨_, rfl, rfl, Below.refl _ _⟩
    · have d1 : a.tmps[66]?.getD undef = .string S1 := hdep 1 rfl
      have d6 : a.tmps[71]?.getD undef = .string S2 := hdep 6 rfl
      refine Drawn.wpOp_flow 72 rfl rfl rfl ?_
      clear hev hdep
      have C := HST.out
      clear hb
      go_simp
      exact ⟨_, rfl, rfl, Below.refl _ _⟩
    · have d7 : a.tmps[72]?.getD undef = .bool z := hdep 7 rfl
      refine Drawn.wpOp_flow 15 rfl rfl rfl ?_
      clear hev hdep hb
      go_simp
      exact ⟨_, rfl, rfl, Below.refl _ _⟩
  · intro xq w11 hb hxq
    have vq0 : xq 0 = .slice Bi 64 di := hxq 0 (by omega)
    have vq1 : xq 1 = .string S1 := hxq 1 (by omega)
    have vq2 : xq 2 = .slice (some ⟨xb, xo, none⟩) m x1 := hxq 2 (by omega)
    have vq3 : xq 3 = .int .i64 (i : Nat) := hxq 3 (by omega)
    have vq4 : xq 4 = .pointer (some ⟨xb, xo + i, none⟩) := hxq 4 (by omega)
    have vq5 : xq 5 = .slice Y 64 dy := hxq 5 (by omega)
    have vq6 : xq 6 = .string S2 := hxq 6 (by omega)
    have vq7 : xq 7 = .bool z := hxq 7 (by omega)
    have vq8 : xq 8 = .bool z := hxq 8 (by omega)
    show Exit.then _ _ Exit.normal (Drawn.acts _ [(15, some (xq 8)), (72, some (xq 7)), (71, some (xq 6)), (70, some (xq 5)), (69, some (xq 4)), (68, some (xq 3)), (67, some (xq 2)), (66, some (xq 1)), (65, some (xq 0))]) _
    rw [vq0, vq1, vq2, vq3, vq4, vq5, vq6, vq7, vq8]
    clear hxq vq0 vq1 vq2 vq3 vq4 vq5 vq6 vq7 vq8
    clear xq
    simp only [Drawn.acts]
    go_simp
    have hz1 := HO1.out
    have hz2 := HO2.out
    subst hz1
    clear HO1 HO2
    by_cases hnn : 0 < nn
    · have hok : ok = true := by rw [← hz2]; exact decide_eq_true hnn
      subst hok
      clear hz2
      go_wp2_with fail
      refine (alive_any _).mono ?_
      rintro e wz ⟨rfl, hbz⟩
      go_wp2
      go_ret
      exact ⟨rfl, bstep (bstep HB10.out hb) hbz⟩
    · have hok : ok = false := by rw [← hz2]; exact decide_eq_false hnn
      subst hok
      clear hz2
      go_wp2_with fail
      refine (alive_any _).mono ?_
      rintro e wz ⟨rfl, hbz⟩
      go_wp2
      go_ret
      exact ⟨rfl, bstep (bstep HB10.out hb) hbz⟩
theorem bursts_law (h : Hd) (B : Option Addr) (l : List UInt8) (c : Nat) (a0 a1 mask : Int) (w : World) (fh : Fits h) (hB : BytesAt w B l) (hl : l.length ≤ c) (hc : c ≤ maxLen) (_h0 : -9223372036854775808 ≤ a0 ∧ a0 ≤ 9223372036854775807) (hf : -9223372036854775808 ≤ a1 ∧ a1 ≤ 9223372036854775807) (hm : 0 ≤ mask ∧ mask ≤ 4294967295) :
    Calls Try.prog 5 #[.agg #[.int .i64 h.K, .string h.s, .int .i64 h.A, .int .i64 h.E, .int .i64 h.M, .int .i64 h.S, .slice B l.length c], .agg #[.int .i64 a0, .int .i64 a1], .int .u32 mask] w fun e w' => e = .returned (.bool true) ∧ Below w.heap.size w w' := by
  obtain ⟨m, rfl⟩ : ∃ m : Nat, mask = m := ⟨mask.toNat, by omega⟩
  exact bursts_any h B l c a0 a1 m w fh hB hl hc hf (by omega)
end Go.Proofs.Ytnjghhkebcojnaa.Law20
