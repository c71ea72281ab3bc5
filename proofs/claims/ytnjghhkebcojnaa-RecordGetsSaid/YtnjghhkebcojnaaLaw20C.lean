/- the walk of RecordGets -/
import Derived.Test.YtnjghhkebcojnaaLaw20
set_option maxRecDepth 100000
namespace Go.Proofs.Ytnjghhkebcojnaa.Law20
open Go.RowKit RecM Record

theorem fit_small {ss : List (List UInt8)} (h : ∀ x ∈ ss, x.length ≤ 100) : Fit ss := fun s rest e => by
  subst e
  refine ⟨by have := h s (by simp); omega, fun i hi _ => by have := h rest[i] (List.mem_cons_of_mem _ (List.getElem_mem hi)); omega⟩
theorem got_are {ss : List (List UInt8)} {r : Rc} {n : Int} (h : Got ss r n true) : Are ss r := by
  rcases h with ⟨_, h, _⟩ | ⟨h, _⟩
  · exact h
  · cases h
set_option maxHeartbeats 4000000 in
theorem gets_any (A : Option Addr) (ss : List (List UInt8)) (c : Nat) (w : World) (h : RowsAt w A ss) (hc : ss.length ≤ c) (hc2 : c ≤ maxLen) :
    Calls Try.prog 4 #[.slice A ss.length c] w fun e w' => e = .returned (.bool true) ∧ Below w.heap.size w w' := by
  by_cases h12 : 12 < ss.length
  · go_enter Try.func4, Try.ntmps4
    go_wp2_with fail
    refine (alive_any _).mono ?_
    rintro e w1 ⟨rfl, hb1⟩
    go_wp2
    go_ret
    exact ⟨rfl, hb1⟩
  · have hn : ss.length ≤ 12 := by omega
    clear h12
    have H := Lib.hid h
    clear h
    go_enter Try.func4, Try.ntmps4
    go_wp2_with fail
    go_loopw [17] (fun i wr => ∃ k : Nat, k ≤ ss.length ∧ i = .int .i64 k ∧ (∀ j, (h : j < ss.length) → j < k → ss[j].length ≤ 100) ∧ Below w.heap.size w wr)
      (fun i _ => ss.length - (intOf i).toNat)
    case atStart => exact ⟨0, Nat.zero_le _, rfl, fun j _ h => by omega, Below.refl _ _⟩
    case round =>
      obtain ⟨k, hk, rfl, hw, hb⟩ := hrel
      rename World => w0
      have HW := Lib.hid hw; have HB := Lib.hid hb
      clear hw hb
      by_cases hlt : k < ss.length
      · obtain ⟨b, o, B, cb, rfl, e1, l1, l1', pb⟩ := (H.out.below HB.out).row hlt
        have HW2 : Hid (ss[k].length ≤ 100 → ∀ j, (h : j < ss.length) → j < k + 1 → ss[j].length ≤ 100) := Lib.hid fun hx j hj hjk => by
          by_cases e : j = k
          · subst e; exact hx
          · exact HW.out j hj (by omega)
        have hlx : ss[k].length ≤ 9223372036854775807 := by unfold maxLen at l1'; omega
        clear pb HW
        generalize ss[k] = x at *
        by_cases hx : 100 < x.length
        · clear HW2
          go_wp2_with fail
          refine (alive_any _).mono ?_
          rintro e w1 ⟨rfl, hb1⟩
          go_wp2
          go_ret
          exact ⟨rfl, bstep HB.out hb1⟩
        · have hx2 : x.length ≤ 100 := by omega
          have HF := Lib.hid (HW2.out hx2)
          clear HW2 hx2
          go_wp2
          go_roundw
          case rel => exact ⟨k + 1, by omega, by go_num, HF.out, HB.out⟩
          case measure => simp [intOf] <;> omega
      · obtain rfl : k = ss.length := by omega
        have hsm : ∀ x ∈ ss, x.length ≤ 100 := fun x hx => by
          obtain ⟨i, hi, rfl⟩ := List.mem_iff_getElem.1 hx
          exact HW.out i hi hi
        have C1 := Lib.hid (fun W t (ht : Crc.Tab W t) h => Record.get_any t A ss c W ht h hc hc2 (by omega) (fit_small hsm))
        have C2 := Lib.hid (fun W h => R20.get_any A ss c W h hc hc2 (by omega) (fun i hi => by have := hsm _ (List.getElem_mem hi); omega))
        have C3 := Lib.hid (fun W (h : Hd) hf X (sh : List UInt8) d hS hX h1 h2 (hr : Are ss (h.rc sh)) => R20.are_any A ss c h hf X sh d W hS hX h1 h2 (by omega) true ⟨fun _ => hr, fun _ => rfl⟩)
        have H0 := Lib.hid (H.out.below HB.out)
        unfold RetGot at C1 C2
        clear hsm HW
        clear hc hn
        go_wp2_with fail
        refine (Crc.new_any _).mono ?_
        rintro e w1 ⟨t, rfl, ht, hb1⟩
        have HT := Lib.hid ht; have HB1 := Lib.hid (bstep HB.out hb1); have H1 := Lib.hid (H0.out.below hb1)
        clear ht hb1 HB H0
        go_wp2_with fail
        refine (C1.out w1 t HT.out H1.out).mono ?_
        rintro e w2 ⟨h1, s1, n1, ok, X, d, rfl, f1, f2, f3, f4, g1, hb2, -⟩
        have HX := Lib.hid f3; have HF := Lib.hid f4; have HG1 := Lib.hid g1
        have HB2 := Lib.hid (bstep HB1.out hb2); have H2 := Lib.hid (H1.out.below hb2)
        have HRp : Hid (RecB (w2.alloc (.cells #[.int .i64 0, .string ⟨#[]⟩, .int .i64 0, .int .i64 0, .int .i64 0, .int .i64 0, .slice none 0 0] 24)) w2.heap.size hd0 none 0 0) := Lib.hid (RecB.new w2 hd0 none 0 0)
        have HBZ := Lib.hid (balloc w2 (.cells #[.int .i64 0, .string ⟨#[]⟩, .int .i64 0, .int .i64 0, .int .i64 0, .int .i64 0, .slice none 0 0] 24))
        obtain ⟨m1, hm1⟩ : ∃ m1, m1 = s1.length := ⟨_, rfl⟩
        have HM1 := Lib.hid hm1
        rw [← hm1] at f1 ⊢
        clear f3 f4 g1 hb2 hm1 HT HB1 H1 C1
        go_wp2_with (refine wpList_store_rec rfl _ _ rfl w2.heap.size h1 X m1 d rfl rfl hd0 none 0 0 HRp.out ?_; intro w3 hr3 hk3; have HR3 := Lib.hid hr3; have HK3 := Lib.hid hk3; clear hr3 hk3)
        have hf3 : ∀ j, j < w.heap.size → j ≠ w2.heap.size := fun j hj => by have := HB2.out.size; omega
        have HB3 := Lib.hid (keeps_bstep (bstep HB2.out HBZ.out) HK3.out (fun j e => by have := HB2.out.size; omega))
        have H3 := Lib.hid (H.out.below HB3.out)
        have HX3 := Lib.hid (HK3.out.bytes' (HX.out.below HBZ.out) (fun h0 a e h => by have := HX.out.lt h0 a e; omega))
        obtain ⟨p, hp⟩ : ∃ p, p = w2.heap.size := ⟨_, rfl⟩
        rw [← hp] at HR3
        first | rw [← hp] | skip
        clear hp hf3 HRp HBZ HB2 H2 HX HK3
        refine (C2.out w3 H3.out).mono ?_
        rintro e w4 ⟨h2, s2, n2, is, Y, f, rfl, f5, f6, f7, -, g2, hb4, -⟩
        obtain ⟨e1, e2, e3⟩ := HG1.out.one g2
        obtain ⟨e4, e5⟩ := Hd.rc_inj e1
        subst e2 e3 e4 e5
        have HY := Lib.hid f7
        have HB4 := Lib.hid (bstep HB3.out hb4); have H4 := Lib.hid (H3.out.below hb4); have HX4 := Lib.hid (HX3.out.below hb4); have HR4 := Lib.hid (HR3.out.below hb4)
        have HRq : Hid (RecB (w4.alloc (.cells #[.int .i64 0, .string ⟨#[]⟩, .int .i64 0, .int .i64 0, .int .i64 0, .int .i64 0, .slice none 0 0] 24)) w4.heap.size hd0 none 0 0) := Lib.hid (RecB.new w4 hd0 none 0 0)
        have HBZ := Lib.hid (balloc w4 (.cells #[.int .i64 0, .string ⟨#[]⟩, .int .i64 0, .int .i64 0, .int .i64 0, .int .i64 0, .slice none 0 0] 24))
        rw [← HM1.out] at f5 ⊢
        clear e1 f7 g2 hb4 HB3 H3 HX3 HR3 C2
        have HPL : Hid (p < w4.heap.size) := Lib.hid HR4.out.lt
        have CSM := Lib.hid (fun W hX hY => R20.same_any h1 h1 X Y s1 s1 d f W hX hY (by rw [← HM1.out]; omega) (by rw [← HM1.out]; omega))
        rw [show decide (h1.rc s1 = h1.rc s1) = true from decide_eq_true rfl, ← HM1.out] at CSM
        cases ok
        · go_wp2_with (refine wpList_store_rec rfl _ _ rfl w4.heap.size h1 Y m1 f rfl rfl hd0 none 0 0 HRq.out ?_; intro w5 hr5 hk5; have HR5 := Lib.hid hr5; have HK5 := Lib.hid hk5; obtain ⟨c0, c1, c2, c3, c4, c5, c6⟩ := ((HR4.out.below HBZ.out).keep hk5 (fun e => by have := HPL.out; omega)).all; obtain ⟨d0, d1, d2, d3, d4, d5, d6⟩ := hr5.all; clear hr5 hk5)
          have HB5 := Lib.hid (keeps_bstep (bstep HB4.out HBZ.out) HK5.out (fun j e => by have := HB4.out.size; omega))
          have H5 := Lib.hid (H.out.below HB5.out)
          have HX5 := Lib.hid (HK5.out.bytes' (HX4.out.below HBZ.out) (fun h0 a e h => by have := HX4.out.lt h0 a e; omega))
          have HY5 := Lib.hid (HK5.out.bytes' (HY.out.below HBZ.out) (fun h0 a e h => by have := HY.out.lt h0 a e; omega))
          have HP5 := Lib.hid ((HR4.out.below HBZ.out).keep HK5.out (fun e => by have := HPL.out; omega))
          clear HRq HBZ HB4 H4 HX4 HR4 HK5 HY HPL
          refine (CSM.out w5 HX5.out HY5.out).mono ?_
          rintro e w7 ⟨rfl, hb7⟩
          go_wp2_with fail
          refine (alive_any _).mono ?_
          rintro e w8 ⟨rfl, hb8⟩
          go_wp2
          go_ret
          exact ⟨rfl, bstep (bstep HB5.out hb7) hb8⟩
        · have hare := got_are HG1.out
          have HARE := Lib.hid hare
          clear hare
          go_wp2_with (refine wpList_store_rec rfl _ _ rfl w4.heap.size h1 Y m1 f rfl rfl hd0 none 0 0 HRq.out ?_; intro w5 hr5 hk5; have HR5 := Lib.hid hr5; have HK5 := Lib.hid hk5; obtain ⟨c0, c1, c2, c3, c4, c5, c6⟩ := ((HR4.out.below HBZ.out).keep hk5 (fun e => by have := HPL.out; omega)).all; obtain ⟨d0, d1, d2, d3, d4, d5, d6⟩ := hr5.all; clear hr5 hk5)
          have HB5 := Lib.hid (keeps_bstep (bstep HB4.out HBZ.out) HK5.out (fun j e => by have := HB4.out.size; omega))
          have H5 := Lib.hid (H.out.below HB5.out)
          have HX5 := Lib.hid (HK5.out.bytes' (HX4.out.below HBZ.out) (fun h0 a e h => by have := HX4.out.lt h0 a e; omega))
          have HY5 := Lib.hid (HK5.out.bytes' (HY.out.below HBZ.out) (fun h0 a e h => by have := HY.out.lt h0 a e; omega))
          have HP5 := Lib.hid ((HR4.out.below HBZ.out).keep HK5.out (fun e => by have := HPL.out; omega))
          clear HRq HBZ HB4 H4 HX4 HR4 HK5 HY HPL
          have CA := C3.out w5 h1 HF.out X s1 d H5.out HX5.out (by rw [← HM1.out]; exact f1) f2 HARE.out
          rw [← HM1.out] at CA
          clear C3
          refine CA.mono ?_
          rintro e w6 ⟨rfl, hb6⟩
          clear c0 c1 c2 c3 c4 c5 c6 d0 d1 d2 d3 d4 d5 d6 CA
          obtain ⟨c0, c1, c2, c3, c4, c5, c6⟩ := (HP5.out.below hb6).all
          obtain ⟨d0, d1, d2, d3, d4, d5, d6⟩ := (HR5.out.below hb6).all
          go_wp2_with fail
          refine (CSM.out w6 (HX5.out.below hb6) (HY5.out.below hb6)).mono ?_
          rintro e w7 ⟨rfl, hb7⟩
          go_wp2_with fail
          refine (alive_any _).mono ?_
          rintro e w8 ⟨rfl, hb8⟩
          go_wp2
          go_ret
          exact ⟨rfl, bstep (bstep (bstep HB5.out hb6) hb7) hb8⟩
end Go.Proofs.Ytnjghhkebcojnaa.Law20
