/- the document's own answers of layer 3 -/
import Derived.Test.YtompeiemioeohaaR02
import Derived.Test.YtompeiemioeohaaMA
import Derived.IntWalk
set_option maxRecDepth 100000
namespace Go.Proofs.Ytompeiemioeohaa.R03
open Go.RowKit

theorem unlike_any (A : Option Addr) (l : List UInt8) (c : Nat) (w : World) (h : BytesAt w A l) (hl : l.length ≤ 1099511627776) :
    Calls Try.prog 44 #[.slice A l.length c] w fun e w' => e = .returned (.bool (LagrM.unl l)) ∧ ∃ n, w' = w.drewN n := by
  go_enter Try.func44, Try.ntmps44
  go_wp2
  go_loopw [3] (fun i wr => ∃ k n : Nat, k ≤ l.length ∧ i = .int .i64 k ∧ LagrM.Un l k ∧ wr = w.drewN n)
    (fun i _ => l.length - (intOf i).toNat)
  case atStart => exact ⟨0, 0, Nat.zero_le _, rfl, LagrM.Un.zero l, rfl⟩
  case round =>
    obtain ⟨k, n, hk, rfl, hun, hwr⟩ := hrel
    have HW := Lib.hid hwr
    have HU := Lib.hid hun
    have h0 := h
    clear hwr hun
    by_cases hlt : k < l.length
    · go_wp2
      go_loopw [4] (fun j wq => ∃ t m : Nat, t ≤ k ∧ j = .int .i64 t ∧ LagrM.Ui l k t ∧ wq = w.drewN m)
        (fun j _ => k - (intOf j).toNat)
      case atStart => exact ⟨0, n, Nat.zero_le _, rfl, LagrM.Ui.zero l k, HW.out⟩
      case round =>
        obtain ⟨t, m, ht, rfl, hui, hwq⟩ := hrel
        have HQ := Lib.hid hwq
        have HI := Lib.hid hui
        have h : BytesAt wr A l := by rw [hwq]; exact h0
        clear hwq hui
        by_cases hlt2 : t < k
        · obtain ⟨b, o, rfl, e1⟩ := h k hlt
          obtain ⟨b2, o2, hA, e2⟩ := h t (by omega)
          obtain ⟨rfl, rfl⟩ : b = b2 ∧ o = o2 := by injection hA with hA; injection hA with h1 h2; exact ⟨h1, h2⟩
          have hq := toNat_beq l[k] l[t]
          have g1 := LagrM.Ui.succ (xs := l) HI.out
          rw [PolyM.co_get l k hlt, PolyM.co_get l t (by omega)] at g1
          have g2 : l[k] = l[t] → LagrM.unl l = false := fun e => LagrM.not_unl (i := k) (j := t) hlt (by omega) (by omega) (by rw [PolyM.co_get l k hlt, PolyM.co_get l t (by omega), e])
          have G1 := Lib.hid g1
          have G2 := Lib.hid g2
          clear g1 g2 hA h h0
          generalize l[k] = x at *
          generalize l[t] = y at *
          by_cases hxy : x = y
          · have q : ((x.toNat : Int) == (y.toNat : Int)) = true := by rw [hq]; simpa using hxy
            have hf := G2.out hxy
            have HF := Lib.hid hf
            clear hq hxy hf
            go_wp2
            go_quiet (fail)
            go_wp2
            go_ret
            exact ⟨ret_bool HF.out.symm, m + nq, by rw [HQ.out, World.drewN_drewN]⟩
          · have q : ((x.toNat : Int) == (y.toNat : Int)) = false := by rw [hq]; simpa using hxy
            have hf := G1.out hxy
            have HF := Lib.hid hf
            clear hq hxy hf
            go_wp2
            go_quiet (fail)
            go_wp2
            go_roundw
            case rel => exact ⟨t + 1, m + nq, by omega, by go_num, HF.out, by rw [HQ.out, World.drewN_drewN]⟩
            case measure => simp [intOf] <;> omega
        · obtain rfl : t = k := by omega
          go_wp2
          go_roundw
          case rel => exact ⟨t + 1, m, by omega, by go_num, HU.out.succ HI.out, HQ.out⟩
          case measure => simp [intOf] <;> omega
    · obtain rfl : k = l.length := by omega
      have hu := HU.out.unl
      have HF := Lib.hid hu
      clear hu
      go_wp2
      go_ret
      exact ⟨ret_bool HF.out.symm, n, HW.out⟩

set_option maxHeartbeats 1000000 in
theorem through_any (A1 A2 : Option Addr) (xs ys : List UInt8) (c1 c2 : Nat) (w : World) (h1 : BytesAt w A1 xs) (h2 : BytesAt w A2 ys) (hl : xs.length ≤ 1048576) (he : xs.length ≤ ys.length) :
    Calls Try.prog 47 #[.slice A1 xs.length c1, .slice A2 ys.length c2] w (RetBytes w (LagrM.thr xs ys)) := by
  go_enter Try.func47, Try.ntmps47
  go_wp2
  go_loopw [5, 6, 7] (fun o r i wr => ∃ (k : Nat) (B C : Option Addr) (d f : Nat), k ≤ xs.length ∧ i = .int .i64 k ∧ o = .slice B (LagrM.newt xs ys k).length d ∧ (LagrM.newt xs ys k).length ≤ d ∧ d ≤ maxLen ∧ BytesAt wr B (LagrM.newt xs ys k)
      ∧ r = .slice C (PolyM.proot (xs.take k)).length f ∧ BytesAt wr C (PolyM.proot (xs.take k)) ∧ Below w.heap.size w wr)
    (fun _ _ i _ => xs.length - (intOf i).toNat)
  case atStart =>
    exact ⟨0, none, some ⟨w.heap.size, 0, none⟩, 0, 1, Nat.zero_le _, rfl, rfl, Nat.le_refl _, Nat.zero_le _, BytesAt.nil _ _, rfl, (Row.new w [1]).bytes, (Below.refl _ _).alloc (Nat.le_refl _) _⟩
  case round =>
    obtain ⟨k, B, C, d, f, hk, rfl, rfl, hd1, hd2, hB, rfl, hC, hb⟩ := hrel
    have p1 : BytesAt wr A1 xs := h1.below hb
    have p2 : BytesAt wr A2 ys := h2.below hb
    have hz := hb.size
    by_cases hlt : k < xs.length
    · have n1 : (LagrM.newt xs ys k).length ≤ 1048576 := by rw [LagrM.newt_len _ _ _ hk]; omega
      have n2 : (PolyM.proot (xs.take k)).length ≤ 1048577 := by rw [PolyM.proot_len, List.length_take]; omega
      have hs := LagrM.newt_succ xs ys k
      rw [PolyM.co_get xs k hlt, PolyM.co_get ys k (by omega)] at hs
      have hr := PolyM.proot_take_succ xs k hlt
      have e1 : ∃ b o, A1 = some ⟨b, o, none⟩ := by obtain ⟨b, o, e, _⟩ := p1 k hlt; exact ⟨b, o, e⟩
      have e2 : ∃ b o, A2 = some ⟨b, o, none⟩ := by obtain ⟨b, o, e, _⟩ := p2 k (by omega); exact ⟨b, o, e⟩
      obtain ⟨b1, o1, rfl⟩ := e1
      obtain ⟨b2, o2, rfl⟩ := e2
      have HS := Lib.hid hs; have HR := Lib.hid hr; have HB := Lib.hid hB; have HC := Lib.hid hC
      have P1 := Lib.hid p1; have P2 := Lib.hid p2
      clear hs hr hB hC p1 p2 h1 h2
      generalize LagrM.newt xs ys k = nw at *
      generalize PolyM.proot (xs.take k) = rt at *
      have c1 : ∀ W : World, BytesAt W (some ⟨b1, o1, none⟩) xs → W.cell? ⟨b1, o1 + k, none⟩ = some (.int .u8 (xs[k].toNat : Nat)) := fun W h => by
        obtain ⟨b, o, e, h⟩ := h k hlt
        injection e with e; injection e with e1 e2; subst e1; subst e2; exact h
      have c2 : ∀ W : World, BytesAt W (some ⟨b2, o2, none⟩) ys → W.cell? ⟨b2, o2 + k, none⟩ = some (.int .u8 (ys[k].toNat : Nat)) := fun W h => by
        obtain ⟨b, o, e, h⟩ := h k (by omega)
        injection e with e; injection e with e1 e2; subst e1; subst e2; exact h
      have C1 := Lib.hid c1; have C2 := Lib.hid c2
      clear c1 c2
      have q1 := C1.out wr P1.out
      have q2 := C2.out wr P2.out
      generalize xs[k] = x at *
      generalize ys[k] = y at *
      have x1 := xor_u8 y (PolyM.ev nw x)
      go_wp2
      go_quiet ((go_at_call 16; exact Calls.quiet_of_same ((R02.eval_any B nw d x _ (HB.out.drewN _) (by omega)).mono fun _ _ h => ⟨h.1, h.2.symm⟩)))
      clear q1 q2
      generalize hww : wr.drewN nq = wq
      have hbq : Below wr.heap.size wr wq := by rw [← hww]; exact bdraw wr nq
      clear hww
      have hB := HB.out.below hbq; have hC := HC.out.below hbq; have p1 := P1.out.below hbq; have p2 := P2.out.below hbq
      have q1 := C1.out wq p1
      have HB := Lib.hid hB; have HC := Lib.hid hC; have P1 := Lib.hid p1; have P2 := Lib.hid p2
      clear hB hC p1 p2
      go_wp2_with fail
      refine (R02.eval_any C rt f x wq HC.out (by omega)).mono ?_
      rintro e w' ⟨rfl, rfl⟩
      go_wp2_with fail
      refine (R01.inv_any _ wq).mono ?_
      rintro e w' ⟨rfl, rfl⟩
      go_wp2_with fail
      refine (R01.mul_any _ _ wq).mono ?_
      rintro e w' ⟨rfl, rfl⟩
      go_wp2_with fail
      refine (R02.scale_any C rt f _ wq HC.out (by omega)).mono ?_
      rintro e w3 ⟨D, g, rfl, hg1, hg2, hD, hb3⟩
      have hB := HB.out.below hb3; have hC := HC.out.below hb3; have p1 := P1.out.below hb3; have p2 := P2.out.below hb3
      have HB := Lib.hid hB; have HC := Lib.hid hC; have P1 := Lib.hid p1; have P2 := Lib.hid p2
      clear hB hC p1 p2 q1
      have hlD : (PolyM.scale (GfM.mul (GfM.add y (PolyM.ev nw x)) (GfM.inv (PolyM.ev rt x))) rt).length ≤ 1048577 := by rw [LagrM.scale_len]; exact n2
      generalize PolyM.scale (GfM.mul (GfM.add y (PolyM.ev nw x)) (GfM.inv (PolyM.ev rt x))) rt = sc at *
      go_wp2_with fail
      refine (R02.sum_any B D nw sc d g w3 HB.out hD (by omega) (by omega)).mono ?_
      rintro e w4 ⟨E, g', rfl, hg1', hg2', hE, hb4⟩
      have hC := HC.out.below hb4; have p1 := P1.out.below hb4
      have q1 := C1.out w4 p1
      have HC := Lib.hid hC; have HE := Lib.hid hE
      clear hC p1 hE
      go_wp2_with fail
      refine (R02.mul_any C (some ⟨w4.heap.size, 0, none⟩) rt [x, 1] f 2 _ (HC.out.alloc _) (Row.new w4 [x, 1]).bytes (by omega) (by simp)).mono ?_
      rintro e w5 ⟨M, m, rfl, hm1, hm2, hM, hb5⟩
      have hE := (HE.out.alloc (.cells (cells [x, 1]) 5)).below hb5
      have hbz : Below w.heap.size w w5 := hb.trans (((hbq.trans (hb3.mono hbq.size)).trans (hb4.mono (Nat.le_trans hbq.size hb3.size))).mono hz |>.trans ((bstep (balloc _ _) hb5).mono (by have := hbq.size; have := hb3.size; have := hb4.size; omega)))
      have e1 : (PolyM.padd nw sc).length = (LagrM.newt xs ys (k + 1)).length := by rw [HS.out]
      have e2 : (PolyM.pmul rt [x, 1]).length = (PolyM.proot (xs.take (k + 1))).length := by rw [HR.out]
      rw [← HS.out] at hE hg1'
      rw [← HR.out] at hM
      rw [e1, e2]
      clear e1 e2
      have HE := Lib.hid hE; have HM := Lib.hid hM
      clear hE hM
      go_wp2
      go_roundw
      case rel => exact ⟨k + 1, E, M, g', m, by omega, by go_num, rfl, hg1', hg2', HE.out, rfl, HM.out, hbz⟩
      case measure => simp [intOf] <;> omega
    · obtain rfl : k = xs.length := by omega
      have HB := Lib.hid hB
      clear hB hC h1 h2 p1 p2
      go_wp2
      go_ret
      exact ⟨B, d, rfl, hd1, hd2, HB.out, hb⟩
end Go.Proofs.Ytompeiemioeohaa.R03
