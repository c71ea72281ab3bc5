/- the document's own answers of layer 4 -/
import Derived.Test.YtmkadcnommoihaaMatPost
import Derived.Test.YtmkadcnommoihaaR01
import Derived.Deep.QuietTactic
import Derived.IntWalk
namespace Go.Proofs.Ytmkadcnommoihaa.R04
open Go.RowKit

theorem width_any (A : Option Addr) (m : List (List UInt8)) (c : Nat) (w : World) (h : RowsAt w A m) (hl : m.length ≤ 1099511627) :
    Calls Try.prog 14 #[.slice A m.length c] w fun e w' => e = .returned (.int .i64 (MatM.width m)) ∧ ∃ n, w' = w.drewN n := by
  by_cases h0 : m.length = 0
  · have : m = [] := List.eq_nil_of_length_eq_zero h0
    subst this
    clear h h0
    go_enter Try.func14, Try.ntmps14
    go_wp2
    go_ret
    exact ⟨rfl, 0, rfl⟩
  · have q0 : ((m.length : Int) == 0) = false := by simpa using h0
    have hpos : 0 < m.length := by omega
    go_enter Try.func14, Try.ntmps14
    go_wp2
    go_loopw [3] (fun i wr => ∃ k n : Nat, k ≤ m.length ∧ i = .int .i64 k ∧ MatM.allW (m.take k) (MatM.wd m) = true ∧ wr = w.drewN n)
      (fun i _ => m.length - (intOf i).toNat)
    case atStart => exact ⟨0, 0, Nat.zero_le _, rfl, rfl, rfl⟩
    case round =>
      obtain ⟨k, n, hk, rfl, hw, hwr⟩ := hrel
      have HW := Lib.hid hwr
      have h : RowsAt wr A m := by rw [hwr]; exact h
      clear hwr
      by_cases hlt : k < m.length
      · obtain ⟨b, o, B, cb, hA, e1, _, _, _⟩ := h.row hlt
        obtain ⟨b2, o2, B2, cb2, hA2, e2, _, _, _⟩ := h.row hpos
        subst hA
        obtain ⟨rfl, rfl⟩ : b = b2 ∧ o = o2 := by injection hA2 with hA; injection hA with h1 h2; exact ⟨h1, h2⟩
        have hwd : m[0].length = MatM.wd m := by unfold MatM.wd; rw [MatM.rowAt_get _ _ hpos]
        rw [Nat.add_zero] at e2
        rw [hwd] at e2
        have g1 := MatM.allW_take hlt hw
        have g2 := fun hn => MatM.allW_not (n := MatM.wd m) hlt hn
        have G1 := Lib.hid g1; have G2 := Lib.hid g2
        clear hwd hA2 hw g1 g2 h
        generalize m[k].length = x at *
        by_cases hx : x = MatM.wd m
        · have q : ((x : Int) != (MatM.wd m : Int)) = false := by simp [hx]
          have hf := G1.out hx
          have HF := Lib.hid hf
          clear hx hf
          go_wp2
          go_quiet (fail)
          go_wp2
          go_roundw
          case rel => exact ⟨k + 1, n + nq, by omega, by go_num, HF.out, by rw [HW.out, World.drewN_drewN]⟩
          case measure => simp [intOf] <;> omega
        · have q : ((x : Int) != (MatM.wd m : Int)) = true := by rw [bne_iff_ne]; omega
          have hf := MatM.width_bad (G2.out hx)
          have HF := Lib.hid hf
          clear hx hf
          go_wp2
          go_quiet (fail)
          go_wp2
          go_ret
          exact ⟨ret_int (by rw [HF.out]), n + nq, by rw [HW.out, World.drewN_drewN]⟩
      · obtain rfl : k = m.length := by omega
        obtain ⟨b2, o2, B2, cb2, hA2, e2, _, _, _⟩ := h.row hpos
        subst hA2
        rw [Nat.add_zero] at e2
        rw [List.take_length] at hw
        have hwd : m[0].length = MatM.wd m := by unfold MatM.wd; rw [MatM.rowAt_get _ _ hpos]
        rw [hwd] at e2
        have hf := MatM.width_of hw
        have HF := Lib.hid hf
        clear hf hw hwd h
        go_wp2
        go_ret
        exact ⟨ret_int (by rw [HF.out]), n, HW.out⟩

/-- whether two lists of lists are the same -/
def sameM (a b : List (List UInt8)) : Bool := decide (a = b)
theorem sameM_self (a : List (List UInt8)) : sameM a a = true := by simp [sameM]
theorem sameM_len {a b : List (List UInt8)} (h : a.length ≠ b.length) : sameM a b = false := by
  unfold sameM; exact decide_eq_false fun e => h (by rw [e])
theorem same_any (A1 A2 : Option Addr) (m1 m2 : List (List UInt8)) (c1 c2 : Nat) (w : World) (h1 : RowsAt w A1 m1) (h2 : RowsAt w A2 m2) (hl : m1.length ≤ 1099511627) (hl2 : m2.length ≤ 1099511627) :
    Calls Try.prog 12 #[.slice A1 m1.length c1, .slice A2 m2.length c2] w fun e w' => e = .returned (.bool (sameM m1 m2)) ∧ ∃ n, w' = w.drewN n := by
  by_cases hne : m1.length = m2.length
  · have q : ((m1.length : Int) != (m2.length : Int)) = false := by simp [hne]
    have hle : m1.length ≤ m2.length := by omega
    have HE := Lib.hid hne
    clear hne
    go_enter Try.func12, Try.ntmps12
    go_wp2
    clear q
    go_loopw [5] (fun i wr => ∃ k n : Nat, k ≤ m1.length ∧ i = .int .i64 k ∧ m1.take k = m2.take k ∧ wr = w.drewN n)
      (fun i _ => m1.length - (intOf i).toNat)
    case atStart => exact ⟨0, 0, Nat.zero_le _, rfl, by rw [List.take_zero, List.take_zero], rfl⟩
    case round =>
      obtain ⟨k, n, hk, rfl, hs, hwr⟩ := hrel
      have HW := Lib.hid hwr; have HS := Lib.hid hs
      have h1 : RowsAt wr A1 m1 := by rw [hwr]; exact h1
      have h2 : RowsAt wr A2 m2 := by rw [hwr]; exact h2
      clear hwr hs
      by_cases hlt : k < m1.length
      · obtain ⟨b, o, B, cb, rfl, e1, l1, l1', p1⟩ := h1.row hlt
        obtain ⟨b2, o2, B2, cb2, rfl, e2, l2, l2', p2⟩ := h2.row (show k < m2.length by omega)
        have g1 : m1[k] = m2[k] → m1.take (k + 1) = m2.take (k + 1) := fun e => by
          rw [List.take_succ_eq_append_getElem hlt, List.take_succ_eq_append_getElem (show k < m2.length by omega), HS.out, e]
        have g2 : m1[k] ≠ m2[k] → sameM m1 m2 = false := fun e => by
          unfold sameM; exact decide_eq_false fun e' => e (by subst e'; rfl)
        have G1 := Lib.hid g1; have G2 := Lib.hid g2
        have P1 := Lib.hid p1; have P2 := Lib.hid p2
        clear g1 g2 h1 h2 p1 p2
        generalize m1[k] = x at *
        generalize m2[k] = y at *
        have C : ∀ W, BytesAt W B x → BytesAt W B2 y → Calls Try.prog 23 #[.slice B x.length cb, .slice B2 y.length cb2] W fun e w' => e = .returned (.bool (same x y)) ∧ ∃ n, w' = W.drewN n := fun W q1 q2 =>
          R01.same_any B B2 x y cb cb2 W q1 q2 (by omega) (by omega)
        by_cases hxy : x = y
        · have hf := G1.out hxy
          have HF := Lib.hid hf
          have hsm : same x y = true := by rw [hxy]; exact same_self y
          rw [hsm] at C
          have HC := Lib.hid C
          clear hxy hf hsm C
          go_wp2
          go_quiet ((go_at_call 23; exact Calls.quiet_of (HC.out _ (P1.out.drewN _) (P2.out.drewN _))))
          go_wp2
          go_roundw
          case rel => exact ⟨k + 1, n + nq, by omega, by go_num, HF.out, by rw [HW.out, World.drewN_drewN]⟩
          case measure => simp [intOf] <;> omega
        · have hf := G2.out hxy
          have HF := Lib.hid hf
          have hsm : same x y = false := by unfold same; exact decide_eq_false hxy
          rw [hsm] at C
          have HC := Lib.hid C
          clear hxy hf hsm C
          go_wp2
          go_quiet ((go_at_call 23; exact Calls.quiet_of (HC.out _ (P1.out.drewN _) (P2.out.drewN _))))
          go_wp2
          go_ret
          exact ⟨ret_bool HF.out.symm, n + nq, by rw [HW.out, World.drewN_drewN]⟩
      · obtain rfl : k = m1.length := by omega
        have hs : sameM m1 m2 = true := by
          have e := HS.out
          rw [List.take_length, List.take_of_length_le (by rw [HE.out]; exact Nat.le_refl _)] at e
          rw [e]; exact sameM_self m2
        have HF := Lib.hid hs
        clear hs h1 h2
        go_wp2
        go_ret
        exact ⟨ret_bool HF.out.symm, n, HW.out⟩
  · have q : ((m1.length : Int) != (m2.length : Int)) = true := by rw [bne_iff_ne]; omega
    have hf := sameM_len hne
    have HF := Lib.hid hf
    clear hne hf
    go_enter Try.func12, Try.ntmps12
    go_wp2
    go_ret
    exact ⟨ret_bool HF.out.symm, 0, rfl⟩

theorem unit_any (n : Nat) (w : World) (hn : n ≤ 1048576) :
    Calls Try.prog 16 #[.int .i64 (n : Nat)] w (RetRows w (MatM.unitL n)) := by
  go_enter Try.func16, Try.ntmps16
  go_wp2
  go_loopw [3, 4] (fun v i wr => ∃ k : Nat, k ≤ n ∧ i = .int .i64 k ∧ OwnM wr w.heap.size v (MatM.unitTo n k) ∧ Below w.heap.size w wr)
    (fun _ i _ => n - (intOf i).toNat)
  case atStart => exact ⟨0, Nat.zero_le _, rfl, OwnM.nil _ _, Below.refl _ _⟩
  case round =>
    obtain ⟨k, hk, rfl, hown, hb⟩ := hrel
    rename World => w0
    have hz := hb.size
    have HO := Lib.hid hown
    clear hown
    by_cases hlt : k < n
    · have hs := MatM.unitTo_succ n k
      have HS := Lib.hid hs
      clear hs
      go_wp2
      go_loopw [5, 6] (fun r j wr => ∃ t : Nat, t ≤ n ∧ j = .int .i64 t ∧ Own wr w0.heap.size r (PolyM.tab t (MatM.one k)) ∧ Below w0.heap.size w0 wr)
        (fun _ j _ => n - (intOf j).toNat)
      case atStart => exact ⟨0, Nat.zero_le _, rfl, Own.nil _ _, Below.refl _ _⟩
      case round =>
        obtain ⟨t, ht, rfl, hown, hb1⟩ := hrel
        have hz1 := hb1.size
        have HR := Lib.hid hown
        clear hown
        by_cases hlt2 : t < n
        · have hsn := PolyM.tab_succ t (MatM.one k)
          by_cases hkt : t = k
          · have q : ((t : Int) == (k : Int)) = true := by simp [hkt]
            have ho : MatM.one k t = 1 := by unfold MatM.one; rw [if_pos hkt.symm]
            rw [ho] at hsn
            have HSN := Lib.hid hsn
            clear hkt hsn ho
            go_wp2_with (at_builtin; refine wpList_append_u8 rfl _ _ rfl w0.heap.size _ _ rfl (HR.out.alloc _) wr.heap.size 1 1 rfl (by simp) (by simp; omega) (by simp; omega) ?_; intro v' w7 hown1 hb7)
            go_roundw
            case rel => exact ⟨t + 1, by omega, by go_num, by rw [HSN.out]; exact hown1, (hb1.alloc hz1 _).trans hb7⟩
            case measure => simp [intOf] <;> omega
          · have q : ((t : Int) == (k : Int)) = false := by rw [beq_eq_false_iff_ne]; omega
            have ho : MatM.one k t = 0 := by unfold MatM.one; rw [if_neg (fun e => hkt e.symm)]
            rw [ho] at hsn
            have HSN := Lib.hid hsn
            clear hkt hsn ho
            go_wp2_with (at_builtin; refine wpList_append_u8 rfl _ _ rfl w0.heap.size _ _ rfl (HR.out.alloc _) wr.heap.size 1 0 rfl (by simp) (by simp; omega) (by simp; omega) ?_; intro v' w7 hown1 hb7)
            go_roundw
            case rel => exact ⟨t + 1, by omega, by go_num, by rw [HSN.out]; exact hown1, (hb1.alloc hz1 _).trans hb7⟩
            case measure => simp [intOf] <;> omega
        · obtain rfl : t = n := by omega
          obtain ⟨R, cr, rfl, hr1, hr2, hR, hrn⟩ := HR.out.new
          have hlk : (MatM.unitTo t k).length ≤ t := by rw [MatM.unitTo_len]; exact hk
          have hlr : (PolyM.tab t (MatM.one k)).length ≤ t := by rw [PolyM.tab_len]; exact Nat.le_refl _
          have hol := HO.out.ownlt
          have HOL := Lib.hid hol; have HRN := Lib.hid hrn; have HRB := Lib.hid hR
          have he : PolyM.tab t (MatM.one k) = MatM.unitRow t k := rfl
          have HE := Lib.hid he
          clear hol hrn hR he HR
          go_wp2_with (at_builtin; refine wpList_append_row rfl _ _ rfl w.heap.size _ _ rfl ((HO.out.below hb1).alloc _) wr.heap.size 1 (PolyM.tab t (MatM.one k)) R cr rfl (by simp) hr1 hr2 (HRB.out.alloc _) (fun _ a e e' => by have h1 := (HOL.out _ e').2; have h2 := HRN.out a e; omega) (by omega) (by simp; omega) ?_; intro v' w7 hown1 hb7)
          go_roundw
          case rel => exact ⟨k + 1, by omega, by go_num, by rw [HS.out, ← HE.out]; exact hown1, ((hb.trans (hb1.mono hz)).alloc (by omega) _).trans hb7⟩
          case measure => simp [intOf] <;> omega
    · obtain rfl : k = n := by omega
      go_wp2
      go_ret
      exact RetRows.of_own HO.out hb

/-- what Mul tells -/
def MulRes (w : World) (a b : List (List UInt8)) (e : Ending) (w' : World) : Prop :=
  (MatM.mulOk a b = true ∧ ∃ A c, e = .returned (.tuple #[.slice A (MatM.mulL a b).length c, .bool true]) ∧ (MatM.mulL a b).length ≤ c ∧ c ≤ maxLen ∧ RowsAt w' A (MatM.mulL a b) ∧ Below w.heap.size w w' ∧ New w A)
  ∨ (MatM.mulOk a b = false ∧ e = .returned (.tuple #[.slice none 0 0, .bool false]) ∧ Below w.heap.size w w')
theorem mulL_take (a b : List (List UInt8)) (k : Nat) (h : k < a.length) : MatM.mulL (a.take (k + 1)) b = MatM.mulL (a.take k) b ++ [MatM.mulRow b a[k]] := MatM.map_take_succ _ _ _ h

set_option maxHeartbeats 2000000 in
theorem mul_any (A1 A2 : Option Addr) (a b : List (List UInt8)) (c1 c2 : Nat) (w : World) (h1 : RowsAt w A1 a) (h2 : RowsAt w A2 b) (hl1 : a.length ≤ 1048576) (hl2 : b.length ≤ 1048576) (hl3 : MatM.wd b ≤ 1048576) :
    Calls Try.prog 10 #[.slice A1 a.length c1, .slice A2 b.length c2] w (MulRes w a b) := by
  rcases hb : MatM.allW b (MatM.wd b) with _ | _
  · have hno : MatM.mulOk a b = false := by unfold MatM.mulOk; rw [hb]; rfl
    have hw := MatM.width_bad hb
    have HN := Lib.hid hno; have HW := Lib.hid hw
    clear hb hno hw
    go_enter Try.func10, Try.ntmps10
    go_wp2_with fail
    have C := width_any A2 b c2 w h2 (by omega)
    rw [HW.out] at C
    refine C.mono ?_
    clear C
    rintro e w1 ⟨rfl, hq⟩
    have hb1 := bquiet hq
    clear hq
    go_wp2
    go_ret2
    exact .inr ⟨HN.out, rfl, hb1⟩
  · have hw := MatM.width_of hb
    have HB := Lib.hid hb; have HW := Lib.hid hw
    clear hb hw
    go_enter Try.func10, Try.ntmps10
    go_wp2_with fail
    have C := width_any A2 b c2 w h2 (by omega)
    rw [HW.out] at C
    refine C.mono ?_
    clear C
    rintro e w9 ⟨rfl, hq⟩
    have hb9 := bquiet hq
    clear hq
    go_wp2_with fail
    go_loopw [6, 7] (fun v i wr => ∃ k : Nat, k ≤ a.length ∧ i = .int .i64 k ∧ OwnM wr w.heap.size v (MatM.mulL (a.take k) b) ∧ MatM.allW (a.take k) b.length = true ∧ Below w.heap.size w wr)
      (fun _ i _ => a.length - (intOf i).toNat)
    case atStart => exact ⟨0, Nat.zero_le _, rfl, OwnM.nil _ _, rfl, hb9⟩
    case round =>
      obtain ⟨k, hk, rfl, hown, hall, hb0⟩ := hrel
      rename World => w0
      have hz := hb0.size
      have HO := Lib.hid hown; have HA := Lib.hid hall
      clear hown hall
      by_cases hlt : k < a.length
      · obtain ⟨b1, o1, B, cb, hA, e1, _, _, p1⟩ := (h1.below hb0).row hlt
        subst hA
        by_cases hrow : a[k].length = b.length
        · have q : ((a[k].length : Int) != (b.length : Int)) = false := by simp [hrow]
          have ha2 := MatM.allW_take hlt HA.out hrow
          have hs := mulL_take a b k hlt
          have HS := Lib.hid hs; have HA2 := Lib.hid ha2; have HROW := Lib.hid hrow; have P1 := Lib.hid p1; have E1 := Lib.hid e1
          clear hs ha2 hrow p1 P1
          obtain ⟨r, hr⟩ : ∃ r, r = a[k] := ⟨_, rfl⟩
          rw [← hr] at q HS HROW
          have HRR := Lib.hid hr
          rw [← hr] at e1
          clear hr E1
          go_wp2_with fail
          go_loopw [8, 9] (fun v j wr => ∃ t : Nat, t ≤ MatM.wd b ∧ j = .int .i64 t ∧ Own wr w0.heap.size v (PolyM.tab t (MatM.dotc r b)) ∧ Below w0.heap.size w0 wr)
            (fun _ j _ => MatM.wd b - (intOf j).toNat)
          case atStart => exact ⟨0, Nat.zero_le _, rfl, Own.nil _ _, Below.refl _ _⟩
          case round =>
            obtain ⟨t, ht, rfl, hown, hbt⟩ := hrel
            rename World => w1
            have hzt := hbt.size
            have HR := Lib.hid hown
            clear hown
            have p2 : RowsAt w1 A2 b := (h2.below hb0).below hbt
            go_wp2_with fail
            have C := width_any A2 b c2 w1 p2 (by omega)
            rw [HW.out] at C
            refine C.mono ?_
            clear C
            rintro e w2 ⟨rfl, hq⟩
            have hb2 := bquiet hq
            have hz2 := hb2.size
            clear hq
            have HR := Lib.hid (HR.out.below hb2)
            by_cases hlt2 : t < MatM.wd b
            · have hsn := PolyM.tab_succ t (MatM.dotc r b)
              have HSN := Lib.hid hsn
              clear hsn
              go_wp2_with fail
              go_loopw [10, 11] (fun s j wr => ∃ x n : Nat, x ≤ b.length ∧ j = .int .i64 x ∧ s = .int .i64 ((PolyM.xsum (fun j => GfM.mul (PolyM.co r j) (MatM.mat b j t)) x).toNat : Nat) ∧ wr = w2.drewN n)
                (fun _ j _ => b.length - (intOf j).toNat)
              case atStart => exact ⟨0, 0, Nat.zero_le _, rfl, rfl, rfl⟩
              case round =>
                obtain ⟨x, n, hx, rfl, rfl, hwr⟩ := hrel
                rename World => w3
                have HWR := Lib.hid hwr
                have r1 : RowsAt w3 (some ⟨b1, o1, none⟩) a := by rw [hwr]; exact (((h1.below hb0).below hbt).below hb2).drewN n
                have r2 : RowsAt w3 A2 b := by rw [hwr]; exact (p2.below hb2).drewN n
                clear hwr
                by_cases hlt3 : x < b.length
                · obtain ⟨b3, o3, B3, c3, hA3, e3, _, _, p3⟩ := r1.row hlt
                  obtain ⟨rfl, rfl⟩ : b1 = b3 ∧ o1 = o3 := by injection hA3 with hA; injection hA with h1 h2; exact ⟨h1, h2⟩
                  obtain ⟨b4, o4, B4, c4, hA4, e4, _, _, p4⟩ := r2.row hlt3
                  subst hA4
                  rw [← HRR.out] at e3 p3
                  have hxr : x < r.length := by rw [HROW.out]; exact hlt3
                  have hbl := (MatM.allW_iff _ _).1 HB.out x hlt3
                  have htb : t < b[x].length := by rw [hbl]; exact hlt2
                  obtain ⟨b5, o5, hB3, e5⟩ := p3 x hxr
                  obtain ⟨b6, o6, hB4, e6⟩ := p4 t htb
                  subst hB3; subst hB4
                  have hm : MatM.mat b x t = b[x][t] := by unfold MatM.mat; rw [MatM.rowAt_get _ _ hlt3, PolyM.co_get _ _ htb]
                  have hn : PolyM.xsum (fun j => GfM.mul (PolyM.co r j) (MatM.mat b j t)) (x + 1) = GfM.add (PolyM.xsum (fun j => GfM.mul (PolyM.co r j) (MatM.mat b j t)) x) (GfM.mul r[x] b[x][t]) := by
                    rw [← PolyM.co_get r x hxr, ← hm]; rfl
                  have hlb : (b[x].length : Int) = MatM.wd b := by rw [hbl]
                  have HN := Lib.hid hn
                  rw [hbl] at e4
                  clear hA3 hm hn hbl hlb r1 r2 p3 p4
                  generalize PolyM.xsum (fun j => GfM.mul (PolyM.co r j) (MatM.mat b j t)) x = s at *
                  generalize b[x][t] = v at *
                  generalize r[x] = u at *
                  clear htb
                  have hx1 := xor_i64 s (GfM.mul u v)
                  have hs1 := GfM.lt s
                  have hs2 := GfM.lt (GfM.mul u v)
                  have i1 : IntKind.i64.wrap ((GfM.mul u v).toNat : Int) = ((GfM.mul u v).toNat : Int) := IntWalk.i64_in _ (by omega)
                  go_wp2
                  go_quiet ((go_at_call 29; exact Calls.quiet_of_same ((R01.mul_any _ _ _).mono fun _ _ h => ⟨h.1, h.2.symm⟩)))
                  clear i1
                  go_wp2
                  go_roundw
                  case rel => exact ⟨x + 1, n + nq, by omega, by go_num, by rw [HN.out], by rw [HWR.out, World.drewN_drewN]⟩
                  case measure => simp [intOf] <;> omega
                · obtain rfl : x = b.length := by omega
                  have hd : PolyM.xsum (fun j => GfM.mul (PolyM.co r j) (MatM.mat b j t)) b.length = MatM.dotc r b t := rfl
                  rw [hd]
                  have hs1 := GfM.lt (MatM.dotc r b t)
                  have hb3 : Below w2.heap.size w2 w3 := bquiet ⟨n, HWR.out⟩
                  have hz3 := hb3.size
                  have HR3 := Lib.hid (HR.out.below hb3)
                  clear hd r1 r2
                  go_wp2_with (at_builtin; refine wpList_append_u8 rfl _ _ rfl w0.heap.size _ _ rfl (HR3.out.alloc _) w3.heap.size 1 (MatM.dotc r b t) rfl (by simp) (by simp; omega) (by simp; omega) ?_; intro v' w7 hown1 hb7)
                  go_roundw
                  case rel => exact ⟨t + 1, by omega, by go_num, by rw [HSN.out]; exact hown1, ((((hbt.trans (hb2.mono hzt)).trans (hb3.mono (by omega))).alloc (by omega) _)).trans hb7⟩
                  case measure => simp [intOf] <;> omega
            · obtain rfl : t = MatM.wd b := by omega
              obtain ⟨R, cr, rfl, hr1, hr2, hR, hrn⟩ := HR.out.new
              have hbm : Below w0.heap.size w0 w2 := hbt.trans (hb2.mono hzt)
              have hol := HO.out.ownlt
              have HOL := Lib.hid hol; have HRN := Lib.hid hrn; have HRB := Lib.hid hR
              have he : PolyM.tab (MatM.wd b) (MatM.dotc r b) = MatM.mulRow b a[k] := by rw [← HRR.out]; rfl
              have hlm : (MatM.mulL (a.take k) b).length ≤ 1048576 := by rw [MatM.mulL_len, List.length_take]; omega
              have HE := Lib.hid he
              clear hol hrn hR he HR
              go_wp2_with (at_builtin; refine wpList_append_row rfl _ _ rfl w.heap.size _ _ rfl ((HO.out.below hbm).alloc _) w2.heap.size 1 (PolyM.tab (MatM.wd b) (MatM.dotc r b)) R cr rfl (by simp) hr1 hr2 (HRB.out.alloc _) (fun _ a e e' => by have h1 := (HOL.out _ e').2; have h2 := HRN.out a e; omega) (by omega) (by simp; omega) ?_; intro v' w7 hown1 hb7)
              go_roundw
              case rel => exact ⟨k + 1, by omega, by go_num, by rw [HS.out, HRR.out, ← HE.out]; exact hown1, HA2.out, ((hb0.trans (hbm.mono hz)).alloc (by omega) _).trans hb7⟩
              case measure => simp [intOf] <;> omega
        · have q : ((a[k].length : Int) != (b.length : Int)) = true := by rw [bne_iff_ne]; omega
          have hno : MatM.mulOk a b = false := by unfold MatM.mulOk; rw [MatM.allW_not hlt hrow, Bool.and_false]
          have HN := Lib.hid hno
          clear hno hrow
          go_wp2
          go_ret2
          exact .inr ⟨HN.out, rfl, hb0⟩
      · obtain rfl : k = a.length := by omega
        have hall := HA.out
        rw [List.take_length] at hall
        have hyes : MatM.mulOk a b = true := by unfold MatM.mulOk; rw [HB.out, hall]; rfl
        have ho := HO.out
        rw [List.take_length] at ho
        obtain ⟨R, cr, rfl, hr1, hr2, hR, hrn⟩ := ho.rows
        have HN := Lib.hid hyes; have HR := Lib.hid hR; have HRN := Lib.hid hrn
        clear hall hyes ho hR hrn HO
        go_wp2
        go_ret2
        exact .inl ⟨HN.out, R, cr, rfl, hr1, hr2, HR.out, hb0, HRN.out⟩

set_option maxHeartbeats 1000000 in
theorem without_any (A : Option Addr) (m : List (List UInt8)) (c k : Nat) (w : World) (h : RowsAt w A m) (hl : m.length ≤ 1048576) (h0 : 0 < m.length) (hk : ∀ i, (hi : i < m.length) → k < m[i].length ∧ m[i].length ≤ 1048576) :
    Calls Try.prog 41 #[.slice A m.length c, .int .i64 (k : Nat)] w (RetRows w (MatM.withoutL m k)) := by
  have HK := Lib.hid hk
  have hkk : k ≤ 1048576 := by have := hk 0 h0; omega
  clear hk
  go_enter Try.func41, Try.ntmps41
  go_wp2
  go_loopw [5, 6] (fun v i wr => ∃ j : Nat, 1 ≤ j ∧ j ≤ m.length ∧ i = .int .i64 j ∧ OwnM wr w.heap.size v (MatM.withoutTo m k j) ∧ Below w.heap.size w wr)
    (fun _ i _ => m.length - (intOf i).toNat)
  case atStart => exact ⟨1, Nat.le_refl _, h0, rfl, OwnM.nil _ _, Below.refl _ _⟩
  case round =>
    obtain ⟨j, hj1, hj, rfl, hown, hb⟩ := hrel
    rename World => w0
    have hz := hb.size
    have HO := Lib.hid hown
    clear hown
    by_cases hlt : j < m.length
    · obtain ⟨b, o, B, cb, hA, e1, hc1, hc2, p1⟩ := (h.below hb).row hlt
      subst hA
      have hkr := HK.out j hlt
      have hs := MatM.withoutTo_succ m k j hj1 hlt
      have HS := Lib.hid hs; have P1 := Lib.hid p1
      have e1' := (balloc w0 (.cells #[] 5)).cell (p := ⟨b, o + j, none⟩) (cell_lt e1)
      clear hs
      generalize m[j] = r at *
      obtain ⟨b2, o2, hB, _⟩ := p1 0 (by omega)
      subst hB
      clear p1
      obtain ⟨hk1, hk2⟩ := hkr
      have htl : (r.take k).length = k := by rw [List.length_take]; omega
      have HTL := Lib.hid htl
      clear htl
      have hle : k + 1 ≤ cb := by omega
      have hdl : r.length - (k + 1) = (r.drop (k + 1)).length := by rw [List.length_drop]
      have HDL := Lib.hid hdl
      clear hdl
      by_cases hcb : cb = k + 1
      · have hrl : r.length = k + 1 := by omega
        subst hcb
        go_wp2_with (first
          | (at_builtin; refine wpList_append_bytes rfl (.tmp 14) (.tmp 20) rfl w0.heap.size (.slice (some ⟨w0.heap.size, 0, none⟩) 0 0) [] (r.take k) rfl (Own.empty w0 _ (Nat.le_refl _)) (some ⟨b2, o2, none⟩) _ _ rfl HTL.out.symm ((P1.out.alloc _).take k) (by rw [HTL.out]; simp; omega) (by simp) ?_; intro v1 w1 hown1 hb1; have hb1 : Below w0.heap.size w0 w1 := (balloc w0 _).trans hb1; have k1 := (hb1.cell (p := ⟨b, o + j, none⟩) (cell_lt e1)).trans e1; have HO1 := Lib.hid hown1; clear hown1)
          | (at_builtin; refine wpList_append_bytes rfl (.tmp 23) (.tmp 30) rfl w0.heap.size v1 ([] ++ r.take k) (r.drop (k + 1)) rfl HO1.out (some ⟨b2, o2, none⟩) _ _ rfl (by rw [List.length_drop] <;> omega) (by rw [List.drop_eq_nil_of_le (by omega)]; exact BytesAt.nil _ _) (by simp; omega) hb1.size ?_; intro v2 w2 hown2 hb2; have hb2 : Below w0.heap.size w0 w2 := hb1.trans hb2; have hz2 := hb2.size; obtain ⟨R, cr, hv2, hr1, hr2, hR, hrn⟩ := hown2.new; subst hv2; have HR := Lib.hid hR; have HRN := Lib.hid hrn; have hcut : ([] ++ r.take k ++ r.drop (k + 1)) = MatM.cutCol k r := rfl; rw [hcut] at HR hr1 ⊢; clear hR hrn hcut hown2)
          | (at_builtin; refine wpList_append_row rfl _ _ rfl w.heap.size _ _ rfl ((HO.out.below hb2).alloc _) w2.heap.size 1 (MatM.cutCol k r) R cr rfl (by simp) hr1 hr2 (HR.out.alloc _) (fun _ a e e' => by have h1 := (HO.out.ownlt _ e').2; have h2 := HRN.out a e; omega) (by have := MatM.withoutTo_len m k j; omega) (by simp; omega) ?_; intro v' w7 hown7 hb7))
        go_roundw
        case rel => exact ⟨j + 1, by omega, by omega, by go_num, by rw [HS.out]; exact hown7, ((hb.trans (hb2.mono hz)).alloc (by omega) _).trans hb7⟩
        case measure => simp [intOf] <;> omega
      · have hd := P1.out.drop (k + 1)
        have HD := Lib.hid hd
        clear hd
        go_wp2_with (first
          | (at_builtin; refine wpList_append_bytes rfl (.tmp 14) (.tmp 20) rfl w0.heap.size (.slice (some ⟨w0.heap.size, 0, none⟩) 0 0) [] (r.take k) rfl (Own.empty w0 _ (Nat.le_refl _)) (some ⟨b2, o2, none⟩) _ _ rfl HTL.out.symm ((P1.out.alloc _).take k) (by rw [HTL.out]; simp; omega) (by simp) ?_; intro v1 w1 hown1 hb1; have hb1 : Below w0.heap.size w0 w1 := (balloc w0 _).trans hb1; have k1 := (hb1.cell (p := ⟨b, o + j, none⟩) (cell_lt e1)).trans e1; have HO1 := Lib.hid hown1; clear hown1)
          | (at_builtin; refine wpList_append_bytes rfl (.tmp 23) (.tmp 30) rfl w0.heap.size v1 ([] ++ r.take k) (r.drop (k + 1)) rfl HO1.out (some ⟨b2, o2 + (k + 1), none⟩) _ _ rfl (by rw [List.length_drop] <;> omega) (HD.out.below hb1) (by simp; omega) hb1.size ?_; intro v2 w2 hown2 hb2; have hb2 : Below w0.heap.size w0 w2 := hb1.trans hb2; have hz2 := hb2.size; obtain ⟨R, cr, hv2, hr1, hr2, hR, hrn⟩ := hown2.new; subst hv2; have HR := Lib.hid hR; have HRN := Lib.hid hrn; have hcut : ([] ++ r.take k ++ r.drop (k + 1)) = MatM.cutCol k r := rfl; rw [hcut] at HR hr1 ⊢; clear hR hrn hcut hown2)
          | (at_builtin; refine wpList_append_row rfl _ _ rfl w.heap.size _ _ rfl ((HO.out.below hb2).alloc _) w2.heap.size 1 (MatM.cutCol k r) R cr rfl (by simp) hr1 hr2 (HR.out.alloc _) (fun _ a e e' => by have h1 := (HO.out.ownlt _ e').2; have h2 := HRN.out a e; omega) (by have := MatM.withoutTo_len m k j; omega) (by simp; omega) ?_; intro v' w7 hown7 hb7))
        go_roundw
        case rel => exact ⟨j + 1, by omega, by omega, by go_num, by rw [HS.out]; exact hown7, ((hb.trans (hb2.mono hz)).alloc (by omega) _).trans hb7⟩
        case measure => simp [intOf] <;> omega
    · obtain rfl : j = m.length := by omega
      have ho := HO.out
      rw [MatM.withoutTo_done] at ho
      have HO := Lib.hid ho
      clear ho
      go_wp2
      go_ret
      exact RetRows.of_own HO.out hb

set_option maxHeartbeats 2000000 in
theorem det_any : ∀ (n : Nat) (A : Option Addr) (m : List (List UInt8)) (c : Nat) (w : World), MatM.Sq m n → n ≤ 100000 → RowsAt w A m →
    Calls Try.prog 18 #[.slice A m.length c] w fun e w' => e = .returned (.int .u8 ((MatM.det n (MatM.mat m)).toNat : Nat)) ∧ Below w.heap.size w w' := by
  intro n
  induction n with
  | zero =>
    intro A m c w hsq _ _
    have : m = [] := List.eq_nil_of_length_eq_zero hsq.1
    subst this
    clear hsq
    go_enter Try.func18, Try.ntmps18
    go_wp2
    go_ret
    exact ⟨rfl, Below.refl _ _⟩
  | succ n ih =>
    intro A m c w hsq hn h
    have IH := Lib.hid ih
    have hml := hsq.1
    have hdet := MatM.det_sq hsq
    have HD := Lib.hid hdet; have HSQ := Lib.hid hsq; have HML := Lib.hid hml
    have hm0 : 0 < m.length := by omega
    have hml1 : m.length ≤ 100000 := by omega
    have q0 : ((m.length : Int) == 0) = false := by rw [beq_eq_false_iff_ne]; omega
    clear ih hdet hsq hml
    go_enter Try.func18, Try.ntmps18
    go_wp2
    clear q0
    go_loopw [3, 4] (fun s i wr => ∃ k : Nat, k ≤ m.length ∧ i = .int .i64 k ∧ s = .int .i64 ((PolyM.xsum (fun k => GfM.mul (PolyM.co (MatM.rowAt m 0) k) (MatM.det n (MatM.mat (MatM.withoutL m k)))) k).toNat : Nat) ∧ Below w.heap.size w wr)
      (fun _ i _ => m.length - (intOf i).toNat)
    case atStart => exact ⟨0, Nat.zero_le _, rfl, rfl, Below.refl _ _⟩
    case round =>
      obtain ⟨k, hk, rfl, rfl, hb⟩ := hrel
      rename World => w0
      have hz := hb.size
      by_cases hlt : k < m.length
      · have h1 : RowsAt w0 A m := h.below hb
        obtain ⟨b, o, B, cb, hA, e1, hc1, hc2, p1⟩ := h1.row hm0
        subst hA
        rw [Nat.add_zero] at e1
        have hr0 : m[0].length = n + 1 := (MatM.allW_iff _ _).1 HSQ.out.2 0 hm0
        have hkn : k < n + 1 := by rw [← HML.out]; exact hlt
        have hk0 : k < m[0].length := by rw [hr0]; exact hkn
        obtain ⟨b2, o2, hB, e2⟩ := p1 k hk0
        subst hB
        have hco : PolyM.co (MatM.rowAt m 0) k = m[0][k] := by rw [MatM.rowAt_get _ _ hm0, PolyM.co_get _ _ hk0]
        have hs : PolyM.xsum (fun k => GfM.mul (PolyM.co (MatM.rowAt m 0) k) (MatM.det n (MatM.mat (MatM.withoutL m k)))) (k + 1)
            = GfM.add (PolyM.xsum (fun k => GfM.mul (PolyM.co (MatM.rowAt m 0) k) (MatM.det n (MatM.mat (MatM.withoutL m k)))) k) (GfM.mul m[0][k] (MatM.det n (MatM.mat (MatM.withoutL m k)))) := by rw [← hco]; rfl
        have HS := Lib.hid hs; have H1 := Lib.hid h1
        have hwk : ∀ i, (hi : i < m.length) → k < m[i].length ∧ m[i].length ≤ 1048576 := fun i hi => by
          have := (MatM.allW_iff _ _).1 HSQ.out.2 i hi; omega
        have HWK := Lib.hid hwk
        clear hco hs h1 p1 hwk
        have x1 := GfM.lt (PolyM.xsum (fun k => GfM.mul (PolyM.co (MatM.rowAt m 0) k) (MatM.det n (MatM.mat (MatM.withoutL m k)))) k)
        generalize PolyM.xsum (fun k => GfM.mul (PolyM.co (MatM.rowAt m 0) k) (MatM.det n (MatM.mat (MatM.withoutL m k)))) k = s at *
        have hkl : (k : Int) < (m[0].length : Int) := by omega
        rw [hr0] at e1
        generalize m[0][k] = u at *
        clear hkl hk0 hr0
        have hkz : (k : Int) < (n : Int) + 1 := by omega
        have l1 := cell_lt e1
        have l2 := cell_lt e2
        simp only at l1 l2
        by_cases hu : u = 0
        · have qu : ((u.toNat : Int) != 0) = false := by rw [hu]; rfl
          have hs2 : GfM.mul u (MatM.det n (MatM.mat (MatM.withoutL m k))) = 0 := by rw [hu, GfM.zmul]
          have HS2 := Lib.hid hs2
          clear hu hs2
          go_wp2
          go_roundw
          case rel => exact ⟨k + 1, by omega, by go_num, by rw [HS.out, HS2.out, PolyM.add0], hb⟩
          case measure => simp [intOf] <;> omega
        · have qu : ((u.toNat : Int) != 0) = true := by
            have := toNat_bne u 0
            rw [show (((0 : UInt8).toNat : Nat) : Int) = 0 from rfl] at this
            rw [this]; simpa using hu
          clear hu
          have hx := xor_i64 s (GfM.mul u (MatM.det n (MatM.mat (MatM.withoutL m k))))
          have x2 := GfM.lt (GfM.mul u (MatM.det n (MatM.mat (MatM.withoutL m k))))
          have i1 : IntKind.i64.wrap ((GfM.mul u (MatM.det n (MatM.mat (MatM.withoutL m k)))).toNat : Int) = ((GfM.mul u (MatM.det n (MatM.mat (MatM.withoutL m k)))).toNat : Int) := IntWalk.i64_in _ (by omega)
          have hsw := HSQ.out.without hkn
          have HSW := Lib.hid hsw
          clear hsw
          go_wp2
          go_region_law ((first
            | (go_simp; go_at_call 41; refine (without_any _ m c k _ (H1.out.drewN _) (by omega) hm0 HWK.out).mono ?_; rintro e w1 ⟨A1, d1, rfl, _, _, hr1, hb1, _⟩; have hb1 : Below w0.heap.size w0 w1 := ⟨hb1.os, hb1.tape, hb1.output, hb1.size, hb1.block⟩; have k1 := (hb1.cell (p := ⟨b, o, none⟩) l1).trans e1; have k2 := (hb1.cell (p := ⟨b2, o2 + k, none⟩) l2).trans e2; have HR1 := Lib.hid hr1; clear hr1)
            | (go_simp; go_at_call 18; refine (IH.out _ (MatM.withoutL m k) _ _ HSW.out (by omega) HR1.out).mono ?_; rintro e w2 ⟨rfl, hb2⟩; have hbb : Below w0.heap.size w0 w2 := bstep hb1 hb2; have m1 := (hbb.cell (p := ⟨b, o, none⟩) l1).trans e1; have m2 := (hbb.cell (p := ⟨b2, o2 + k, none⟩) l2).trans e2)
            | (go_simp; go_at_call 29; refine (R01.mul_any _ _ _).mono ?_; rintro e w' ⟨rfl, rfl⟩)))
          all_goals
            try go_wp2
            go_roundw
            case rel => exact ⟨k + 1, by omega, by go_num, by rw [HS.out], hb.trans (hbb.mono hz)⟩
            case measure => simp [intOf] <;> omega
      · obtain rfl : k = m.length := by omega
        have hd : PolyM.xsum (fun k => GfM.mul (PolyM.co (MatM.rowAt m 0) k) (MatM.det n (MatM.mat (MatM.withoutL m k)))) m.length = MatM.det (n + 1) (MatM.mat m) := by rw [HD.out, HML.out]
        rw [hd]
        have x1 := GfM.lt (MatM.det (n + 1) (MatM.mat m))
        clear hd
        go_wp2
        go_ret
        exact ⟨rfl, hb⟩

theorem mul_post (A1 A2 : Option Addr) (a b : List (List UInt8)) (c1 c2 : Nat) (w : World) (h1 : RowsAt w A1 a) (h2 : RowsAt w A2 b) (hl1 : a.length ≤ 1048576) (hl2 : b.length ≤ 1048576) (hl3 : MatM.wd b ≤ 1048576) :
    Calls Try.prog 10 #[.slice A1 a.length c1, .slice A2 b.length c2] w (MulPost w a b) := by
  refine (mul_any A1 A2 a b c1 c2 w h1 h2 hl1 hl2 hl3).mono ?_
  rintro e w' (⟨hok, A, c, rfl, _, _, hR, hb, _⟩ | ⟨hok, rfl, hb⟩)
  · have hv : MatM.mulV a b = MatM.mulL a b := by unfold MatM.mulV; rw [if_pos hok]
    exact ⟨A, c, by rw [hv, hok], by rw [hv]; exact hR, hb⟩
  · have hv : MatM.mulV a b = [] := by unfold MatM.mulV; rw [if_neg (by rw [hok]; simp)]
    exact ⟨none, 0, by rw [hv, hok]; rfl, by rw [hv]; exact RowsAt.nil _ _, hb⟩
end Go.Proofs.Ytmkadcnommoihaa.R04
