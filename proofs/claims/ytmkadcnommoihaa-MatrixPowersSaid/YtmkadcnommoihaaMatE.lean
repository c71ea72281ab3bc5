/- the contract of matrix.Inverse -/
import Derived.Test.YtmkadcnommoihaaMatD
import Derived.Deep.RegionHeld3
import Derived.Deep.LoopGhost
import Derived.WalkMore
namespace Go.Proofs.Ytmkadcnommoihaa.Matrix
open Go.RowKit

theorem column_mtx {lo hi n g : Nat} {gs cs : Nat → Nat} {m : MatM.Mat} (cp c : Nat) (w : World) (h : Mtx w lo hi n n g gs cs m) (hn : n ≤ 1048576) (hc : c < n) :
    Calls Try.prog 38 #[.slice (some ⟨g, 0, none⟩) n cp, .int .i64 (c : Nat)] w fun e w' => ∃ k, w.heap.size ≤ k ∧ k < w'.heap.size ∧ e = .returned (.slice (some ⟨k, 0, none⟩) n n) ∧ Row w' k (PolyM.tab n (fun i => m i c)) ∧ Below w.heap.size w w' := by
  have C := column_any (some ⟨g, 0, none⟩) (MatM.matL n m) cp c w h.rows (by rw [MatM.matL_len]; exact hn) (fun i hi => by rw [MatM.matL_get, PolyM.tab_len]; exact hc)
  rw [MatM.matL_len] at C
  have e : MatM.colL (MatM.matL n m) c = PolyM.tab n (fun i => m i c) := by
    rw [MatM.colL_tab, MatM.matL_len]; exact PolyM.tab_congr fun i hi => MatM.matL_mat n m i c hi hc
  rw [e] at C
  exact C
theorem elim_congr {n c : Nat} {x y : Nat → UInt8} (h : ∀ i, i < n → x i = y i) (m : MatM.Mat) : MatM.elim x c n m = MatM.elim y c n m := by
  funext i j
  rw [MatM.elim_at, MatM.elim_at]
  by_cases e : i < n ∧ i ≠ c
  · rw [if_pos e, if_pos e, h i e.1]
  · rw [if_neg e, if_neg e]
theorem Halves.keep {F : Nat → Prop} {w w' : World} {bl br loL hiL loR hiR n gL gR cpL cpR : Nat} {L R : MatM.Mat} (h : Halves w bl br loL hiL loR hiR n gL gR cpL cpR L R) (q : Keeps F w w') (h1 : ¬ F bl) (h2 : ¬ F br) (hL : ∀ i, Span loL hiL i → ¬ F i) (hR : ∀ i, Span loR hiR i → ¬ F i) :
    Halves w' bl br loL hiL loR hiR n gL gR cpL cpR L R := by
  obtain ⟨e1, e2, ⟨gs, cs, m1⟩, gs2, cs2, m2⟩ := h
  exact ⟨q.cell e1 h1, q.cell e2 h2, ⟨gs, cs, m1.keep q hL⟩, gs2, cs2, m2.keep q hR⟩

theorem box_of {w' W : World} {v : Value} {t : TypeId} (h : ∃ n, w' = ((W.alloc (.cells #[v] t)).drew).drewN n) : w'.cell? ⟨W.heap.size, 0, none⟩ = some v ∧ w'.frozen? ⟨W.heap.size, 0, none⟩ = false ∧ W.heap.size < w'.heap.size := by
  obtain ⟨n, rfl⟩ := h
  exact ⟨by simp, by simp, by simp⟩
theorem far_cell {w : World} {b o g i : Nat} {v u : Value} (h : w.cell? ⟨b, o, none⟩ = some v) (hb : b < g) : (w.setCell ⟨g, i, none⟩ u).cell? ⟨b, o, none⟩ = some v := by
  rw [World.cell?_setCell_other _ _ _ _ (by intro e; injection e with e _ _; omega)]; exact h
theorem box_of2 {w' W : World} {v : Value} {t : TypeId} (h : ∃ n, w' = (W.drew.alloc (.cells #[v] t)).drewN n) : w'.cell? ⟨W.heap.size, 0, none⟩ = some v ∧ w'.frozen? ⟨W.heap.size, 0, none⟩ = false ∧ W.heap.size < w'.heap.size := by
  have e : W.drew.heap.size = W.heap.size := rfl
  rw [← e]
  generalize W.drew = V at *
  obtain ⟨n, rfl⟩ := h
  exact ⟨by simp, by simp, by simp⟩
theorem nspan {lo hi k : Nat} (h : k < lo ∨ hi ≤ k) : ¬ Span lo hi k := fun q => by unfold Span at q; omega
/-- what holds behind c columns -/
structure GInv (w : World) (b0 bf bl bR lo mid n gL gR : Nat) (a : MatM.Mat) (c : Nat) (L R : MatM.Mat) (wr : World) : Prop where
  halves : Halves wr bl bR lo mid mid bl n gL gR n n L R
  done : MatM.Done n a L R
  cols : MatM.Cols n c L
  cf : wr.cell? ⟨bf, 0, none⟩ = some (.pointer (some ⟨b0, 0, none⟩))
  tab : Gf.Tab wr b0
  below : Below w.heap.size w wr
  size : bR < wr.heap.size
theorem GInv.keep {w : World} {b0 bf bl bR lo mid n gL gR : Nat} {a : MatM.Mat} {c : Nat} {L R : MatM.Mat} {wr w' : World} (h : GInv w b0 bf bl bR lo mid n gL gR a c L R wr) (hb : Below wr.heap.size wr w') : GInv w b0 bf bl bR lo mid n gL gR a c L R w' :=
  ⟨h.halves.keep (F := fun _ => False) (.of_below _ hb) id id (fun _ _ => id) (fun _ _ => id), h.done, h.cols, (hb.cell (p := ⟨bf, 0, none⟩) (cell_lt h.cf)).trans h.cf, h.tab.below hb, h.below.trans (hb.mono h.below.size), Nat.lt_of_lt_of_le h.size hb.size⟩

set_option maxRecDepth 100000 in
theorem inverse_wide (b0 : Nat) (A : Option Addr) (a : List (List UInt8)) (c : Nat) (w : World) (h : RowsAt w A a) (hl : a.length ≤ 1048576) (hw : MatM.allW a a.length = false) :
    Calls Try.prog 17 #[.pointer (some ⟨b0, 0, none⟩), .slice A a.length c] w (InvPost w a) := by
  have hno : MatM.invOk a = false := by unfold MatM.invOk; rw [hw]; rfl
  have HW := Lib.hid hw; have HN := Lib.hid hno
  clear hw hno
  go_enter Try.func17, Try.ntmps17
  go_wp2
  go_step3
  go_wp2_with fail
  have C := fits_any A a c a.length (w.alloc (.cells #[.pointer (some ⟨b0, 0, none⟩)] 26)) (h.below (balloc _ _)) (by omega) (by omega)
  rw [HW.out] at C
  refine C.mono ?_
  clear C
  rintro e w1 ⟨rfl, rfl⟩
  go_wp2
  try rw [Exit.noGoto_ret]
  go_ret2
  have e1 := HN.out
  have e2 := HW.out
  exact ⟨none, 0, [], by rw [e1]; rfl, RowsAt.nil _ _, balloc _ _, (by rw [e1]; intro e; cases e), (by rw [e2]; intro _; exact ⟨rfl, fun e => by cases e⟩)⟩

set_option maxRecDepth 100000 in
set_option maxHeartbeats 4000000 in
theorem inverse_square (b0 : Nat) (A : Option Addr) (a : List (List UInt8)) (c : Nat) (w : World) (ht : Gf.Tab w b0) (h : RowsAt w A a) (hl : a.length ≤ 256) (hw : MatM.allW a a.length = true) :
    Calls Try.prog 17 #[.pointer (some ⟨b0, 0, none⟩), .slice A a.length c] w (InvPost w a) := by
  have HW := Lib.hid hw
  have hb0 := ht.lt
  clear hw
  go_enter Try.func17, Try.ntmps17
  go_wp2
  go_step3
  go_wp2_with fail
  have hb1 := balloc w (.cells #[.pointer (some ⟨b0, 0, none⟩)] 26)
  have cf : (w.alloc (.cells #[.pointer (some ⟨b0, 0, none⟩)] 26)).cell? ⟨w.heap.size, 0, none⟩ = some (.pointer (some ⟨b0, 0, none⟩)) := by simp
  have hz1 : (w.alloc (.cells #[.pointer (some ⟨b0, 0, none⟩)] 26)).heap.size = w.heap.size + 1 := by simp
  have ht1 := ht.below hb1
  have h1 := h.below hb1
  have C := fits_any A a c a.length (w.alloc (.cells #[.pointer (some ⟨b0, 0, none⟩)] 26)) h1 (by omega) (by omega)
  rw [HW.out] at C
  generalize w.alloc (.cells #[.pointer (some ⟨b0, 0, none⟩)] 26) = w1 at *
  have HZ := Lib.hid hz1
  refine C.mono ?_
  clear C hz1
  rintro e w2 ⟨rfl, rfl⟩
  go_wp2_with fail
  refine (copied_mtx A a c w1 h1 (by omega) HW.out).mono ?_
  rintro e w2 ⟨gL, gsL, csL, rfl, hmL, hb2⟩
  have cf2 := (hb2.cell (p := ⟨w.heap.size, 0, none⟩) (cell_lt cf)).trans cf
  have ht2 := ht1.below hb2
  have hz2 := hb2.size
  have HML := Lib.hid hmL; have HT2 := Lib.hid ht2
  clear hmL ht2 ht1 h1 h ht
  go_wp2_with fail
  refine (unit_mtx a.length w2 (by omega)).mono ?_
  rintro e w3 ⟨gR, gsR, csR, rfl, hmR, hb3⟩
  have cf3 := (hb3.cell (p := ⟨w.heap.size, 0, none⟩) (cell_lt cf2)).trans cf2
  have ht3 := HT2.out.below hb3
  have hz3 := hb3.size
  have hmL := HML.out.below hb3
  have HML := Lib.hid hmL; have HMR := Lib.hid hmR; have HT3 := Lib.hid ht3
  clear hmL hmR ht3 HT2
  go_wp2
  have hw1 : w.heap.size < w1.heap.size := by rw [HZ.out]; omega
  have hstart : GInv w b0 w.heap.size w3.heap.size (w3.heap.size + 1) w1.heap.size w2.heap.size a.length gL gR (MatM.mat a) 0 (MatM.mat a) MatM.one
      ((w3.alloc (.cells #[.slice (some ⟨gL, 0, none⟩) a.length a.length] 22)).alloc (.cells #[.slice (some ⟨gR, 0, none⟩) a.length a.length] 22)) := by
    have hb4 : Below w3.heap.size w3 ((w3.alloc (.cells #[.slice (some ⟨gL, 0, none⟩) a.length a.length] 22)).alloc (.cells #[.slice (some ⟨gR, 0, none⟩) a.length a.length] 22)) := bstep (balloc _ _) (balloc _ _)
    refine ⟨⟨?_, ?_, ⟨_, _, HML.out.below hb4⟩, _, _, HMR.out.below hb4⟩, .start _ _, fun i j _ hj => absurd hj (Nat.not_lt_zero _), (hb4.cell (p := ⟨w.heap.size, 0, none⟩) (cell_lt cf3)).trans cf3, HT3.out.below hb4, bstep hb1 (bstep hb2 (bstep hb3 hb4)), by simp⟩
    · rw [World.cell?_alloc_past _ _ _ (by simp)]; simp
    · rw [World.cell?_alloc_at _ _ _ _ (by simp)]; rfl
  have HST := Lib.hid hstart
  clear hstart HML HMR HT3 cf cf2 cf3 hb1 hb2 hb3
  go_step3
  go_wp2
  go_loopg [26] a.length (fun g s wx => ∃ (k : Nat) (L R : MatM.Mat), k + g = a.length ∧ s = .int .i64 k ∧ GInv w b0 w.heap.size w3.heap.size (w3.heap.size + 1) w1.heap.size w2.heap.size a.length gL gR (MatM.mat a) k L R wx)
  case atStart => exact ⟨0, _, _, by omega, rfl, HST.out⟩
  case round =>
    obtain ⟨k, L, R, hkg, rfl, hI⟩ := hrel
    rename World => w4
    cases gk with
    | zero =>
      have hk : ¬ ((k : Int) < (a.length : Int)) := by omega
      obtain rfl : k = a.length := by omega
      obtain ⟨hh1, hh2, _, gs2, cs2, mR⟩ := hI.halves
      have HI := Lib.hid hI; have HM := Lib.hid mR
      clear hI mR hh1 hkg
      go_wp2
      try rw [Exit.noGoto_ret]
      go_ret2
      have hend := HI.out.done.end HI.out.cols.all
      have hok : MatM.invOk a = true := by unfold MatM.invOk; rw [HW.out, decide_eq_true hend.2]; rfl
      refine ⟨some ⟨gR, 0, none⟩, a.length, MatM.matL a.length R, by rw [MatM.matL_len, hok]; rfl, HM.out.rows, HI.out.below, fun _ => ⟨MatM.matL_sq _ _, ?_⟩, fun e => by rw [hok] at e; cases e⟩
      exact ⟨(MatM.mm_congr (MatM.EqN.refl _ _) (MatM.matL_mat _ _)).trans hend.1.1, (MatM.mm_congr (MatM.matL_mat _ _) (MatM.EqN.refl _ _)).trans hend.1.2⟩
    | succ g =>
      have hk : k < a.length := by omega
      have hh1 := hI.halves.1
      have hsz := hI.size
      have HI := Lib.hid hI; have HG := Lib.hid hkg
      clear hI hkg
      go_wp2
      go_loopg [10] (a.length - k) (fun g s wx => ∃ r brk : Nat, r + g = a.length ∧ k ≤ r ∧ s = .pointer (some ⟨brk, 0, none⟩) ∧ wx.cell? ⟨brk, 0, none⟩ = some (.int .i64 (r : Nat)) ∧ w4.heap.size < brk ∧
        wx.cell? ⟨w4.heap.size, 0, none⟩ = some (.int .i64 (k : Nat)) ∧ GInv w b0 w.heap.size w3.heap.size (w3.heap.size + 1) w1.heap.size w2.heap.size a.length gL gR (MatM.mat a) k L R wx ∧ (∀ i, k ≤ i → i < r → L i k = 0))
      case atStart => exact ⟨k, w4.heap.size + 1, by omega, Nat.le_refl _, rfl, by rw [World.cell?_alloc_at _ _ _ _ (by simp)]; rfl, by omega, by rw [World.cell?_alloc_past _ _ _ (by simp)]; simp, HI.out.keep (bstep (balloc _ _) (balloc _ _)), fun i h1 h2 => by omega⟩
      case round =>
        obtain ⟨r, brk, hrg, hkr, rfl, hcr, hbk, hck, hI, hzz⟩ := hrel
        rename World => w5
        obtain ⟨e1, e2, ⟨gsL2, csL2, mL⟩, gsR2, csR2, mR⟩ := hI.halves
        cases gk with
        | zero =>
          have hr : ¬ ((r : Int) < (a.length : Int)) := by omega
          have hz0 : ∀ i, k ≤ i → i < a.length → L i k = 0 := fun i h1 h2 => hzz i h1 (by omega)
          have HZ0 := Lib.hid hz0; have HI := Lib.hid hI
          clear hz0 hzz hI mL mR hrg
          go_wp2
          try rw [Exit.noGoto_ret]
          go_ret2
          have hdet := HI.out.done.stuck hk HI.out.cols HZ0.out
          obtain ⟨x, hx1, hx2⟩ := HI.out.done.kernel hk HI.out.cols HZ0.out
          have hno : MatM.invOk a = false := by unfold MatM.invOk; rw [HW.out, decide_eq_false (fun e => e hdet)]; rfl
          exact ⟨none, 0, [], by rw [hno]; rfl, RowsAt.nil _ _, HI.out.below, (fun e => by rw [hno] at e; cases e), fun _ => ⟨rfl, fun _ => ⟨x, k, hk, hx1, hx2⟩⟩⟩
        | succ g2 =>
          have hr : r < a.length := by omega
          have e3 := (mL.hd r hr).1
          have e4 := (mL.row r hr k hk).1
          have e5 := hI.cf
          have HI := Lib.hid hI; have HL := Lib.hid mL; have HR := Lib.hid mR; have HZZ := Lib.hid hzz; have HRG := Lib.hid hrg
          have ht : Gf.Tab w5 b0 := hI.tab
          have HT := Lib.hid ht
          clear hI mL mR hzz hrg ht e2
          obtain ⟨y, hy⟩ : ∃ y, y = L r k := ⟨_, rfl⟩
          rw [← hy] at e4
          have HY := Lib.hid hy
          clear hy
          have l5 := cell_lt e5
          have l1 := cell_lt e1
          have lcr := cell_lt hcr
          have l3 := cell_lt e3
          have lck := cell_lt hck
          have l4 := cell_lt e4
          simp only at l5 l1 lcr l3 lck l4
          go_wp2
          go_region_held3 (fun w' => w'.cell? ⟨w.heap.size, 0, none⟩ = some (.pointer (some ⟨b0, 0, none⟩)) ∧ w'.cell? ⟨w3.heap.size, 0, none⟩ = some (.slice (some ⟨gL, 0, none⟩) a.length a.length) ∧ w'.cell? ⟨brk, 0, none⟩ = some (.int .i64 (r : Nat)) ∧ w'.cell? ⟨gL, r, none⟩ = some (.slice (some ⟨gsL2 r, 0, none⟩) a.length (csL2 r)) ∧ w'.cell? ⟨w4.heap.size, 0, none⟩ = some (.int .i64 (k : Nat)) ∧ w'.cell? ⟨gsL2 r, k, none⟩ = some (.int .u8 (y.toNat : Nat)))
            (first | (exact ⟨c5, c1, ccr, c3, cck, c4⟩) | (exact ⟨far_cell c5 l5, far_cell c1 l1, far_cell ccr lcr, far_cell c3 l3, far_cell cck lck, far_cell c4 l4⟩) | go_keep)
            ((go_simp; go_at_call 35; refine (Gf.inv_any b0 y _ (HT.out.below (by first | exact bdraw _ _ | exact (bdraw _ _).alloc (by simp) _))).mono ?_; rintro e w6 ⟨rfl, hq⟩; have hb6 : Below w5.heap.size w5 w6 := (by obtain ⟨n, rfl⟩ := hq; first | exact bdraw _ _ | exact ((bdraw _ _).alloc (by simp) _) | exact below_drewN (bdraw _ _) _ | exact below_drewN ((bdraw _ _).alloc (by simp) _) _); have c5 := (hb6.cell (p := ⟨w.heap.size, 0, none⟩) (cell_lt e5)).trans e5; have c1 := (hb6.cell (p := ⟨w3.heap.size, 0, none⟩) (cell_lt e1)).trans e1; have ccr := (hb6.cell (p := ⟨brk, 0, none⟩) (cell_lt hcr)).trans hcr; have c3 := (hb6.cell (p := ⟨gL, r, none⟩) (cell_lt e3)).trans e3; have cck := (hb6.cell (p := ⟨w4.heap.size, 0, none⟩) (cell_lt hck)).trans hck; have c4 := (hb6.cell (p := ⟨gsL2 r, k, none⟩) (cell_lt e4)).trans e4; (first | (have hbx := box_of hq; obtain ⟨bx1, bx2, bx3⟩ := hbx) | (have hbx := box_of2 hq; obtain ⟨bx1, bx2, bx3⟩ := hbx) | skip); clear hq))
          all_goals
            first
            | (have hb7 : Below w5.heap.size w5 (w6.setCell ⟨w5.heap.size, 0, none⟩ (.int .u8 ((GfM.inv y).toNat : Nat))) := hb6.setCell (Nat.le_refl _) _
               have ci : (w6.setCell ⟨w5.heap.size, 0, none⟩ (.int .u8 ((GfM.inv y).toNat : Nat))).cell? ⟨w5.heap.size, 0, none⟩ = some (.int .u8 ((GfM.inv y).toNat : Nat)) := World.cell?_setCell_same _ _ _ bx1
               have hbi : w5.heap.size < (w6.setCell ⟨w5.heap.size, 0, none⟩ (.int .u8 ((GfM.inv y).toNat : Nat))).heap.size := by simp only [World.setCell, Array.size_modify]; exact bx3
               generalize w6.setCell ⟨w5.heap.size, 0, none⟩ (.int .u8 ((GfM.inv y).toNat : Nat)) = w7 at hb7 ci hbi ⊢
               have hbl : w5.heap.size ≤ w5.heap.size := Nat.le_refl _
               generalize hgi : w5.heap.size = bi at hbi ci ⊢
               rw [hgi] at hbl
               have hbl : w5.heap.size ≤ bi := by omega
               clear hgi bx1 bx2 bx3 c5 c1 ccr c3 cck c4 hb6)
            | (have hb7 : Below w5.heap.size w5 (w6.alloc (.cells #[.int .u8 ((GfM.inv y).toNat : Nat)] 5)) := hb6.alloc hb6.size _
               have ci : (w6.alloc (.cells #[.int .u8 ((GfM.inv y).toNat : Nat)] 5)).cell? ⟨w6.heap.size, 0, none⟩ = some (.int .u8 ((GfM.inv y).toNat : Nat)) := by simp
               have hbi : w6.heap.size < (w6.alloc (.cells #[.int .u8 ((GfM.inv y).toNat : Nat)] 5)).heap.size := by simp
               have hbl := hb6.size
               generalize w6.alloc (.cells #[.int .u8 ((GfM.inv y).toNat : Nat)] 5) = w7 at hb7 ci hbi ⊢
               generalize w6.heap.size = bi at hbl hbi ci ⊢
               clear c5 c1 ccr c3 cck c4 hb6)
          all_goals
            have c1 := (hb7.cell (p := ⟨w3.heap.size, 0, none⟩) l1).trans e1
            have c5 := (hb7.cell (p := ⟨w.heap.size, 0, none⟩) l5).trans e5
            have ccr := (hb7.cell (p := ⟨brk, 0, none⟩) lcr).trans hcr
            have cck := (hb7.cell (p := ⟨w4.heap.size, 0, none⟩) lck).trans hck
            have hI7 := HI.out.keep hb7
            have HI7 := Lib.hid hI7
            clear hI7 e1 e3 e4 e5 hcr hck l5 l1 l3 l4 lck
            by_cases hx : GfM.inv y = 0
            · have q : (((GfM.inv y).toNat : Int) == 0) = true := by rw [toNat_eq0, hx]; rfl
              have hy0 : L r k = 0 := by
                rw [← HY.out]
                by_cases e : y = 0
                · exact e
                · exact absurd hx (MatM.inv_ne' e)
              have HX := Lib.hid hy0
              clear hx hy0
              go_wp2
              go_roundg g2
              case measure => omega
              case rel =>
                have hsz7 := hb7.size
                have hrg := HRG.out
                refine ⟨r + 1, w7.heap.size, by omega, by omega, rfl, by rw [World.cell?_alloc_new]; simp, by omega, ((balloc w7 _).cell (p := ⟨w4.heap.size, 0, none⟩) (cell_lt cck)).trans cck, HI7.out.keep (balloc _ _), fun i h1 h2 => ?_⟩
                by_cases e : i = r
                · rw [e]; exact HX.out
                · exact HZZ.out i h1 (by omega)
            · have q : (((GfM.inv y).toNat : Int) == 0) = false := by rw [toNat_eq0]; simpa using hx
              have HX := Lib.hid hx
              clear hx
              have hsz7 := hb7.size
              go_wp2_with fail
              refine (both_pivot w3.heap.size (w3.heap.size + 1) b0 brk w4.heap.size w.heap.size bi w1.heap.size w2.heap.size w2.heap.size w3.heap.size a.length gL gR a.length a.length k r L R (GfM.inv y) w7 HI7.out.tab HI7.out.halves hk hr (by omega) ccr cck c5 ci (Nat.le_refl _) (fun b hb => by omega) hz2 hz3).mono ?_
              rintro e w8 ⟨rfl, hh8, q8⟩
              have cck8 := q8.cell cck (nspan (.inr (by show w3.heap.size ≤ w4.heap.size; omega)))
              have c58 := q8.cell c5 (nspan (.inl (by show w.heap.size < w1.heap.size; omega)))
              have ht8 := q8.tab HI7.out.tab (nspan (.inl (by omega)))
              have hbw8 := below_keeps HI7.out.below q8 (fun b hb => by have := hb.1; omega) HI7.out.below.size
              have hs8 := q8.size
              obtain ⟨c18, c28, ⟨gs8, cs8, mL8⟩, gsr8, csr8, mR8⟩ := hh8
              have HML8 := Lib.hid mL8; have HMR8 := Lib.hid mR8; have HT8 := Lib.hid ht8; have HB8 := Lib.hid hbw8
              clear mL8 mR8 ht8 hbw8 q8 c5 c1 ccr cck ci
              go_wp2_with fail
              refine (column_mtx a.length k w8 HML8.out (by omega) hk).mono ?_
              rintro e w9 ⟨gk, hg1, hg2, rfl, hrow, hb9⟩
              have hb10 : Below w8.heap.size w8 (w9.alloc (.cells #[.slice (some ⟨gk, 0, none⟩) a.length a.length] 23)) := bstep hb9 (balloc _ _)
              have hbk10 : w9.heap.size < (w9.alloc (.cells #[.slice (some ⟨gk, 0, none⟩) a.length a.length] 23)).heap.size := by simp
              have ck10 : (w9.alloc (.cells #[.slice (some ⟨gk, 0, none⟩) a.length a.length] 23)).cell? ⟨w9.heap.size, 0, none⟩ = some (.slice (some ⟨gk, 0, none⟩) a.length a.length) := by simp
              have hrow10 := hrow.alloc (.cells #[.slice (some ⟨gk, 0, none⟩) a.length a.length] 23)
              have hs9 := hb9.size
              have HROW := Lib.hid hrow10; have HB10 := Lib.hid hb10; have HCK := Lib.hid ck10
              clear hrow hrow10 hb10 ck10
              go_wp2_with fail
              generalize w9.alloc (.cells #[.slice (some ⟨gk, 0, none⟩) a.length a.length] 23) = w10 at *
              have c1a := (HB10.out.cell (p := ⟨w3.heap.size, 0, none⟩) (cell_lt c18)).trans c18
              have c2a := (HB10.out.cell (p := ⟨w3.heap.size + 1, 0, none⟩) (cell_lt c28)).trans c28
              have c5a := (HB10.out.cell (p := ⟨w.heap.size, 0, none⟩) (cell_lt c58)).trans c58
              have ccka := (HB10.out.cell (p := ⟨w4.heap.size, 0, none⟩) (cell_lt cck8)).trans cck8
              have hlt : (PolyM.tab a.length (fun i => MatM.pivot L k r (GfM.inv y) i k)).length = a.length := PolyM.tab_len _ _
              refine (both_elim w3.heap.size (w3.heap.size + 1) b0 w4.heap.size w.heap.size w9.heap.size w1.heap.size w2.heap.size w2.heap.size w3.heap.size a.length gL gR a.length a.length k a.length (MatM.pivot L k r (GfM.inv y)) (MatM.pivot R k r (GfM.inv y)) (some ⟨gk, 0, none⟩) (PolyM.tab a.length (fun i => MatM.pivot L k r (GfM.inv y) i k)) w10 (HT8.out.below HB10.out)
                ⟨c1a, c2a, ⟨_, _, HML8.out.below HB10.out⟩, _, _, HMR8.out.below HB10.out⟩ hk (by omega) c5a ccka (by rw [hlt]; exact HCK.out) hlt HROW.out.bytes (Nat.le_refl _)
                (fun b hb => by
                  rcases hb with h | h | h | h | h | h | ⟨x, hx, h⟩
                  · omega
                  · omega
                  · omega
                  · omega
                  · omega
                  · omega
                  · injection hx with hx; subst hx; have h : gk = b := h; omega) hz2 hz3).mono ?_
              rintro e w11 ⟨rfl, hh11, q11⟩
              have c5b := q11.cell c5a (nspan (.inl (by show w.heap.size < w1.heap.size; omega)))
              have htb := q11.tab (HT8.out.below HB10.out) (nspan (.inl (by omega)))
              have hbwa : Below w.heap.size w w10 := bstep HB8.out HB10.out
              have hbwb := below_keeps hbwa q11 (fun b hb => by have := hb.1; omega) hbwa.size
              have hs11 := q11.size
              have hga := HI7.out
              have hst := MatM.gauss_step hga.done hga.cols hk hkr hr (by rw [← HY.out]; exact HX.out)
              rw [← HY.out] at hst
              have hco : ∀ m, MatM.elim (PolyM.co (PolyM.tab a.length fun i => MatM.pivot L k r (GfM.inv y) i k)) k a.length m = MatM.elim (fun i => MatM.pivot L k r (GfM.inv y) i k) k a.length m := fun m =>
                elim_congr (fun i hi => by rw [PolyM.co_tab, if_pos hi]) m
              rw [hco, hco] at hh11
              have hnew : GInv w b0 w.heap.size w3.heap.size (w3.heap.size + 1) w1.heap.size w2.heap.size a.length gL gR (MatM.mat a) (k + 1) _ _ w11 := ⟨hh11, hst.1, hst.2, c5b, htb, hbwb, by omega⟩
              have HNEW := Lib.hid hnew
              clear hnew hh11 hst hco hga hbwa hbwb htb c5b c1a c2a c5a ccka hlt q11 c18 c28 c58 cck8
              go_wp2
              go_roundg g
              case measure => omega
              case rel =>
                have hgg := HG.out
                exact ⟨k + 1, _, _, by omega, by go_num, HNEW.out⟩
end Go.Proofs.Ytmkadcnommoihaa.Matrix
