/- the contracts of package gf -/
import Derived.Test.YtompeiemioeohaaMem
import Derived.Test.YtompeiemioeohaaMA
set_option maxRecDepth 100000
namespace Go.Proofs.Ytompeiemioeohaa.Gf
open Go.RowKit

theorem add_any (a b : Int) (w : World) :
    Calls Try.prog 42 #[.int .u8 a, .int .u8 b] w fun e w' => e = .returned (.int .u8 (bits .xor .u8 a b)) ∧ w = w' := by
  go_enter Try.func42, Try.ntmps42
  go_wp2
  go_ret
  exact ⟨rfl, rfl⟩
theorem add_u8 (a b : UInt8) (w : World) :
    Calls Try.prog 42 #[.int .u8 (a.toNat : Nat), .int .u8 (b.toNat : Nat)] w fun e w' => e = .returned (.int .u8 ((GfM.add a b).toNat : Nat)) ∧ w = w' := by
  have := add_any (a.toNat : Nat) (b.toNat : Nat) w
  rw [xor_u8] at this
  exact this
theorem add_q (a b : UInt8) (w : World) :
    Calls Try.prog 42 #[.int .u8 (a.toNat : Nat), .int .u8 (b.toNat : Nat)] w fun e w' => e = .returned (.int .u8 ((GfM.add a b).toNat : Nat)) ∧ w' = w :=
  (add_u8 a b w).mono fun _ _ ⟨h1, h2⟩ => ⟨h1, h2.symm⟩
theorem timesX_any (a : Nat) (w : World) (ha : a < 256) :
    Calls Try.prog 43 #[.int .u8 a] w fun e w' => e = .returned (.int .u8 (GfM.xt a : Nat)) ∧ w = w' := by
  have h0 : bits BinOp.and IntKind.u8 (a : Int) 128 = ((a &&& 128 : Nat) : Int) := u8_and_nat a 128 ha (by omega)
  have h1 : bits BinOp.xor IntKind.u8 ((a : Int) * 2 % 256) 27 = (((a * 2 % 256) ^^^ 27 : Nat) : Int) := u8_xor_nat (a * 2 % 256) 27 (by omega) (by omega)
  have h2 : decide (GfM.xt a = if a &&& 128 = 0 then a * 2 % 256 else (a * 2 % 256) ^^^ 27) = true :=
    GfM.all_bytes (fun a => decide (GfM.xt a = if a &&& 128 = 0 then a * 2 % 256 else (a * 2 % 256) ^^^ 27)) (by decide +kernel) a ha
  have h2 := of_decide_eq_true h2
  have H := Lib.hid h2; clear h2
  have H0 := Lib.hid h0; clear h0
  have H1 := Lib.hid h1; clear h1
  by_cases hc : a &&& 128 = 0
  · have hb : (bits BinOp.and IntKind.u8 (a : Int) 128 != 0) = false := by rw [H0.out, hc]; rfl
    have HC := Lib.hid hc; clear hc
    go_enter Try.func43, Try.ntmps43
    go_wp2
    go_ret
    exact ⟨by rw [H.out, if_pos HC.out]; simp, rfl⟩
  · have hb : (bits BinOp.and IntKind.u8 (a : Int) 128 != 0) = true := by rw [H0.out]; simp; omega
    have HC := Lib.hid hc; clear hc
    go_enter Try.func43, Try.ntmps43
    go_wp2
    go_ret
    exact ⟨by rw [H.out, if_neg HC.out]; simp; exact H1.out, rfl⟩

def zeros : Array Value := Array.replicate 766 (.int .u8 0)
theorem zero_field (w : World) : (zeroValue 73).run Try.prog w = .ok (.agg zeros) w := by kernel_rfl

def powTo (k i : Nat) : Nat := if i % 255 < k then GfM.gpow i else 0
def logTo (k i : Nat) : Nat := if i ≠ 0 ∧ GfM.logN i < k then GfM.logN i else 0
structure TabTo (w : World) (b k : Nat) : Prop where
  pow : ∀ i, i < 510 → w.cell? ⟨b, i, none⟩ = some (.int .u8 (powTo k i : Nat))
  log : ∀ i, i < 256 → w.cell? ⟨b, 510 + i, none⟩ = some (.int .u8 (logTo k i : Nat))
  fr : ∀ i, w.frozen? ⟨b, i, none⟩ = false
/-- the tables lie in block b -/
structure Tab (w : World) (b : Nat) : Prop where
  pow : ∀ i, i < 510 → w.cell? ⟨b, i, none⟩ = some (.int .u8 (GfM.gpow i : Nat))
  log : ∀ i, i < 256 → i ≠ 0 → w.cell? ⟨b, 510 + i, none⟩ = some (.int .u8 (GfM.logN i : Nat))

theorem zeros_get (i : Nat) (h : i < 766) : zeros[i]? = some (.int .u8 0) := by
  unfold zeros; rw [Array.getElem?_replicate, if_pos h]
theorem TabTo.start (w : World) : TabTo (w.alloc (.cells zeros 73)) w.heap.size 0 := by
  refine ⟨fun i hi => ?_, fun i hi => ?_, fun i => ?_⟩
  · rw [World.cell?_alloc_new, zeros_get _ (by omega)]; simp [powTo]
  · rw [World.cell?_alloc_new, zeros_get _ (by omega)]; simp [logTo]
  · simp
theorem TabTo.drew {w : World} {b k : Nat} (h : TabTo w b k) : TabTo w.drew b k := ⟨h.pow, h.log, h.fr⟩
theorem TabTo.step {w : World} {b k : Nat} (h : TabTo w b k) (hk : k < 255) :
    TabTo (((w.setCell ⟨b, k, none⟩ (.int .u8 (GfM.gpow k : Nat))).setCell ⟨b, k + 255, none⟩ (.int .u8 (GfM.gpow k : Nat))).setCell ⟨b, 510 + GfM.gpow k, none⟩ (.int .u8 (k : Nat))) b (k + 1) := by
  have hg := GfM.gpow_lt k
  refine ⟨fun i hi => ?_, fun i hi => ?_, fun i => ?_⟩
  · rw [cell_store (cell_store (cell_store (h.pow i hi)))]
    rw [if_neg (by omega)]
    unfold powTo
    by_cases e1 : i = k + 255
    · subst e1; rw [if_pos rfl, if_pos (by omega), GfM.gpow_add255]
    · rw [if_neg e1]
      by_cases e2 : i = k
      · subst e2; rw [if_pos rfl, if_pos (by omega)]
      · rw [if_neg e2]
        have : (i % 255 < k + 1) ↔ (i % 255 < k) := by omega
        simp only [this]
  · rw [cell_store (cell_store (cell_store (h.log i hi)))]
    rw [if_neg (by omega : ¬ 510 + i = k + 255), if_neg (by omega : ¬ 510 + i = k)]
    unfold logTo
    by_cases e1 : i = GfM.gpow k
    · subst e1; rw [if_pos rfl, if_pos ⟨GfM.gpow_ne k hk, by rw [GfM.log_gpow k hk]; omega⟩, GfM.log_gpow k hk]
    · rw [if_neg (by omega)]
      by_cases i0 : i = 0
      · simp [i0]
      · have : GfM.logN i ≠ k := fun e => e1 (by rw [← e, GfM.gpow_log i hi i0])
        have : (GfM.logN i < k + 1) ↔ (GfM.logN i < k) := by omega
        simp only [this]
  · simp [h.fr]
theorem TabTo.done {w : World} {b : Nat} (h : TabTo w b 255) : Tab w b := by
  refine ⟨fun i hi => ?_, fun i hi i0 => ?_⟩
  · rw [h.pow i hi, powTo, if_pos (by omega)]
  · rw [h.log i hi, logTo, if_pos ⟨i0, GfM.log_lt i hi⟩]
theorem Tab.drewN {w : World} {b : Nat} (h : Tab w b) (n : Nat) : Tab (w.drewN n) b := ⟨h.pow, h.log⟩
theorem Tab.below {w w' : World} {b : Nat} (h : Tab w b) (hb : Below w.heap.size w w') : Tab w' b := by
  have hl : b < w.heap.size := cell_lt (h.pow 0 (by omega))
  exact ⟨fun i hi => (hb.cell (p := ⟨b, i, none⟩) hl).trans (h.pow i hi), fun i hi i0 => (hb.cell (p := ⟨b, 510 + i, none⟩) hl).trans (h.log i hi i0)⟩
theorem Tab.lt {w : World} {b : Nat} (h : Tab w b) : b < w.heap.size := cell_lt (h.pow 0 (by omega))

set_option maxRecDepth 100000 in
theorem new_any (w : World) :
    Calls Try.prog 11 #[] w fun e w' => e = .returned (.pointer (some ⟨w.heap.size, 0, none⟩)) ∧ Tab w' w.heap.size ∧ Below w.heap.size w w' ∧ w.heap.size < w'.heap.size := by
  have hz := zero_field
  go_enter Try.func11, Try.ntmps11
  go_wp2
  clear hz
  go_loopw [2, 6] (fun p i wr => ∃ k : Nat, k ≤ 255 ∧ i = .int .i64 k ∧ p = .int .u8 (GfM.gpow k : Nat) ∧ TabTo wr w.heap.size k ∧ Below w.heap.size w wr ∧ w.heap.size < wr.heap.size)
    (fun _ i _ => 255 - (intOf i).toNat)
  case atStart => exact ⟨0, by omega, rfl, rfl, TabTo.start w, (Below.refl _ _).alloc (Nat.le_refl _) _, by simp⟩
  case round =>
    obtain ⟨k, hk, rfl, rfl, ht, hb, hs⟩ := hrel
    by_cases hlt : k < 255
    · have hg := GfM.gpow_lt k
      have hg' : (GfM.gpow k : Int) < 256 := by omega
      have c1 := ht.pow k (by omega)
      have c2 := ht.pow (k + 255) (by omega)
      have c3 := (cell_store (v := .int .u8 (GfM.gpow k : Nat)) (j := k + 255) (cell_store (v := .int .u8 (GfM.gpow k : Nat)) (j := k) (ht.log (GfM.gpow k) hg)))
      have f1 := ht.fr
      have hst := ht.step hlt
      have HT := Lib.hid hst
      clear ht hst
      go_wp2
      go_region
      all_goals
        go_wp2_with (first
          | (go_at_call 43; refine (timesX_any _ _ hg).mono ?_; rintro e w' ⟨rfl, rfl⟩)
          | (go_at_call 42; refine (add_any _ _ _).mono ?_; rintro e w' ⟨rfl, rfl⟩))
        go_roundw
        case rel =>
          refine ⟨k + 1, by omega, by go_num, ?_, ?_, ?_, ?_⟩
          · rw [u8_xor_nat _ _ hg (GfM.xt_lt _ hg)]; rfl
          · exact HT.out.drew
          · exact (((hb.setCell (Nat.le_refl _) _).setCell (Nat.le_refl _) _).setCell (Nat.le_refl _) _).drew
          · simpa using hs
        case measure => simp [intOf]; omega
    · go_wp2
      go_ret
      have : k = 255 := by omega
      subst this
      exact ⟨rfl, ht.done, hb, hs⟩

theorem mul_any (b0 : Nat) (a b : UInt8) (w : World) (ht : Tab w b0) :
    Calls Try.prog 105 #[.pointer (some ⟨b0, 0, none⟩), .int .u8 (a.toNat : Nat), .int .u8 (b.toNat : Nat)] w fun e w' => e = .returned (.int .u8 ((GfM.mul a b).toNat : Nat)) ∧ ∃ n, w' = w.drewN n := by
  have ha := u8_wf a
  have hb := u8_wf b
  by_cases a0 : a = 0
  · have hf : GfM.mul a b = 0 := by rw [a0, GfM.zmul]
    rw [hf]
    have a0' : ((a.toNat : Int) == 0) = true := by rw [toNat_eq0, a0]; rfl
    clear a0 hf
    go_enter Try.func105, Try.ntmps105
    go_wp2
    go_ret
    exact ⟨rfl, 0, rfl⟩
  · have a0' : ((a.toNat : Int) == 0) = false := by rw [toNat_eq0]; simpa using a0
    by_cases b0' : b = 0
    · have hf : GfM.mul a b = 0 := by rw [b0', GfM.mul0]
      rw [hf]
      have b0' : ((b.toNat : Int) == 0) = true := by rw [toNat_eq0, b0']; rfl
      clear hf
      go_enter Try.func105, Try.ntmps105
      go_wp2
      go_ret
      exact ⟨rfl, 0, rfl⟩
    · have b0'' : ((b.toNat : Int) == 0) = false := by rw [toNat_eq0]; simpa using b0'
      have hla : GfM.logN a.toNat < 255 := GfM.log_lt _ (GfM.lt a)
      have hlb : GfM.logN b.toNat < 255 := GfM.log_lt _ (GfM.lt b)
      have c1 := ht.log a.toNat (GfM.lt a) (GfM.ne_zero a0)
      have c2 := ht.log b.toNat (GfM.lt b) (GfM.ne_zero b0')
      have c3 := ht.pow (GfM.logN a.toNat + GfM.logN b.toNat) (by omega)
      have hm := GfM.mul_logs _ _ (GfM.lt a) (GfM.lt b) (GfM.ne_zero a0) (GfM.ne_zero b0')
      rw [← GfM.mul_toNat] at hm
      have HM := Lib.hid hm
      clear ht hm a0 b0'
      go_enter Try.func105, Try.ntmps105
      go_wp2
      go_quiet (fail)
      go_wp2
      go_ret
      exact ⟨ret_int (by rw [HM.out]), _, rfl⟩

theorem inv_any (b0 : Nat) (a : UInt8) (w : World) (ht : Tab w b0) :
    Calls Try.prog 111 #[.pointer (some ⟨b0, 0, none⟩), .int .u8 (a.toNat : Nat)] w fun e w' => e = .returned (.int .u8 ((GfM.inv a).toNat : Nat)) ∧ ∃ n, w' = w.drewN n := by
  have ha := u8_wf a
  by_cases a0 : a = 0
  · have hf : GfM.inv a = 0 := by rw [a0, GfM.inv_zero]
    rw [hf]
    have a0' : ((a.toNat : Int) == 0) = true := by rw [toNat_eq0, a0]; rfl
    clear a0 hf
    go_enter Try.func111, Try.ntmps111
    go_wp2
    go_ret
    exact ⟨rfl, 0, rfl⟩
  · have a0' : ((a.toNat : Int) == 0) = false := by rw [toNat_eq0]; simpa using a0
    have hla : GfM.logN a.toNat < 255 := GfM.log_lt _ (GfM.lt a)
    have c1 := ht.log a.toNat (GfM.lt a) (GfM.ne_zero a0)
    have c3 := ht.pow (255 - GfM.logN a.toNat) (by omega)
    have hm : (GfM.inv a).toNat = GfM.gpow (255 - GfM.logN a.toNat) := by rw [GfM.inv_log a0, GfM.ofNat_gp]
    have HM := Lib.hid hm
    clear ht hm a0
    go_enter Try.func111, Try.ntmps111
    go_wp2
    go_quiet (fail)
    go_wp2
    go_ret
    exact ⟨ret_int (by rw [HM.out]), _, rfl⟩

/-! the program's own powers -/
/-! of a field that is none -/
theorem mul_nil (a b : Int) (w : World) :
    Calls Try.prog 105 #[.pointer none, .int .u8 a, .int .u8 b] w fun e w' => e = .returned (.int .u8 0) ∧ ∃ n, w' = w.drewN n := by
  go_enter Try.func105, Try.ntmps105
  go_wp2
  go_ret
  exact ⟨rfl, 0, rfl⟩
theorem inv_nil (a : Int) (w : World) :
    Calls Try.prog 111 #[.pointer none, .int .u8 a] w fun e w' => e = .returned (.int .u8 0) ∧ ∃ n, w' = w.drewN n := by
  go_enter Try.func111, Try.ntmps111
  go_wp2
  go_ret
  exact ⟨rfl, 0, rfl⟩
/-! sums of products: for each of the two fields the product that is handed on -/
end Go.Proofs.Ytompeiemioeohaa.Gf
