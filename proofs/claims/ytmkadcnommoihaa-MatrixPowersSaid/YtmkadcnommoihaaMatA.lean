/- the contracts of package matrix: what its calls stand on -/
import Derived.Test.YtmkadcnommoihaaMtx
import Derived.Test.YtmkadcnommoihaaMatPost
import Derived.IntWalk
namespace Go.Proofs.Ytmkadcnommoihaa.Matrix
open Go.RowKit

theorem fits_any (A : Option Addr) (m : List (List UInt8)) (c n : Nat) (w : World) (h : RowsAt w A m) (hl : m.length ≤ 1099511627776) (hn : n ≤ 9223372036854775807) :
    Calls Try.prog 26 #[.slice A m.length c, .int .i64 (n : Nat)] w fun e w' => e = .returned (.bool (MatM.allW m n)) ∧ w = w' := by
  go_enter Try.func26, Try.ntmps26
  go_wp2
  go_loop [9] (fun i => ∃ k : Nat, k ≤ m.length ∧ i = .int .i64 k ∧ MatM.allW (m.take k) n = true)
    (fun i => m.length - (intOf i).toNat)
  case atStart => exact ⟨0, Nat.zero_le _, rfl, rfl⟩
  case round =>
    obtain ⟨k, hk, rfl, hw⟩ := hrel
    by_cases hlt : k < m.length
    · obtain ⟨b, o, B, cb, hA, e1, hc1, hc2, _⟩ := h.row hlt
      subst hA
      have hl1 : m[k].length ≤ 9223372036854775807 := by unfold maxLen at hc2; omega
      have g1 := MatM.allW_take hlt hw
      have g2 := fun hn' => MatM.allW_not (n := n) hlt hn'
      have G1 := Lib.hid g1; have G2 := Lib.hid g2
      clear g1 g2 hw h
      generalize m[k].length = x at *
      by_cases hx : x = n
      · have q : ((x : Int) != (n : Int)) = false := by simp [hx]
        have hf := G1.out hx
        have HF := Lib.hid hf
        clear hf hx
        go_wp2
        go_round
        case rel => exact ⟨k + 1, by omega, by go_num, HF.out⟩
        case measure => simp [intOf] <;> omega
      · have q : ((x : Int) != (n : Int)) = true := by rw [bne_iff_ne]; omega
        have hf := G2.out hx
        have HF := Lib.hid hf
        clear hf hx
        go_wp2
        go_ret
        exact ⟨ret_bool HF.out.symm, rfl⟩
    · obtain rfl : k = m.length := by omega
      rw [List.take_length] at hw
      have HF := Lib.hid hw
      clear hw h
      go_wp2
      go_ret
      exact ⟨ret_bool HF.out.symm, rfl⟩

theorem width_any (A : Option Addr) (m : List (List UInt8)) (c : Nat) (w : World) (h : RowsAt w A m) :
    Calls Try.prog 27 #[.slice A m.length c] w fun e w' => e = .returned (.int .i64 (MatM.wd m : Nat)) ∧ w = w' := by
  by_cases h0 : m.length = 0
  · have : m = [] := List.eq_nil_of_length_eq_zero h0
    subst this
    clear h h0
    go_enter Try.func27, Try.ntmps27
    go_wp2
    go_ret
    exact ⟨rfl, rfl⟩
  · have q0 : ((m.length : Int) == 0) = false := by simpa using h0
    have hpos : 0 < m.length := by omega
    obtain ⟨b2, o2, B2, cb2, hA2, e2, _, _, _⟩ := h.row hpos
    subst hA2
    rw [Nat.add_zero] at e2
    have hwd : m[0].length = MatM.wd m := by unfold MatM.wd; rw [MatM.rowAt_get _ _ hpos]
    rw [hwd] at e2
    clear h hwd h0
    go_enter Try.func27, Try.ntmps27
    go_wp2
    go_ret
    exact ⟨rfl, rfl⟩

theorem column_any (A : Option Addr) (m : List (List UInt8)) (cc c : Nat) (w : World) (h : RowsAt w A m) (hl : m.length ≤ 1048576) (hc : ∀ i, (hi : i < m.length) → c < m[i].length) :
    Calls Try.prog 38 #[.slice A m.length cc, .int .i64 (c : Nat)] w fun e w' => ∃ g, w.heap.size ≤ g ∧ g < w'.heap.size ∧ e = .returned (.slice (some ⟨g, 0, none⟩) m.length m.length) ∧ Row w' g (MatM.colL m c) ∧ Below w.heap.size w w' := by
  have hmk := fun W => make_u8 m.length (by omega) W
  have HC := Lib.hid hc
  clear hc
  go_enter Try.func38, Try.ntmps38
  go_wp2
  clear hmk
  go_loopw [13] (fun i wr => ∃ k : Nat, k ≤ m.length ∧ i = .int .i64 k ∧ Row wr w.heap.size (PolyM.tab m.length (fun j => if j < k then MatM.mat m j c else 0)) ∧ Below w.heap.size w wr)
    (fun i _ => m.length - (intOf i).toNat)
  case atStart => exact ⟨0, Nat.zero_le _, rfl, by rw [show (PolyM.tab m.length fun j => if j < 0 then MatM.mat m j c else 0) = PolyM.tab m.length (fun _ => 0) from PolyM.tab_congr fun i _ => by simp, PolyM.tab_rep]; exact Row.new _ _, balloc _ _⟩
  case round =>
    obtain ⟨k, hk, rfl, hr, hb⟩ := hrel
    by_cases hlt : k < m.length
    · obtain ⟨b, o, B, cb, hA, e1, hc1, hc2, p1⟩ := (h.below hb).row hlt
      subst hA
      have hck := HC.out k hlt
      obtain ⟨b2, o2, hB, e2⟩ := p1 c hck
      subst hB
      have hv : MatM.mat m k c = m[k][c] := by unfold MatM.mat; rw [MatM.rowAt_get _ _ hlt, PolyM.co_get _ _ hck]
      have hlen : k < (PolyM.tab m.length (fun j => if j < k then MatM.mat m j c else 0)).length := by rw [PolyM.tab_len]; exact hlt
      have hcl := hr.cell k hlen
      have hf := hr.frozen k
      have hz := hr.lt
      have hs := hr.set k m[k][c]
      rw [PolyM.tab_set _ _ _ _ hlt, show (fun i => if i = k then m[k][c] else if i < k then MatM.mat m i c else 0) = (fun j => if j < k + 1 then MatM.mat m j c else 0) from funext fun i => by
        by_cases e : i = k
        · subst e; rw [if_pos rfl, if_pos (by omega), hv]
        · rw [if_neg e]
          by_cases e2 : i < k
          · rw [if_pos e2, if_pos (by omega)]
          · rw [if_neg e2, if_neg (by omega)]] at hs
      rw [PolyM.tab_get] at hcl
      have HS := Lib.hid hs
      clear hs hlen hv hr p1
      generalize m[k][c] = x at *
      generalize m[k].length = l at *
      go_wp2
      go_roundw
      case rel => exact ⟨k + 1, by omega, by go_num, HS.out, hb.setCell (Nat.le_refl _) _⟩
      case measure => simp [intOf] <;> omega
    · obtain rfl : k = m.length := by omega
      rw [show (PolyM.tab m.length fun j => if j < m.length then MatM.mat m j c else 0) = MatM.colL m c from by
        rw [MatM.colL_tab]; exact PolyM.tab_congr fun i hi => by rw [if_pos hi]] at hr
      have hz := hr.lt
      have HR := Lib.hid hr
      clear hr
      go_wp2
      go_ret
      exact ⟨w.heap.size, Nat.le_refl _, hz, rfl, HR.out, hb⟩

theorem scale_any (b0 b n cp : Nat) (u : Nat → UInt8) (x : UInt8) (w : World) (ht : Gf.Tab w b0) (h : RowF w b n u) (hb : b0 ≠ b) (hn : n ≤ 1048576) :
    Calls Try.prog 37 #[.pointer (some ⟨b0, 0, none⟩), .slice (some ⟨b, 0, none⟩) n cp, .int .u8 (x.toNat : Nat)] w
      fun e w' => e = .returned (.tuple #[]) ∧ RowF w' b n (fun j => GfM.mul x (u j)) ∧ w.grownBy w' (some b) := by
  go_enter Try.func37, Try.ntmps37
  go_wp2
  go_loopw [10] (fun i wr => ∃ k : Nat, k ≤ n ∧ i = .int .i64 k ∧ RowF wr b n (fun j => if j < k then GfM.mul x (u j) else u j) ∧ w.grownBy wr (some b))
    (fun i _ => n - (intOf i).toNat)
  case atStart => exact ⟨0, Nat.zero_le _, rfl, h.congr fun j _ => by simp, grow_refl _ _⟩
  case round =>
    obtain ⟨k, hk, rfl, hr, hg⟩ := hrel
    by_cases hlt : k < n
    · have ht : Gf.Tab wr b0 := (Keeps.grow (F := fun i => i = b) hg rfl).tab ht hb
      obtain ⟨hc, hf⟩ := hr k hlt
      simp only [Nat.lt_irrefl, if_false] at hc
      have hs : ∀ m, RowF ((wr.drewN m).setCell ⟨b, k, none⟩ (.int .u8 ((GfM.mul (u k) x).toNat : Nat))) b n (fun j => if j < k + 1 then GfM.mul x (u j) else u j) := fun m =>
        ((hr.drewN m).set k (GfM.mul (u k) x)).congr fun j _ => by
          by_cases e : j = k
          · subst e; rw [if_pos rfl, if_pos (by omega), GfM.mulc]
          · rw [if_neg e]
            by_cases e2 : j < k
            · rw [if_pos e2, if_pos (by omega)]
            · rw [if_neg e2, if_neg (by omega)]
      have HS := Lib.hid hs; have HT := Lib.hid ht
      clear hs hr ht
      generalize u k = y at *
      go_wp2_with (go_at_call 50; refine (Gf.mul_any _ _ _ _ HT.out).mono ?_; rintro e w' ⟨rfl, m, rfl⟩)
      go_roundw
      case rel => exact ⟨k + 1, by omega, by go_num, HS.out m, grow_trans (grow_trans hg (grow_draw _ m _)) (grow_set _ ⟨b, k, none⟩ _)⟩
      case measure => simp [intOf] <;> omega
    · obtain rfl : k = n := by omega
      have hr := hr.congr (v := fun j => GfM.mul x (u j)) fun j hj => by rw [if_pos hj]
      have HR := Lib.hid hr
      clear hr
      go_wp2
      go_end0
      exact ⟨rfl, HR.out, hg⟩
end Go.Proofs.Ytmkadcnommoihaa.Matrix
