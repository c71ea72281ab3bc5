/- the contracts of package matrix: what is done to a half -/
import Derived.Test.YtmkadcnommoihaaMatA
namespace Go.Proofs.Ytmkadcnommoihaa.Matrix
open Go.RowKit

theorem elim_skip (l : List UInt8) (c k : Nat) (m : MatM.Mat) (h : k = c ∨ PolyM.co l k = 0) : MatM.elim (PolyM.co l) c (k + 1) m = MatM.elim (PolyM.co l) c k m := by
  funext i j
  rw [MatM.elim_at, MatM.elim_at]
  by_cases e : i < k ∧ i ≠ c
  · rw [if_pos e, if_pos (by omega)]
  · rw [if_neg e]
    by_cases e2 : i < k + 1 ∧ i ≠ c
    · have : i = k := by omega
      subst this
      rw [if_pos e2, h.resolve_left e2.2, GfM.zmul, PolyM.add0]
    · rw [if_neg e2]
theorem elim_take (l : List UInt8) (c k : Nat) (m : MatM.Mat) (h : k ≠ c) : MatM.elim (PolyM.co l) c (k + 1) m = MatM.setRow (MatM.elim (PolyM.co l) c k m) k (fun j => GfM.add (MatM.elim (PolyM.co l) c k m k j) (GfM.mul (MatM.elim (PolyM.co l) c k m c j) (PolyM.co l k))) := by
  rw [MatM.elim, if_neg h]
  unfold MatM.addR
  congr 1; funext j; rw [GfM.mulc]

set_option maxHeartbeats 1000000 in
theorem takeOut_any (b0 lo hi n g c cp cl : Nat) (gs cs : Nat → Nat) (m : MatM.Mat) (C : Option Addr) (l : List UInt8) (w : World) (ht : Gf.Tab w b0) (h : Mtx w lo hi n n g gs cs m) (hC : BytesAt w C l) (hl : l.length = n) (hc : c < n) (hn : n ≤ 1048576)
    (h0 : ¬ Span lo hi b0) (hCo : ∀ a, C = some a → ¬ Span lo hi a.block) :
    Calls Try.prog 40 #[.pointer (some ⟨b0, 0, none⟩), .slice (some ⟨g, 0, none⟩) n cp, .int .i64 (c : Nat), .slice C l.length cl] w
      fun e w' => e = .returned (.tuple #[]) ∧ Mtx w' lo hi n n g gs cs (MatM.elim (PolyM.co l) c n m) ∧ Keeps (Span lo hi) w w' := by
  have HL := Lib.hid hl
  clear hl
  go_enter Try.func40, Try.ntmps40
  go_wp2
  go_loopw [14] (fun i wr => ∃ k : Nat, k ≤ n ∧ i = .int .i64 k ∧ Mtx wr lo hi n n g gs cs (MatM.elim (PolyM.co l) c k m) ∧ Keeps (Span lo hi) w wr)
    (fun i _ => n - (intOf i).toNat)
  case atStart => exact ⟨0, Nat.zero_le _, rfl, h, Keeps.refl _ _⟩
  case round =>
    obtain ⟨k, hk, rfl, hm, hq⟩ := hrel
    rename World => w0
    clear h
    by_cases hlt : k < n
    · have ht : Gf.Tab w0 b0 := hq.tab ht h0
      have hC : BytesAt w0 C l := hq.bytes hC hCo
      have hkl : k < l.length := by rw [HL.out]; exact hlt
      obtain ⟨bc, oc, hA, ec⟩ := hC k hkl
      subst hA
      have hco : PolyM.co l k = l[k] := PolyM.co_get l k hkl
      have ek := (hm.hd k hlt).1
      have ecr := (hm.hd c hc).1
      by_cases hkc : k = c
      · have q : ((k : Int) == (c : Int)) = true := by simp [hkc]
        have hs := elim_skip l c k m (.inl hkc)
        have HS := Lib.hid hs; have HM := Lib.hid hm
        clear hs hm hco hkc ec hC
        go_wp2
        go_roundw
        case rel => exact ⟨k + 1, by omega, by go_num, by rw [HS.out]; exact HM.out, hq⟩
        case measure => simp [intOf] <;> omega
      · have q : ((k : Int) == (c : Int)) = false := by rw [beq_eq_false_iff_ne]; omega
        by_cases hz : l[k] = 0
        · have q2 : ((l[k].toNat : Int) == 0) = true := by rw [toNat_eq0, hz]; rfl
          have hs := elim_skip l c k m (.inr (by rw [hco]; exact hz))
          have HS := Lib.hid hs; have HM := Lib.hid hm
          clear hs hm hco hz hC
          generalize l[k] = x at *
          go_wp2
          go_roundw
          case rel => exact ⟨k + 1, by omega, by go_num, by rw [HS.out]; exact HM.out, hq⟩
          case measure => simp [intOf] <;> omega
        · have q2 : ((l[k].toNat : Int) == 0) = false := by rw [toNat_eq0]; simpa using hz
          have hs := elim_take l c k m hkc
          rw [hco] at hs
          have HS := Lib.hid hs; have HM := Lib.hid hm; have HKC := Lib.hid hkc
          have hg1 : gs c ≠ gs k := fun e => hkc (hm.inj _ _ hc hlt e).symm
          have hrk := hm.row k hlt
          have hrc := hm.row c hc
          have hfk := hm.foot k hlt
          have hbk : b0 ≠ gs k := fun e => h0 (by rw [e]; exact hfk)
          have hck : bc ≠ gs k := fun e => hCo _ rfl (by show Span lo hi bc; rw [e]; exact hfk)
          clear hs hm hco hz hC hkc
          generalize l[k] = x at *
          generalize MatM.elim (PolyM.co l) c k m = M at *
          have HRK := Lib.hid hrk; have HRC := Lib.hid hrc; have HFK := Lib.hid hfk; have HT := Lib.hid ht
          clear hrk hrc hfk ht
          go_wp2
          go_loopw [34] (fun i wr => ∃ t : Nat, t ≤ n ∧ i = .int .i64 t ∧ RowF wr (gs k) n (fun j => if j < t then GfM.add (M k j) (GfM.mul (M c j) x) else M k j) ∧ w0.grownBy wr (some (gs k)))
            (fun i _ => n - (intOf i).toNat)
          case atStart => exact ⟨0, Nat.zero_le _, rfl, HRK.out.congr fun j _ => by simp, grow_refl _ _⟩
          case round =>
            obtain ⟨t, htn, rfl, hr, hg⟩ := hrel
            by_cases hlt2 : t < n
            · have hqg : Keeps (fun i => i = gs k) w0 wr := Keeps.grow hg rfl
              have ht : Gf.Tab wr b0 := hqg.tab HT.out hbk
              have e1 := (HRC.out t hlt2).1
              have e1 := hqg.cell e1 hg1
              have ec' := hqg.cell ec hck
              obtain ⟨hcl, hf⟩ := hr t hlt2
              simp only [Nat.lt_irrefl, if_false] at hcl
              have hs : ∀ m, RowF ((wr.drewN m).setCell ⟨gs k, t, none⟩ (.int .u8 ((GfM.add (M k t) (GfM.mul (M c t) x)).toNat : Nat))) (gs k) n (fun j => if j < t + 1 then GfM.add (M k j) (GfM.mul (M c j) x) else M k j) := fun m =>
                ((hr.drewN m).set t _).congr fun j _ => by
                  by_cases e : j = t
                  · subst e; rw [if_pos rfl, if_pos (by omega)]
                  · rw [if_neg e]
                    by_cases e2 : j < t
                    · rw [if_pos e2, if_pos (by omega)]
                    · rw [if_neg e2, if_neg (by omega)]
              have HS2 := Lib.hid hs; have HT2 := Lib.hid ht
              clear hs hr ht hqg
              generalize M c t = y at *
              generalize M k t = z at *
              go_wp2
              go_region_law ((first
                | (go_simp; go_at_call 50; refine (Gf.mul_any _ _ _ _ (HT2.out.drewN _)).mono ?_; rintro e w' ⟨rfl, m, rfl⟩)
                | (go_simp; go_at_call 24; refine (Gf.add_u8 _ _ _).mono ?_; rintro e w' ⟨rfl, rfl⟩)))
              all_goals
                try go_wp2
                go_roundw
                case rel => exact ⟨t + 1, by omega, by go_num, HS2.out _, grow_trans (grow_trans hg (grow_draw _ _ _)) (grow_set _ ⟨gs k, t, none⟩ _)⟩
                case measure => simp [intOf] <;> omega
            · obtain rfl : t = n := by omega
              have hr := hr.congr (v := fun j => GfM.add (M k j) (GfM.mul (M c j) x)) fun j hj => by rw [if_pos hj]
              have hm := HM.out.setRow hlt hg hr
              rw [← HS.out] at hm
              have hq2 := hq.trans (Keeps.grow hg HFK.out)
              have HM2 := Lib.hid hm; have HQ2 := Lib.hid hq2
              clear hr hm hq2 ek ecr
              go_wp2
              go_roundw
              case rel => exact ⟨k + 1, by omega, by go_num, HM2.out, HQ2.out⟩
              case measure => simp [intOf] <;> omega
    · obtain rfl : k = n := by omega
      go_wp2
      go_end0
      exact ⟨rfl, hm, hq⟩
end Go.Proofs.Ytmkadcnommoihaa.Matrix
