/- the contracts of package matrix: the closures of Inverse -/
import Derived.Test.YtmkadcnommoihaaMatB
namespace Go.Proofs.Ytmkadcnommoihaa.Matrix
open Go.RowKit

set_option maxHeartbeats 1000000 in
theorem pivot_ne (b0 br bc bf bx lo hi n g c r cp : Nat) (gs cs : Nat → Nat) (m : MatM.Mat) (x : UInt8) (w : World) (ht : Gf.Tab w b0) (h : Mtx w lo hi n n g gs cs m) (hc : c < n) (hr : r < n) (hcr : c ≠ r) (hn : n ≤ 1048576)
    (cr : w.cell? ⟨br, 0, none⟩ = some (.int .i64 (r : Nat))) (cc : w.cell? ⟨bc, 0, none⟩ = some (.int .i64 (c : Nat))) (cf : w.cell? ⟨bf, 0, none⟩ = some (.pointer (some ⟨b0, 0, none⟩))) (cx : w.cell? ⟨bx, 0, none⟩ = some (.int .u8 (x.toNat : Nat)))
    (h0 : ¬ Span lo hi b0) (nr : ¬ Span lo hi br) (nc : ¬ Span lo hi bc) (nf : ¬ Span lo hi bf) (nx : ¬ Span lo hi bx) :
    Calls Try.prog 36 #[.slice (some ⟨g, 0, none⟩) n cp, .pointer (some ⟨br, 0, none⟩), .pointer (some ⟨bc, 0, none⟩), .pointer (some ⟨bf, 0, none⟩), .pointer (some ⟨bx, 0, none⟩)] w
      fun e w' => e = .returned (.tuple #[]) ∧ ∃ gs' cs', Mtx w' lo hi n n g gs' cs' (MatM.pivot m c r x) ∧ Keeps (Span lo hi) w w' := by
  have e1 := (h.hd c hc).1
  have e2 := (h.hd r hr).1
  have f1 := (h.hd c hc).2
  have f2 := (h.hd r hr).2
  have hs := h.swap hc hr
  have hg := h.footg
  have hbrg : br ≠ g := fun e => nr (by rw [e]; exact hg)
  have hbcg : bc ≠ g := fun e => nc (by rw [e]; exact hg)
  have hbfg : bf ≠ g := fun e => nf (by rw [e]; exact hg)
  have hbxg : bx ≠ g := fun e => nx (by rw [e]; exact hg)
  have hrc : r ≠ c := Ne.symm hcr
  have hfoot := h.foot
  have HS := Lib.hid hs; have HF := Lib.hid hfoot; have HG := Lib.hid hg; have HT := Lib.hid ht
  clear hs h hfoot hg ht
  go_enter Try.func36, Try.ntmps36
  go_wp2
  go_region
  all_goals
    have HM := Lib.hid HS.out
    have k1 := (HS.out.hd c hc).1
    have hrow := HS.out.row c hc
    have hft := HS.out.foot c hc
    have kq : Keeps (fun i => i = g) w ((w.setCell ⟨g, c, none⟩ (.slice (some ⟨gs r, 0, none⟩) n (cs r))).setCell ⟨g, r, none⟩ (.slice (some ⟨gs c, 0, none⟩) n (cs c))) := (Keeps.set (fun b => b = g) w ⟨g, c, none⟩ _ rfl).trans (Keeps.set (fun b => b = g) _ ⟨g, r, none⟩ _ rfl)
    have kf := kq.cell cf hbfg
    have kc := kq.cell cc hbcg
    have kx := kq.cell cx hbxg
    have ht2 : Gf.Tab ((w.setCell ⟨g, c, none⟩ (.slice (some ⟨gs r, 0, none⟩) n (cs r))).setCell ⟨g, r, none⟩ (.slice (some ⟨gs c, 0, none⟩) n (cs c))) b0 := kq.tab HT.out (fun e => h0 (by rw [e]; exact HG.out))
    simp only [if_neg hcr, if_pos] at k1 hrow hft
    have gsw : MatM.swapR m c r c = m r := by unfold MatM.swapR; rw [if_pos rfl]
    rw [gsw] at hrow
    clear gsw

    have HROW := Lib.hid hrow; have HFT := Lib.hid hft; have HT2 := Lib.hid ht2; have KQ := Lib.hid kq
    clear hrow hft ht2 kq
    go_wp2
    refine region_tail 6 (by kernel_rfl) (by kernel_rfl) ?_
    intro W hW
    have k1 : W.cell? ⟨g, c, none⟩ = some (.slice (some ⟨gs r, 0, none⟩) n (cs r)) := by rw [hW]; exact k1
    have kf : W.cell? ⟨bf, 0, none⟩ = some (.pointer (some ⟨b0, 0, none⟩)) := by rw [hW]; exact kf
    have kc : W.cell? ⟨bc, 0, none⟩ = some (.int .i64 (c : Nat)) := by rw [hW]; exact kc
    have kx : W.cell? ⟨bx, 0, none⟩ = some (.int .u8 (x.toNat : Nat)) := by rw [hW]; exact kx
    have HT2 : Hid (Gf.Tab W b0) := Lib.hid (by rw [hW]; exact ⟨HT2.out.pow, HT2.out.log⟩)
    have HROW : Hid (RowF W (gs r) n (m r)) := Lib.hid (by rw [hW]; exact HROW.out)
    have HM := Lib.hid (show Mtx W lo hi n n g (fun i => if i = r then gs c else if i = c then gs r else gs i) (fun i => if i = r then cs c else if i = c then cs r else cs i) (MatM.swapR m c r) by rw [hW]; exact HM.out.below ⟨rfl, rfl, rfl, Nat.le_refl _, fun _ _ => rfl⟩)
    have KQ : Hid (Keeps (fun i => i = g) w W) := Lib.hid (by rw [hW]; exact ⟨KQ.out.os, KQ.out.tape, KQ.out.output, KQ.out.size, KQ.out.block⟩)
    clear hW
    simp only [List.take_succ_cons, List.take_zero, List.drop_succ_cons, List.drop_zero]
    repeat still_step
    try refine wpStill_nil ?_
    all_goals
      go_wp2_with (go_at_call 37; refine (scale_any b0 (gs r) n (cs r) _ x _ HT2.out HROW.out (fun e => h0 (by rw [e]; exact HF.out r hr)) hn).mono ?_; rintro e w3 ⟨rfl, hr3, hg3⟩)
      try go_wp2
      go_end0
      have eg : (if c = r then gs c else if c = c then gs r else gs c) = gs r := by rw [if_neg hcr, if_pos rfl]
      have hm3 := HM.out.setRow hc (w' := w3) (u := fun j => GfM.mul x (m r j)) (by show W.grownBy w3 (some (if c = r then gs c else if c = c then gs r else gs c)); rw [eg]; exact hg3) (by show RowF w3 (if c = r then gs c else if c = c then gs r else gs c) n _; rw [eg]; exact hr3)
      exact ⟨rfl, _, _, hm3.congr (fun i j _ _ => by
        rw [MatM.pivot_at]; unfold MatM.setRow MatM.swapR
        by_cases e : i = c
        · rw [if_pos e, if_pos e]
        · rw [if_neg e, if_neg e, if_neg e]
          by_cases e2 : i = r
          · rw [if_pos e2, if_pos e2]
          · rw [if_neg e2, if_neg e2]), (KQ.out.mono fun k _ e => by rw [e]; exact HG.out).trans (Keeps.grow hg3 (HF.out r hr))⟩
set_option maxHeartbeats 1000000 in
theorem pivot_eq (b0 br bc bf bx lo hi n g c cp : Nat) (gs cs : Nat → Nat) (m : MatM.Mat) (x : UInt8) (w : World) (ht : Gf.Tab w b0) (h : Mtx w lo hi n n g gs cs m) (hc : c < n) (hn : n ≤ 1048576)
    (cr : w.cell? ⟨br, 0, none⟩ = some (.int .i64 (c : Nat))) (cc : w.cell? ⟨bc, 0, none⟩ = some (.int .i64 (c : Nat))) (cf : w.cell? ⟨bf, 0, none⟩ = some (.pointer (some ⟨b0, 0, none⟩))) (cx : w.cell? ⟨bx, 0, none⟩ = some (.int .u8 (x.toNat : Nat)))
    (h0 : ¬ Span lo hi b0) (nr : ¬ Span lo hi br) (nc : ¬ Span lo hi bc) (nf : ¬ Span lo hi bf) (nx : ¬ Span lo hi bx) :
    Calls Try.prog 36 #[.slice (some ⟨g, 0, none⟩) n cp, .pointer (some ⟨br, 0, none⟩), .pointer (some ⟨bc, 0, none⟩), .pointer (some ⟨bf, 0, none⟩), .pointer (some ⟨bx, 0, none⟩)] w
      fun e w' => e = .returned (.tuple #[]) ∧ ∃ gs' cs', Mtx w' lo hi n n g gs' cs' (MatM.pivot m c c x) ∧ Keeps (Span lo hi) w w' := by
  have e1 := (h.hd c hc).1
  have f1 := (h.hd c hc).2
  have hg := h.footg
  have hbrg : br ≠ g := fun e => nr (by rw [e]; exact hg)
  have hbcg : bc ≠ g := fun e => nc (by rw [e]; exact hg)
  have hbfg : bf ≠ g := fun e => nf (by rw [e]; exact hg)
  have hbxg : bx ≠ g := fun e => nx (by rw [e]; exact hg)
  have hfc := h.foot c hc
  have HS := Lib.hid h; have HF := Lib.hid hfc; have HG := Lib.hid hg; have HT := Lib.hid ht
  clear h hfc hg ht
  go_enter Try.func36, Try.ntmps36
  go_wp2
  go_region
  all_goals
    have HM := Lib.hid (HS.out.swap hc hc)
    have k1 := ((HS.out.swap hc hc).hd c hc).1
    have hrow := (HS.out.swap hc hc).row c hc
    have hft := (HS.out.swap hc hc).foot c hc
    have kq : Keeps (fun i => i = g) w ((w.setCell ⟨g, c, none⟩ (.slice (some ⟨gs c, 0, none⟩) n (cs c))).setCell ⟨g, c, none⟩ (.slice (some ⟨gs c, 0, none⟩) n (cs c))) := (Keeps.set (fun b => b = g) w ⟨g, c, none⟩ _ rfl).trans (Keeps.set (fun b => b = g) _ ⟨g, c, none⟩ _ rfl)
    have kf := kq.cell cf hbfg
    have kc := kq.cell cc hbcg
    have kx := kq.cell cx hbxg
    have ht2 : Gf.Tab ((w.setCell ⟨g, c, none⟩ (.slice (some ⟨gs c, 0, none⟩) n (cs c))).setCell ⟨g, c, none⟩ (.slice (some ⟨gs c, 0, none⟩) n (cs c))) b0 := kq.tab HT.out (fun e => h0 (by rw [e]; exact HG.out))
    simp only [if_pos] at k1 hrow hft
    have gsw : MatM.swapR m c c c = m c := by unfold MatM.swapR; rw [if_pos rfl]
    rw [gsw] at hrow
    clear gsw

    have HROW := Lib.hid hrow; have HFT := Lib.hid hft; have HT2 := Lib.hid ht2; have KQ := Lib.hid kq
    clear hrow hft ht2 kq
    go_wp2
    refine region_tail 6 (by kernel_rfl) (by kernel_rfl) ?_
    intro W hW
    have k1 : W.cell? ⟨g, c, none⟩ = some (.slice (some ⟨gs c, 0, none⟩) n (cs c)) := by rw [hW]; exact k1
    have kf : W.cell? ⟨bf, 0, none⟩ = some (.pointer (some ⟨b0, 0, none⟩)) := by rw [hW]; exact kf
    have kc : W.cell? ⟨bc, 0, none⟩ = some (.int .i64 (c : Nat)) := by rw [hW]; exact kc
    have kx : W.cell? ⟨bx, 0, none⟩ = some (.int .u8 (x.toNat : Nat)) := by rw [hW]; exact kx
    have HT2 : Hid (Gf.Tab W b0) := Lib.hid (by rw [hW]; exact ⟨HT2.out.pow, HT2.out.log⟩)
    have HROW : Hid (RowF W (gs c) n (m c)) := Lib.hid (by rw [hW]; exact HROW.out)
    have HM := Lib.hid (show Mtx W lo hi n n g (fun i => if i = c then gs c else if i = c then gs c else gs i) (fun i => if i = c then cs c else if i = c then cs c else cs i) (MatM.swapR m c c) by rw [hW]; exact HM.out.below ⟨rfl, rfl, rfl, Nat.le_refl _, fun _ _ => rfl⟩)
    have KQ : Hid (Keeps (fun i => i = g) w W) := Lib.hid (by rw [hW]; exact ⟨KQ.out.os, KQ.out.tape, KQ.out.output, KQ.out.size, KQ.out.block⟩)
    clear hW
    simp only [List.take_succ_cons, List.take_zero, List.drop_succ_cons, List.drop_zero]
    repeat still_step
    try refine wpStill_nil ?_
    all_goals
      go_wp2_with (go_at_call 37; refine (scale_any b0 (gs c) n (cs c) _ x _ HT2.out HROW.out (fun e => h0 (by rw [e]; exact HF.out)) hn).mono ?_; rintro e w3 ⟨rfl, hr3, hg3⟩)
      try go_wp2
      go_end0
      have eg : (if c = c then gs c else if c = c then gs c else gs c) = gs c := by rw [if_pos rfl]
      have hm3 := HM.out.setRow hc (w' := w3) (u := fun j => GfM.mul x (m c j)) (by show W.grownBy w3 (some (if c = c then gs c else if c = c then gs c else gs c)); rw [eg]; exact hg3) (by show RowF w3 (if c = c then gs c else if c = c then gs c else gs c) n _; rw [eg]; exact hr3)
      exact ⟨rfl, _, _, hm3.congr (fun i j _ _ => by
        rw [MatM.pivot_at]; unfold MatM.setRow MatM.swapR
        by_cases e : i = c
        · rw [if_pos e, if_pos e]
        · rw [if_neg e, if_neg e, if_neg e, if_neg e, if_neg e]), (KQ.out.mono fun k _ e => by rw [e]; exact HG.out).trans (Keeps.grow hg3 (HF.out))⟩
theorem pivot_any (b0 br bc bf bx lo hi n g c r cp : Nat) (gs cs : Nat → Nat) (m : MatM.Mat) (x : UInt8) (w : World) (ht : Gf.Tab w b0) (h : Mtx w lo hi n n g gs cs m) (hc : c < n) (hr : r < n) (hn : n ≤ 1048576)
    (cr : w.cell? ⟨br, 0, none⟩ = some (.int .i64 (r : Nat))) (cc : w.cell? ⟨bc, 0, none⟩ = some (.int .i64 (c : Nat))) (cf : w.cell? ⟨bf, 0, none⟩ = some (.pointer (some ⟨b0, 0, none⟩))) (cx : w.cell? ⟨bx, 0, none⟩ = some (.int .u8 (x.toNat : Nat)))
    (h0 : ¬ Span lo hi b0) (nr : ¬ Span lo hi br) (nc : ¬ Span lo hi bc) (nf : ¬ Span lo hi bf) (nx : ¬ Span lo hi bx) :
    Calls Try.prog 36 #[.slice (some ⟨g, 0, none⟩) n cp, .pointer (some ⟨br, 0, none⟩), .pointer (some ⟨bc, 0, none⟩), .pointer (some ⟨bf, 0, none⟩), .pointer (some ⟨bx, 0, none⟩)] w
      fun e w' => e = .returned (.tuple #[]) ∧ ∃ gs' cs', Mtx w' lo hi n n g gs' cs' (MatM.pivot m c r x) ∧ Keeps (Span lo hi) w w' := by
  by_cases hcr : c = r
  · subst hcr; exact pivot_eq b0 br bc bf bx lo hi n g c cp gs cs m x w ht h hc hn cr cc cf cx h0 nr nc nf nx
  · exact pivot_ne b0 br bc bf bx lo hi n g c r cp gs cs m x w ht h hc hr hcr hn cr cc cf cx h0 nr nc nf nx

/-- both halves: what a closure that is handed on does to each -/
def Halves (w : World) (bl br loL hiL loR hiR n gL gR cpL cpR : Nat) (L R : MatM.Mat) : Prop :=
  w.cell? ⟨bl, 0, none⟩ = some (.slice (some ⟨gL, 0, none⟩) n cpL) ∧ w.cell? ⟨br, 0, none⟩ = some (.slice (some ⟨gR, 0, none⟩) n cpR) ∧
  (∃ gs cs, Mtx w loL hiL n n gL gs cs L) ∧ (∃ gs cs, Mtx w loR hiR n n gR gs cs R)

theorem both_pivot (bl bR b0 br bc bf bx loL hiL loR hiR n gL gR cpL cpR c r : Nat) (L R : MatM.Mat) (x : UInt8) (w : World) (ht : Gf.Tab w b0) (h : Halves w bl bR loL hiL loR hiR n gL gR cpL cpR L R) (hc : c < n) (hr : r < n) (hn : n ≤ 1048576)
    (cr : w.cell? ⟨br, 0, none⟩ = some (.int .i64 (r : Nat))) (cc : w.cell? ⟨bc, 0, none⟩ = some (.int .i64 (c : Nat))) (cf : w.cell? ⟨bf, 0, none⟩ = some (.pointer (some ⟨b0, 0, none⟩))) (cx : w.cell? ⟨bx, 0, none⟩ = some (.int .u8 (x.toNat : Nat)))
    (hLR : hiL ≤ loR) (hs : ∀ k, k = b0 ∨ k = br ∨ k = bc ∨ k = bf ∨ k = bx ∨ k = bl ∨ k = bR → k < loL ∨ hiR ≤ k) (hsL : loL ≤ hiL) (hsR : loR ≤ hiR) :
    Calls Try.prog 34 #[.func (.func 36) #[] #[.pointer (some ⟨br, 0, none⟩), .pointer (some ⟨bc, 0, none⟩), .pointer (some ⟨bf, 0, none⟩), .pointer (some ⟨bx, 0, none⟩)], .pointer (some ⟨bl, 0, none⟩), .pointer (some ⟨bR, 0, none⟩)] w
      fun e w' => e = .returned (.tuple #[]) ∧ Halves w' bl bR loL hiL loR hiR n gL gR cpL cpR (MatM.pivot L c r x) (MatM.pivot R c r x) ∧ Keeps (Span loL hiR) w w' := by
  obtain ⟨eL, eR, ⟨gsL, csL, mL⟩, gsR, csR, mR⟩ := h
  have out : ∀ k, (k = b0 ∨ k = br ∨ k = bc ∨ k = bf ∨ k = bx ∨ k = bl ∨ k = bR) → ¬ Span loL hiL k ∧ ¬ Span loR hiR k := fun k hk => by
    have := hs k hk; unfold Span; omega
  have OUT := Lib.hid out; have HML := Lib.hid mL; have HMR := Lib.hid mR; have HT := Lib.hid ht
  clear hs out mL mR ht
  go_enter Try.func34, Try.ntmps34
  go_wp2_with fail
  refine (pivot_any b0 br bc bf bx loL hiL n gL c r cpL gsL csL L x w HT.out HML.out hc hr hn cr cc cf cx (OUT.out _ (by simp)).1 (OUT.out _ (by simp)).1 (OUT.out _ (by simp)).1 (OUT.out _ (by simp)).1 (OUT.out _ (by simp)).1).mono ?_
  rintro e w1 ⟨rfl, gsL', csL', mL', q1⟩
  have eL1 := q1.cell eL (OUT.out bl (by simp)).1
  have eR1 := q1.cell eR (OUT.out bR (by simp)).1
  have cr1 := q1.cell cr (OUT.out br (by simp)).1
  have cc1 := q1.cell cc (OUT.out bc (by simp)).1
  have cf1 := q1.cell cf (OUT.out bf (by simp)).1
  have cx1 := q1.cell cx (OUT.out bx (by simp)).1
  have ht1 := q1.tab HT.out (OUT.out b0 (by simp)).1
  have mR1 := HMR.out.keep q1 fun i h1 h2 => by unfold Span at h1 h2; omega
  have HML := Lib.hid mL'; have HMR := Lib.hid mR1; have HT := Lib.hid ht1; have HQ := Lib.hid q1
  clear mL' mR1 ht1 q1
  go_wp2_with fail
  refine (pivot_any b0 br bc bf bx loR hiR n gR c r cpR gsR csR R x w1 HT.out HMR.out hc hr hn cr1 cc1 cf1 cx1 (OUT.out _ (by simp)).2 (OUT.out _ (by simp)).2 (OUT.out _ (by simp)).2 (OUT.out _ (by simp)).2 (OUT.out _ (by simp)).2).mono ?_
  rintro e w2 ⟨rfl, gsR', csR', mR', q2⟩
  have eL2 := q2.cell eL1 (OUT.out bl (by simp)).2
  have eR2 := q2.cell eR1 (OUT.out bR (by simp)).2
  have mL2 := HML.out.keep q2 fun i h1 h2 => by unfold Span at h1 h2; omega
  have hq : Keeps (Span loL hiR) w w2 := (HQ.out.mono fun k _ h => by unfold Span at h ⊢; omega).trans (q2.mono fun k _ h => by unfold Span at h ⊢; omega)
  have HL := Lib.hid mL2; have HR := Lib.hid mR'; have HQ := Lib.hid hq
  clear mL2 mR' hq q2
  go_wp2
  go_end0
  exact ⟨rfl, ⟨eL2, eR2, ⟨_, _, HL.out⟩, _, _, HR.out⟩, HQ.out⟩

theorem elim_half (bf bc bk b0 lo hi n g c cp cl : Nat) (gs cs : Nat → Nat) (m : MatM.Mat) (C : Option Addr) (l : List UInt8) (w : World) (ht : Gf.Tab w b0) (hm : Mtx w lo hi n n g gs cs m) (hC : BytesAt w C l) (hl : l.length = n) (hc : c < n) (hn : n ≤ 1048576)
    (cf : w.cell? ⟨bf, 0, none⟩ = some (.pointer (some ⟨b0, 0, none⟩))) (cc : w.cell? ⟨bc, 0, none⟩ = some (.int .i64 (c : Nat))) (ck : w.cell? ⟨bk, 0, none⟩ = some (.slice C l.length cl))
    (h0 : ¬ Span lo hi b0) (hCo : ∀ a, C = some a → ¬ Span lo hi a.block) :
    Calls Try.prog 39 #[.slice (some ⟨g, 0, none⟩) n cp, .pointer (some ⟨bf, 0, none⟩), .pointer (some ⟨bc, 0, none⟩), .pointer (some ⟨bk, 0, none⟩)] w
      fun e w' => e = .returned (.tuple #[]) ∧ Mtx w' lo hi n n g gs cs (MatM.elim (PolyM.co l) c n m) ∧ Keeps (Span lo hi) w w' := by
  have HM := Lib.hid hm; have HL := Lib.hid hl; have HT := Lib.hid ht; have HCC := Lib.hid hC; have HO := Lib.hid hCo
  clear hm hl ht hC hCo
  go_enter Try.func39, Try.ntmps39
  go_wp2_with fail
  refine (takeOut_any b0 lo hi n g c cp cl gs cs m C l w HT.out HM.out HCC.out HL.out hc hn h0 HO.out).mono ?_
  rintro e w1 ⟨rfl, hm1, q1⟩
  have HM := Lib.hid hm1; have HQ := Lib.hid q1
  clear hm1 q1
  go_wp2
  go_end0
  exact ⟨rfl, HM.out, HQ.out⟩

theorem both_elim (bl bR b0 bc bf bk loL hiL loR hiR n gL gR cpL cpR c cl : Nat) (L R : MatM.Mat) (C : Option Addr) (l : List UInt8) (w : World) (ht : Gf.Tab w b0) (h : Halves w bl bR loL hiL loR hiR n gL gR cpL cpR L R) (hc : c < n) (hn : n ≤ 1048576)
    (cf : w.cell? ⟨bf, 0, none⟩ = some (.pointer (some ⟨b0, 0, none⟩))) (cc : w.cell? ⟨bc, 0, none⟩ = some (.int .i64 (c : Nat))) (ck : w.cell? ⟨bk, 0, none⟩ = some (.slice C l.length cl)) (hl : l.length = n) (hC : BytesAt w C l)
    (hLR : hiL ≤ loR) (hs : ∀ k, k = b0 ∨ k = bc ∨ k = bf ∨ k = bk ∨ k = bl ∨ k = bR ∨ (∃ a, C = some a ∧ a.block = k) → k < loL ∨ hiR ≤ k) (hsL : loL ≤ hiL) (hsR : loR ≤ hiR) :
    Calls Try.prog 34 #[.func (.func 39) #[] #[.pointer (some ⟨bf, 0, none⟩), .pointer (some ⟨bc, 0, none⟩), .pointer (some ⟨bk, 0, none⟩)], .pointer (some ⟨bl, 0, none⟩), .pointer (some ⟨bR, 0, none⟩)] w
      fun e w' => e = .returned (.tuple #[]) ∧ Halves w' bl bR loL hiL loR hiR n gL gR cpL cpR (MatM.elim (PolyM.co l) c n L) (MatM.elim (PolyM.co l) c n R) ∧ Keeps (Span loL hiR) w w' := by
  obtain ⟨eL, eR, ⟨gsL, csL, mL⟩, gsR, csR, mR⟩ := h
  have out : ∀ k, (k = b0 ∨ k = bc ∨ k = bf ∨ k = bk ∨ k = bl ∨ k = bR ∨ (∃ a, C = some a ∧ a.block = k)) → ¬ Span loL hiL k ∧ ¬ Span loR hiR k := fun k hk => by
    have := hs k hk; unfold Span; omega
  have OUT := Lib.hid out; have HML := Lib.hid mL; have HMR := Lib.hid mR; have HT := Lib.hid ht; have HCC := Lib.hid hC; have HLL := Lib.hid hl
  clear hs out mL mR ht hl hC
  go_enter Try.func34, Try.ntmps34
  go_wp2_with fail
  refine (elim_half bf bc bk b0 loL hiL n gL c cpL cl gsL csL L C l w HT.out HML.out HCC.out HLL.out hc hn cf cc ck (OUT.out _ (by simp)).1 (fun a e => (OUT.out a.block (by simp [e])).1)).mono ?_
  rintro e w1 ⟨rfl, mL', q1⟩
  have eL1 := q1.cell eL (OUT.out bl (by simp)).1
  have eR1 := q1.cell eR (OUT.out bR (by simp)).1
  have cc1 := q1.cell cc (OUT.out bc (by simp)).1
  have cf1 := q1.cell cf (OUT.out bf (by simp)).1
  have ck1 := q1.cell ck (OUT.out bk (by simp)).1
  have ht1 := q1.tab HT.out (OUT.out b0 (by simp)).1
  have hC1 := q1.bytes HCC.out (fun a e => (OUT.out a.block (by simp [e])).1)
  have mR1 := HMR.out.keep q1 fun i h1 h2 => by unfold Span at h1 h2; omega
  have HML := Lib.hid mL'; have HMR := Lib.hid mR1; have HT := Lib.hid ht1; have HQ := Lib.hid q1; have HCC := Lib.hid hC1
  clear mL' mR1 ht1 q1 hC1
  go_wp2_with fail
  refine (elim_half bf bc bk b0 loR hiR n gR c cpR cl gsR csR R C l w1 HT.out HMR.out HCC.out HLL.out hc hn cf1 cc1 ck1 (OUT.out _ (by simp)).2 (fun a e => (OUT.out a.block (by simp [e])).2)).mono ?_
  rintro e w2 ⟨rfl, mR', q2⟩
  have eL2 := q2.cell eL1 (OUT.out bl (by simp)).2
  have eR2 := q2.cell eR1 (OUT.out bR (by simp)).2
  have mL2 := HML.out.keep q2 fun i h1 h2 => by unfold Span at h1 h2; omega
  have hq : Keeps (Span loL hiR) w w2 := (HQ.out.mono fun k _ h => by unfold Span at h ⊢; omega).trans (q2.mono fun k _ h => by unfold Span at h ⊢; omega)
  have HL := Lib.hid mL2; have HR := Lib.hid mR'; have HQ := Lib.hid hq
  clear mL2 mR' hq q2
  go_wp2
  go_end0
  exact ⟨rfl, ⟨eL2, eR2, ⟨_, _, HL.out⟩, _, _, HR.out⟩, HQ.out⟩
end Go.Proofs.Ytmkadcnommoihaa.Matrix
