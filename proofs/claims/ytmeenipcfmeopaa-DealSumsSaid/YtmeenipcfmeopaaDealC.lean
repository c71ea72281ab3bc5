/- package deal: gather -/
import Derived.Test.YtmeenipcfmeopaaDealA
set_option maxRecDepth 100000
namespace Go.Proofs.Ytmeenipcfmeopaa.Deal
open Go.RowKit PlanM StripeM DealM Plan Stripe

def SP.pts (B : Nat) (l : List UInt8) : Drawn.SP := ⟨fun v w => Own w B v l, fun _ _ _ h hb => Own.below h hb⟩
def SP.nils (B n : Nat) : Drawn.SP := ⟨fun v w => ∃ g, B ≤ g ∧ v = .slice (some ⟨g, 0, none⟩) n n ∧ w.heap[g]? = some (.cells (nilRows n).toArray 24 (0, 0)), fun _ _ _ h hb => by
  obtain ⟨g, h1, h2, h3⟩ := h; exact ⟨g, h1, h2, (hb.block g (Array.getElem?_eq_some_iff.1 h3).1).trans h3⟩⟩
def SP.pair (B : Nat) (l : List UInt8) (n : Nat) : Drawn.SP := ⟨fun v w => ∃ X d gr, v = .agg #[.slice X l.length d, .slice (some ⟨gr, 0, none⟩) n n] ∧ Own w B (.slice X l.length d) l ∧ B ≤ gr ∧ w.heap[gr]? = some (.cells (nilRows n).toArray 24 (0, 0)), fun _ _ _ h hb => by
  obtain ⟨X, d, gr, h1, h2, h3, h4⟩ := h; exact ⟨X, d, gr, h1, h2.below hb, h3, (hb.block gr (Array.getElem?_eq_some_iff.1 h4).1).trans h4⟩⟩
def SP.gat (B : Nat) (l : List UInt8) (n : Nat) : Drawn.SP := ⟨fun v w => ∃ G X d gr, B ≤ G ∧ v = .pointer (some ⟨G, 0, none⟩) ∧ w.heap[G]? = some (.cells #[.slice X l.length d, .slice (some ⟨gr, 0, none⟩) n n] 65 (0, 0)) ∧ Own w B (.slice X l.length d) l ∧ B ≤ gr ∧ w.heap[gr]? = some (.cells (nilRows n).toArray 24 (0, 0)), fun _ _ _ h hb => by
  obtain ⟨G, X, d, gr, h1, h2, h3, h4, h5, h6⟩ := h; exact ⟨G, X, d, gr, h1, h2, (hb.block G (Array.getElem?_eq_some_iff.1 h3).1).trans h3, h4.below hb, h5, (hb.block gr (Array.getElem?_eq_some_iff.1 h6).1).trans h6⟩⟩

theorem make_room (cap : Nat) (hn : cap ≤ 1048576) (w : World) :
    (Instr.makeSlice 24 (.int .i64 0) (.int .i64 (cap : Int))).run Try.prog w = .ok (.slice (some ⟨w.heap.size, 0, none⟩) 0 cap) (w.alloc (.cells (cells (List.replicate cap 0)) 5)) := by
  obtain ⟨i0, hi, hz, hs, hb⟩ := u8_info'
  have hr := run_make (P := Try.prog) w 24 5 i0 _ Try.underlying24 hi hz .i64 .i64 0 cap (by omega) (by omega) (by rw [hb]; omega) (by omega)
  simp only [Int.toNat_natCast] at hr
  have : madeCells (Value.int .u8 0).cells cap = cells (List.replicate cap 0) := by
    apply Array.ext'
    rw [show (Value.int .u8 0).cells = #[.int .u8 0] from rfl, toList_madeCells_one]
    simp [cells, vals]
  rw [hr, hs, Nat.mul_one, this]
  rfl

/-- the rows, k of them made -/
def hdsTo (R cap n k : Nat) : List Value := (List.range n).map fun i => if i < k then head R cap (fun _ => []) i else .slice none 0 0
theorem hdsTo_len (R cap n k : Nat) : (hdsTo R cap n k).length = n := by unfold hdsTo; simp
theorem hdsTo_zero (R cap n : Nat) : hdsTo R cap n 0 = nilRows n := by
  unfold hdsTo nilRows
  refine List.ext_getElem (by simp) fun i _ _ => by simp
theorem hdsTo_all (R cap n : Nat) : hdsTo R cap n n = heads R cap n (fun _ => []) := by
  unfold hdsTo heads
  exact List.map_congr_left fun i hi => if_pos (List.mem_range.mp hi)
theorem hdsTo_set (R cap n k : Nat) : (hdsTo R cap n k).set k (.slice (some ⟨R + k, 0, none⟩) 0 cap) = hdsTo R cap n (k + 1) := by
  refine List.ext_getElem (by rw [List.length_set, hdsTo_len, hdsTo_len]) fun i h1 h2 => ?_
  rw [List.getElem_set]
  unfold hdsTo head
  simp only [List.getElem_map, List.getElem_range, List.length_nil]
  by_cases e : k = i
  · subst e; rw [if_pos rfl, if_pos (by omega)]
  · rw [if_neg e]
    by_cases e2 : i < k
    · rw [if_pos e2, if_pos (by omega)]
    · rw [if_neg e2, if_neg (by omega)]
structure GTo (W : World) (Rb R cap n k : Nat) : Prop where
  hds : W.heap[Rb]? = some (.cells (hdsTo R cap n k).toArray 24 (0, 0))
  row : ∀ i, i < k → Row W (R + i) (List.replicate cap 0)
  size : W.heap.size = R + k
theorem GTo.slot {W : World} {Rb R cap n k : Nat} (h : GTo W Rb R cap n k) (hk : k < n) : (∃ v, W.cell? ⟨Rb, k, none⟩ = some v) ∧ W.frozen? ⟨Rb, k, none⟩ = false := by
  refine ⟨⟨(hdsTo R cap n k)[k]'(by rw [hdsTo_len]; exact hk), ?_⟩, by simp [World.frozen?, h.hds]⟩
  rw [cell_of_row W Rb k _ 24 (0, 0) h.hds, List.getElem?_toArray, List.getElem?_eq_getElem]
theorem GTo.step {W W' : World} {Rb R cap n k : Nat} (h : GTo W Rb R cap n k) (hRb : Rb < R) (he : W'.heap = ((W.setCell ⟨Rb, k, none⟩ (.slice (some ⟨R + k, 0, none⟩) 0 cap)).alloc (.cells (cells (List.replicate cap 0)) 5)).heap) : GTo W' Rb R cap n (k + 1) := by
  have hz := h.size
  have hz2 : (W.setCell ⟨Rb, k, none⟩ (.slice (some ⟨R + k, 0, none⟩) 0 cap)).heap.size = R + k := by simp [World.setCell]; exact hz
  have e : (hdsTo R cap n k).toArray.setIfInBounds k (.slice (some ⟨R + k, 0, none⟩) 0 cap) = (hdsTo R cap n (k + 1)).toArray := by rw [List.setIfInBounds_toArray, hdsTo_set]
  have e1 := h.hds
  refine ⟨?_, fun i hi => ?_, ?_⟩
  · rw [he]
    refine (Below.heap_alloc _ _ _ (by omega)).trans ?_
    simp [World.setCell, Array.getElem?_modify, e1, e]
  · have hne : R + i ≠ Rb := by omega
    unfold Row
    rw [he]
    by_cases e3 : i = k
    · subst e3
      have := heap_alloc_new (W.setCell ⟨Rb, i, none⟩ (.slice (some ⟨R + i, 0, none⟩) 0 cap)) (.cells (cells (List.replicate cap 0)) 5)
      rw [hz2] at this
      exact this
    · exact (Below.heap_alloc _ _ _ (by omega)).trans ((Below.heap_setCell _ ⟨Rb, k, none⟩ _ _ hne).trans (h.row i (by omega)))
  · rw [he]; simp [World.setCell]; omega

set_option maxHeartbeats 2000000 in
theorem gather_any (A : Option Addr) (who : List Int) (cw cap : Nat) (w : World) (h : IntsAt w A who) (hl : who.length ≤ 1048576) (hc : who.length ≤ cw) (hc2 : cw ≤ maxLen) (hi : ∀ x ∈ who, In64 x) (hcap : cap ≤ 1048576) :
    Calls Try.prog 31 #[.slice A who.length cw, .int .i64 (cap : Nat)] w fun e w' => ∃ G Rb R B c, e = .returned (.pointer (some ⟨G, 0, none⟩)) ∧ Gat w' G Rb R cap B c (points who) (fun _ => []) ∧ GA G Rb R B ∧ Below w.heap.size w w' ∧ w.heap.size ≤ G ∧ w.heap.size ≤ Rb ∧ w.heap.size ≤ R := by
  have H := Lib.hid h; have HI := Lib.hid hi; have HMK := Lib.hid (fun W => make_slices who.length hl W)
  clear h hi
  go_enter Try.func31, Try.ntmps31
  go_wp2_with fail
  --FLOW--
  refine Drawn.wp_region_flowL 8 [Drawn.SP.is (.slice A who.length cw), SP.pts w.heap.size (points who), Drawn.SP.is (.slice A who.length cw), Drawn.SP.is (.int .i64 (who.length : Nat)), SP.nils w.heap.size who.length, SP.pair w.heap.size (points who) who.length, SP.gat w.heap.size (points who) who.length, SP.gat w.heap.size (points who) who.length] (by kernel_rfl) (by kernel_rfl) ?_ ?_
  · intro i hi a w1 hb hev hdep
    rcases (show i = 0 ∨ i = 1 ∨ i = 2 ∨ i = 3 ∨ i = 4 ∨ i = 5 ∨ i = 6 ∨ i = 7 by omega) with rfl | rfl | rfl | rfl | rfl | rfl | rfl | rfl
    · have e0 : a.tmps[0]?.getD undef = .slice A who.length cw := hev 0 rfl
      refine Drawn.wpOp_flow 7 rfl rfl rfl ?_
      clear hev hdep hb
      go_simp
      exact ⟨_, rfl, rfl, Below.refl _ _⟩
    · have d0 : a.tmps[7]?.getD undef = .slice A who.length cw := hdep 0 rfl
      refine Drawn.wpOp_flow 8 rfl rfl rfl ?_
      clear hev hdep
      go_simp
      refine (Plan.points_any A who cw w1 (H.out.below hb) hl hc hc2 HI.out).mono ?_
      rintro e w' ⟨v, rfl, hv, hb'⟩
      exact ⟨_, rfl, Own.lower hv hb.size, hb'⟩
    · have e0 : a.tmps[0]?.getD undef = .slice A who.length cw := hev 0 rfl
      refine Drawn.wpOp_flow 9 rfl rfl rfl ?_
      clear hev hdep hb
      go_simp
      exact ⟨_, rfl, rfl, Below.refl _ _⟩
    · have d2 : a.tmps[9]?.getD undef = .slice A who.length cw := hdep 2 rfl
      refine Drawn.wpOp_flow 10 rfl rfl rfl ?_
      clear hev hdep hb
      go_simp
      exact ⟨_, rfl, rfl, Below.refl _ _⟩
    · have d3 : a.tmps[10]?.getD undef = .int .i64 (who.length : Nat) := hdep 3 rfl
      refine Drawn.wpOp_flow 11 rfl rfl rfl ?_
      clear hev hdep
      have hz := hb.size
      have hmk := HMK.out
      clear hb
      go_simp
      exact ⟨_, rfl, ⟨w1.heap.size, hz, rfl, heap_alloc_new _ _⟩, balloc _ _⟩
    · obtain d1 : (SP.pts w.heap.size (points who)).p (a.tmps[8]?.getD undef) w1 := hdep 1 rfl
      obtain ⟨gr, hgr, d4, hnr⟩ : (SP.nils w.heap.size who.length).p (a.tmps[11]?.getD undef) w1 := hdep 4 rfl
      refine Drawn.wpOp_flow 12 rfl rfl rfl ?_
      clear hev hdep
      clear hb
      obtain ⟨X, xd, hX, _, _, _⟩ := Own.bytes d1
      go_simp
      exact ⟨_, rfl, ⟨X, xd, gr, rfl, by rw [← hX]; exact d1, hgr, hnr⟩, Below.refl _ _⟩
    · obtain ⟨X, xd, gr, d5, p1, p2, p3⟩ : (SP.pair w.heap.size (points who) who.length).p (a.tmps[12]?.getD undef) w1 := hdep 5 rfl
      refine Drawn.wpOp_flow 13 rfl rfl rfl ?_
      clear hev hdep
      have hz := hb.size
      clear hb
      have q1 := Own.below p1 (balloc w1 (.cells #[.slice X (points who).length xd, .slice (some ⟨gr, 0, none⟩) who.length who.length] 65))
      have q2 := (balloc w1 (.cells #[.slice X (points who).length xd, .slice (some ⟨gr, 0, none⟩) who.length who.length] 65)).block gr (Array.getElem?_eq_some_iff.1 p3).1
      clear p1
      go_simp
      exact ⟨_, rfl, ⟨w1.heap.size, X, xd, gr, hz, rfl, heap_alloc_new _ _, q1, p2, q2.trans p3⟩, balloc _ _⟩
    · have d6 := hdep 6 rfl
      refine Drawn.wpOp_flow 5 rfl rfl rfl ?_
      clear hev hdep hb
      go_simp
      exact ⟨_, rfl, d6, Below.refl _ _⟩
  · intro xq w1 hb hxq
    have vq0 : xq 0 = .slice A who.length cw := hxq 0 (by omega)
    have vq2 : xq 2 = .slice A who.length cw := hxq 2 (by omega)
    have vq3 : xq 3 = .int .i64 (who.length : Nat) := hxq 3 (by omega)
    obtain ⟨G, X, xd, gr, hgG, vq7, hG, p1, p2, p3⟩ : (SP.gat w.heap.size (points who) who.length).p (xq 7) w1 := hxq 7 (by omega)
    show Exit.then _ _ Exit.normal (Drawn.acts _ [(5, some (xq 7)), (13, some (xq 6)), (12, some (xq 5)), (11, some (xq 4)), (10, some (xq 3)), (9, some (xq 2)), (8, some (xq 1)), (7, some (xq 0))]) _
    rw [vq0, vq2, vq3, vq7]
    clear hxq vq0 vq2 vq3 vq7
    generalize xq 1 = yq1
    generalize xq 4 = yq4
    generalize xq 5 = yq5
    generalize xq 6 = yq6
    clear xq
    simp only [Drawn.acts]
    go_simp
  --END--
    have c0 : w1.cell? ⟨G, 0, none⟩ = some (.slice X (points who).length xd) := by rw [cell_of_row w1 G 0 _ 65 (0, 0) hG]; rfl
    have c1 : w1.cell? ⟨G, 1, none⟩ = some (.slice (some ⟨gr, 0, none⟩) who.length who.length) := by rw [cell_of_row w1 G 1 _ 65 (0, 0) hG]; rfl
    have hGr : G ≠ gr := fun e => by rw [e, p3] at hG; injection hG with hG; injection hG with _ hG; exact absurd hG (by decide)
    have hgl := (Array.getElem?_eq_some_iff.1 p3).1
    have hXa : ∀ a, X = some a → a.block < w1.heap.size ∧ a.block ≠ gr := fun a e => by
      subst e
      rcases p1.2 with ⟨h1, _⟩ | ⟨g, cp, cur, h1, _, h3, _⟩
      · injection h1 with h1; cases h1
      · injection h1 with h1; injection h1 with h1; subst h1
        refine ⟨(Array.getElem?_eq_some_iff.1 h3).1, fun e => ?_⟩
        simp only at e
        rw [e, p3] at h3; injection h3 with h3; injection h3 with _ h3; exact absurd h3 (by decide)
    have HXA := Lib.hid hXa
    clear hXa
    have hGl := cell_lt c0
    obtain ⟨n, hn⟩ : ∃ n, n = who.length := ⟨_, rfl⟩
    have hg0 : GTo w1 gr w1.heap.size cap n 0 := ⟨by rw [hdsTo_zero, hn]; exact p3, fun i hi => by omega, rfl⟩
    have HB := Lib.hid hb; have P1 := Lib.hid p1; have HN := Lib.hid hn
    rw [← hn] at c1 hl
    clear hb p1 p3 hn
    go_wp2_with fail
    generalize hR : w1.heap.size = R at *
    have HG0 := Lib.hid hg0; have HR := Lib.hid hR
    have hmk := fun W => make_room cap hcap W
    have HMR := Lib.hid hmk
    clear hg0 hG hmk hR
    go_loopw [19] (fun i wr => ∃ k : Nat, k ≤ n ∧ i = .int .i64 k ∧ GTo wr gr R cap n k ∧ Keeps (fun b => b = gr) w1 wr)
      (fun i _ => n - (intOf i).toNat)
    case atStart => exact ⟨0, Nat.zero_le _, rfl, HG0.out, Keeps.refl _ _⟩
    case round =>
      obtain ⟨k, hk, rfl, hg, hq⟩ := hrel
      rename World => wr
      by_cases hlt : k < n
      · obtain ⟨⟨u, cu⟩, fu⟩ := hg.slot hlt
        have e1 := hq.cell c1 hGr
        have hz := hg.size
        have HG := Lib.hid hg; have HQ := Lib.hid hq
        have hmk := HMR.out
        have hgz : gr < wr.heap.size := cell_lt cu
        have hgz2 : ¬ gr = wr.heap.size := by omega
        have hGz : G < wr.heap.size := cell_lt e1
        have hGz2 : ¬ G = wr.heap.size := by omega
        have hGr2 : ¬ gr = G := fun e => hGr e.symm
        have HZ := Lib.hid hz
        clear c0 c1 hg hq hz
        go_wp2_with fail
        go_region_held3 (fun w' => w'.cell? ⟨G, 1, none⟩ = some (.slice (some ⟨gr, 0, none⟩) n n)) (first | (exact e1) | go_keep) (fail)
        go_wp2_with fail
        go_roundw
        case rel =>
          refine ⟨k + 1, by omega, by go_num, HG.out.step hgl (by rw [← HZ.out]; rfl), ?_⟩
          exact HQ.out.trans ((Keeps.set (fun b => b = gr) wr ⟨gr, k, none⟩ _ rfl).trans ((Keeps.of_below _ (balloc _ _)).trans (Keeps.draw _ _ 1)))
        case measure => simp [intOf] <;> omega
      · obtain rfl : k = n := by omega
        have HG := Lib.hid hg; have HQ := Lib.hid hq
        clear hg
        go_wp2_with fail
        go_ret
        have hpl : (points who).length = k := by rw [points_len, HN.out]
        have p1 := P1.out.keep HQ.out (fun i e e2 => by
          subst e2
          rcases X with _ | a
          · simp [Value.ownBlock] at e
          · simp only [Value.ownBlock] at e
            exact (HXA.out a rfl).2 (by injection e))
        obtain ⟨_, _, hv, _, _, hX⟩ := p1.bytes
        injection hv with hv1 _ hv2
        subst hv1; subst hv2
        refine ⟨G, gr, R, X, xd, rfl, ⟨?_, ?_, hX, ?_, fun i hi => ?_⟩, ⟨hGl, hgl, hGr, ?_⟩, below_keeps HB.out HQ.out (fun i e => by subst e; exact p2) HB.out.size, hgG, p2, ?_⟩
        · exact HQ.out.cell c0 hGr
        · rw [hpl]; exact HQ.out.cell c1 hGr
        · rw [hpl, ← hdsTo_all]; exact HG.out.hds
        · rw [pad_nil]; exact HG.out.row i (by rw [← hpl]; exact hi)
        · exact HXA.out
        · rw [← HR.out]; exact HB.out.size
end Go.Proofs.Ytmeenipcfmeopaa.Deal
