/- package disk: Wipe, Copy -/
import Derived.Test.YteiemkaeeghhhaaDiskE
import Derived.Test.YteiemkaeeghhhaaDrawn
set_option maxRecDepth 100000
namespace Go.Proofs.Yteiemkaeeghhhaa.Disk
open Go.RowKit DiskM CrcM

theorem own_clears {g c n : Nat} : ∀ (j k : Nat) (b : List UInt8) (w : World), b.length = n → k + j = n → Own w 0 (.slice (some ⟨g, 0, none⟩) n c) b →
    Own (w.setCells g k (List.replicate j (.int .u8 0))) 0 (.slice (some ⟨g, 0, none⟩) n c) (b.take k ++ SecM.noughts j) ∧ Keeps (fun k => k = g) w (w.setCells g k (List.replicate j (.int .u8 0)))
  | 0, k, b, w, hb, hk, h => by
    refine ⟨?_, .refl _ _⟩
    have : b.take k ++ SecM.noughts 0 = b := by rw [List.take_of_length_le (by omega)]; exact List.append_nil _
    rw [this]; exact h
  | j + 1, k, b, w, hb, hk, h => by
    obtain ⟨g', c', hv, _, hgl, hcell, hfr, hset⟩ := h.place (i := k) (by omega)
    injection hv with hv _ _
    injection hv with hv; injection hv with hv
    subst hv
    have h1 := hset 0 0
    have e0 : (w.drewN 0).setCell ⟨g, k, none⟩ (.int .u8 ((0 : UInt8).toNat : Nat)) = w.setCell ⟨g, k, none⟩ (.int .u8 0) := rfl
    rw [e0] at h1
    have hl1 : (b.set k 0).length = n := by rw [List.length_set, hb]
    obtain ⟨h2, h3⟩ := own_clears j (k + 1) (b.set k 0) (w.setCell ⟨g, k, none⟩ (.int .u8 0)) hl1 (by omega) h1
    have es : w.setCells g k (List.replicate (j + 1) (.int .u8 0)) = (w.setCell ⟨g, k, none⟩ (.int .u8 0)).setCells g (k + 1) (List.replicate j (.int .u8 0)) := rfl
    rw [es]
    refine ⟨?_, (Keeps.set (fun k => k = g) _ _ _ rfl).trans h3⟩
    have e : (b.set k 0).take (k + 1) ++ SecM.noughts j = b.take k ++ SecM.noughts (j + 1) := by
      have hkb : k < (b.set k 0).length := by omega
      rw [List.take_succ_eq_append_getElem hkb, List.getElem_set_self, List.take_set_of_le (Nat.le_refl _), List.append_assoc]
      rfl
    rw [← e]; exact h2
theorem u8_zero (w : World) : (zeroValue 5).run Try.prog w = .ok (.int .u8 0) w := by kernel_rfl
theorem wipe_any (p g c : Nat) (m : Dk) (w : World) (h : DAt w p g c m) (h0 : 0 < m.b.length) :
    Calls Try.prog 16 #[.pointer (some ⟨p, 0, none⟩)] w fun e w' => e = .returned (.tuple #[]) ∧ DAt w' p g c m.wipe ∧ Keeps (fun k => k = g) w w' := by
  obtain ⟨h1, h2⟩ := own_clears (g := g) (c := c) m.b.length 0 m.b w rfl (by omega) h.own
  have hd : DAt (w.setCells g 0 (List.replicate m.b.length (.int .u8 0))) p g c m.wipe := h.turned h2 (by rw [SecM.noughts_len]) (by have := h1; rwa [List.take_zero, List.nil_append] at this)
  have hcell : ∀ j, j < m.b.length → w.cell? ⟨g, j, none⟩ = some (.int .u8 (m.b.getD j 0).toNat) ∧ w.frozen? ⟨g, j, none⟩ = false := fun j hj => by
    obtain ⟨g', c', hv, _, hgl, hc, hf, _⟩ := h.own.place (i := j) hj
    injection hv with hv _ _
    injection hv with hv; injection hv with hv
    subst hv
    rw [← List.getElem_eq_getD (h := hj)]
    exact ⟨hc, hf⟩
  have hcl := fun ty => Lib.run_clear_slice (P := Try.prog) w 30 5 ty (.int .u8 0) Try.underlying30 u8_zero rfl rfl g 0 m.b.length c h0 (fun j hj => by rw [Nat.zero_add, (hcell j hj).1]; rfl) (fun j hj => by rw [Nat.zero_add]; exact (hcell j hj).2)
  have c0 := h.c0
  have HD := Lib.hid hd; have HK := Lib.hid h2
  generalize m.b.length = n at *
  generalize m.wipe = m2 at *
  clear h h1 h2 hd hcell
  go_enter Try.func16, Try.ntmps16
  go_wp2
  go_end0
  exact ⟨rfl, HD.out, HK.out⟩

/-! what Copy makes, in whatever order -/
def SPown (B : Nat) (l : List UInt8) : Drawn.SP := ⟨fun v w => ∃ g c, v = .slice (some ⟨g, 0, none⟩) l.length c ∧ Own w B (.slice (some ⟨g, 0, none⟩) l.length c) l, fun _ _ _ h hb => by
  obtain ⟨g, c, h1, h2⟩ := h; exact ⟨g, c, h1, h2.below hb⟩⟩
def SPagg (B : Nat) (l : List UInt8) (z : Int) (d : Bool) : Drawn.SP := ⟨fun v w => ∃ g c, v = .agg #[.slice (some ⟨g, 0, none⟩) l.length c, .int .i64 z, .bool d] ∧ Own w B (.slice (some ⟨g, 0, none⟩) l.length c) l, fun _ _ _ h hb => by
  obtain ⟨g, c, h1, h2⟩ := h; exact ⟨g, c, h1, h2.below hb⟩⟩
theorem own_form {w : World} {B : Nat} {u : Value} {l : List UInt8} (h : Own w B u l) (h0 : 0 < l.length) : ∃ g c, u = .slice (some ⟨g, 0, none⟩) l.length c := by
  rcases h.2 with ⟨_, hn⟩ | ⟨g, cap, cur, rfl, _⟩
  · omega
  · exact ⟨g, cap, rfl⟩
def SPdisk (B : Nat) (m : Dk) : Drawn.SP := ⟨fun v w => ∃ p g c, v = .pointer (some ⟨p, 0, none⟩) ∧ DAt w p g c m ∧ B ≤ p ∧ B ≤ g, fun _ _ _ h hb => by
  obtain ⟨p, g, c, h1, h2, h3⟩ := h; exact ⟨p, g, c, h1, h2.below hb, h3⟩⟩
theorem boxed {w : World} {B : Nat} {u : Value} {l : List UInt8} (h : Own w B u l) (h0 : 0 < l.length) (z : Int) (d : Bool) (t : TypeId) :
    ∃ g c, DAt (w.alloc (.cells #[u, .int .i64 z, .bool d] t)) w.heap.size g c ⟨l, z, d⟩ ∧ B ≤ g ∧ u = .slice (some ⟨g, 0, none⟩) l.length c := by
  have ha := h.alloc (.cells #[u, .int .i64 z, .bool d] t)
  rcases h.2 with ⟨_, hn⟩ | ⟨g, cap, cur, rfl, hbg, hg, hnc⟩
  · omega
  · have hgl : g < w.heap.size := (h.lt g rfl).2
    refine ⟨g, cap, ⟨by simp, by simp, by simp, by simp, by simp, by simp, ⟨ha.1, ?_⟩, by omega⟩, hbg, rfl⟩
    rcases ha.2 with ⟨e, _⟩ | ⟨g', cap', cur', e, _, q⟩
    · cases e
    · exact .inr ⟨g', cap', cur', e, Nat.zero_le _, q⟩
set_option maxHeartbeats 1000000 in
theorem copy_any (p g c : Nat) (m : Dk) (w0 : World) (h : DAt w0 p g c m) (hl : m.b.length ≤ 32768) (h0 : 0 < m.b.length) :
    Calls Try.prog 23 #[.pointer (some ⟨p, 0, none⟩)] w0 fun e w' => ∃ p2 g2 c2, e = .returned (.pointer (some ⟨p2, 0, none⟩)) ∧ DAt w' p2 g2 c2 m ∧ w0.heap.size ≤ p2 ∧ w0.heap.size ≤ g2 ∧ Below w0.heap.size w0 w' := by
  obtain ⟨l, z, d⟩ := m
  have HD := Lib.hid h
  have hC : Hid (∀ W, Below w0.heap.size w0 W → Calls Try.prog 34 #[.slice (some ⟨g, 0, none⟩) l.length c] W fun e w' => ∃ v, e = .returned v ∧ Own w' w0.heap.size v l ∧ Below W.heap.size W w') := Lib.hid (fun W hW => (clone_own (some ⟨g, 0, none⟩) l c W (h.below hW).bytes (by show l.length ≤ _; simp only at hl; omega)).mono (by
    rintro e w' ⟨v, rfl, ho, hb⟩
    refine ⟨v, rfl, ⟨ho.1, ?_⟩, hb⟩
    rcases ho.2 with q | ⟨g', cap', cur', e, hg, q⟩
    · exact .inl q
    · exact .inr ⟨g', cap', cur', e, Nat.le_trans hW.size hg, q⟩))
  obtain ⟨n, hn⟩ : ∃ n, l.length = n := ⟨_, rfl⟩
  have HN := Lib.hid hn
  have HL : Hid (0 < l.length) := Lib.hid h0
  have HC : Hid (∀ W, Below w0.heap.size w0 W → Calls Try.prog 34 #[.slice (some ⟨g, 0, none⟩) n c] W fun e w' => ∃ v, e = .returned v ∧ Own w' w0.heap.size v l ∧ Below W.heap.size W w') := Lib.hid (by rw [← HN.out]; exact hC.out)
  clear h hl h0 hn hC
  go_enter Try.func23, Try.ntmps23
  go_wp2_with fail
  refine Drawn.wp_region_flowL 16 [Drawn.SP.is (.pointer (some ⟨p, 0, none⟩)), Drawn.SP.is (.pointer (some ⟨p, 0, none⟩)), Drawn.SP.is (.pointer (some ⟨p, 0, none⟩)), Drawn.SP.is (.slice (some ⟨g, 0, none⟩) n c), SPown w0.heap.size l, Drawn.SP.is (.pointer (some ⟨p, 0, none⟩)), Drawn.SP.is (.pointer (some ⟨p, 0, none⟩)), Drawn.SP.is (.pointer (some ⟨p, 1, none⟩)), Drawn.SP.is (.int .i64 z), Drawn.SP.is (.pointer (some ⟨p, 0, none⟩)), Drawn.SP.is (.pointer (some ⟨p, 0, none⟩)), Drawn.SP.is (.pointer (some ⟨p, 2, none⟩)), Drawn.SP.is (.bool d), SPagg w0.heap.size l z d, SPdisk w0.heap.size ⟨l, z, d⟩, SPdisk w0.heap.size ⟨l, z, d⟩] (by kernel_rfl) (by kernel_rfl) ?_ ?_
  · intro i hi a w1 hb hev hdep
    rcases (show i = 0 ∨ i = 1 ∨ i = 2 ∨ i = 3 ∨ i = 4 ∨ i = 5 ∨ i = 6 ∨ i = 7 ∨ i = 8 ∨ i = 9 ∨ i = 10 ∨ i = 11 ∨ i = 12 ∨ i = 13 ∨ i = 14 ∨ i = 15 by omega) with rfl | rfl | rfl | rfl | rfl | rfl | rfl | rfl | rfl | rfl | rfl | rfl | rfl | rfl | rfl | rfl
    · have e0 : a.tmps[0]?.getD undef = .pointer (some ⟨p, 0, none⟩) := hev 0 rfl
      refine Drawn.wpOp_flow 5 rfl rfl rfl ?_
      clear hev hdep hb
      go_simp
      exact ⟨_, rfl, rfl, Below.refl _ _⟩
    · have d0 : a.tmps[5]?.getD undef = .pointer (some ⟨p, 0, none⟩) := hdep 0 rfl
      refine Drawn.wpOp_flow 6 rfl rfl rfl ?_
      clear hev hdep hb
      go_simp
      exact ⟨_, rfl, rfl, Below.refl _ _⟩
    · have d1 : a.tmps[6]?.getD undef = .pointer (some ⟨p, 0, none⟩) := hdep 1 rfl
      refine Drawn.wpOp_flow 7 rfl rfl rfl ?_
      clear hev hdep hb
      go_simp
      exact ⟨_, rfl, rfl, Below.refl _ _⟩
    · have d2 : a.tmps[7]?.getD undef = .pointer (some ⟨p, 0, none⟩) := hdep 2 rfl
      refine Drawn.wpOp_flow 8 rfl rfl rfl ?_
      have c0 := (HD.out.below hb).c0; have c1 := (HD.out.below hb).c1; have c2 := (HD.out.below hb).c2; simp only at c0 c1 c2; rw [HN.out] at c0
      clear hev hdep hb
      go_simp
      exact ⟨_, rfl, rfl, Below.refl _ _⟩
    · have d3 : a.tmps[8]?.getD undef = .slice (some ⟨g, 0, none⟩) n c := hdep 3 rfl
      refine Drawn.wpOp_flow 9 rfl rfl rfl ?_
      clear hev hdep
      have C := HC.out w1 hb
      clear hb
      go_simp
      refine C.mono ?_
      rintro e w' ⟨v, rfl, ho, hb'⟩
      obtain ⟨g3, c3, rfl⟩ := own_form ho HL.out
      exact ⟨_, rfl, ⟨g3, c3, rfl, ho⟩, hb'⟩
    · have e0 : a.tmps[0]?.getD undef = .pointer (some ⟨p, 0, none⟩) := hev 0 rfl
      refine Drawn.wpOp_flow 10 rfl rfl rfl ?_
      clear hev hdep hb
      go_simp
      exact ⟨_, rfl, rfl, Below.refl _ _⟩
    · have d5 : a.tmps[10]?.getD undef = .pointer (some ⟨p, 0, none⟩) := hdep 5 rfl
      refine Drawn.wpOp_flow 11 rfl rfl rfl ?_
      clear hev hdep hb
      go_simp
      exact ⟨_, rfl, rfl, Below.refl _ _⟩
    · have d6 : a.tmps[11]?.getD undef = .pointer (some ⟨p, 0, none⟩) := hdep 6 rfl
      refine Drawn.wpOp_flow 12 rfl rfl rfl ?_
      clear hev hdep hb
      go_simp
      exact ⟨_, rfl, rfl, Below.refl _ _⟩
    · have d7 : a.tmps[12]?.getD undef = .pointer (some ⟨p, 1, none⟩) := hdep 7 rfl
      refine Drawn.wpOp_flow 13 rfl rfl rfl ?_
      have c0 := (HD.out.below hb).c0; have c1 := (HD.out.below hb).c1; have c2 := (HD.out.below hb).c2; simp only at c0 c1 c2; rw [HN.out] at c0
      clear hev hdep hb
      go_simp
      exact ⟨_, rfl, rfl, Below.refl _ _⟩
    · have e0 : a.tmps[0]?.getD undef = .pointer (some ⟨p, 0, none⟩) := hev 0 rfl
      refine Drawn.wpOp_flow 14 rfl rfl rfl ?_
      clear hev hdep hb
      go_simp
      exact ⟨_, rfl, rfl, Below.refl _ _⟩
    · have d9 : a.tmps[14]?.getD undef = .pointer (some ⟨p, 0, none⟩) := hdep 9 rfl
      refine Drawn.wpOp_flow 15 rfl rfl rfl ?_
      clear hev hdep hb
      go_simp
      exact ⟨_, rfl, rfl, Below.refl _ _⟩
    · have d10 : a.tmps[15]?.getD undef = .pointer (some ⟨p, 0, none⟩) := hdep 10 rfl
      refine Drawn.wpOp_flow 16 rfl rfl rfl ?_
      clear hev hdep hb
      go_simp
      exact ⟨_, rfl, rfl, Below.refl _ _⟩
    · have d11 : a.tmps[16]?.getD undef = .pointer (some ⟨p, 2, none⟩) := hdep 11 rfl
      refine Drawn.wpOp_flow 17 rfl rfl rfl ?_
      have c0 := (HD.out.below hb).c0; have c1 := (HD.out.below hb).c1; have c2 := (HD.out.below hb).c2; simp only at c0 c1 c2; rw [HN.out] at c0
      clear hev hdep hb
      go_simp
      exact ⟨_, rfl, rfl, Below.refl _ _⟩
    · obtain ⟨d4g, d4c, d4, d4o⟩ : (SPown w0.heap.size l).p (a.tmps[9]?.getD undef) w1 := hdep 4 rfl
      have d8 : a.tmps[13]?.getD undef = .int .i64 z := hdep 8 rfl
      have d12 : a.tmps[17]?.getD undef = .bool d := hdep 12 rfl
      refine Drawn.wpOp_flow 18 rfl rfl rfl ?_
      clear hev hdep
      clear hb
      go_simp
      exact ⟨_, rfl, ⟨_, _, rfl, d4o⟩, Below.refl _ _⟩
    · obtain ⟨d13g, d13c, d13, d13o⟩ : (SPagg w0.heap.size l z d).p (a.tmps[18]?.getD undef) w1 := hdep 13 rfl
      refine Drawn.wpOp_flow 19 rfl rfl rfl ?_
      clear hev hdep
      obtain ⟨g2, c2, q1, q2, q3⟩ := boxed d13o HL.out z d 47
      have hs := hb.size
      clear hb q3
      go_simp
      exact ⟨_, rfl, ⟨_, g2, c2, rfl, q1, hs, q2⟩, balloc _ _⟩
    · have d14 := hdep 14 rfl
      refine Drawn.wpOp_flow 2 rfl rfl rfl ?_
      clear hev hdep hb
      go_simp
      exact ⟨_, rfl, d14, Below.refl _ _⟩
  · intro xq w1 hb hxq
    have vq0 : xq 0 = .pointer (some ⟨p, 0, none⟩) := hxq 0 (by omega)
    have vq1 : xq 1 = .pointer (some ⟨p, 0, none⟩) := hxq 1 (by omega)
    have vq2 : xq 2 = .pointer (some ⟨p, 0, none⟩) := hxq 2 (by omega)
    have vq3 : xq 3 = .slice (some ⟨g, 0, none⟩) n c := hxq 3 (by omega)
    have vq5 : xq 5 = .pointer (some ⟨p, 0, none⟩) := hxq 5 (by omega)
    have vq6 : xq 6 = .pointer (some ⟨p, 0, none⟩) := hxq 6 (by omega)
    have vq7 : xq 7 = .pointer (some ⟨p, 1, none⟩) := hxq 7 (by omega)
    have vq8 : xq 8 = .int .i64 z := hxq 8 (by omega)
    have vq9 : xq 9 = .pointer (some ⟨p, 0, none⟩) := hxq 9 (by omega)
    have vq10 : xq 10 = .pointer (some ⟨p, 0, none⟩) := hxq 10 (by omega)
    have vq11 : xq 11 = .pointer (some ⟨p, 2, none⟩) := hxq 11 (by omega)
    have vq12 : xq 12 = .bool d := hxq 12 (by omega)
    obtain ⟨vq15p, vq15g, vq15c, vq15, vq15a, vq15b, vq15f⟩ : (SPdisk w0.heap.size ⟨l, z, d⟩).p (xq 15) w1 := hxq 15 (by omega)
    show Exit.then _ _ Exit.normal (Drawn.acts _ [(2, some (xq 15)), (19, some (xq 14)), (18, some (xq 13)), (17, some (xq 12)), (16, some (xq 11)), (15, some (xq 10)), (14, some (xq 9)), (13, some (xq 8)), (12, some (xq 7)), (11, some (xq 6)), (10, some (xq 5)), (9, some (xq 4)), (8, some (xq 3)), (7, some (xq 2)), (6, some (xq 1)), (5, some (xq 0))]) _
    rw [vq0, vq1, vq2, vq3, vq5, vq6, vq7, vq8, vq9, vq10, vq11, vq12, vq15]
    clear hxq vq0 vq1 vq2 vq3 vq5 vq6 vq7 vq8 vq9 vq10 vq11 vq12 vq15
    generalize xq 4 = yq4
    generalize xq 13 = yq13
    generalize xq 14 = yq14
    clear xq
    simp only [Drawn.acts]
    go_simp
    go_at_K
    go_wp2
    go_ret
    exact ⟨_, _, _, rfl, vq15a, vq15b, vq15f, hb⟩
end Go.Proofs.Yteiemkaeeghhhaa.Disk
