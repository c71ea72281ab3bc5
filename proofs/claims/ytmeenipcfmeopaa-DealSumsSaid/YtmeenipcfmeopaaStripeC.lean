/- package stripe: Cut -/
import Derived.Test.YtmeenipcfmeopaaStripeB
set_option maxRecDepth 100000
namespace Go.Proofs.Ytmeenipcfmeopaa.Stripe
open Go.RowKit Go.Shelf PlanM StripeM Plan PolyM
attribute [local go_sem] Oper.semAt_some

set_option maxHeartbeats 4000000 in
theorem cut_all (p : P) (A : Option Addr) (b : List UInt8) (c : Nat) (w : World) (hp : p.In) (hM : p.May) (h : BytesAt w A b) (hc : b.length ≤ c) (hc2 : c ≤ maxLen) (hb : b.length ≤ 240) :
    Calls Try.prog 30 #[p.val, .slice A b.length c] w (RetRowsE w (cut p b) 0) := by
  obtain ⟨L, hL⟩ : ∃ L : Nat, p.L = (L : Int) := ⟨p.L.toNat, by unfold P.May at hM; omega⟩
  have hL2 : 1 ≤ L ∧ L ≤ 256 := by unfold P.May at hM; omega
  have hT := fun V => Plan.stripes_any p (b.length : Int) V hp (by unfold In64; omega)
  have hR := fun V => Plan.right_any p V hp
  have hN2 : p.stripes b.length ≤ 240 := stripes_le _ _ (by omega)
  rw [show p.stripesA b.length = ((p.stripes b.length : Nat) : Int) from by unfold P.stripesA; rw [P.right_yes hM]; rfl] at hT
  rw [P.right_yes hM] at hR
  have hI := fun g1 g2 W2 (hs : Six W2 g1 p) hb' a o hA => parts_stops 12 g1 g2 p A b.length c a o L (p.stripes b.length) (by omega) hp hM hL rfl hA hb hc hc2 W2 hs hb'
  have hend : ∀ k, k < p.stripes b.length → k * L < b.length := fun k hk => by
    by_cases e : b.length = 0
    · rw [e] at hk; unfold P.stripes at hk; rw [if_pos (by omega)] at hk; omega
    · rcases Nat.lt_or_ge (k * L) b.length with h | h
      · exact h
      · exfalso
        unfold P.stripes at hk
        rw [if_neg (by omega), hL] at hk
        have := stripes_end (L := (L : Int)) (size := (b.length : Int)) (n := (k : Int)) (by omega) (by rw [← Int.natCast_mul]; omega)
        omega
  have hcut : cut p b = cutTo L b (p.stripes b.length) := by unfold cut; rw [hL, Int.toNat_natCast]
  rw [hcut]
  have HS := Lib.hid (Six.new w p)
  have HP := Lib.hid (fun V => parts_in 12 p A b.length c V)
  obtain ⟨n, hn⟩ : ∃ n, n = b.length := ⟨_, rfl⟩
  obtain ⟨N, hN⟩ : ∃ N, N = p.stripes b.length := ⟨_, rfl⟩
  rw [← hN] at hT hI hN2 hend ⊢
  rw [← hn] at hT hI hc hb HP hend ⊢
  have HEND := Lib.hid hend
  clear hend
  have hmk := fun W => make_slices N (by omega) W
  have HMK := Lib.hid hmk
  have H := Lib.hid h; have HN := Lib.hid hN; have Hn := Lib.hid hn; have HI := Lib.hid hI
  clear hmk h hN hn hI hM hcut hp
  obtain ⟨pN, pT, pL, pW, pS, pR⟩ := p
  simp only at hL
  subst hL
  unfold P.val at hT hR HP ⊢
  simp only at HP
  have HT := Lib.hid hT; have HR := Lib.hid hR
  clear hT hR
  unfold maxLen at hc2
  have hb0 := balloc w (.cells #[.int .i64 pN, .int .i64 pT, .int .i64 (L : Int), .int .i64 pW, .int .i64 pS, .int .i64 pR] 23)
  have s0 := HS.out
  refine (callsIn_wide (n := 13)).1 ?_
  refine callsIn_of_wp_marks Try.func30 rfl trivial ?_ rfl
  simp only [Try.ntmps30, List.size_toArray, List.length_cons, List.length_nil, Nat.reduceAdd, Nat.reduceSub, Array.replicate_succ, Array.replicate_zero, List.push_toArray, List.append_toArray, List.nil_append, List.cons_append]
  gi_wp2_with fail
  have c0 := s0.c0; have c1 := s0.c1; have c2 := s0.c2; have c3 := s0.c3; have c4 := s0.c4; have c5 := s0.c5
  generalize w.alloc (.cells #[.int .i64 pN, .int .i64 pT, .int .i64 (L : Int), .int .i64 pW, .int .i64 pS, .int .i64 pR] 23) = w0 at *
  gi_wp2_with fail
  refine ⟨trivial, ?_⟩
  refine (callsIn_wide.2 (HR.out _)).mono ?_
  rintro e w1 ⟨rfl, hb1⟩
  have s1 := s0.below hb1
  clear c0 c1 c2 c3 c4 c5
  have c0 := s1.c0; have c1 := s1.c1; have c2 := s1.c2; have c3 := s1.c3; have c4 := s1.c4; have c5 := s1.c5
  gi_wp2_with fail
  refine ⟨trivial, ?_⟩
  refine (callsIn_wide.2 (HT.out _)).mono ?_
  rintro e w2 ⟨rfl, hb2⟩
  have s2 := s1.below hb2
  clear c0 c1 c2 c3 c4 c5
  have hmk := HMK.out
  have c0 := s2.c0; have c1 := s2.c1; have c2 := s2.c2; have c3 := s2.c3; have c4 := s2.c4; have c5 := s2.c5
  have hzz : w.heap.size < w2.heap.size := cell_lt c0
  gi_wp2_with fail
  refine ⟨trivial, ?_⟩
  refine (HP.out _).mono ?_
  rintro e w' ⟨rfl, rfl⟩
  gi_wp2_with fail
  clear c0 c1 c2 c3 c4 c5 hmk
  obtain ⟨a, o, hA⟩ : ∃ a o, 0 < n → A = some ⟨a, o, none⟩ := by
    by_cases e : 0 < n
    · obtain ⟨a, o, hA, _⟩ := H.out 0 (by rw [← Hn.out]; exact e)
      exact ⟨a, o, fun _ => hA⟩
    · exact ⟨0, 0, fun h => absurd h e⟩
  have HAA := Lib.hid hA
  clear hA
  have HB2 : Below w.heap.size w w2 := bstep hb0 (bstep hb1 hb2)
  have f1 := ((rowsTo_below (rowsTo_below (rowsTo_below (rowsTo_new w2 N L b) (balloc _ (.cells #[.slice (some ⟨w2.heap.size, 0, none⟩) N N] 29))) (balloc _ (.cells #[.int .i64 pN, .int .i64 pT, .int .i64 (L : Int), .int .i64 pW, .int .i64 pS, .int .i64 pR] 23))) (balloc _ (.cells #[.slice A n c] 24))))
  have f2 := ((Boxed.new (w2.alloc (.cells (nilRows N).toArray 24)) 29 (.slice (some ⟨w2.heap.size, 0, none⟩) N N)).alloc (.cells #[.int .i64 pN, .int .i64 pT, .int .i64 (L : Int), .int .i64 pW, .int .i64 pS, .int .i64 pR] 23)).alloc (.cells #[.slice A n c] 24)
  have f3 := (Six.new ((w2.alloc (.cells (nilRows N).toArray 24)).alloc (.cells #[.slice (some ⟨w2.heap.size, 0, none⟩) N N] 29)) ⟨pN, pT, (L : Int), pW, pS, pR⟩).below (balloc _ (.cells #[.slice A n c] 24))
  have f4 := (Boxed.new (((w2.alloc (.cells (nilRows N).toArray 24)).alloc (.cells #[.slice (some ⟨w2.heap.size, 0, none⟩) N N] 29)).alloc (.cells #[.int .i64 pN, .int .i64 pT, .int .i64 (L : Int), .int .i64 pW, .int .i64 pS, .int .i64 pR] 23)) 24 (.slice A n c))
  have f6 : Below w2.heap.size w2 ((((w2.alloc (.cells (nilRows N).toArray 24)).alloc (.cells #[.slice (some ⟨w2.heap.size, 0, none⟩) N N] 29)).alloc (.cells #[.int .i64 pN, .int .i64 pT, .int .i64 (L : Int), .int .i64 pW, .int .i64 pS, .int .i64 pR] 23)).alloc (.cells #[.slice A n c] 24)) :=
    bstep (bstep (bstep (balloc _ _) (balloc _ _)) (balloc _ _)) (balloc _ _)
  have f7 : ((((w2.alloc (.cells (nilRows N).toArray 24)).alloc (.cells #[.slice (some ⟨w2.heap.size, 0, none⟩) N N] 29)).alloc (.cells #[.int .i64 pN, .int .i64 pT, .int .i64 (L : Int), .int .i64 pW, .int .i64 pS, .int .i64 pR] 23)).alloc (.cells #[.slice A n c] 24)).heap.size = w2.heap.size + 4 := by simp
  have f5 := s2.below f6
  simp only [World.size_alloc] at f2 f3 f4
  generalize (((w2.alloc (.cells (nilRows N).toArray 24)).alloc (.cells #[.slice (some ⟨w2.heap.size, 0, none⟩) N N] 29)).alloc (.cells #[.int .i64 pN, .int .i64 pT, .int .i64 (L : Int), .int .i64 pW, .int .i64 pS, .int .i64 pR] 23)).alloc (.cells #[.slice A n c] 24) = W0 at *
  have HB0 : Below w.heap.size w W0 := bstep HB2 f6
  clear s0 s1 s2
  generalize w2.heap.size = g at *
  refine wpIn_rangeFunc_ownG rfl (by omega) (gf := 59) (lb := #[.pointer (some ⟨g + 1 + 1, 0, none⟩), .pointer (some ⟨g + 1 + 1 + 1, 0, none⟩)]) rfl trivial (enters_of Try.func59 (by kernel_rfl) rfl)
    (HI.out _ _ W0 f3 f4.cell a o HAA.out) (fun h k => ⟨k.1.trans h.1, k.2.trans h.2⟩) (fun W l o o' h1 h2 h3 h4 => ⟨World.putObj_heap_other (by omega), World.putObj_heap_other (by omega)⟩) (Below.refl _ _) (fun _ => rfl)
    (fun pre W => RowsTo g N L b pre W ∧ W0.grownBy W (some g))
    (fun c pre W => False)
    (OwnFrom.and (Own.from (rowsTo_own g N L b) _) (ownFrom_grown W0 g))
    (fun c _ _ _ _ h _ _ => h)
    ⟨f1, grow_refl _ _⟩
    (fun x => { tmps := #[.agg #[.int .i64 pN, .int .i64 pT, .int .i64 (L : Int), .int .i64 pW, .int .i64 pS, .int .i64 pR], .slice A n c, .pointer (some ⟨w.heap.size, 0, none⟩), undef, .slice none 0 0, .int .i64 0, .pointer (some ⟨g + 1, 0, none⟩), .int .i64 (x.1 : Nat), part a o n c L x.1,
      .agg #[.int .i64 pN, .int .i64 pT, .int .i64 (L : Int), .int .i64 pW, .int .i64 pS, .int .i64 pR], .bool true, .bool false, .slice A n c, .int .i64 n, .bool (decide (240 < (n : Int))), .agg #[.int .i64 pN, .int .i64 pT, .int .i64 (L : Int), .int .i64 pW, .int .i64 pS, .int .i64 pR], .slice A n c, .int .i64 n, .int .i64 N, .slice (some ⟨g, 0, none⟩) N N,
      .agg #[.int .i64 pN, .int .i64 pT, .int .i64 (L : Int), .int .i64 pW, .int .i64 pS, .int .i64 pR], .slice A n c, .func (.func 59) #[] #[.pointer (some ⟨g + 1 + 1, 0, none⟩), .pointer (some ⟨g + 1 + 1 + 1, 0, none⟩)], .int .i64 (x.1 : Nat), part a o n c L x.1, undef, undef, undef, undef, undef, undef, undef, undef, undef, undef, undef, undef, undef], defers := [] }) ?assign ?body ?done ?stop
  case assign =>
    intro l x W K hK
    gi_wp2
    exact hK
  case body =>
    rintro lp pre x W ⟨hr, hg⟩ hlt
    have cH := grow_cell hg f2.cell (by omega)
    have cL := grow_cell hg f5.c2 (by omega)
    obtain ⟨⟨u, cu⟩, fu⟩ := rowsTo_slot hr x
    have hgs := hg.size
    have hgW : g < W.heap.size := by omega
    have hgW2 : g + 1 < W.heap.size := by omega
    have hgW3 : w.heap.size < W.heap.size := by omega
    have hgW4 : ¬ g = W.heap.size := by omega
    have hmk := fun W => make_u8 L (by omega) W
    obtain ⟨k, hk⟩ := x
    have hkb := HEND.out k hk
    have HR := Lib.hid hr
    have HG := Lib.hid hg
    have hAA := HAA.out (by omega)
    clear hr hg
    simp only at cu fu
    have hszs : (W.setCell ⟨g, k, none⟩ (.slice (some ⟨W.heap.size, 0, none⟩) L L)).heap.size = W.heap.size := by simp [World.setCell]
    have r1 : Row (((W.setCell ⟨g, k, none⟩ (.slice (some ⟨W.heap.size, 0, none⟩) L L)).alloc (.cells (cells (List.replicate L 0)) 5)).drew) W.heap.size (List.replicate L 0) := by
      have := Row.new (W.setCell ⟨g, k, none⟩ (.slice (some ⟨W.heap.size, 0, none⟩) L L)) (List.replicate L 0)
      rw [hszs] at this
      exact this.drew
    have r3 : W.grownBy (((W.setCell ⟨g, k, none⟩ (.slice (some ⟨W.heap.size, 0, none⟩) L L)).alloc (.cells (cells (List.replicate L 0)) 5)).drew) (some g) :=
      grow_trans (grow_set W ⟨g, k, none⟩ _) (grow_trans (grow_mono (World.grownBy_alloc _ _ _)) (grow_draw _ 1 _))
    have r4 : ∀ rs : List Value, W.heap[g]? = some (.cells rs.toArray 24 (0, 0)) → (((W.setCell ⟨g, k, none⟩ (.slice (some ⟨W.heap.size, 0, none⟩) L L)).alloc (.cells (cells (List.replicate L 0)) 5)).drew).heap[g]? = some (.cells (rs.set k (.slice (some ⟨W.heap.size, 0, none⟩) L L)).toArray 24 (0, 0)) := fun rs h => by
      have e : (rs.toArray).setIfInBounds k (.slice (some ⟨W.heap.size, 0, none⟩) L L) = (rs.set k (.slice (some ⟨W.heap.size, 0, none⟩) L L)).toArray := List.setIfInBounds_toArray _ _ _
      refine (Below.heap_alloc _ _ _ (by rw [hszs]; exact hgW)).trans ?_
      simp [World.setCell, Array.getElem?_modify, h, e]
    obtain ⟨S, hS⟩ : ∃ S, S = (b.drop (k * L)).take (min (k * L + L) n - k * L) := ⟨_, rfl⟩
    have hSl : S.length = min (k * L + L) n - k * L := by rw [hS, List.length_take, List.length_drop, ← Hn.out]; omega
    have r2 : BytesAt (((W.setCell ⟨g, k, none⟩ (.slice (some ⟨W.heap.size, 0, none⟩) L L)).alloc (.cells (cells (List.replicate L 0)) 5)).drew) (some ⟨a, o + k * L, none⟩) S := by
      have h1 := H.out.below (below_grow HB0 (grow_trans HG.out r3) (by omega) HB0.size)
      rw [hAA] at h1
      rw [hS]
      exact (h1.drop (k * L)).take _
    have hfit : 0 + min S.length L ≤ (List.replicate L (0 : UInt8)).length := by rw [List.length_replicate]; omega
    have hrow : splice (List.replicate L 0) 0 (S.take L) = row L b k := by rw [hS, Hn.out]; exact row_splice L b k
    have R1 := Lib.hid r1; have R2 := Lib.hid r2; have R3 := Lib.hid r3; have R4 := Lib.hid r4; have HS2 := Lib.hid hSl; have HF := Lib.hid hfit; have HROW := Lib.hid hrow
    clear r1 r2 r3 r4 hSl hfit hrow hS hszs hAA
    gi_wp2_with fail
    gi_region
    all_goals (
      gi_wp2_with (refine wpListIn_copy_u8 rfl (.tmp 34) (.tmp 35) rfl (some ⟨W.heap.size, 0, none⟩) L L (some ⟨a, o + k * L, none⟩) S (min (k * L + L) n - k * L) (c - k * L) rfl rfl HS2.out W.heap.size 0 (List.replicate L 0) R1.out (fun _ => rfl) R2.out HF.out ?_; intro w3 hr3 hg3)
      have hgg := grow_new R3.out hg3 (Nat.le_refl _)
      refine ⟨(KeepsOthers.of_grownBy hgg (fun j o e ho => by cases e; obtain ⟨rs, _, q2, _⟩ := HR.out; rw [q2] at ho; cases ho; rfl)).from _, ⟨hgg.block _ (by omega) (by simp; omega), hgg.block _ (by omega) (by simp; omega)⟩, ?_, grow_trans HG.out hgg⟩
      exact rowsTo_put HR.out ⟨k, hk⟩ (Nat.le_refl _) (fun rs h => (hg3.block g (Nat.lt_of_lt_of_le hgW R3.out.size) (by simp; omega)).trans (R4.out rs h)) hgg (by rw [← HROW.out]; exact hr3))
  case done =>
    rintro D ys W hD rfl ⟨hr, hg⟩ hK
    have cH := grow_cell hg f2.cell (by omega)
    have hr2 := (rowsTo_own g N L b).putObj (.deferred none) hr hK rfl
    have hg2 := (ownFrom_grown W0 g (β := Unit)).putObj (s := ()) (.deferred none) hg hD hK rfl
    have hrows := rowsTo_rows hr2 (by omega)
    have hb := below_grow HB0 hg2 (by omega) HB0.size
    have HROWS := Lib.hid hrows; have HB := Lib.hid hb
    clear hrows hb hr hg hr2 hg2
    gi_wp2
    refine ⟨by simp, .inl ⟨_, _, rfl, run_takeDeferred hK, ?_⟩⟩
    refine ⟨.tuple #[.slice (some ⟨g, 0, none⟩) N N, .int .i64 0], ?_, some ⟨g, 0, none⟩, N, ?_, ?_, ?_, HROWS.out, HB.out, New.at w (by omega)⟩
    · simp [results, Try.f30, go_sem]
    · rw [cutTo_len]
    · rw [cutTo_len]; exact Nat.le_refl _
    · unfold maxLen; omega
  case stop => 
    rintro D c pre W hD hpre h
    exact h.elim
end Go.Proofs.Ytmeenipcfmeopaa.Stripe
