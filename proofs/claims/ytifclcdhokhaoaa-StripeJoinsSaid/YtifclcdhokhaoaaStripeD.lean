/- package stripe: Join -/
import Derived.Test.YtifclcdhokhaoaaStripeB
import Derived.Test.YtifclcdhokhaoaaStripeA
set_option maxRecDepth 100000
namespace Go.Proofs.Ytifclcdhokhaoaa.Stripe
open Go.RowKit Go.Shelf PlanM StripeM Plan PolyM
attribute [local go_sem] Oper.semAt_some

/-- the bytes of some stripes, the others 0 -/
def joinTo (L : Nat) (l : List (List UInt8)) (n N : Nat) (pre : List (Fin N)) : List UInt8 := tab n fun i => if pre.any (fun x => x.1 == i / L) then byteAt L l i else 0
theorem joinTo_len (L : Nat) (l : List (List UInt8)) (n N : Nat) (pre : List (Fin N)) : (joinTo L l n N pre).length = n := tab_len _ _
theorem joinTo_get (L : Nat) (l : List (List UInt8)) (n N : Nat) (pre : List (Fin N)) (i : Nat) (h : i < (joinTo L l n N pre).length) : (joinTo L l n N pre)[i] = if pre.any (fun x => x.1 == i / L) then byteAt L l i else 0 :=
  tab_get n (fun i => if pre.any (fun x => x.1 == i / L) then byteAt L l i else 0) i h
theorem joinTo_nil (L : Nat) (l : List (List UInt8)) (n N : Nat) : joinTo L l n N [] = List.replicate n 0 := by unfold joinTo; rw [← tab_rep]; exact tab_congr fun i _ => rfl
theorem joinTo_all (L : Nat) (l : List (List UInt8)) (n N : Nat) (hL : 1 ≤ L) (hn : n ≤ N * L) : joinTo L l n N (ks N) = join L l n := by
  unfold joinTo join
  refine tab_congr fun i hi => ?_
  have hk : i / L < N := by rw [Nat.div_lt_iff_lt_mul (by omega)]; omega
  rw [if_pos]
  rw [List.any_eq_true]
  exact ⟨⟨i / L, hk⟩, ks_mem _ _, by simp⟩
theorem joinTo_put (L : Nat) (l : List (List UInt8)) (n N : Nat) (pre : List (Fin N)) (k : Nat) (hk : k < N) (hL : 1 ≤ L) (hkl : k < l.length) (hl : l[k].length = L) (hkn : k * L < n) :
    splice (joinTo L l n N pre) (0 + k * L) (l[k].take (min (k * L + L) n - k * L)) = joinTo L l n N (pre ++ [⟨k, hk⟩]) := by
  obtain ⟨x, hx⟩ : ∃ x, x = k * L := ⟨_, rfl⟩
  have hdiv : ∀ i, i / L = k ↔ (x ≤ i ∧ i < x + L) := fun i => by
    rw [Nat.div_eq_iff (by omega), hx]
    constructor <;> intro h <;> omega
  have hmod : ∀ i, i / L = k → i % L = i - x := fun i h => by
    have := Nat.div_add_mod i L
    rw [h, Nat.mul_comm, ← hx] at this
    omega
  rw [← hx] at hkn ⊢
  rw [Nat.zero_add]
  unfold splice
  refine List.ext_getElem ?_ fun i h1 h2 => ?_
  · simp [joinTo_len]; omega
  · have hin : i < n := by rw [joinTo_len] at h2; exact h2
    have hr : (joinTo L l n N (pre ++ [⟨k, hk⟩]))[i] = if (pre.any fun x => x.1 == i / L) || (k == i / L) then byteAt L l i else 0 := by
      rw [joinTo_get, List.any_append]; simp
    have ho : ∀ h, (joinTo L l n N pre)[i]'h = if pre.any fun x => x.1 == i / L then byteAt L l i else 0 := fun h => joinTo_get _ _ _ _ _ _ h
    rw [hr]
    have hT : ((joinTo L l n N pre).take x).length = x := by rw [List.length_take, joinTo_len]; omega
    have hM : (l[k].take (min (x + L) n - x)).length = min (x + L) n - x := by rw [List.length_take, hl]; omega
    by_cases c1 : i < x
    · rw [List.getElem_append_left (by omega), List.getElem_take, ho]
      have : (k == i / L) = false := by
        rw [beq_eq_false_iff_ne]; intro e; have := (hdiv i).1 e.symm; omega
      rw [this, Bool.or_false]
    · rw [List.getElem_append_right (by omega)]
      by_cases c2 : i < x + L
      · have e := (hdiv i).2 ⟨by omega, c2⟩
        rw [List.getElem_append_left (by omega), List.getElem_take]
        have : (k == i / L) = true := by rw [e]; simp
        rw [this, Bool.or_true, if_pos rfl]
        unfold byteAt
        rw [e, hmod i e, ← List.getElem_eq_getD (h := hkl), co_get _ _ (by omega)]
        congr 1
        omega
      · have : (k == i / L) = false := by
          rw [beq_eq_false_iff_ne]; intro e; have := (hdiv i).1 e.symm; omega
        rw [List.getElem_append_right (by omega), List.getElem_drop]
        have e2 : x + (l[k].take (min (x + L) n - x)).length + (i - ((joinTo L l n N pre).take x).length - (l[k].take (min (x + L) n - x)).length) = i := by omega
        simp only [e2]
        rw [ho, this, Bool.or_false]
theorem row_own {β : Type} (g : Nat) (f : β → List UInt8) : Go.Own (fun (s : β) W => Row W g (f s)) := fun s A B row h hg hr => (grownBy_keeps_cells hg hr h rfl).trans h

set_option maxHeartbeats 4000000 in
theorem join_all (p : P) (A : Option Addr) (m : List (List UInt8)) (c n : Nat) (w : World) (hp : p.In) (hM : p.May) (h : RowsAt w A m) (hc : m.length ≤ c) (hc2 : c ≤ maxLen) (hm : m.length ≤ 1048576) (hn : n ≤ 240) (hfit : fits p m n = true) :
    Calls Try.prog 8 #[p.val, .slice A m.length c, .int .i64 n] w (RetBytesE w (join p.L.toNat m n) 0) := by
  obtain ⟨L, hL⟩ : ∃ L : Nat, p.L = (L : Int) := ⟨p.L.toNat, by unfold P.May at hM; omega⟩
  have hL2 : 1 ≤ L ∧ L ≤ 256 := by unfold P.May at hM; omega
  have hT := fun V (h : RowsAt V A m) => fit_any p A m c n V hp hM h hm (by unfold In64; omega)
  have hR := fun V => Plan.right_any p V hp
  have hN2 : p.stripes n ≤ 240 := stripes_le _ _ (by omega)
  have hen : n ≤ p.stripes n * L := by have := stripes_enough p n (by omega) hn; rw [hL, Int.toNat_natCast] at this; exact this
  have hml : m.length = p.stripes n := fits_len hfit
  have hmr : ∀ i, (hi : i < m.length) → m[i].length = L := fun i hi => by have := fits_row hfit hi; rw [hL, Int.toNat_natCast] at this; exact this
  rw [hfit] at hT
  rw [P.right_yes hM] at hR
  have hI := fun g1 g2 g W2 (hs : Six W2 g1 p) hb' => parts_stops 12 g1 g2 p (some ⟨g, 0, none⟩) n n g 0 L (p.stripes n) (by omega) hp hM hL rfl (fun _ => rfl) hn (Nat.le_refl _) (by unfold maxLen; omega) W2 hs hb'
  have hend : ∀ k, k < p.stripes n → k * L < n := fun k hk => by
    by_cases e : n = 0
    · rw [e] at hk; unfold P.stripes at hk; rw [if_pos (by omega)] at hk; omega
    · rcases Nat.lt_or_ge (k * L) n with h | h
      · exact h
      · exfalso
        unfold P.stripes at hk
        rw [if_neg (by omega), hL] at hk
        have := stripes_end (L := (L : Int)) (size := (n : Int)) (n := (k : Int)) (by omega) (by rw [← Int.natCast_mul]; omega)
        omega
  rw [hL, Int.toNat_natCast]
  have HS := Lib.hid (Six.new w p)
  have HP := Lib.hid (fun g V => parts_in 12 p (some ⟨g, 0, none⟩) n n V)
  obtain ⟨N, hN⟩ : ∃ N, N = p.stripes n := ⟨_, rfl⟩
  rw [← hN] at hI hN2 hend hen hml
  have HEND := Lib.hid hend; have HEN := Lib.hid hen; have HMR := Lib.hid hmr; have HML := Lib.hid hml
  have hmk := fun W => make_u8 n (by omega) W
  have HMK := Lib.hid hmk
  have H := Lib.hid h; have HN := Lib.hid hN; have HI := Lib.hid hI
  clear hmk h hN hI hM hp hend hen hmr hml hfit
  obtain ⟨pN, pT, pL, pW, pS, pR⟩ := p
  simp only at hL
  subst hL
  unfold P.val at hT hR HP ⊢
  simp only at HP
  have HT := Lib.hid hT; have HR := Lib.hid hR
  clear hT hR
  unfold maxLen at hc2
  obtain ⟨ml, hml⟩ : ∃ ml, ml = m.length := ⟨_, rfl⟩
  rw [← hml] at hc hm HT ⊢
  have HMLL := Lib.hid hml
  clear hml
  have hb0 := balloc w (.cells #[.int .i64 pN, .int .i64 pT, .int .i64 (L : Int), .int .i64 pW, .int .i64 pS, .int .i64 pR] 23)
  have s0 := HS.out
  have q0 := Boxed.new (w.alloc (.cells #[.int .i64 pN, .int .i64 pT, .int .i64 (L : Int), .int .i64 pW, .int .i64 pS, .int .i64 pR] 23)) 26 (.slice A ml c)
  rw [World.size_alloc] at q0
  refine (callsIn_wide (n := 13)).1 ?_
  refine callsIn_of_wp_marks Try.func8 rfl trivial ?_ rfl
  simp only [Try.ntmps8, List.size_toArray, List.length_cons, List.length_nil, Nat.reduceAdd, Nat.reduceSub, Array.replicate_succ, Array.replicate_zero, List.push_toArray, List.append_toArray, List.nil_append, List.cons_append]
  gi_wp2_with fail
  have s1 := s0.below (balloc _ (.cells #[.slice A ml c] 26))
  have hb1 := bstep hb0 (balloc _ (.cells #[.slice A ml c] 26))
  clear s0 hb0
  have c0 := s1.c0; have c1 := s1.c1; have c2 := s1.c2; have c3 := s1.c3; have c4 := s1.c4; have c5 := s1.c5
  generalize (w.alloc (.cells #[.int .i64 pN, .int .i64 pT, .int .i64 (L : Int), .int .i64 pW, .int .i64 pS, .int .i64 pR] 23)).alloc (.cells #[.slice A ml c] 26) = w0 at *
  gi_wp2_with fail
  refine ⟨trivial, ?_⟩
  refine (callsIn_wide.2 (HR.out _)).mono ?_
  rintro e w1 ⟨rfl, hb2⟩
  have s2 := s1.below hb2
  have q1 : Boxed w1 (w.heap.size + 1) 26 (.slice A ml c) := (hb2.block _ q0.lt).trans q0
  have HB1 := bstep hb1 hb2
  have h1 := H.out.below HB1
  clear c0 c1 c2 c3 c4 c5 s1 q0 hb1
  have c0 := s2.c0; have c1 := s2.c1; have c2 := s2.c2; have c3 := s2.c3; have c4 := s2.c4; have c5 := s2.c5
  have cq := q1.cell
  have H1 := Lib.hid h1
  clear h1
  gi_wp2_with fail
  refine ⟨trivial, ?_⟩
  refine (callsIn_wide.2 (HT.out _ H1.out)).mono ?_
  rintro e w2 ⟨rfl, hb3⟩
  have s3 := s2.below hb3
  have q2 : Boxed w2 (w.heap.size + 1) 26 (.slice A ml c) := (hb3.block _ q1.lt).trans q1
  have HB2 := bstep HB1 hb3
  clear c0 c1 c2 c3 c4 c5 s2 q1 cq HB1 hb2 hb3
  have c0 := s3.c0; have c1 := s3.c1; have c2 := s3.c2; have c3 := s3.c3; have c4 := s3.c4; have c5 := s3.c5
  have hmk := HMK.out
  have hzz : w.heap.size < w2.heap.size := cell_lt c0
  have cq := q2.cell
  gi_wp2_with fail
  refine ⟨trivial, ?_⟩
  refine (HP.out _ _).mono ?_
  rintro e w' ⟨rfl, rfl⟩
  gi_wp2_with fail
  clear c0 c1 c2 c3 c4 c5 hmk cq
  have f1 : Row (((w2.alloc (.cells (cells (List.replicate n 0)) 5)).alloc (.cells #[.int .i64 pN, .int .i64 pT, .int .i64 (L : Int), .int .i64 pW, .int .i64 pS, .int .i64 pR] 23)).alloc (.cells #[.slice (some ⟨w2.heap.size, 0, none⟩) n n] 24)) w2.heap.size (List.replicate n 0) := ((Row.new w2 (List.replicate n 0)).alloc _).alloc _
  have f3 := (Six.new (w2.alloc (.cells (cells (List.replicate n 0)) 5)) ⟨pN, pT, (L : Int), pW, pS, pR⟩).below (balloc _ (.cells #[.slice (some ⟨w2.heap.size, 0, none⟩) n n] 24))
  have f4 := (Boxed.new ((w2.alloc (.cells (cells (List.replicate n 0)) 5)).alloc (.cells #[.int .i64 pN, .int .i64 pT, .int .i64 (L : Int), .int .i64 pW, .int .i64 pS, .int .i64 pR] 23)) 24 (.slice (some ⟨w2.heap.size, 0, none⟩) n n))
  have f6 : Below w2.heap.size w2 (((w2.alloc (.cells (cells (List.replicate n 0)) 5)).alloc (.cells #[.int .i64 pN, .int .i64 pT, .int .i64 (L : Int), .int .i64 pW, .int .i64 pS, .int .i64 pR] 23)).alloc (.cells #[.slice (some ⟨w2.heap.size, 0, none⟩) n n] 24)) := bstep (bstep (balloc _ _) (balloc _ _)) (balloc _ _)
  have f7 : (((w2.alloc (.cells (cells (List.replicate n 0)) 5)).alloc (.cells #[.int .i64 pN, .int .i64 pT, .int .i64 (L : Int), .int .i64 pW, .int .i64 pS, .int .i64 pR] 23)).alloc (.cells #[.slice (some ⟨w2.heap.size, 0, none⟩) n n] 24)).heap.size = w2.heap.size + 3 := by simp
  have f2 : Boxed (((w2.alloc (.cells (cells (List.replicate n 0)) 5)).alloc (.cells #[.int .i64 pN, .int .i64 pT, .int .i64 (L : Int), .int .i64 pW, .int .i64 pS, .int .i64 pR] 23)).alloc (.cells #[.slice (some ⟨w2.heap.size, 0, none⟩) n n] 24)) (w.heap.size + 1) 26 (.slice A ml c) := (f6.block _ q2.lt).trans q2
  simp only [World.size_alloc] at f3 f4
  have HB0 := bstep HB2 f6
  have hql := q2.lt
  generalize ((w2.alloc (.cells (cells (List.replicate n 0)) 5)).alloc (.cells #[.int .i64 pN, .int .i64 pT, .int .i64 (L : Int), .int .i64 pW, .int .i64 pS, .int .i64 pR] 23)).alloc (.cells #[.slice (some ⟨w2.heap.size, 0, none⟩) n n] 24) = W0 at *
  clear s3 q2 f6
  generalize w2.heap.size = g at *
  refine wpIn_rangeFunc_ownG rfl (by omega) (gf := 23) (lb := #[.pointer (some ⟨g + 1, 0, none⟩), .pointer (some ⟨g + 1 + 1, 0, none⟩)]) rfl trivial (enters_of Try.func23 (by kernel_rfl) rfl)
    (HI.out _ _ g W0 f3 f4.cell) (fun h k => ⟨k.1.trans h.1, k.2.trans h.2⟩) (fun W l o o' h1 h2 h3 h4 => ⟨World.putObj_heap_other (by omega), World.putObj_heap_other (by omega)⟩) (Below.refl _ _) (fun _ => rfl)
    (fun pre W => Row W g (joinTo L m n N pre) ∧ W0.grownBy W (some g))
    (fun c pre W => False)
    (OwnFrom.and (Own.from (row_own g _) _) (ownFrom_grown W0 g))
    (fun c _ _ _ _ h _ _ => h)
    ⟨by rw [joinTo_nil]; exact f1, grow_refl _ _⟩
    (fun x => { tmps := #[.agg #[.int .i64 pN, .int .i64 pT, .int .i64 (L : Int), .int .i64 pW, .int .i64 pS, .int .i64 pR], .slice A ml c, .int .i64 n, .pointer (some ⟨w.heap.size, 0, none⟩), .pointer (some ⟨w.heap.size + 1, 0, none⟩), undef, .slice none 0 0, .int .i64 0, .slice (some ⟨g, 0, none⟩) n n, .int .i64 (x.1 : Nat), part g 0 n n L x.1,
      .agg #[.int .i64 pN, .int .i64 pT, .int .i64 (L : Int), .int .i64 pW, .int .i64 pS, .int .i64 pR], .bool true, .bool false, .int .i64 n, .bool (decide ((n : Int) < 0)), .bool (decide ((n : Int) < 0)), .int .i64 n, .bool (decide (240 < (n : Int))), .bool (decide ((n : Int) < 0) || decide (240 < (n : Int))), .agg #[.int .i64 pN, .int .i64 pT, .int .i64 (L : Int), .int .i64 pW, .int .i64 pS, .int .i64 pR], .slice A ml c, .int .i64 n, .bool true, .bool false, .int .i64 n, .slice (some ⟨g, 0, none⟩) n n,
      .agg #[.int .i64 pN, .int .i64 pT, .int .i64 (L : Int), .int .i64 pW, .int .i64 pS, .int .i64 pR], .slice (some ⟨g, 0, none⟩) n n, .func (.func 23) #[] #[.pointer (some ⟨g + 1, 0, none⟩), .pointer (some ⟨g + 1 + 1, 0, none⟩)], .int .i64 (x.1 : Nat), part g 0 n n L x.1, undef, undef, undef, undef, undef, undef, undef], defers := [] }) ?assign ?body ?done ?stop
  case assign =>
    intro l x W K hK
    gi_wp2
    exact hK
  case body =>
    rintro lp pre x W ⟨hr, hg⟩ hlt
    have cH := grow_cell hg f2.cell (by omega)
    have hgs := hg.size
    have hgW : g < W.heap.size := hr.lt
    obtain ⟨k, hk⟩ := x
    have hkb := HEND.out k hk
    have hkm : k < m.length := by rw [HML.out]; exact hk
    have hrows := H.out.below (below_grow HB0 hg (by omega) HB0.size)
    obtain ⟨b, o, B, d, hA, cR, hd1, hd2, hB⟩ := hrows.row hkm
    have hkl := HMR.out k hkm
    rw [hkl] at cR hd1
    have hput := joinTo_put L m n N pre k hk (by omega) hkm hkl hkb
    have hfit : 0 + k * L + min (m[k]).length (min (k * L + L) n - k * L) ≤ (joinTo L m n N pre).length := by rw [joinTo_len]; omega
    have hml2 := HML.out
    have hml3 := HMLL.out
    have hkml : k < ml := by omega
    subst hA
    have HR := Lib.hid hr; have HG := Lib.hid hg; have HPUT := Lib.hid hput; have HBB := Lib.hid hB; have HF := Lib.hid hfit; have HKL := Lib.hid hkl
    clear hr hg hput hrows hB hfit hkl hml2 hml3
    gi_wp2_with (refine wpListIn_copy_u8 rfl (.tmp 32) (.tmp 36) rfl (some ⟨g, 0 + k * L, none⟩) (min (k * L + L) n - k * L) (n - k * L) B m[k] L d rfl rfl HKL.out g (0 + k * L) (joinTo L m n N pre) HR.out (fun _ => rfl) HBB.out HF.out ?_; intro w3 hr3 hg3)
    refine ⟨(KeepsOthers.of_grownBy hg3 (fun j o e ho => by cases e; rw [HR.out] at ho; cases ho; rfl)).from _, ⟨hg3.block _ (by omega) (by simp), hg3.block _ (by omega) (by simp; omega)⟩, ?_, grow_trans HG.out hg3⟩
    rw [← HPUT.out]; exact hr3
  case done =>
    rintro D ys W hD rfl ⟨hr, hg⟩ hK
    have hr2 := (row_own g (fun s : List (Fin N) => joinTo L m n N s)).putObj (s := ks N) (.deferred none) hr hK rfl
    have hg2 := (ownFrom_grown W0 g (β := Unit)).putObj (s := ()) (.deferred none) hg hD hK rfl
    have hb := below_grow HB0 hg2 (by omega) HB0.size
    try simp only at hr2
    rw [joinTo_all L m n N (by omega) HEN.out] at hr2
    have HROWS := Lib.hid hr2.bytes; have HB := Lib.hid hb
    clear hb hr hg hr2 hg2
    gi_wp2
    refine ⟨by simp, .inl ⟨_, _, rfl, run_takeDeferred hK, ?_⟩⟩
    have hlen : (join L m n).length = n := tab_len _ _
    refine ⟨.tuple #[.slice (some ⟨g, 0, none⟩) n n, .int .i64 0], ?_, some ⟨g, 0, none⟩, n, ?_, ?_, ?_, HROWS.out, HB.out, New.at w (by omega)⟩
    · simp [results, Try.f8, go_sem]
    · rw [hlen]
    · rw [hlen]; exact Nat.le_refl _
    · unfold maxLen; omega
  case stop =>
    rintro D c pre W hD hpre h
    exact h.elim
end Go.Proofs.Ytifclcdhokhaoaa.Stripe
