/- package zero: Cost, Add, and what they stand on -/
import Derived.Test.YtchcgiapjhmflaaGreatMS
import Derived.Test.YtchcgiapjhmflaaGreatMB
import Derived.Test.YtchcgiapjhmflaaGreatGf
import Derived.Test.YtchcgiapjhmflaaGreatStore
import Derived.Test.YtchcgiapjhmflaaGreatFlow
import Derived.Lib.MinMax
set_option maxRecDepth 100000
namespace Go.Proofs.YtchcgiapjhmflaaGreat.Zero
open Go.RowKit PlanM StripeM DealM RebM ZeroM Plan Stripe

/-- may a blob have so many stripes? -/
def okN (n : Int) : Bool := decide (0 ≤ n ∧ n ≤ 240)
/-- how many bytes the shortest one has -/
def short : List (List UInt8) → Nat
  | [] => 0
  | a :: l => l.foldl (fun n r => min n r.length) a.length
def shortTo (l : List (List UInt8)) (k : Nat) : Nat := short (l.take k)
theorem shortTo_one (l : List (List UInt8)) (h : 0 < l.length) : shortTo l 1 = l[0].length := by
  cases l with
  | nil => simp at h
  | cons a l => rfl
theorem shortTo_succ (l : List (List UInt8)) (k : Nat) (h0 : 0 < k) (h : k < l.length) : shortTo l (k + 1) = min (shortTo l k) l[k].length := by
  cases l with
  | nil => simp at h
  | cons a l =>
    obtain ⟨k, rfl⟩ : ∃ j, k = j + 1 := ⟨k - 1, by omega⟩
    have hl : k < l.length := by simp at h; omega
    unfold shortTo short
    simp only [List.take_succ_cons, List.getElem_cons_succ]
    rw [List.take_succ_eq_append_getElem hl, List.foldl_append]
    rfl
theorem shortTo_all (l : List (List UInt8)) : shortTo l l.length = short l := by unfold shortTo; rw [List.take_length]

theorem shortest_any (A : Option Addr) (l : List (List UInt8)) (c : Nat) (w : World) (h : RowsAt w A l) (hc : l.length ≤ c) (hc2 : c ≤ maxLen) (hl : l.length ≤ 1048576) :
    Calls Tryz.prog 33 #[.slice A l.length c] w fun e w' => e = .returned (.int .i64 (short l : Nat)) ∧ w = w' := by
  by_cases h0 : l.length = 0
  · have e := List.eq_nil_of_length_eq_zero h0
    subst e
    go_enter Tryz.func33, Tryz.ntmps33
    go_wp2
    go_ret
    exact ⟨rfl, rfl⟩
  · obtain ⟨n, hn⟩ : ∃ n, n = l.length := ⟨_, rfl⟩
    have hl0 : 0 < l.length := by omega
    obtain ⟨b, o, B0, d0, rfl, e0, hd1, hd2, hz0⟩ := h.row (i := 0) hl0
    clear hz0
    have h1 := shortTo_one l hl0
    obtain ⟨n0, hn0⟩ : ∃ n0, n0 = l[0].length := ⟨_, rfl⟩
    rw [← hn0] at e0 hd1 h1
    have HS1 := Lib.hid h1; have HN := Lib.hid hn; have H := Lib.hid h
    have hn1 : 1 ≤ n := by omega
    have hz : ¬ (n : Int) = 0 := by omega
    rw [← hn] at hc hl ⊢
    unfold maxLen at hc2 hd2
    rw [Nat.add_zero] at e0
    have hall := shortTo_all l
    rw [← hn] at hall
    have HALL := Lib.hid hall
    clear h h1 hn0 h0 hl0 hn hall
    by_cases hc1 : c = 1
    · subst hc1
      obtain rfl : n = 1 := by omega
      rw [HS1.out] at HALL
      have HA := Lib.hid HALL.out
      rw [← HA.out]
      go_enter Tryz.func33, Tryz.ntmps33
      go_wp2
      go_loopw [3, 16] (fun s i wr => s = .int .i64 (n0 : Nat) ∧ i = .int .i64 0 ∧ w = wr) (fun _ i _ => 1 - (intOf i).toNat)
      case atStart => exact ⟨rfl, rfl, rfl⟩
      case round =>
        obtain ⟨rfl, rfl, rfl⟩ := hrel
        go_wp2
        go_ret
        exact ⟨rfl, rfl⟩
    · go_enter Tryz.func33, Tryz.ntmps33
      go_wp2
      go_loopw [3, 16] (fun s i wr => ∃ k : Nat, k + 1 ≤ n ∧ i = .int .i64 k ∧ s = .int .i64 (shortTo l (k + 1) : Nat) ∧ w = wr) (fun _ i _ => n - (intOf i).toNat)
      case atStart => exact ⟨0, by omega, rfl, by rw [HS1.out], rfl⟩
      case round =>
        obtain ⟨k, hk, rfl, rfl, rfl⟩ := hrel
        by_cases hlt : k + 1 < n
        · have hlt' : k + 1 < l.length := by rw [← HN.out]; exact hlt
          obtain ⟨b1, o1, B1, d1, e1, f1, g1, g2, hz1⟩ := H.out.row hlt'
          clear hz1
          injection e1 with e1; injection e1 with e1 e2; subst e1; subst e2
          have hs := shortTo_succ l (k + 1) (by omega) hlt'
          obtain ⟨m, hm⟩ : ∃ m, m = l[k + 1].length := ⟨_, rfl⟩
          rw [← hm] at f1 g1 hs
          rw [show o + (k + 1) = o + 1 + k from by omega] at f1
          have hmin : min (shortTo l (k + 1) : Int) (m : Int) = (shortTo l (k + 1 + 1) : Nat) := by rw [hs]; omega
          have HM := Lib.hid hmin
          generalize shortTo l (k + 1) = s0 at *
          clear hmin hs hm hlt'
          go_wp2
          go_roundw
          case rel => exact ⟨k + 1, by omega, by go_num, by rw [← HM.out], by first | trivial | rfl⟩
          case measure => simp [intOf] <;> omega
        · obtain rfl : n = k + 1 := by omega
          have HA := Lib.hid HALL.out
          rw [HA.out]
          go_wp2
          go_ret
          exact ⟨rfl, rfl⟩

/-! the sums, place by place -/
def xorAt (l : List (List UInt8)) (k : Nat) : UInt8 := l.foldl (fun a r => GfM.add a (PolyM.co r k)) 0
theorem fold_tab (l : List (List UInt8)) (m : Nat) (f : Nat → UInt8) : l.foldl add2 (PolyM.tab m f) = PolyM.tab (l.foldl (fun n r => min n r.length) m) fun k => l.foldl (fun a r => GfM.add a (PolyM.co r k)) (f k) := by
  induction l generalizing m f with
  | nil => rfl
  | cons r l ih =>
    have e : add2 (PolyM.tab m f) r = PolyM.tab (min m r.length) fun k => GfM.add (f k) (PolyM.co r k) := by
      apply List.ext_getElem
      · rw [add2_len, PolyM.tab_len, PolyM.tab_len]
      · intro k h1 h2
        rw [PolyM.tab_len] at h2
        rw [← PolyM.co_get _ _ h1, ← PolyM.co_get _ _ (by rw [PolyM.tab_len]; exact h2), co_add2 _ _ _ (by rw [PolyM.tab_len]; omega) (by omega), PolyM.co_tab, PolyM.co_tab, if_pos h2, if_pos (by omega)]
    show List.foldl add2 (add2 (PolyM.tab m f) r) l = _
    rw [e, ih]; rfl
theorem tab_self (l : List UInt8) : l = PolyM.tab l.length (PolyM.co l) := by
  apply List.ext_getElem
  · rw [PolyM.tab_len]
  · intro k h1 h2
    rw [← PolyM.co_get _ _ h1, ← PolyM.co_get _ _ h2, PolyM.co_tab, if_pos h1]
theorem addL_tab (l : List (List UInt8)) : addL l = PolyM.tab (short l) (xorAt l) := by
  cases l with
  | nil => rfl
  | cons a l =>
    show List.foldl add2 a l = _
    rw [tab_self a, fold_tab]
    unfold short xorAt
    simp only [List.foldl_cons, PolyM.tab_len]
    congr 1
    funext k
    rw [← tab_self a]
    have : GfM.add 0 (PolyM.co a k) = PolyM.co a k := by unfold GfM.add; simp
    rw [this]
def accTo (l : List (List UInt8)) (m i : Nat) : List UInt8 := PolyM.tab m (xorAt (l.take i))
theorem accTo_len (l : List (List UInt8)) (m i : Nat) : (accTo l m i).length = m := PolyM.tab_len _ _
theorem accTo_zero (l : List (List UInt8)) (m : Nat) : accTo l m 0 = List.replicate m 0 := by
  apply List.ext_getElem
  · rw [accTo_len, List.length_replicate]
  · intro k h1 h2
    rw [← PolyM.co_get _ _ h1, List.getElem_replicate]
    rw [accTo_len] at h1
    unfold accTo
    rw [PolyM.co_tab, if_pos h1]; rfl
theorem accTo_all (l : List (List UInt8)) : accTo l (short l) l.length = addL l := by unfold accTo; rw [List.take_length, addL_tab]
theorem accTo_succ (l : List (List UInt8)) (m i k : Nat) (hi : i < l.length) (hk : k < m) : PolyM.co (accTo l m (i + 1)) k = GfM.add (PolyM.co (accTo l m i) k) (PolyM.co l[i] k) := by
  unfold accTo
  rw [PolyM.co_tab, PolyM.co_tab, if_pos hk, if_pos hk]
  unfold xorAt
  rw [List.take_succ_eq_append_getElem hi, List.foldl_append]; rfl
theorem short_le (l : List (List UInt8)) (i : Nat) (hi : i < l.length) : short l ≤ l[i].length := by
  have fl : ∀ (l : List (List UInt8)) (m : Nat), l.foldl (fun n r => min n r.length) m ≤ m ∧ ∀ i, (h : i < l.length) → l.foldl (fun n r => min n r.length) m ≤ l[i].length := by
    intro l
    induction l with
    | nil => intro m; exact ⟨Nat.le_refl _, fun i h => absurd h (by simp)⟩
    | cons r l ih =>
      intro m
      obtain ⟨h1, h2⟩ := ih (min m r.length)
      refine ⟨Nat.le_trans h1 (Nat.min_le_left _ _), fun i h => ?_⟩
      cases i with
      | zero => exact Nat.le_trans h1 (Nat.min_le_right _ _)
      | succ i => exact h2 i (by simpa using h)
  cases l with
  | nil => simp at hi
  | cons a l =>
    cases i with
    | zero => exact (fl l a.length).1
    | succ i => exact (fl l a.length).2 i (by simpa using hi)
/-- the one list up to place k, behind it the other one -/
def mixTo (a b : List UInt8) (k : Nat) : List UInt8 := b.take k ++ a.drop k
theorem mixTo_zero (a b : List UInt8) : mixTo a b 0 = a := by simp [mixTo]
theorem mixTo_all (a b : List UInt8) (h : a.length = b.length) : mixTo a b b.length = b := by unfold mixTo; rw [← h]; simp [h]
theorem mixTo_len (a b : List UInt8) (h : a.length = b.length) (k : Nat) (hk : k ≤ a.length) : (mixTo a b k).length = a.length := by unfold mixTo; simp; omega
theorem mixTo_at (a b : List UInt8) (h : a.length = b.length) (k : Nat) (hk : k < a.length) : (mixTo a b k)[k]'(by rw [mixTo_len a b h k (by omega)]; exact hk) = a[k] := by
  unfold mixTo
  rw [List.getElem_append_right (by rw [List.length_take]; omega), List.getElem_drop]
  congr 1
  rw [List.length_take]; omega
theorem mixTo_set (a b : List UInt8) (h : a.length = b.length) (k : Nat) (hk : k < a.length) : (mixTo a b k).set k (b[k]'(by omega)) = mixTo a b (k + 1) := by
  unfold mixTo
  have hl : (b.take k).length = k := by rw [List.length_take]; omega
  rw [List.set_append_right _ _ (by omega), hl, Nat.sub_self, List.take_succ_eq_append_getElem (by omega), List.append_assoc]
  congr 1
  rw [List.drop_eq_getElem_cons hk, List.set_cons_zero]; rfl

set_option maxHeartbeats 2000000 in
theorem add_any (A : Option Addr) (l : List (List UInt8)) (c : Nat) (w : World) (h : RowsAt w A l) (k : l.length ≤ c) (z : c ≤ maxLen) (hl : l.length ≤ 1048576) (hr : ∀ r ∈ l, r.length ≤ 1048576) :
    Calls Tryz.prog 17 #[.slice A l.length c] w (RetNew w (addL l)) := by
  have hS := shortest_any A l c w h k z hl
  obtain ⟨m, hm⟩ : ∃ m, m = short l := ⟨_, rfl⟩
  have hm1 : m ≤ 1048576 := by
    rw [hm]
    rcases Nat.eq_zero_or_pos l.length with h0 | h0
    · rw [List.eq_nil_of_length_eq_zero h0]; exact Nat.zero_le _
    · exact Nat.le_trans (short_le l 0 h0) (hr _ (List.getElem_mem h0))
  have hle : ∀ i, (hi : i < l.length) → m ≤ l[i].length := fun i hi => by rw [hm]; exact short_le l i hi
  have hall := accTo_all l
  have haz := accTo_zero l m
  have hsu := fun i k hi hk => accTo_succ l m i k hi hk
  have hln := fun i => accTo_len l m i
  rw [← hm] at hS hall
  have hmk := fun W => make_u8 m (by omega) W
  obtain ⟨n, hn⟩ : ∃ n, n = l.length := ⟨_, rfl⟩
  have HS := Lib.hid hS; have HLE := Lib.hid hle; have HALL := Lib.hid hall; have HAZ := Lib.hid haz; have HSU := Lib.hid hsu; have HLN := Lib.hid hln; have H := Lib.hid h; have HN := Lib.hid hn
  rw [← hn] at hl k ⊢
  rw [← hn] at HS
  clear hS hle hall haz hsu hln h hm hr hn
  go_enter Tryz.func17, Tryz.ntmps17
  go_wp2_with fail
  refine HS.out.mono ?_
  rintro e w' ⟨rfl, rfl⟩
  go_wp2_with fail
  clear hmk
  go_loopw [12] (fun i wr => ∃ j : Nat, j ≤ n ∧ i = .int .i64 j ∧ Row wr w.heap.size (accTo l m j) ∧ Below w.heap.size w wr)
    (fun i _ => n - (intOf i).toNat)
  case atStart => exact ⟨0, Nat.zero_le _, rfl, by rw [HAZ.out]; exact Row.new _ _, balloc _ _⟩
  case round =>
    obtain ⟨j, hj, rfl, hr, hb⟩ := hrel
    rename World => wr
    by_cases hlt : j < n
    · have hjl : j < l.length := by rw [← HN.out]; exact hlt
      obtain ⟨b, o, B, rd, rfl, e00, hd1, hd2, hB⟩ := H.out.row hjl
      have e0 := (hb.cell (p := ⟨b, o + j, none⟩) (cell_lt e00)).trans e00
      clear e00
      obtain ⟨r, hrr⟩ : ∃ r, r = l[j] := ⟨_, rfl⟩
      have hmr := HLE.out j hjl
      have hsu := fun k hk => HSU.out j k hjl hk
      rw [← hrr] at e0 hd1 hB hmr
      simp only [← hrr] at hsu
      obtain ⟨rl, hrl⟩ : ∃ rl, rl = r.length := ⟨_, rfl⟩
      rw [← hrl] at e0 hd1 hmr
      obtain ⟨ac, hac⟩ : ∃ ac, ac = accTo l m j := ⟨_, rfl⟩
      obtain ⟨bc, hbc⟩ : ∃ bc, bc = accTo l m (j + 1) := ⟨_, rfl⟩
      have hal : ac.length = m := by rw [hac, HLN.out]
      have hbl : bc.length = m := by rw [hbc, HLN.out]
      rw [← hac] at hr hsu
      rw [← hbc] at hsu
      have HBC := Lib.hid hbc; have HR := Lib.hid hr; have HB := Lib.hid hb; have HBB := Lib.hid hB; have HSUJ := Lib.hid hsu; have HAL := Lib.hid hal; have HBL := Lib.hid hbl; have HRL := Lib.hid hrl
      unfold maxLen at hd2
      clear hr hb hB hsu hal hbl hrr hac hbc hrl hjl
      go_wp2_with fail
      clear e0
      go_loopw [18] (fun i wi => ∃ k : Nat, k ≤ m ∧ i = .int .i64 k ∧ Row wi w.heap.size (mixTo ac bc k) ∧ Below w.heap.size w wi)
        (fun i _ => m - (intOf i).toNat)
      case atStart => exact ⟨0, Nat.zero_le _, rfl, by rw [mixTo_zero]; exact HR.out, HB.out⟩
      case round =>
        obtain ⟨k, hk, rfl, hr, hb⟩ := hrel
        rename World => wi
        by_cases hlk : k < m
        · obtain ⟨xb, xo, rfl, hz⟩ := (HBB.out.below hb) k (by rw [← HRL.out]; omega)
          have hac : k < ac.length := by rw [HAL.out]; exact hlk
          have hcc := hr.cell k (by rw [mixTo_len ac bc (by rw [HAL.out, HBL.out]) k (by omega)]; exact hac)
          rw [mixTo_at ac bc (by rw [HAL.out, HBL.out]) k hac] at hcc
          have hst := mixTo_set ac bc (by rw [HAL.out, HBL.out]) k hac
          have hsu := HSUJ.out k hlk
          rw [PolyM.co_get _ _ (by rw [HBL.out]; exact hlk), PolyM.co_get _ _ hac, PolyM.co_get _ _ (by rw [← HRL.out]; omega)] at hsu
          rw [hsu] at hst
          obtain ⟨y, hy⟩ : ∃ y, y = ac[k] := ⟨_, rfl⟩
          obtain ⟨z, hz'⟩ : ∃ z, z = r[k]'(by rw [← HRL.out]; omega) := ⟨_, rfl⟩
          rw [← hy] at hcc hst
          rw [← hz'] at hz hst
          have hu := fun V => Gf.add_q y z V
          obtain ⟨u, hu'⟩ : ∃ u, u = GfM.add y z := ⟨_, rfl⟩
          rw [← hu'] at hst
          simp only [← hu'] at hu
          have hf := hr.frozen k
          have hzz := hr.lt
          have HST := Lib.hid hst; have HC1 := Lib.hid hcc; have HC2 := Lib.hid hz; have HU := Lib.hid hu; have HF1 := Lib.hid hf; have HRR := Lib.hid hr; have HBI := Lib.hid hb
          have hkrl : k < rl := by omega
          clear hac hst hsu hcc hz hu hy hz' hu' hf hr hb
          go_wp2_with fail
          --FLOW--
          refine Drawn.wp_region_flowT 12 [Drawn.SP.is (.slice (some ⟨w.heap.size, 0, none⟩) m m), Drawn.SP.is (.int .i64 (k : Nat)), Drawn.SP.is (.slice (some ⟨w.heap.size, 0, none⟩) m m), Drawn.SP.is (.int .i64 (k : Nat)), Drawn.SP.is (.pointer (some ⟨w.heap.size, k, none⟩)), Drawn.SP.is (.int .u8 (y.toNat : Nat)), Drawn.SP.is (.slice (some ⟨xb, xo, none⟩) rl rd), Drawn.SP.is (.int .i64 (k : Nat)), Drawn.SP.is (.pointer (some ⟨xb, xo + k, none⟩)), Drawn.SP.is (.int .u8 (z.toNat : Nat)), Drawn.SP.is (.int .u8 (u.toNat : Nat)), Drawn.SP.is (.pointer (some ⟨w.heap.size, k, none⟩))] (by kernel_rfl) (by kernel_rfl) ?_ ?_
          · intro i hi a w2 hb hev hdep
            rcases (show i = 0 ∨ i = 1 ∨ i = 2 ∨ i = 3 ∨ i = 4 ∨ i = 5 ∨ i = 6 ∨ i = 7 ∨ i = 8 ∨ i = 9 ∨ i = 10 ∨ i = 11 by omega) with rfl | rfl | rfl | rfl | rfl | rfl | rfl | rfl | rfl | rfl | rfl | rfl
            · have e3 : a.tmps[3]?.getD undef = .slice (some ⟨w.heap.size, 0, none⟩) m m := hev 3 rfl
              refine Drawn.wpOp_flow 21 rfl rfl rfl ?_
              clear hev hdep hb
              go_simp
              exact ⟨_, rfl, rfl, Below.refl _ _⟩
            · have e6 : a.tmps[6]?.getD undef = .int .i64 (k : Nat) := hev 6 rfl
              refine Drawn.wpOp_flow 22 rfl rfl rfl ?_
              clear hev hdep hb
              go_simp
              exact ⟨_, rfl, rfl, Below.refl _ _⟩
            · have e3 : a.tmps[3]?.getD undef = .slice (some ⟨w.heap.size, 0, none⟩) m m := hev 3 rfl
              refine Drawn.wpOp_flow 23 rfl rfl rfl ?_
              clear hev hdep hb
              go_simp
              exact ⟨_, rfl, rfl, Below.refl _ _⟩
            · have e6 : a.tmps[6]?.getD undef = .int .i64 (k : Nat) := hev 6 rfl
              refine Drawn.wpOp_flow 24 rfl rfl rfl ?_
              clear hev hdep hb
              go_simp
              exact ⟨_, rfl, rfl, Below.refl _ _⟩
            · have d2 : a.tmps[23]?.getD undef = .slice (some ⟨w.heap.size, 0, none⟩) m m := hdep 2 rfl
              have d3 : a.tmps[24]?.getD undef = .int .i64 (k : Nat) := hdep 3 rfl
              refine Drawn.wpOp_flow 25 rfl rfl rfl ?_
              clear hev hdep hb
              go_simp
              exact ⟨_, rfl, rfl, Below.refl _ _⟩
            · have d4 : a.tmps[25]?.getD undef = .pointer (some ⟨w.heap.size, k, none⟩) := hdep 4 rfl
              refine Drawn.wpOp_flow 26 rfl rfl rfl ?_
              have k1 := (hb.cell (p := ⟨w.heap.size, k, none⟩) hzz).trans HC1.out
              have k2 := (hb.cell (p := ⟨xb, xo + k, none⟩) (cell_lt HC2.out)).trans HC2.out
              clear hev hdep hb
              go_simp
              exact ⟨_, rfl, rfl, Below.refl _ _⟩
            · have e5 : a.tmps[5]?.getD undef = .slice (some ⟨xb, xo, none⟩) rl rd := hev 5 rfl
              refine Drawn.wpOp_flow 27 rfl rfl rfl ?_
              clear hev hdep hb
              go_simp
              exact ⟨_, rfl, rfl, Below.refl _ _⟩
            · have e6 : a.tmps[6]?.getD undef = .int .i64 (k : Nat) := hev 6 rfl
              refine Drawn.wpOp_flow 28 rfl rfl rfl ?_
              clear hev hdep hb
              go_simp
              exact ⟨_, rfl, rfl, Below.refl _ _⟩
            · have d6 : a.tmps[27]?.getD undef = .slice (some ⟨xb, xo, none⟩) rl rd := hdep 6 rfl
              have d7 : a.tmps[28]?.getD undef = .int .i64 (k : Nat) := hdep 7 rfl
              refine Drawn.wpOp_flow 29 rfl rfl rfl ?_
              clear hev hdep hb
              go_simp
              exact ⟨_, rfl, rfl, Below.refl _ _⟩
            · have d8 : a.tmps[29]?.getD undef = .pointer (some ⟨xb, xo + k, none⟩) := hdep 8 rfl
              refine Drawn.wpOp_flow 30 rfl rfl rfl ?_
              have k1 := (hb.cell (p := ⟨w.heap.size, k, none⟩) hzz).trans HC1.out
              have k2 := (hb.cell (p := ⟨xb, xo + k, none⟩) (cell_lt HC2.out)).trans HC2.out
              clear hev hdep hb
              go_simp
              exact ⟨_, rfl, rfl, Below.refl _ _⟩
            · have d5 : a.tmps[26]?.getD undef = .int .u8 (y.toNat : Nat) := hdep 5 rfl
              have d9 : a.tmps[30]?.getD undef = .int .u8 (z.toNat : Nat) := hdep 9 rfl
              refine Drawn.wpOp_flow 31 rfl rfl rfl ?_
              clear hev hdep
              have C := HU.out w2
              clear hb
              go_simp
              refine C.mono ?_
              rintro e w' ⟨rfl, rfl⟩
              exact ⟨_, rfl, rfl, Below.refl _ _⟩
            · have d0 : a.tmps[21]?.getD undef = .slice (some ⟨w.heap.size, 0, none⟩) m m := hdep 0 rfl
              have d1 : a.tmps[22]?.getD undef = .int .i64 (k : Nat) := hdep 1 rfl
              refine Drawn.wpOp_flow 32 rfl rfl rfl ?_
              clear hev hdep hb
              go_simp
              exact ⟨_, rfl, rfl, Below.refl _ _⟩
          · intro xq w2 hb hxq
            have vq0 : xq 0 = .slice (some ⟨w.heap.size, 0, none⟩) m m := hxq 0 (by omega)
            have vq1 : xq 1 = .int .i64 (k : Nat) := hxq 1 (by omega)
            have vq2 : xq 2 = .slice (some ⟨w.heap.size, 0, none⟩) m m := hxq 2 (by omega)
            have vq3 : xq 3 = .int .i64 (k : Nat) := hxq 3 (by omega)
            have vq4 : xq 4 = .pointer (some ⟨w.heap.size, k, none⟩) := hxq 4 (by omega)
            have vq5 : xq 5 = .int .u8 (y.toNat : Nat) := hxq 5 (by omega)
            have vq6 : xq 6 = .slice (some ⟨xb, xo, none⟩) rl rd := hxq 6 (by omega)
            have vq7 : xq 7 = .int .i64 (k : Nat) := hxq 7 (by omega)
            have vq8 : xq 8 = .pointer (some ⟨xb, xo + k, none⟩) := hxq 8 (by omega)
            have vq9 : xq 9 = .int .u8 (z.toNat : Nat) := hxq 9 (by omega)
            have vq10 : xq 10 = .int .u8 (u.toNat : Nat) := hxq 10 (by omega)
            have vq11 : xq 11 = .pointer (some ⟨w.heap.size, k, none⟩) := hxq 11 (by omega)
            show wpList _ _ _ _ (Drawn.acts _ [(32, some (xq 11)), (31, some (xq 10)), (30, some (xq 9)), (29, some (xq 8)), (28, some (xq 7)), (27, some (xq 6)), (26, some (xq 5)), (25, some (xq 4)), (24, some (xq 3)), (23, some (xq 2)), (22, some (xq 1)), (21, some (xq 0))]) _
            rw [vq0, vq1, vq2, vq3, vq4, vq5, vq6, vq7, vq8, vq9, vq10, vq11]
            clear hxq vq0 vq1 vq2 vq3 vq4 vq5 vq6 vq7 vq8 vq9 vq10 vq11
            clear xq
            simp only [Drawn.acts, List.drop_succ_cons, List.drop_zero]
            go_simp
          --END--
            have hcj := (hb.cell (p := ⟨w.heap.size, k, none⟩) hzz).trans HC1.out
            have hfj : w2.frozen? ⟨w.heap.size, k, none⟩ = false := (World.frozen?_of_block (w := wi) (hb.block w.heap.size hzz)).trans HF1.out
            have HB2 := Lib.hid hb
            clear hb
            go_wp2
            go_roundw
            case rel =>
              refine ⟨k + 1, by omega, by go_num, ?_, ?_⟩
              · rw [← HST.out]
                exact Row.set ((HB2.out.block _ hzz).trans HRR.out) k _
              · exact (bstep HBI.out HB2.out).setCell (Nat.le_refl _) _
            case measure => simp [intOf] <;> omega
        · obtain rfl : k = m := by omega
          have HRR := Lib.hid hr
          clear hr
          go_wp2
          go_roundw
          case rel =>
            refine ⟨j + 1, by omega, by go_num, ?_, hb⟩
            have := HRR.out
            rw [show mixTo ac bc k = bc from by have := mixTo_all ac bc (by rw [HAL.out, HBL.out]); rw [HBL.out] at this; exact this, HBC.out] at this
            exact this
          case measure => simp [intOf] <;> omega
    · obtain rfl : j = n := by omega
      have HR := Lib.hid hr
      clear hr
      go_wp2
      go_ret
      have hr := HR.out
      have hln := HLN.out j
      rw [show accTo l m j = addL l from by rw [HN.out]; exact HALL.out] at hr hln
      have := RetNew.of_row hr hb (by rw [hln]; unfold maxLen; omega) (Nat.le_refl _)
      rw [hln] at this
      exact this
end Go.Proofs.YtchcgiapjhmflaaGreat.Zero
