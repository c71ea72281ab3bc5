/- merged: ZeroA, ZeroB, Zero -/
import Derived.Test.YtompeiemioeohaaMS
import Derived.Test.YtompeiemioeohaaMB
import Derived.Test.YtompeiemioeohaaGf
import Derived.Test.YtompeiemioeohaaStore
import Derived.Test.YtompeiemioeohaaFlow
import Derived.Lib.MinMax
import Derived.Test.YtompeiemioeohaaMP
import Derived.Test.YtompeiemioeohaaPoly
import Derived.Laws.EntriesVeiled

/- package zero: Cost, Add, and what they stand on -/
set_option maxRecDepth 100000
namespace Go.Proofs.Ytompeiemioeohaa.Zero
open Go.RowKit PlanM StripeM DealM RebM ZeroM Plan Stripe

/-- may a blob have so many stripes? -/
def okN (n : Int) : Bool := decide (0 ≤ n ∧ n ≤ 240)
theorem mayBe_any (n : Int) (w : World) : Calls Try.prog 63 #[.int .i64 n] w fun e w' => e = .returned (.bool (okN n)) ∧ w = w' := by
  by_cases h0 : 0 ≤ n
  · by_cases h1 : n ≤ 240
    · rw [show okN n = true from decide_eq_true ⟨h0, h1⟩]
      go_enter Try.func63, Try.ntmps63
      go_wp2
      go_ret
      exact ⟨by simp, rfl⟩
    · rw [show okN n = false from decide_eq_false (by omega)]
      go_enter Try.func63, Try.ntmps63
      go_wp2
      go_ret
      exact ⟨by simp, rfl⟩
  · rw [show okN n = false from decide_eq_false (by omega)]
    go_enter Try.func63, Try.ntmps63
    go_wp2
    go_ret
    exact ⟨rfl, rfl⟩

theorem cost_no (p : P) (n : Int) (w : World) (hp : p.In) (hM : ¬ p.May) : Calls Try.prog 64 #[p.val, .int .i64 n] w (Says w (.int .i64 0)) := by
  have HS := Lib.hid (Six.new w p)
  have hb0 := Lib.hid (balloc w (.cells #[.int .i64 p.N, .int .i64 p.T, .int .i64 p.L, .int .i64 p.W, .int .i64 p.S, .int .i64 p.R] 23))
  have hR := fun V => Plan.right_any p V hp
  rw [P.right_no hM] at hR
  clear hM hp
  obtain ⟨pN, pT, pL, pW, pS, pR⟩ := p
  unfold P.val at hR ⊢
  simp only at HS hb0 hR ⊢
  have HR := Lib.hid hR
  clear hR
  go_enter Try.func64, Try.ntmps64
  go_wp2_with fail
  generalize w.alloc (.cells #[.int .i64 pN, .int .i64 pT, .int .i64 pL, .int .i64 pW, .int .i64 pS, .int .i64 pR] 23) = w0 at *
  have s0 := HS.out
  have c0 := s0.c0; have c1 := s0.c1; have c2 := s0.c2; have c3 := s0.c3; have c4 := s0.c4; have c5 := s0.c5
  simp only at c0 c1 c2 c3 c4 c5
  clear s0
  go_wp2_with fail
  refine (HR.out _).mono ?_
  rintro e w1 ⟨rfl, hb1⟩
  clear c0 c1 c2 c3 c4 c5
  go_wp2
  go_ret
  exact ⟨rfl, bstep hb0.out hb1⟩

theorem cost_may (p : P) (n : Int) (w : World) (hp : p.In) (hM : p.May) : Calls Try.prog 64 #[p.val, .int .i64 n] w (Says w (.int .i64 (if okN n then p.T * n else 0))) := by
  have HS := Lib.hid (Six.new w p)
  have hb0 := Lib.hid (balloc w (.cells #[.int .i64 p.N, .int .i64 p.T, .int .i64 p.L, .int .i64 p.W, .int .i64 p.S, .int .i64 p.R] 23))
  have hR := fun V => Plan.right_any p V hp
  rw [P.right_yes hM] at hR
  obtain ⟨ans, hans⟩ : ∃ ans, ans = (if okN n then p.T * n else 0) := ⟨_, rfl⟩
  rw [← hans]
  have h1 : okN n = true → IntKind.i64.wrap (p.T * n) = ans := fun h => by
    rw [hans, if_pos h]
    have h := of_decide_eq_true h
    unfold P.May at hM
    have h1 : p.T * n ≤ 256 * 240 := Int.mul_le_mul (by omega) (by omega) (by omega) (by omega)
    have h0 : 0 ≤ p.T * n := Int.mul_nonneg (by omega) (by omega)
    exact IntWalk.i64_in _ (by omega)
  have h2 : okN n = false → ans = 0 := fun h => by rw [hans, h]; rfl
  have hK := fun V => mayBe_any n V
  generalize okN n = v at *
  clear hM hp hans
  obtain ⟨pN, pT, pL, pW, pS, pR⟩ := p
  unfold P.val at hR ⊢
  simp only at HS hb0 hR h1 h2 ⊢
  have HR := Lib.hid hR; have HK := Lib.hid hK; have H1 := Lib.hid h1; have H2 := Lib.hid h2
  clear hR hK h1 h2
  go_enter Try.func64, Try.ntmps64
  go_wp2_with fail
  generalize w.alloc (.cells #[.int .i64 pN, .int .i64 pT, .int .i64 pL, .int .i64 pW, .int .i64 pS, .int .i64 pR] 23) = w0 at *
  have s0 := HS.out
  have c0 := s0.c0; have c1 := s0.c1; have c2 := s0.c2; have c3 := s0.c3; have c4 := s0.c4; have c5 := s0.c5
  simp only at c0 c1 c2 c3 c4 c5
  clear s0
  go_wp2_with fail
  refine (HR.out _).mono ?_
  rintro e w1 ⟨rfl, hb1⟩
  clear c0 c1 c2 c3 c4 c5
  have s1 := (HS.out.below hb1).c1
  simp only at s1
  go_wp2_with fail
  refine (HK.out _).mono ?_
  rintro e w' ⟨rfl, rfl⟩
  cases v
  · obtain rfl := H2.out rfl
    go_wp2
    go_ret
    exact ⟨rfl, bstep hb0.out hb1⟩
  · have h := H1.out rfl
    go_wp2
    go_ret
    exact ⟨rfl, bstep hb0.out hb1⟩

theorem cost_any (p : P) (n : Int) (w : World) (hp : p.In) (_hn : In64 n) : Calls Try.prog 64 #[p.val, .int .i64 n] w (Says w (.int .i64 (zcost p n))) := by
  unfold zcost
  by_cases hM : p.May
  · rw [P.right_yes hM, if_pos rfl]
    have := cost_may p n w hp hM
    unfold okN at this
    by_cases h : 0 ≤ n ∧ n ≤ 240
    · rw [if_neg (by omega)]; rw [if_pos (decide_eq_true h)] at this; exact this
    · rw [if_pos (by omega)]; rw [if_neg (by simpa using h)] at this; exact this
  · rw [P.right_no hM, if_neg (by simp)]
    exact cost_no p n w hp hM

/-- how many bytes the shortest one has -/
def short : List (List UInt8) → Nat
  | [] => 0
  | a :: l => l.foldl (fun n r => min n r.length) a.length
def shortTo (l : List (List UInt8)) (k : Nat) : Nat := short (l.take k)
theorem shortTo_one (l : List (List UInt8)) (h : 0 < l.length) : shortTo l 1 = l[0].length := by
  cases l with
  | nil => simp at h
  | cons a l => rfl
theorem shortTo_succ (l : List (List UInt8)) (k : Nat) (h0 : 0 < k) (h : k < l.length) : shortTo l (k + 1) = min (shortTo l k) l[k].length := by
  cases l with
  | nil => simp at h
  | cons a l =>
    obtain ⟨k, rfl⟩ : ∃ j, k = j + 1 := ⟨k - 1, by omega⟩
    have hl : k < l.length := by simp at h; omega
    unfold shortTo short
    simp only [List.take_succ_cons, List.getElem_cons_succ]
    rw [List.take_succ_eq_append_getElem hl, List.foldl_append]
    rfl
theorem shortTo_all (l : List (List UInt8)) : shortTo l l.length = short l := by unfold shortTo; rw [List.take_length]

/-! the sums, place by place -/
def xorAt (l : List (List UInt8)) (k : Nat) : UInt8 := l.foldl (fun a r => GfM.add a (PolyM.co r k)) 0
theorem fold_tab (l : List (List UInt8)) (m : Nat) (f : Nat → UInt8) : l.foldl add2 (PolyM.tab m f) = PolyM.tab (l.foldl (fun n r => min n r.length) m) fun k => l.foldl (fun a r => GfM.add a (PolyM.co r k)) (f k) := by
  induction l generalizing m f with
  | nil => rfl
  | cons r l ih =>
    have e : add2 (PolyM.tab m f) r = PolyM.tab (min m r.length) fun k => GfM.add (f k) (PolyM.co r k) := by
      apply List.ext_getElem
      · rw [add2_len, PolyM.tab_len, PolyM.tab_len]
      · intro k h1 h2
        rw [PolyM.tab_len] at h2
        rw [← PolyM.co_get _ _ h1, ← PolyM.co_get _ _ (by rw [PolyM.tab_len]; exact h2), co_add2 _ _ _ (by rw [PolyM.tab_len]; omega) (by omega), PolyM.co_tab, PolyM.co_tab, if_pos h2, if_pos (by omega)]
    show List.foldl add2 (add2 (PolyM.tab m f) r) l = _
    rw [e, ih]; rfl
theorem tab_self (l : List UInt8) : l = PolyM.tab l.length (PolyM.co l) := by
  apply List.ext_getElem
  · rw [PolyM.tab_len]
  · intro k h1 h2
    rw [← PolyM.co_get _ _ h1, ← PolyM.co_get _ _ h2, PolyM.co_tab, if_pos h1]
theorem addL_tab (l : List (List UInt8)) : addL l = PolyM.tab (short l) (xorAt l) := by
  cases l with
  | nil => rfl
  | cons a l =>
    show List.foldl add2 a l = _
    rw [tab_self a, fold_tab]
    unfold short xorAt
    simp only [List.foldl_cons, PolyM.tab_len]
    congr 1
    funext k
    rw [← tab_self a]
    have : GfM.add 0 (PolyM.co a k) = PolyM.co a k := by unfold GfM.add; simp
    rw [this]
def accTo (l : List (List UInt8)) (m i : Nat) : List UInt8 := PolyM.tab m (xorAt (l.take i))
theorem accTo_len (l : List (List UInt8)) (m i : Nat) : (accTo l m i).length = m := PolyM.tab_len _ _
theorem accTo_zero (l : List (List UInt8)) (m : Nat) : accTo l m 0 = List.replicate m 0 := by
  apply List.ext_getElem
  · rw [accTo_len, List.length_replicate]
  · intro k h1 h2
    rw [← PolyM.co_get _ _ h1, List.getElem_replicate]
    rw [accTo_len] at h1
    unfold accTo
    rw [PolyM.co_tab, if_pos h1]; rfl
theorem accTo_all (l : List (List UInt8)) : accTo l (short l) l.length = addL l := by unfold accTo; rw [List.take_length, addL_tab]
theorem accTo_succ (l : List (List UInt8)) (m i k : Nat) (hi : i < l.length) (hk : k < m) : PolyM.co (accTo l m (i + 1)) k = GfM.add (PolyM.co (accTo l m i) k) (PolyM.co l[i] k) := by
  unfold accTo
  rw [PolyM.co_tab, PolyM.co_tab, if_pos hk, if_pos hk]
  unfold xorAt
  rw [List.take_succ_eq_append_getElem hi, List.foldl_append]; rfl
theorem short_le (l : List (List UInt8)) (i : Nat) (hi : i < l.length) : short l ≤ l[i].length := by
  have fl : ∀ (l : List (List UInt8)) (m : Nat), l.foldl (fun n r => min n r.length) m ≤ m ∧ ∀ i, (h : i < l.length) → l.foldl (fun n r => min n r.length) m ≤ l[i].length := by
    intro l
    induction l with
    | nil => intro m; exact ⟨Nat.le_refl _, fun i h => absurd h (by simp)⟩
    | cons r l ih =>
      intro m
      obtain ⟨h1, h2⟩ := ih (min m r.length)
      refine ⟨Nat.le_trans h1 (Nat.min_le_left _ _), fun i h => ?_⟩
      cases i with
      | zero => exact Nat.le_trans h1 (Nat.min_le_right _ _)
      | succ i => exact h2 i (by simpa using h)
  cases l with
  | nil => simp at hi
  | cons a l =>
    cases i with
    | zero => exact (fl l a.length).1
    | succ i => exact (fl l a.length).2 i (by simpa using hi)
/-- the one list up to place k, behind it the other one -/
def mixTo (a b : List UInt8) (k : Nat) : List UInt8 := b.take k ++ a.drop k
theorem mixTo_zero (a b : List UInt8) : mixTo a b 0 = a := by simp [mixTo]
theorem mixTo_all (a b : List UInt8) (h : a.length = b.length) : mixTo a b b.length = b := by unfold mixTo; rw [← h]; simp [h]
theorem mixTo_len (a b : List UInt8) (h : a.length = b.length) (k : Nat) (hk : k ≤ a.length) : (mixTo a b k).length = a.length := by unfold mixTo; simp; omega
theorem mixTo_at (a b : List UInt8) (h : a.length = b.length) (k : Nat) (hk : k < a.length) : (mixTo a b k)[k]'(by rw [mixTo_len a b h k (by omega)]; exact hk) = a[k] := by
  unfold mixTo
  rw [List.getElem_append_right (by rw [List.length_take]; omega), List.getElem_drop]
  congr 1
  rw [List.length_take]; omega
theorem mixTo_set (a b : List UInt8) (h : a.length = b.length) (k : Nat) (hk : k < a.length) : (mixTo a b k).set k (b[k]'(by omega)) = mixTo a b (k + 1) := by
  unfold mixTo
  have hl : (b.take k).length = k := by rw [List.length_take]; omega
  rw [List.set_append_right _ _ (by omega), hl, Nat.sub_self, List.take_succ_eq_append_getElem (by omega), List.append_assoc]
  congr 1
  rw [List.drop_eq_getElem_cons hk, List.set_cons_zero]; rfl

end Go.Proofs.Ytompeiemioeohaa.Zero

/- package zero: what tells a custodian's zero share -/
set_option maxRecDepth 100000
namespace Go.Proofs.Ytompeiemioeohaa.Zero
open Go.RowKit PlanM StripeM DealM RebM ZeroM Plan Stripe

/-- what a share's teller has captured -/
structure ZA (w : World) (gf gr gn gt gp b0 : Nat) (Y A : Option Addr) (rt tape : List UInt8) (dY c n : Nat) (p : P) : Prop where
  f : w.cell? ⟨gf, 0, none⟩ = some (.pointer (some ⟨b0, 0, none⟩))
  r : w.cell? ⟨gr, 0, none⟩ = some (.slice Y rt.length dY)
  n : w.cell? ⟨gn, 0, none⟩ = some (.int .i64 (n : Nat))
  t : w.cell? ⟨gt, 0, none⟩ = some (.slice A tape.length c)
  six : Six w gp p
  tab : Gf.Tab w b0
  ys : BytesAt w Y rt
  tape : BytesAt w A tape
section
variable {w w' : World} {gf gr gn gt gp b0 : Nat} {Y A : Option Addr} {rt tape : List UInt8} {dY c n : Nat} {p : P}
theorem ZA.below (h : ZA w gf gr gn gt gp b0 Y A rt tape dY c n p) (hb : Below w.heap.size w w') : ZA w' gf gr gn gt gp b0 Y A rt tape dY c n p :=
  ⟨(hb.cell (p := ⟨gf, 0, none⟩) (cell_lt h.f)).trans h.f, (hb.cell (p := ⟨gr, 0, none⟩) (cell_lt h.r)).trans h.r, (hb.cell (p := ⟨gn, 0, none⟩) (cell_lt h.n)).trans h.n, (hb.cell (p := ⟨gt, 0, none⟩) (cell_lt h.t)).trans h.t,
    h.six.below hb, h.tab.below hb, h.ys.below hb, h.tape.below hb⟩
theorem ZA.keep {F : Nat → Prop} {w3 : World} (h3 : ZA w3 gf gr gn gt gp b0 Y A rt tape dY c n p) (h : ZA w gf gr gn gt gp b0 Y A rt tape dY c n p) (q : Keeps F w w') (hF : ∀ k, k < w3.heap.size → ¬ F k) : ZA w' gf gr gn gt gp b0 Y A rt tape dY c n p := by
  have hp := hF _ (cell_lt h3.six.c0)
  exact ⟨q.cell h.f (hF _ (cell_lt h3.f)), q.cell h.r (hF _ (cell_lt h3.r)), q.cell h.n (hF _ (cell_lt h3.n)), q.cell h.t (hF _ (cell_lt h3.t)),
    ⟨q.cell h.six.c0 hp, q.cell h.six.c1 hp, q.cell h.six.c2 hp, q.cell h.six.c3 hp, q.cell h.six.c4 hp, q.cell h.six.c5 hp⟩, q.tab h.tab (hF _ h3.tab.lt), q.bytes' h.ys (fun h0 a e => hF _ (h3.ys.lt h0 a e)), q.bytes' h.tape (fun h0 a e => hF _ (h3.tape.lt h0 a e))⟩
end
/-- the zero polynomials' values at a point -/
def zval (rt tape : List UInt8) (T n : Nat) (x : UInt8) : List UInt8 := (List.range n).map fun k => GfM.mul (PolyM.ev rt x) (PolyM.ev (take_ T tape k) x)
theorem zval_len (rt tape : List UInt8) (T n : Nat) (x : UInt8) : (zval rt tape T n x).length = n := by simp [zval]
theorem zval_share (p : P) (tape : List UInt8) (n : Nat) (i : Int) : zval (PolyM.proot p.secrets) tape p.T.toNat n (point i) = share (zpolysTo p tape n) i := by
  unfold zval share zpolysTo
  rw [List.map_map]
  refine List.map_congr_left fun k _ => ?_
  show _ = PolyM.ev (zpoly p _) _
  unfold zpoly
  rw [PolyM.ev_pmul]

set_option maxHeartbeats 2000000 in
theorem tell_any (gf gr gn gt gp b0 : Nat) (Y A : Option Addr) (rt tape : List UInt8) (dY c n : Nat) (p : P) (pt : UInt8) (w : World) (h : ZA w gf gr gn gt gp b0 Y A rt tape dY c n p) (hM : p.May) (hn : n ≤ 240) (hrl : rt.length ≤ 1048576)
    (hc : tape.length ≤ c) (_hc2 : c ≤ maxLen) (hl : n * p.T.toNat ≤ tape.length) :
    Calls Try.prog 103 #[.int .u8 (pt.toNat : Nat), .pointer (some ⟨gf, 0, none⟩), .pointer (some ⟨gr, 0, none⟩), .pointer (some ⟨gn, 0, none⟩), .pointer (some ⟨gt, 0, none⟩), .pointer (some ⟨gp, 0, none⟩)] w (RetNew w (zval rt tape p.T.toNat n pt)) := by
  obtain ⟨t0, ht0⟩ : ∃ t0, t0 = p.T.toNat := ⟨_, rfl⟩
  have hM' := hM
  unfold P.May at hM'
  have ht1 : 1 ≤ t0 := by omega
  have ht2 : t0 ≤ 256 := by omega
  have hpT : p.T = (t0 : Int) := by omega
  have hV : (∀ V, ZA V gf gr gn gt gp b0 Y A rt tape dY c n p → V.cell? ⟨gp, 1, none⟩ = some (.int .i64 (t0 : Nat))) := fun V h => by rw [← hpT]; exact h.six.c1
  rw [← ht0] at hl ⊢
  clear hM hM' hpT ht0
  obtain ⟨out, hout⟩ : ∃ out, out = zval rt tape t0 n pt := ⟨_, rfl⟩
  have hol : out.length = n := by rw [hout, zval_len]
  obtain ⟨fac, hfac⟩ : ∃ fac, fac = PolyM.ev rt pt := ⟨_, rfl⟩
  have hst : ∀ i, (hi : i < n) → (fillTo 0 out i).set i (GfM.mul fac (PolyM.ev (take_ t0 tape i) pt)) = fillTo 0 out (i + 1) := fun i hi => by
    have := fillTo_succ 0 out (k := i) (by omega)
    rw [← this]; congr 1
    subst hout
    unfold zval; rw [List.getElem_map, List.getElem_range, hfac]
  have hfl : ∀ i, i ≤ n → (fillTo 0 out i).length = n := fun i hi => by rw [fillTo_len 0 out (by omega), hol]
  have hf0 : fillTo 0 out 0 = List.replicate n 0 := by rw [fillTo_zero, hol]
  have hfd : fillTo 0 out n = out := by rw [← hol, fillTo_done]
  have hmk := fun W => make_u8 n (by omega) W
  have hF := fun V (ht : Gf.Tab V b0) (h : BytesAt V Y rt) => Poly.eval_any b0 Y rt dY pt V ht h (by omega)
  rw [← hfac] at hF
  rw [← hout]
  have cf := h.f; have cr := h.r; have cn := h.n
  have HV := Lib.hid h; have HC1 := Lib.hid hV; have HST := Lib.hid hst; have HFL := Lib.hid hfl; have HF0 := Lib.hid hf0; have HFD := Lib.hid hfd; have HF := Lib.hid hF; have HOL := Lib.hid hol
  clear h hst hfl hf0 hfd hF hol hout hfac hV
  go_enter Try.func103, Try.ntmps103
  go_wp2_with fail
  refine (HF.out w HV.out.tab HV.out.ys).mono ?_
  rintro e w1 ⟨rfl, hq⟩
  have hb1 := bquiet hq
  have cn1 := (HV.out.below hb1).n
  have HV1 := Lib.hid (HV.out.below hb1); have HB1 := Lib.hid hb1
  clear hq hb1 cf cr cn
  go_wp2_with fail
  clear hmk cn1
  go_loopw [20] (fun i wr => ∃ j : Nat, j ≤ n ∧ i = .int .i64 j ∧ Row wr w1.heap.size (fillTo 0 out j) ∧ Below w1.heap.size w1 wr)
    (fun i _ => n - (intOf i).toNat)
  case atStart => exact ⟨0, Nat.zero_le _, rfl, by rw [HF0.out]; exact Row.new _ _, balloc _ _⟩
  case round =>
    obtain ⟨j, hj, rfl, hr, hb⟩ := hrel
    rename World => wr
    by_cases hlt : j < n
    · have HV2 := Lib.hid (HV1.out.below hb)
      have hs := HST.out j hlt
      have hkn : (j + 1) * t0 ≤ tape.length := Nat.le_trans (Nat.mul_le_mul_right t0 hlt) hl
      obtain ⟨x, hx⟩ : ∃ x, x = j * t0 := ⟨_, rfl⟩
      obtain ⟨zz, hzz0⟩ : ∃ zz, zz = x + t0 := ⟨_, rfl⟩
      have hzz : (j + 1) * t0 = zz := by rw [Nat.succ_mul, hzz0, hx]
      rw [hzz] at hkn
      have hkt : j * t0 ≤ 240 * 256 := Nat.mul_le_mul (by omega) (by omega)
      have htk := take_len t0 tape j (by rw [hzz]; exact hkn)
      have hB2 : BytesAt wr A tape := HV2.out.tape
      obtain ⟨b2, o2, rfl, hc0⟩ := hB2 0 (by omega)
      clear hc0
      have hdr : BytesAt wr (some ⟨b2, o2 + x, none⟩) (take_ t0 tape j) := by unfold take_; rw [← hx]; exact (hB2.drop x).take t0
      have i1 : ((j : Int) * (t0 : Int)) = (x : Int) := by rw [← Int.natCast_mul, ← hx]
      have i2 : IntKind.i64.wrap (x : Int) = (x : Int) := IntWalk.i64_in _ (by omega)
      have i3 : IntKind.i64.wrap ((j : Int) + 1) = (j : Int) + 1 := IntWalk.i64_in _ (by omega)
      have i4 : (((j : Int) + 1) * (t0 : Int)) = (zz : Int) := by rw [← hzz, Int.natCast_mul]; rfl
      have i5 : IntKind.i64.wrap (zz : Int) = (zz : Int) := IntWalk.i64_in _ (by omega)
      have j1 : x ≤ zz := by omega
      have j2 : zz ≤ tape.length := hkn
      have j3 : zz ≤ c := by omega
      have j4 : ¬ c = x := by omega
      have j5 : zz - x = t0 := by omega
      have hE := fun V (ht : Gf.Tab V b0) (h : BytesAt V (some ⟨b2, o2 + x, none⟩) (take_ t0 tape j)) => Poly.eval_any b0 _ (take_ t0 tape j) (c - x) pt V ht h (by rw [htk]; omega)
      rw [htk] at hE
      obtain ⟨y, hy⟩ : ∃ y, y = PolyM.ev (take_ t0 tape j) pt := ⟨_, rfl⟩
      rw [← hy] at hE hs
      have hMm := fun V (ht : Gf.Tab V b0) => Gf.mul_any b0 fac y V ht
      obtain ⟨z, hz⟩ : ∃ z, z = GfM.mul fac y := ⟨_, rfl⟩
      rw [← hz] at hMm hs
      have HDR := Lib.hid hdr; have HE := Lib.hid hE; have HM := Lib.hid hMm; have HS := Lib.hid hs
      have hlen := HFL.out j hj
      obtain ⟨u, hcc⟩ : ∃ u, wr.cell? ⟨w1.heap.size, j, none⟩ = some u := ⟨_, hr.cell j (by rw [hlen]; exact hlt)⟩
      have hf := hr.frozen j
      have hzl := hr.lt
      have HR := Lib.hid hr; have HB := Lib.hid hb; have HCC := Lib.hid hcc; have HFF := Lib.hid hf
      have ct := HV2.out.t
      have ce := HC1.out wr HV2.out
      clear hdr hE hMm hs hy hz htk hx hzz0 hzz hkt hB2 hlen hcc hf hr hb
      go_wp2_with fail
      clear ct ce i1 i2 i3 i4 i5 j1 j2 j3 j4 j5
      --FLOW--
      refine Drawn.wp_region_flowT 10 [Drawn.SP.is (.slice (some ⟨w1.heap.size, 0, none⟩) n n), Drawn.SP.is (.int .i64 (j : Nat)), Drawn.SP.is (.pointer (some ⟨b0, 0, none⟩)), Drawn.SP.is (.int .u8 (fac.toNat : Nat)), Drawn.SP.is (.pointer (some ⟨b0, 0, none⟩)), Drawn.SP.is (.slice (some ⟨b2, o2 + x, none⟩) t0 (c - x)), Drawn.SP.is (.int .u8 (pt.toNat : Nat)), Drawn.SP.is (.int .u8 (y.toNat : Nat)), Drawn.SP.is (.int .u8 (z.toNat : Nat)), Drawn.SP.is (.pointer (some ⟨w1.heap.size, j, none⟩))] (by kernel_rfl) (by kernel_rfl) ?_ ?_
      · intro i hi a w2 hb hev hdep
        rcases (show i = 0 ∨ i = 1 ∨ i = 2 ∨ i = 3 ∨ i = 4 ∨ i = 5 ∨ i = 6 ∨ i = 7 ∨ i = 8 ∨ i = 9 by omega) with rfl | rfl | rfl | rfl | rfl | rfl | rfl | rfl | rfl | rfl
        · have e9 : a.tmps[9]?.getD undef = .slice (some ⟨w1.heap.size, 0, none⟩) n n := hev 9 rfl
          refine Drawn.wpOp_flow 34 rfl rfl rfl ?_
          clear hev hdep hb
          go_simp
          exact ⟨_, rfl, rfl, Below.refl _ _⟩
        · have e10 : a.tmps[10]?.getD undef = .int .i64 (j : Nat) := hev 10 rfl
          refine Drawn.wpOp_flow 35 rfl rfl rfl ?_
          clear hev hdep hb
          go_simp
          exact ⟨_, rfl, rfl, Below.refl _ _⟩
        · have e1 : a.tmps[1]?.getD undef = .pointer (some ⟨gf, 0, none⟩) := hev 1 rfl
          refine Drawn.wpOp_flow 36 rfl rfl rfl ?_
          have k1 := (HV2.out.below hb).f
          clear hev hdep hb
          go_simp
          exact ⟨_, rfl, rfl, Below.refl _ _⟩
        · have e8 : a.tmps[8]?.getD undef = .int .u8 (fac.toNat : Nat) := hev 8 rfl
          refine Drawn.wpOp_flow 37 rfl rfl rfl ?_
          clear hev hdep hb
          go_simp
          exact ⟨_, rfl, rfl, Below.refl _ _⟩
        · have e1 : a.tmps[1]?.getD undef = .pointer (some ⟨gf, 0, none⟩) := hev 1 rfl
          refine Drawn.wpOp_flow 38 rfl rfl rfl ?_
          have k1 := (HV2.out.below hb).f
          clear hev hdep hb
          go_simp
          exact ⟨_, rfl, rfl, Below.refl _ _⟩
        · have e11 : a.tmps[11]?.getD undef = .slice (some ⟨b2, o2 + x, none⟩) t0 (c - x) := hev 11 rfl
          refine Drawn.wpOp_flow 39 rfl rfl rfl ?_
          clear hev hdep hb
          go_simp
          exact ⟨_, rfl, rfl, Below.refl _ _⟩
        · have e0 : a.tmps[0]?.getD undef = .int .u8 (pt.toNat : Nat) := hev 0 rfl
          refine Drawn.wpOp_flow 40 rfl rfl rfl ?_
          clear hev hdep hb
          go_simp
          exact ⟨_, rfl, rfl, Below.refl _ _⟩
        · have d4 : a.tmps[38]?.getD undef = .pointer (some ⟨b0, 0, none⟩) := hdep 4 rfl
          have d5 : a.tmps[39]?.getD undef = .slice (some ⟨b2, o2 + x, none⟩) t0 (c - x) := hdep 5 rfl
          have d6 : a.tmps[40]?.getD undef = .int .u8 (pt.toNat : Nat) := hdep 6 rfl
          refine Drawn.wpOp_flow 41 rfl rfl rfl ?_
          clear hev hdep
          have C := HE.out w2 (HV2.out.below hb).tab (HDR.out.below hb)
          clear hb
          go_simp
          refine C.mono ?_
          rintro e w' ⟨rfl, nd', rfl⟩
          exact ⟨_, rfl, rfl, bdraw _ _⟩
        · have d2 : a.tmps[36]?.getD undef = .pointer (some ⟨b0, 0, none⟩) := hdep 2 rfl
          have d3 : a.tmps[37]?.getD undef = .int .u8 (fac.toNat : Nat) := hdep 3 rfl
          have d7 : a.tmps[41]?.getD undef = .int .u8 (y.toNat : Nat) := hdep 7 rfl
          refine Drawn.wpOp_flow 42 rfl rfl rfl ?_
          clear hev hdep
          have C := HM.out w2 (HV2.out.below hb).tab
          clear hb
          go_simp
          refine C.mono ?_
          rintro e w' ⟨rfl, nd', rfl⟩
          exact ⟨_, rfl, rfl, bdraw _ _⟩
        · have d0 : a.tmps[34]?.getD undef = .slice (some ⟨w1.heap.size, 0, none⟩) n n := hdep 0 rfl
          have d1 : a.tmps[35]?.getD undef = .int .i64 (j : Nat) := hdep 1 rfl
          refine Drawn.wpOp_flow 43 rfl rfl rfl ?_
          clear hev hdep hb
          go_simp
          exact ⟨_, rfl, rfl, Below.refl _ _⟩
      · intro xq w2 hb hxq
        have vq0 : xq 0 = .slice (some ⟨w1.heap.size, 0, none⟩) n n := hxq 0 (by omega)
        have vq1 : xq 1 = .int .i64 (j : Nat) := hxq 1 (by omega)
        have vq2 : xq 2 = .pointer (some ⟨b0, 0, none⟩) := hxq 2 (by omega)
        have vq3 : xq 3 = .int .u8 (fac.toNat : Nat) := hxq 3 (by omega)
        have vq4 : xq 4 = .pointer (some ⟨b0, 0, none⟩) := hxq 4 (by omega)
        have vq5 : xq 5 = .slice (some ⟨b2, o2 + x, none⟩) t0 (c - x) := hxq 5 (by omega)
        have vq6 : xq 6 = .int .u8 (pt.toNat : Nat) := hxq 6 (by omega)
        have vq7 : xq 7 = .int .u8 (y.toNat : Nat) := hxq 7 (by omega)
        have vq8 : xq 8 = .int .u8 (z.toNat : Nat) := hxq 8 (by omega)
        have vq9 : xq 9 = .pointer (some ⟨w1.heap.size, j, none⟩) := hxq 9 (by omega)
        show wpList _ _ _ _ (Drawn.acts _ [(43, some (xq 9)), (42, some (xq 8)), (41, some (xq 7)), (40, some (xq 6)), (39, some (xq 5)), (38, some (xq 4)), (37, some (xq 3)), (36, some (xq 2)), (35, some (xq 1)), (34, some (xq 0))]) _
        rw [vq0, vq1, vq2, vq3, vq4, vq5, vq6, vq7, vq8, vq9]
        clear hxq vq0 vq1 vq2 vq3 vq4 vq5 vq6 vq7 vq8 vq9
        clear xq
        simp only [Drawn.acts, List.drop_succ_cons, List.drop_zero]
        go_simp
      --END--
        have hcj := (hb.cell (p := ⟨w1.heap.size, j, none⟩) hzl).trans HCC.out
        have hfj : w2.frozen? ⟨w1.heap.size, j, none⟩ = false := (World.frozen?_of_block (w := wr) (hb.block w1.heap.size hzl)).trans HFF.out
        have HB2 := Lib.hid hb
        clear hb
        go_wp2
        go_roundw
        case rel =>
          refine ⟨j + 1, by omega, by go_num, ?_, ?_⟩
          · rw [← HS.out]
            exact Row.set ((HB2.out.block _ hzl).trans HR.out) j _
          · exact (bstep HB.out HB2.out).setCell (Nat.le_refl _) _
        case measure => simp [intOf] <;> omega
    · obtain rfl : j = n := by omega
      have HR := Lib.hid hr
      clear hr
      go_wp2
      go_ret
      have hr := HR.out
      rw [HFD.out] at hr
      have := RetNew.of_row hr (bstep HB1.out hb) (by rw [HOL.out]; unfold maxLen; omega) HB1.out.size
      rw [HOL.out] at this
      exact this

theorem boxes4 (w : World) (v0 v2 v3 : Value) (o1 : Obj) (t0 t2 t3 : TypeId) :
    ((((w.alloc (.cells #[v0] t0)).alloc o1).alloc (.cells #[v2] t2)).alloc (.cells #[v3] t3)).cell? ⟨w.heap.size, 0, none⟩ = some v0 ∧
    ((((w.alloc (.cells #[v0] t0)).alloc o1).alloc (.cells #[v2] t2)).alloc (.cells #[v3] t3)).cell? ⟨w.heap.size + 1 + 1, 0, none⟩ = some v2 ∧
    ((((w.alloc (.cells #[v0] t0)).alloc o1).alloc (.cells #[v2] t2)).alloc (.cells #[v3] t3)).cell? ⟨w.heap.size + 1 + 1 + 1, 0, none⟩ = some v3 ∧
    Below w.heap.size w ((((w.alloc (.cells #[v0] t0)).alloc o1).alloc (.cells #[v2] t2)).alloc (.cells #[v3] t3)) := by
  have e : ∀ (W : World) (v : Value) (t : TypeId), (W.alloc (.cells #[v] t)).cell? ⟨W.heap.size, 0, none⟩ = some v := fun W v t => by simp
  have a0 := e w v0 t0
  have a2 := e ((w.alloc (.cells #[v0] t0)).alloc o1) v2 t2
  have a3 := e (((w.alloc (.cells #[v0] t0)).alloc o1).alloc (.cells #[v2] t2)) v3 t3
  have b1 := balloc w (.cells #[v0] t0)
  have b2 := balloc (w.alloc (.cells #[v0] t0)) o1
  have b3 := balloc ((w.alloc (.cells #[v0] t0)).alloc o1) (.cells #[v2] t2)
  have b4 := balloc (((w.alloc (.cells #[v0] t0)).alloc o1).alloc (.cells #[v2] t2)) (.cells #[v3] t3)
  rw [World.size_alloc, World.size_alloc] at a2
  rw [World.size_alloc, World.size_alloc, World.size_alloc] at a3
  exact ⟨((bstep b2 (bstep b3 b4)).cell (cell_lt a0)).trans a0, (b4.cell (cell_lt a2)).trans a2, a3, bstep b1 (bstep b2 (bstep b3 b4))⟩

def SP.secr (l : List UInt8) : Drawn.SP := ⟨fun v w => ∃ X d, v = .slice X l.length d ∧ BytesAt w X l, fun _ _ _ h hb => by
  obtain ⟨X, d, h1, h2⟩ := h; exact ⟨X, d, h1, h2.below hb⟩⟩
def SP.rootN (l : List UInt8) (n : Nat) : Drawn.SP := ⟨fun v w => ∃ X d, v = .slice X n d ∧ n ≤ d ∧ d ≤ maxLen ∧ BytesAt w X l, fun _ _ _ h hb => by
  obtain ⟨X, d, h1, h2, h3, h4⟩ := h; exact ⟨X, d, h1, h2, h3, h4.below hb⟩⟩
/-- a box of one slice, none yet -/
def boxAt (w : World) (g : Nat) : Prop := w.heap[g]? = some (.cells #[.slice none 0 0] 24 (0, 0))
def SP.box (B : Nat) : Drawn.SP := ⟨fun v w => ∃ g, v = .pointer (some ⟨g, 0, none⟩) ∧ boxAt w g ∧ B ≤ g, fun _ _ _ h hb => by
  obtain ⟨g, h1, h2, h3⟩ := h
  refine ⟨g, h1, (hb.block g ?_).trans h2, h3⟩
  exact (Array.getElem?_eq_some_iff.1 h2).1⟩
theorem boxAt.new (w : World) : boxAt (w.alloc (.cells #[.slice none 0 0] 24)) w.heap.size := heap_alloc_new w _
theorem boxAt.cell {w : World} {g : Nat} (h : boxAt w g) : w.cell? ⟨g, 0, none⟩ = some (.slice none 0 0) := by
  rw [cell_of_row w g 0 _ 24 (0, 0) h]; rfl
theorem boxAt.frozen {w : World} {g : Nat} (h : boxAt w g) : w.frozen? ⟨g, 0, none⟩ = false := by unfold boxAt at h; simp [World.frozen?, h]
theorem boxAt.far {w : World} {g : Nat} (h : boxAt w g) {A : Option Addr} {l : List UInt8} (hA : BytesAt w A l) (h0 : 0 < l.length) : ∀ a, A = some a → a.block ≠ g := fun a e e' => by
  obtain ⟨b, o, e2, hc⟩ := hA 0 h0
  subst e
  injection e2 with e2
  subst e2
  simp only at e'
  subst e'
  rw [cell_of_row w b (o + 0) _ 24 (0, 0) h] at hc
  rcases Nat.eq_zero_or_pos o with ho | ho
  · subst ho; simp at hc
  · rw [Array.getElem?_eq_none (by simp; omega)] at hc; cases hc

set_option maxHeartbeats 4000000 in
theorem sharesOf_any (b0 : Nat) (p : P) (n : Nat) (A : Option Addr) (tape : List UInt8) (c : Nat) (w : World) (hp : p.In) (hM : p.May) (ht : Gf.Tab w b0) (h : BytesAt w A tape) :
    Calls Try.prog 65 #[.pointer (some ⟨b0, 0, none⟩), p.val, .int .i64 (n : Nat), .slice A tape.length c] w fun e w' =>
      ∃ gf gr gn gt gp Y dY, e = .returned (.func (.func 103) #[] #[.pointer (some ⟨gf, 0, none⟩), .pointer (some ⟨gr, 0, none⟩), .pointer (some ⟨gn, 0, none⟩), .pointer (some ⟨gt, 0, none⟩), .pointer (some ⟨gp, 0, none⟩)]) ∧
        ZA w' gf gr gn gt gp b0 Y A (PolyM.proot p.secrets) tape dY c n p ∧ Below w.heap.size w w' := by
  have hM' := hM
  unfold P.May at hM'
  have hsec : p.secretsA = p.secrets := by unfold P.secretsA; rw [P.right_yes hM]; rfl
  have hS := fun V => Plan.secrets_any p V hp
  rw [hsec] at hS
  obtain ⟨sec, hse⟩ : ∃ sec, sec = p.secrets := ⟨_, rfl⟩
  have hsl : sec.length = p.L.toNat := by rw [hse, secrets_len]
  rw [← hse] at hS ⊢
  have hR := fun X d V (h1 : Gf.Tab V b0) (h2 : BytesAt V X sec) => Poly.root_new b0 X sec d V h1 h2 (by omega)
  obtain ⟨rt, hrt⟩ : ∃ rt, rt = PolyM.proot sec := ⟨_, rfl⟩
  have hrl : 0 < rt.length := by rw [hrt, PolyM.proot_len]; omega
  rw [← hrt] at hR ⊢
  obtain ⟨tl, htl⟩ : ∃ tl, tl = tape.length := ⟨_, rfl⟩
  have HS := Lib.hid hS; have HR := Lib.hid hR; have HT := Lib.hid ht; have H := Lib.hid h; have HRL := Lib.hid hrl; have HTL := Lib.hid htl
  rw [← htl]
  have HX := Lib.hid (Six.new (w.alloc (.cells #[.pointer (some ⟨b0, 0, none⟩)] 31)) p)
  clear hS hR ht h hrl hsl hse hrt hsec hM hM' hp htl
  obtain ⟨pN, pT, pL, pW, pS, pR⟩ := p
  unfold P.val at HS ⊢
  go_enter Try.func65, Try.ntmps65
  go_wp2_with fail
  obtain ⟨f0, f2, f3, hb0⟩ := boxes4 w (.pointer (some ⟨b0, 0, none⟩)) (.int .i64 (n : Nat)) (.slice A tl c) (.cells #[.int .i64 pN, .int .i64 pT, .int .i64 pL, .int .i64 pW, .int .i64 pS, .int .i64 pR] 23) 31 3 24
  have hx0 := ((HX.out.below (balloc _ (.cells #[.int .i64 (n : Nat)] 3))).below (balloc _ (.cells #[.slice A tl c] 24)))
  rw [show (w.alloc (.cells #[.pointer (some ⟨b0, 0, none⟩)] 31)).heap.size = w.heap.size + 1 from by simp] at hx0
  clear HX
  generalize (((w.alloc (.cells #[.pointer (some ⟨b0, 0, none⟩)] 31)).alloc (.cells #[.int .i64 pN, .int .i64 pT, .int .i64 pL, .int .i64 pW, .int .i64 pS, .int .i64 pR] 23)).alloc (.cells #[.int .i64 (n : Nat)] 3)).alloc (.cells #[.slice A tl c] 24) = w0 at *
  have F0 := Lib.hid f0; have F2 := Lib.hid f2; have F3 := Lib.hid f3; have HX := Lib.hid hx0; have HB0 := Lib.hid hb0
  clear f0 f2 f3 hx0 hb0
  --FLOW2--
  refine Drawn.wp_region_flowT 5 [Drawn.SP.is (.pointer (some ⟨b0, 0, none⟩)), Drawn.SP.is (.agg #[.int .i64 pN, .int .i64 pT, .int .i64 pL, .int .i64 pW, .int .i64 pS, .int .i64 pR]), SP.secr sec, SP.rootN rt rt.length, SP.box w0.heap.size] (by kernel_rfl) (by kernel_rfl) ?_ ?_
  · intro i hi a w1 hb hev hdep
    rcases (show i = 0 ∨ i = 1 ∨ i = 2 ∨ i = 3 ∨ i = 4 by omega) with rfl | rfl | rfl | rfl | rfl
    · have e4 : a.tmps[4]?.getD undef = .pointer (some ⟨w.heap.size, 0, none⟩) := hev 4 rfl
      refine Drawn.wpOp_flow 10 rfl rfl rfl ?_
      have k1 := (hb.cell (p := ⟨w.heap.size, 0, none⟩) (cell_lt F0.out)).trans F0.out
      have s0 := HX.out.below hb
      have k2 := s0.c0; have k3 := s0.c1; have k4 := s0.c2; have k5 := s0.c3; have k6 := s0.c4; have k7 := s0.c5
      simp only at k2 k3 k4 k5 k6 k7
      clear hev hdep hb
      go_simp
      exact ⟨_, rfl, rfl, Below.refl _ _⟩
    · have e5 : a.tmps[5]?.getD undef = .pointer (some ⟨w.heap.size + 1, 0, none⟩) := hev 5 rfl
      refine Drawn.wpOp_flow 11 rfl rfl rfl ?_
      have k1 := (hb.cell (p := ⟨w.heap.size, 0, none⟩) (cell_lt F0.out)).trans F0.out
      have s0 := HX.out.below hb
      have k2 := s0.c0; have k3 := s0.c1; have k4 := s0.c2; have k5 := s0.c3; have k6 := s0.c4; have k7 := s0.c5
      simp only at k2 k3 k4 k5 k6 k7
      clear hev hdep hb
      go_simp
      exact ⟨_, rfl, rfl, Below.refl _ _⟩
    · have d1 : a.tmps[11]?.getD undef = .agg #[.int .i64 pN, .int .i64 pT, .int .i64 pL, .int .i64 pW, .int .i64 pS, .int .i64 pR] := hdep 1 rfl
      refine Drawn.wpOp_flow 12 rfl rfl rfl ?_
      clear hev hdep
      have C := HS.out w1
      clear hb
      go_simp
      refine C.mono ?_
      rintro e w' ⟨X, d, rfl, _, _, q, hb', _⟩
      exact ⟨_, rfl, ⟨X, d, rfl, q⟩, hb'⟩
    · have d0 : a.tmps[10]?.getD undef = .pointer (some ⟨b0, 0, none⟩) := hdep 0 rfl
      obtain ⟨Xd2, cd2, d2, qd2⟩ : (SP.secr sec).p (a.tmps[12]?.getD undef) w1 := hdep 2 rfl
      refine Drawn.wpOp_flow 13 rfl rfl rfl ?_
      clear hev hdep
      have C := HR.out Xd2 cd2 w1 (HT.out.below (bstep HB0.out hb)) qd2
      clear hb
      go_simp
      refine C.mono ?_
      rintro e w' ⟨Y, d, rfl, q1, q2, q, hb', _⟩
      exact ⟨_, rfl, ⟨Y, d, rfl, q1, q2, q⟩, hb'⟩
    · refine Drawn.wpOp_flow 9 rfl rfl rfl ?_
      clear hev hdep
      have hz := hb.size
      clear hb
      go_simp
      exact ⟨_, rfl, ⟨_, rfl, boxAt.new _, hz⟩, balloc _ _⟩
  · intro xq w1 hb hxq
    have vq0 : xq 0 = .pointer (some ⟨b0, 0, none⟩) := hxq 0 (by omega)
    have vq1 : xq 1 = .agg #[.int .i64 pN, .int .i64 pT, .int .i64 pL, .int .i64 pW, .int .i64 pS, .int .i64 pR] := hxq 1 (by omega)
    obtain ⟨Yvq3, cvq3, vq3, pvq3, rvq3, qvq3⟩ : (SP.rootN rt rt.length).p (xq 3) w1 := hxq 3 (by omega)
    obtain ⟨gvq4, vq4, cvq4, fvq4⟩ : (SP.box w0.heap.size).p (xq 4) w1 := hxq 4 (by omega)
    show wpList _ _ _ _ (Drawn.acts _ [(9, some (xq 4)), (13, some (xq 3)), (12, some (xq 2)), (11, some (xq 1)), (10, some (xq 0))]) _
    rw [vq0, vq1, vq3, vq4]
    clear hxq vq0 vq1 vq3 vq4
    generalize xq 2 = yq2
    clear xq
    simp only [Drawn.acts, List.drop_succ_cons, List.drop_zero]
    go_simp
  --END--
    have cg := cvq4.cell
    have fg := cvq4.frozen
    have hfar := cvq4.far qvq3 HRL.out
    have hz := cell_lt F3.out
    have hz0 := HT.out.lt
    simp only at hz
    have HFAR := Lib.hid hfar; have HQ := Lib.hid qvq3; have HB := Lib.hid hb; have HC := Lib.hid cg
    clear hfar qvq3 hb cvq4
    go_wp2
    go_ret
    have q : Keeps (fun k => k = gvq4) w1 (w1.setCell ⟨gvq4, 0, none⟩ (.slice Yvq3 rt.length cvq3)) := Keeps.set _ _ _ _ rfl
    have hbw := bstep HB0.out HB.out
    have s0 := HX.out.below HB.out
    refine ⟨w.heap.size, gvq4, w.heap.size + 1 + 1, w.heap.size + 1 + 1 + 1, w.heap.size + 1, Yvq3, cvq3, rfl, ⟨?_, World.cell?_setCell_same _ _ _ HC.out, ?_, ?_, ?_, ?_, HQ.out.far _ _ HFAR.out, ?_⟩, hbw.setCell (by simp only; omega) _⟩
    · exact q.cell ((HB.out.cell (p := ⟨w.heap.size, 0, none⟩) (cell_lt F0.out)).trans F0.out) (by simp only; omega)
    · exact q.cell ((HB.out.cell (p := ⟨w.heap.size + 1 + 1, 0, none⟩) (cell_lt F2.out)).trans F2.out) (by simp only; omega)
    · rw [← HTL.out]; exact q.cell ((HB.out.cell (p := ⟨w.heap.size + 1 + 1 + 1, 0, none⟩) (cell_lt F3.out)).trans F3.out) (by simp only; omega)
    · exact ⟨q.cell s0.c0 (by simp only; omega), q.cell s0.c1 (by simp only; omega), q.cell s0.c2 (by simp only; omega), q.cell s0.c3 (by simp only; omega), q.cell s0.c4 (by simp only; omega), q.cell s0.c5 (by simp only; omega)⟩
    · exact q.tab (HT.out.below hbw) (by omega)
    · exact q.bytes' (H.out.below hbw) (fun h0 a e => by have := H.out.lt h0 a e; omega)
end Go.Proofs.Ytompeiemioeohaa.Zero

/- the contracts of package zero -/
set_option maxRecDepth 100000
namespace Go.Proofs.Ytompeiemioeohaa.Zero
open Go.RowKit PlanM StripeM DealM RebM ZeroM Plan Stripe

theorem zero_arg (b0 : Nat) (p : P) (n : Int) (A : Option Addr) (tl : Nat) (c : Nat) (w : World) (hp : p.In) (hM : ¬ p.May) :
    Calls Try.prog 33 #[.pointer (some ⟨b0, 0, none⟩), p.val, .int .i64 n, .slice A tl c] w (RetRowsE w [] 1) := by
  have HS := Lib.hid (Six.new w p)
  have hb0 := Lib.hid (balloc w (.cells #[.int .i64 p.N, .int .i64 p.T, .int .i64 p.L, .int .i64 p.W, .int .i64 p.S, .int .i64 p.R] 23))
  have hR := fun V => Plan.right_any p V hp
  rw [P.right_no hM] at hR
  clear hM hp
  obtain ⟨pN, pT, pL, pW, pS, pR⟩ := p
  unfold P.val at hR ⊢
  simp only at HS hb0 hR ⊢
  have HR := Lib.hid hR
  clear hR
  go_enter Try.func33, Try.ntmps33
  go_wp2_with fail
  generalize w.alloc (.cells #[.int .i64 pN, .int .i64 pT, .int .i64 pL, .int .i64 pW, .int .i64 pS, .int .i64 pR] 23) = w0 at *
  have s0 := HS.out
  have c0 := s0.c0; have c1 := s0.c1; have c2 := s0.c2; have c3 := s0.c3; have c4 := s0.c4; have c5 := s0.c5
  simp only at c0 c1 c2 c3 c4 c5
  clear s0
  go_wp2_with fail
  refine (HR.out _).mono ?_
  rintro e w1 ⟨rfl, hb1⟩
  clear c0 c1 c2 c3 c4 c5
  go_wp2
  go_ret2
  exact ⟨none, 0, rfl, Nat.le_refl _, Nat.zero_le _, RowsAt.nil _ _, bstep hb0.out hb1, New.none w⟩

theorem zero_range (b0 : Nat) (p : P) (n : Int) (A : Option Addr) (tl : Nat) (c : Nat) (w : World) (hp : p.In) (hM : p.May) (hn : okN n = false) :
    Calls Try.prog 33 #[.pointer (some ⟨b0, 0, none⟩), p.val, .int .i64 n, .slice A tl c] w (RetRowsE w [] 2) := by
  have HS := Lib.hid (Six.new w p)
  have hb0 := Lib.hid (balloc w (.cells #[.int .i64 p.N, .int .i64 p.T, .int .i64 p.L, .int .i64 p.W, .int .i64 p.S, .int .i64 p.R] 23))
  have hR := fun V => Plan.right_any p V hp
  rw [P.right_yes hM] at hR
  have hK := fun V => mayBe_any n V
  rw [hn] at hK
  clear hM hp hn
  obtain ⟨pN, pT, pL, pW, pS, pR⟩ := p
  unfold P.val at hR ⊢
  simp only at HS hb0 hR ⊢
  have HR := Lib.hid hR; have HK := Lib.hid hK
  clear hR hK
  go_enter Try.func33, Try.ntmps33
  go_wp2_with fail
  generalize w.alloc (.cells #[.int .i64 pN, .int .i64 pT, .int .i64 pL, .int .i64 pW, .int .i64 pS, .int .i64 pR] 23) = w0 at *
  have s0 := HS.out
  have c0 := s0.c0; have c1 := s0.c1; have c2 := s0.c2; have c3 := s0.c3; have c4 := s0.c4; have c5 := s0.c5
  simp only at c0 c1 c2 c3 c4 c5
  clear s0
  go_wp2_with fail
  refine (HR.out _).mono ?_
  rintro e w1 ⟨rfl, hb1⟩
  clear c0 c1 c2 c3 c4 c5
  go_wp2_with fail
  refine (HK.out _).mono ?_
  rintro e w' ⟨rfl, rfl⟩
  go_wp2
  go_ret2
  exact ⟨none, 0, rfl, Nat.le_refl _, Nat.zero_le _, RowsAt.nil _ _, bstep hb0.out hb1, New.none w⟩

set_option maxHeartbeats 1000000 in
theorem zero_empty (b0 : Nat) (p : P) (n : Int) (A : Option Addr) (tl : Nat) (c : Nat) (w : World) (hp : p.In) (hM : p.May) (hn : okN n = true) (h0 : (tl : Int) < p.T * n) (_k : tl ≤ c) (_z : c ≤ maxLen) :
    Calls Try.prog 33 #[.pointer (some ⟨b0, 0, none⟩), p.val, .int .i64 n, .slice A tl c] w (RetRowsE w [] 12) := by
  have HS := Lib.hid (Six.new w p)
  have hb0 := Lib.hid (balloc w (.cells #[.int .i64 p.N, .int .i64 p.T, .int .i64 p.L, .int .i64 p.W, .int .i64 p.S, .int .i64 p.R] 23))
  have hR := fun V => Plan.right_any p V hp
  rw [P.right_yes hM] at hR
  have hK := fun V => mayBe_any n V
  rw [hn] at hK
  have hC := fun V => cost_may p n V hp hM
  rw [if_pos hn] at hC
  have hlt : decide ((tl : Int) < p.T * n) = true := decide_eq_true h0
  generalize p.T * n = co at *
  clear hM hp hn h0
  obtain ⟨pN, pT, pL, pW, pS, pR⟩ := p
  unfold P.val at hR hC ⊢
  simp only at HS hb0 hR hC ⊢
  have HR := Lib.hid hR; have HK := Lib.hid hK; have HC := Lib.hid hC
  clear hR hK hC
  go_enter Try.func33, Try.ntmps33
  go_wp2_with fail
  generalize w.alloc (.cells #[.int .i64 pN, .int .i64 pT, .int .i64 pL, .int .i64 pW, .int .i64 pS, .int .i64 pR] 23) = w0 at *
  have s0 := HS.out
  have c0 := s0.c0; have c1 := s0.c1; have c2 := s0.c2; have c3 := s0.c3; have c4 := s0.c4; have c5 := s0.c5
  simp only at c0 c1 c2 c3 c4 c5
  clear s0
  go_wp2_with fail
  refine (HR.out _).mono ?_
  rintro e w1 ⟨rfl, hb1⟩
  have s0 := HS.out.below hb1
  clear c0 c1 c2 c3 c4 c5
  go_wp2_with fail
  refine (HK.out _).mono ?_
  rintro e w' ⟨rfl, rfl⟩
  have c0 := s0.c0; have c1 := s0.c1; have c2 := s0.c2; have c3 := s0.c3; have c4 := s0.c4; have c5 := s0.c5
  simp only at c0 c1 c2 c3 c4 c5
  clear s0
  have HB1 := Lib.hid (bstep hb0.out hb1)
  clear hb1
  go_wp2_with fail
  refine (HC.out _).mono ?_
  rintro e w2 ⟨rfl, hb2⟩
  have HB2 := Lib.hid (bstep HB1.out hb2)
  clear hb2 c0 c1 c2 c3 c4 c5
  go_wp2
  go_ret2
  exact ⟨none, 0, rfl, Nat.le_refl _, Nat.zero_le _, RowsAt.nil _ _, HB2.out, New.none w⟩

theorem make_rows0 (cap : Nat) (hn : cap ≤ 1048576) (w : World) :
    (Instr.makeSlice 52 (.int .i64 0) (.int .i64 (cap : Int))).run Try.prog w = .ok (.slice (some ⟨w.heap.size, 0, none⟩) 0 cap) (w.alloc (.cells (nilRows cap).toArray 24)) := by
  obtain ⟨i0, hi, hz, hs, hb⟩ := sl_info'
  have hr := run_make (P := Try.prog) w 52 24 i0 _ Try.underlying52 hi hz .i64 .i64 0 cap (by omega) (by omega) (by rw [hb]; omega) (by omega)
  simp only [Int.toNat_natCast, Int.toNat_zero] at hr
  rw [hr, hs, Nat.mul_one]
  congr 2
  have : madeCells (Value.slice none 0 0).cells cap = (nilRows cap).toArray := by
    apply Array.ext'
    rw [show (Value.slice none 0 0).cells = #[.slice none 0 0] from rfl, toList_madeCells_one]
    simp [nilRows]
  rw [this]
theorem OwnM.room (w : World) (base cap : Nat) (hb : base ≤ w.heap.size) (hc : cap ≤ maxLen) : OwnM (w.alloc (.cells (nilRows cap).toArray 24)) base (.slice (some ⟨w.heap.size, 0, none⟩) 0 cap) [] := by
  refine ⟨[], ⟨by simp, .inr ⟨w.heap.size, cap, (nilRows cap).toArray, by simp, hb, heap_alloc_new w _, by simp, hc, by simp [nilRows], by simp⟩⟩, fun i hi => absurd hi (by simp)⟩

set_option maxHeartbeats 4000000 in
theorem zero_ok (b0 : Nat) (p : P) (n : Nat) (A : Option Addr) (tape : List UInt8) (c : Nat) (w : World) (hp : p.In) (hM : p.May) (hn : n ≤ 240) (ht : Gf.Tab w b0) (h : BytesAt w A tape) (h0 : ¬ (tape.length : Int) < p.T * (n : Int)) (k : tape.length ≤ c) (z : c ≤ maxLen) :
    Calls Try.prog 33 #[.pointer (some ⟨b0, 0, none⟩), p.val, .int .i64 (n : Nat), .slice A tape.length c] w (RetRowsE w (shares p (zpolysTo p tape n)) 0) := by
  have HS := Lib.hid (Six.new w p)
  have hb0 := Lib.hid (balloc w (.cells #[.int .i64 p.N, .int .i64 p.T, .int .i64 p.L, .int .i64 p.W, .int .i64 p.S, .int .i64 p.R] 23))
  have hR := fun V => Plan.right_any p V hp
  rw [P.right_yes hM] at hR
  have hok : okN n = true := decide_eq_true (by omega)
  have hK := fun V => mayBe_any n V
  rw [hok] at hK
  have hC := fun V => cost_may p n V hp hM
  rw [if_pos hok] at hC
  have hM' := hM
  unfold P.May at hM'
  have hcost : n * p.T.toNat ≤ tape.length := by
    have e : ((p.T.toNat : Nat) : Int) = p.T := by omega
    rw [← e, ← Int.natCast_mul] at h0
    rw [Nat.mul_comm]; omega
  have hlt : decide ((tape.length : Int) < p.T * (n : Int)) = false := decide_eq_false h0
  generalize p.T * (n : Int) = co at *
  have hSh := fun V (ht : Gf.Tab V b0) (h : BytesAt V A tape) => sharesOf_any b0 p n A tape c V hp hM ht h
  have hrl : (PolyM.proot p.secrets).length ≤ 1048576 := by rw [PolyM.proot_len, secrets_len]; omega
  have hT := fun gf gr gn gt gp Y dY pt V (h : ZA V gf gr gn gt gp b0 Y A (PolyM.proot p.secrets) tape dY c n p) => tell_any gf gr gn gt gp b0 Y A (PolyM.proot p.secrets) tape dY c n p pt V h hM hn hrl k z hcost
  have hA := fun V => Plan.all_any p V hp
  obtain ⟨N, hN⟩ : ∃ N : Nat, p.N = (N : Int) := ⟨p.N.toNat, by omega⟩
  have haN : p.allA = all N := by unfold P.allA; rw [P.right_yes hM, if_pos rfl, hN, Int.toNat_natCast]
  rw [haN] at hA
  have hN2 : N ≤ 256 := by omega
  have hal : (all N).length = N := all_len N
  have hai : ∀ x ∈ all N, In64 x := fun x hx => by
    unfold all at hx
    obtain ⟨j, hj, rfl⟩ := List.mem_map.mp hx
    have := List.mem_range.mp hj
    unfold In64; omega
  have hP := fun X d V (h : IntsAt V X (all N)) (h1 : N ≤ d) (h2 : d ≤ maxLen) => Plan.points_any X (all N) d V h (by rw [hal]; omega) (by rw [hal]; exact h1) h2 hai
  rw [hal] at hP
  obtain ⟨out, hout⟩ : ∃ out : UInt8 → List UInt8, out = zval (PolyM.proot p.secrets) tape p.T.toNat n := ⟨_, rfl⟩
  have hol : ∀ x, (out x).length = n := fun x => by rw [hout, zval_len]
  have hres : shares p (zpolysTo p tape n) = (points (all N)).map out := by
    unfold shares points
    rw [hN, Int.toNat_natCast, List.map_map, hout]
    refine List.map_congr_left fun i _ => ?_
    show _ = zval _ _ _ _ (point i)
    rw [zval_share]
  rw [hres]
  simp only [← hout] at hT
  obtain ⟨pts, hpts⟩ : ∃ pts, pts = points (all N) := ⟨_, rfl⟩
  have hptl : pts.length = N := by rw [hpts, points_len, hal]
  rw [← hpts] at hP ⊢
  generalize PolyM.proot p.secrets = rt at *
  have hmk := fun W => make_rows0 N (by omega) W
  have HR := Lib.hid hR; have HK := Lib.hid hK; have HC := Lib.hid hC; have HSh := Lib.hid hSh; have HT := Lib.hid hT; have HA := Lib.hid hA; have HP := Lib.hid hP; have HOL := Lib.hid hol; have HPT := Lib.hid hptl; have HTB := Lib.hid ht; have HTP := Lib.hid h; have HAL := Lib.hid hal
  obtain ⟨tl, htl⟩ : ∃ tl, tl = tape.length := ⟨_, rfl⟩
  rw [← htl] at hlt k HSh ⊢
  clear hR hK hC hSh hT hA hP hol hptl ht h hal hout hpts hres hcost h0 htl hok hai haN hrl hM hp
  obtain ⟨pN, pT, pL, pW, pS, pR⟩ := p
  simp only at hN hM'
  subst hN
  unfold P.val at HR HC HSh HA ⊢
  go_enter Try.func33, Try.ntmps33
  go_wp2_with fail
  generalize w.alloc (.cells #[.int .i64 (N : Nat), .int .i64 pT, .int .i64 pL, .int .i64 pW, .int .i64 pS, .int .i64 pR] 23) = w0 at *
  have s0 := HS.out
  have c0 := s0.c0; have c1 := s0.c1; have c2 := s0.c2; have c3 := s0.c3; have c4 := s0.c4; have c5 := s0.c5
  simp only at c0 c1 c2 c3 c4 c5
  clear s0
  go_wp2_with fail
  refine (HR.out _).mono ?_
  rintro e w1 ⟨rfl, hb1⟩
  have s0 := HS.out.below hb1
  clear c0 c1 c2 c3 c4 c5
  go_wp2_with fail
  refine (HK.out _).mono ?_
  rintro e w' ⟨rfl, rfl⟩
  have HS1 := Lib.hid s0
  have c0 := s0.c0; have c1 := s0.c1; have c2 := s0.c2; have c3 := s0.c3; have c4 := s0.c4; have c5 := s0.c5
  simp only at c0 c1 c2 c3 c4 c5
  clear s0
  have HB1 := Lib.hid (bstep hb0.out hb1)
  clear hb1
  go_wp2_with fail
  refine (HC.out _).mono ?_
  rintro e w2 ⟨rfl, hb2⟩
  have HB2 := Lib.hid (bstep HB1.out hb2)
  have s0 := HS1.out.below hb2
  clear hb2 c0 c1 c2 c3 c4 c5
  have HS2 := Lib.hid s0
  have c0 := s0.c0; have c1 := s0.c1; have c2 := s0.c2; have c3 := s0.c3; have c4 := s0.c4; have c5 := s0.c5
  simp only at c0 c1 c2 c3 c4 c5
  clear s0
  go_wp2_with fail
  refine (HSh.out w2 (HTB.out.below HB2.out) (HTP.out.below HB2.out)).mono ?_
  rintro e w3 ⟨gf, gr, gn, gt, gp, Y, dY, rfl, hza, hb3⟩
  have HB3 := Lib.hid (bstep HB2.out hb3)
  have s0 := HS2.out.below hb3
  clear hb3 c0 c1 c2 c3 c4 c5
  have hb4 := balloc w3 (.cells (nilRows N).toArray 24)
  have s1 := s0.below hb4
  have ho := OwnM.room w3 w.heap.size N HB3.out.size (by unfold maxLen; omega)
  have HS3 := Lib.hid s0; have HZA0 := Lib.hid hza; have HZA := Lib.hid (hza.below hb4); have HO := Lib.hid ho; have HB4 := Lib.hid (bstep HB3.out hb4)
  have c0 := s0.c0; have c1 := s1.c0; have c2 := s1.c1; have c3 := s1.c2; have c4 := s1.c3; have c5 := s1.c4; have c6 := s1.c5
  simp only at c0 c1 c2 c3 c4 c5 c6
  clear s0 s1 hza ho hb4
  go_wp2_with fail
  clear hmk
  generalize w3.alloc (.cells (nilRows N).toArray 24) = w4 at *
  refine (HA.out w4).mono ?_
  rintro e w5 ⟨X, d, rfl, x1, x2, hX, hb5, _⟩
  rw [HAL.out] at x1 ⊢
  have HB5 := Lib.hid hb5; have HX := Lib.hid hX
  clear hX hb5 c0 c1 c2 c3 c4 c5 c6
  go_wp2_with fail
  refine (HP.out X d w5 HX.out x1 x2).mono ?_
  rintro e w6 ⟨v6, rfl, hv6, hb6⟩
  obtain ⟨Z, dz, rfl, z1, z2, hZ, hnZ⟩ := hv6.new
  rw [HPT.out] at z1 ⊢
  have hb46 := bstep HB5.out hb6
  have HZ := Lib.hid hZ; have HO6 := Lib.hid (HO.out.below hb46); have HZA6 := Lib.hid (HZA.out.below hb46); have HB6 := Lib.hid (bstep HB4.out hb46)
  have hz4 := (HO.out.ownlt w3.heap.size rfl).2
  have hz46 := hb46.size
  have HNZ := Lib.hid hnZ
  clear hv6 hb6 hb46 hZ hnZ
  have hw0 := HB6.out.size
  have hz5 := HB5.out.size
  have hnz : ∀ a, Z = some a → ¬ a.block = w3.heap.size := fun a e => by have := HNZ.out a e; omega
  have HNE := Lib.hid hnz
  clear hnz
  go_wp2_with fail
  go_loopw [11, 38] (fun v i wr => ∃ j : Nat, j ≤ N ∧ i = .int .i64 j ∧ OwnM wr w.heap.size v ((pts.take j).map out) ∧ (∀ k, v.ownBlock = some k → k = w3.heap.size ∨ w6.heap.size ≤ k) ∧ Keeps (fun k => k = w3.heap.size) w6 wr)
    (fun _ i _ => N - (intOf i).toNat)
  case atStart => exact ⟨0, Nat.zero_le _, rfl, HO6.out, fun k e => .inl (by injection e with e; exact e.symm), Keeps.refl _ _⟩
  case round =>
    obtain ⟨j, hj, rfl, ho, hob, hq⟩ := hrel
    rename World => wr
    have HOW := Lib.hid ho; have HOB := Lib.hid hob; have HQ := Lib.hid hq
    have hbw := below_keeps HB6.out hq (fun i hi => by subst hi; exact HB3.out.size) HB6.out.size
    have HBW := Lib.hid hbw
    clear ho hob hq hbw
    by_cases hlt2 : j < N
    · have hjp : j < pts.length := by rw [HPT.out]; exact hlt2
      have hZr := HQ.out.bytes HZ.out HNE.out
      obtain ⟨zb, zo, rfl, ez⟩ := hZr j hjp
      have hza := ZA.keep HZA0.out HZA6.out HQ.out (fun k hk e => by omega)
      obtain ⟨x, hx⟩ : ∃ x, x = pts[j] := ⟨_, rfl⟩
      rw [← hx] at ez
      have HX2 := Lib.hid hx
      clear hx hZr
      go_wp2_with fail
      refine (HT.out gf gr gn gt gp Y dY x wr hza).mono ?_
      rintro e wx ⟨B, cr, rfl, r1, r2, hB, hbx, hnB⟩
      have hlen := HOL.out x
      obtain ⟨ox, hox⟩ : ∃ ox, ox = out x := ⟨_, rfl⟩
      rw [← hox] at r1 hB hlen ⊢
      rw [hlen] at r1 ⊢
      have HOX := Lib.hid (HOW.out.below hbx); have HBR := Lib.hid hB; have HNB := Lib.hid hnB; have HBX := Lib.hid hbx; have HL := Lib.hid hlen; have HOXE := Lib.hid hox
      have HOL2 := Lib.hid HOW.out.ownlt
      have hzx := hbx.size
      have hzq := HQ.out.size
      have hwr := HBW.out.size
      have hjl : ((pts.take j).map out).length < 1099511627776 := by rw [List.length_map, List.length_take]; omega
      clear hB hnB hbx hlen hox hza ez
      go_wp2_with (at_builtin; refine wpList_append_row_g rfl _ _ rfl w.heap.size u11 ((pts.take j).map out) rfl (HOX.out.alloc _) wx.heap.size 1 ox B cr rfl (by rw [HL.out]; simp) (by rw [HL.out]; exact r1) r2 (HBR.out.alloc _) (fun _ a e e' => by have h1 := (HOL2.out _ e').2; have h2 := HNB.out a e; omega) hjl (by simp; omega) ?_; intro v' w7 hown1 hg7 hp7)
      have hs7 := (Keeps.own ((HQ.out.trans (Keeps.of_below _ HBX.out)).trans (Keeps.of_below _ (balloc wx _))) hg7 HOB.out)
      go_roundw
      case rel =>
        refine ⟨j + 1, by omega, by go_num, ?_, ?_, hs7⟩
        · rw [List.take_succ_eq_append_getElem hjp, List.map_append, ← HX2.out]
          show OwnM _ _ _ (_ ++ [out x])
          rw [← HOXE.out]; exact hown1
        · intro k hk
          rcases hp7 with e | e
          · exact HOB.out k (by rw [← e]; exact hk)
          · rw [hk] at e; injection e with e; right; simp at e; omega
      case measure => simp [intOf] <;> omega
    · obtain rfl : j = N := by omega
      have ho := HOW.out
      rw [show pts.take j = pts from by rw [← HPT.out]; exact List.take_length] at ho
      obtain ⟨X', c', rfl, q1, q2, hR', hn'⟩ := ho.rows
      go_wp2
      go_ret2
      exact ⟨X', c', rfl, q1, q2, hR', HBW.out, fun a e => hn' a e⟩

theorem zero_any (b0 : Nat) (p : P) (n : Int) (A : Option Addr) (tape : List UInt8) (c : Nat) (w : World) (hp : p.In) (_hn : In64 n) (ht : Gf.Tab w b0) (h : BytesAt w A tape) (k : tape.length ≤ c) (z : c ≤ maxLen) :
    Calls Try.prog 33 #[.pointer (some ⟨b0, 0, none⟩), p.val, .int .i64 n, .slice A tape.length c] w (RetRowsE w (zeroA p n tape) (zeroE p n tape)) := by
  have hA : ∀ e : Int, zcheck p n tape = e → zeroE p n tape = e ∧ (e ≠ 0 → zeroA p n tape = []) := fun e he => ⟨he, fun h0 => by unfold zeroA; rw [he, if_neg h0]⟩
  by_cases hM : p.May
  · by_cases hn : 0 ≤ n ∧ n ≤ 240
    · by_cases h0 : (tape.length : Int) < p.T * n
      · obtain ⟨e1, e2⟩ := hA 12 (by unfold zcheck; rw [P.right_yes hM, if_pos rfl, if_neg (by omega), if_pos h0])
        rw [e1, e2 (by omega)]
        exact zero_empty b0 p n A tape.length c w hp hM (decide_eq_true hn) h0 k z
      · have e : zcheck p n tape = 0 := by unfold zcheck; rw [P.right_yes hM, if_pos rfl, if_neg (by omega), if_neg h0]
        obtain ⟨e1, _⟩ := hA 0 e
        rw [e1]
        unfold zeroA
        rw [e, if_pos rfl]
        obtain ⟨m, rfl⟩ : ∃ m : Nat, n = (m : Int) := ⟨n.toNat, by omega⟩
        rw [Int.toNat_natCast]
        exact zero_ok b0 p m A tape c w hp hM (by omega) ht h h0 k z
    · obtain ⟨e1, e2⟩ := hA 2 (by unfold zcheck; rw [P.right_yes hM, if_pos rfl, if_pos (by omega)])
      rw [e1, e2 (by omega)]
      exact zero_range b0 p n A tape.length c w hp hM (decide_eq_false hn)
  · obtain ⟨e1, e2⟩ := hA 1 (by unfold zcheck; rw [P.right_no hM]; rfl)
    rw [e1, e2 (by omega)]
    exact zero_arg b0 p n A tape.length c w hp hM
end Go.Proofs.Ytompeiemioeohaa.Zero
