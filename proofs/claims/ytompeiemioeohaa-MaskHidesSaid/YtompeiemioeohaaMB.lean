/- merged: PlanMath, StripeMath, DealMath, SumMath, RebMath, ZeroMath, MaskMath, BackMath -/
import Derived.Test.YtompeiemioeohaaMem
import Derived.Test.YtompeiemioeohaaMA

/- layer 8's answers, plain -/
set_option maxRecDepth 100000
namespace Go.Proofs.Ytompeiemioeohaa.PlanM

/-- a plan's numbers -/
structure P where
  N : Int
  T : Int
  L : Int
  W : Int
  S : Int
  R : Int
def P.val (p : P) : Value := .agg #[.int .i64 p.N, .int .i64 p.T, .int .i64 p.L, .int .i64 p.W, .int .i64 p.S, .int .i64 p.R]
/-- its numbers are numbers of the machine -/
def In64 (n : Int) : Prop := -9223372036854775808 ≤ n ∧ n ≤ 9223372036854775807
structure P.In (p : P) : Prop where
  n : In64 p.N
  t : In64 p.T
  l : In64 p.L
  w : In64 p.W
  s : In64 p.S
  r : In64 p.R
def P.May (p : P) : Prop := 1 ≤ p.T ∧ 1 ≤ p.L ∧ p.T + p.L ≤ p.W ∧ p.W ≤ p.N ∧ p.N + p.L ≤ 256 ∧ 1 ≤ p.S ∧ p.S ≤ 256 ∧ 1 ≤ p.R ∧ p.R ≤ 64
instance (p : P) : Decidable p.May := by unfold P.May; infer_instance
def P.right (p : P) : Bool := decide p.May
def P.is (p : P) (i : Int) : Bool := decide (1 ≤ i ∧ i ≤ p.N)
/-- a custodian's point -/
def point (i : Int) : UInt8 := if i < 1 ∨ 256 < i then 0 else UInt8.ofNat (i - 1).toNat
def points (l : List Int) : List UInt8 := l.map point
/-- bytes from n on, k of them -/
def from_ (n k : Nat) : List UInt8 := (List.range k).map fun j => UInt8.ofNat (n + j)
def P.secrets (p : P) : List UInt8 := from_ p.N.toNat p.L.toNat
def all (n : Nat) : List Int := (List.range n).map fun (j : Nat) => ((j : Int) + 1)
/-- how many stripes -/
def P.stripes (p : P) (size : Int) : Nat := if size < 1 ∨ 240 < size then 0 else ((size + p.L - 1) / p.L).toNat

/-- what the program tells of any plan -/
def P.secretsA (p : P) : List UInt8 := if p.right then p.secrets else []
def P.allA (p : P) : List Int := if p.right then all p.N.toNat else []
def P.isA (p : P) (i : Int) : Bool := p.right && p.is i
def P.needA (p : P) : Int := if p.right then p.T + p.L else 0
def P.quorumA (p : P) : Int := if p.right then p.N - p.W + 1 else 0
def P.dealersA (p : P) : Int := if p.right then p.T + 1 else 0
def P.stripesA (p : P) (size : Int) : Int := if p.right then (p.stripes size : Nat) else 0

theorem P.right_yes {p : P} (h : p.May) : p.right = true := decide_eq_true h
theorem P.right_no {p : P} (h : ¬ p.May) : p.right = false := decide_eq_false h
theorem from_len (n k : Nat) : (from_ n k).length = k := by unfold from_; simp
theorem from_zero (n : Nat) : from_ n 0 = [] := rfl
theorem from_succ (n k : Nat) : from_ n (k + 1) = from_ n k ++ [UInt8.ofNat (n + k)] := by unfold from_; rw [List.range_succ, List.map_append]; rfl
theorem all_len (n : Nat) : (all n).length = n := by unfold all; simp
theorem all_succ (n : Nat) : all (n + 1) = all n ++ [(n : Int) + 1] := by unfold all; rw [List.range_succ, List.map_append]; rfl
theorem points_len (l : List Int) : (points l).length = l.length := by unfold points; simp
theorem stripes_step {L size n : Int} (hL : 1 ≤ L) (h : n * L < size) : n + 1 ≤ (size + L - 1) / L := by
  rw [Int.le_ediv_iff_mul_le (by omega)]
  have := Int.add_mul n 1 L
  rw [Int.one_mul] at this
  omega
theorem stripes_end {L size n : Int} (hL : 1 ≤ L) (h : ¬ n * L < size) : (size + L - 1) / L ≤ n := by
  have h1 : (size + L - 1) / L < n + 1 := by
    rw [Int.ediv_lt_iff_lt_mul (by omega)]
    have := Int.add_mul n 1 L
    rw [Int.one_mul] at this
    omega
  omega
end Go.Proofs.Ytompeiemioeohaa.PlanM

/- layer 9's answers, plain -/
set_option maxRecDepth 100000
namespace Go.Proofs.Ytompeiemioeohaa.StripeM
open PolyM PlanM

/-- stripe k of a blob, L bytes -/
def row (L : Nat) (b : List UInt8) (k : Nat) : List UInt8 := tab L fun j => co b (k * L + j)
def cutTo (L : Nat) (b : List UInt8) (k : Nat) : List (List UInt8) := (List.range k).map (row L b)
def cut (p : P) (b : List UInt8) : List (List UInt8) := cutTo p.L.toNat b (p.stripes b.length)
/-- byte i of stripes -/
def byteAt (L : Nat) (l : List (List UInt8)) (i : Nat) : UInt8 := co (l.getD (i / L) []) (i % L)
def join (L : Nat) (l : List (List UInt8)) (size : Nat) : List UInt8 := tab size (byteAt L l)
def fits (p : P) (l : List (List UInt8)) (size : Int) : Bool := decide (l.length = p.stripes size) && l.all fun r => decide (r.length = p.L.toNat)

theorem row_len (L : Nat) (b : List UInt8) (k : Nat) : (row L b k).length = L := tab_len _ _
theorem cutTo_len (L : Nat) (b : List UInt8) (k : Nat) : (cutTo L b k).length = k := by unfold cutTo; simp
theorem cutTo_zero (L : Nat) (b : List UInt8) : cutTo L b 0 = [] := rfl
theorem cutTo_succ (L : Nat) (b : List UInt8) (k : Nat) : cutTo L b (k + 1) = cutTo L b k ++ [row L b k] := by unfold cutTo; rw [List.range_succ, List.map_append]; rfl
theorem cutTo_get (L : Nat) (b : List UInt8) (n k : Nat) (h : k < (cutTo L b n).length) : (cutTo L b n)[k] = row L b k := by simp [cutTo]
theorem cutTo_getD (L : Nat) (b : List UInt8) (n k : Nat) (h : k < n) : (cutTo L b n).getD k [] = row L b k := by
  rw [← List.getElem_eq_getD (h := by rw [cutTo_len]; exact h), cutTo_get]
/-- the row as it is filled -/
def fillTo (L : Nat) (b : List UInt8) (k t : Nat) : List UInt8 := tab L fun j => if j < t then co b (k * L + j) else 0
theorem fillTo_len (L : Nat) (b : List UInt8) (k t : Nat) : (fillTo L b k t).length = L := tab_len _ _
theorem fillTo_zero (L : Nat) (b : List UInt8) (k : Nat) : fillTo L b k 0 = List.replicate L 0 := by unfold fillTo; rw [← tab_rep]; exact tab_congr fun i _ => by rw [if_neg (by omega)]
theorem fillTo_all (L : Nat) (b : List UInt8) (k : Nat) : fillTo L b k L = row L b k := tab_congr fun i hi => by rw [if_pos hi]
theorem fillTo_succ (L : Nat) (b : List UInt8) (k t : Nat) (h : t < L) : fillTo L b k (t + 1) = (fillTo L b k t).set t (co b (k * L + t)) := by
  unfold fillTo
  rw [tab_set _ _ _ _ h]
  refine tab_congr fun i _ => ?_
  by_cases e : i = t
  · subst e; rw [if_pos (by omega), if_pos rfl]
  · rw [if_neg e]
    by_cases e2 : i < t
    · rw [if_pos (by omega), if_pos e2]
    · rw [if_neg (by omega), if_neg e2]
theorem fillTo_same (L : Nat) (b : List UInt8) (k t : Nat) (h : b.length ≤ k * L + t) : fillTo L b k (t + 1) = fillTo L b k t := by
  unfold fillTo
  refine tab_congr fun i _ => ?_
  by_cases e : i = t
  · subst e; rw [if_pos (by omega), if_neg (by omega), co_ge _ _ h]
  · by_cases e2 : i < t
    · rw [if_pos (by omega), if_pos e2]
    · rw [if_neg (by omega), if_neg e2]
/-- stripes joined are the blob -/
theorem join_cut (L n : Nat) (b : List UInt8) (hn : b.length ≤ n * L) : join L (cutTo L b n) b.length = b := by
  unfold join
  conv => rhs; rw [← tab_of b]
  refine tab_congr fun i hi => ?_
  have hL : 0 < L := by
    rcases Nat.eq_zero_or_pos L with h | h
    · subst h; rw [Nat.mul_zero] at hn; omega
    · exact h
  unfold byteAt
  have hk : i / L < n := by rw [Nat.div_lt_iff_lt_mul hL]; omega
  rw [cutTo_getD _ _ _ _ hk]
  unfold row
  rw [co_tab, if_pos (Nat.mod_lt _ hL)]
  congr 1
  rw [Nat.mul_comm]; exact Nat.div_add_mod _ _
theorem stripes_enough (p : P) (n : Nat) (hL : 1 ≤ p.L) (hn : n ≤ 240) : n ≤ p.stripes n * p.L.toNat := by
  rcases Nat.eq_zero_or_pos n with h | h
  · omega
  · unfold P.stripes
    rw [if_neg (by omega)]
    obtain ⟨l, hl⟩ : ∃ l : Nat, p.L = l := ⟨p.L.toNat, by omega⟩
    rw [hl, Int.toNat_natCast]
    have e : ((n : Int) + l - 1) / (l : Int) = (((n + l - 1) / l : Nat) : Int) := by
      rw [Int.natCast_ediv]; congr 1; omega
    rw [e, Int.toNat_natCast]
    have := Nat.div_add_mod (n + l - 1) l
    have h2 := Nat.mod_lt (n + l - 1) (show l > 0 by omega)
    rw [Nat.mul_comm] at this
    omega
theorem stripes_le (p : P) (size : Int) (hL : 1 ≤ p.L) : p.stripes size ≤ 240 := by
  unfold P.stripes
  split
  · omega
  · rename_i h
    have : (size + p.L - 1) / p.L ≤ 240 := stripes_end hL (by omega)
    omega
theorem cut_fits (p : P) (b : List UInt8) : fits p (cut p b) b.length = true := by
  unfold fits cut
  rw [cutTo_len]
  simp only [decide_true, Bool.true_and, List.all_eq_true]
  intro r hr
  unfold cutTo at hr
  simp only [List.mem_map] at hr
  obtain ⟨k, _, rfl⟩ := hr
  rw [row_len]; simp
theorem join_back (p : P) (b : List UInt8) (hL : 1 ≤ p.L) (hb : b.length ≤ 240) : join p.L.toNat (cut p b) b.length = b := join_cut _ _ _ (stripes_enough p b.length hL hb)
theorem fits_len {p : P} {l : List (List UInt8)} {size : Int} (h : fits p l size = true) : l.length = p.stripes size := by
  unfold fits at h; rw [Bool.and_eq_true] at h; exact of_decide_eq_true h.1
theorem fits_row {p : P} {l : List (List UInt8)} {size : Int} (h : fits p l size = true) {i : Nat} (hi : i < l.length) : l[i].length = p.L.toNat := by
  unfold fits at h; rw [Bool.and_eq_true] at h
  exact of_decide_eq_true (List.all_eq_true.mp h.2 _ (List.getElem_mem hi))
theorem fits_no_len {p : P} {l : List (List UInt8)} {size : Int} (h : l.length ≠ p.stripes size) : fits p l size = false := by
  unfold fits; rw [decide_eq_false h]; rfl
theorem fits_no_row {p : P} {l : List (List UInt8)} {size : Int} {i : Nat} (hi : i < l.length) (h : l[i].length ≠ p.L.toNat) : fits p l size = false := by
  unfold fits
  rw [Bool.and_eq_false_iff]
  right
  rw [List.all_eq_false]
  exact ⟨l[i], List.getElem_mem hi, by simpa using h⟩
theorem fits_yes {p : P} {l : List (List UInt8)} {size : Int} (h : l.length = p.stripes size) (h2 : ∀ i, (hi : i < l.length) → l[i].length = p.L.toNat) : fits p l size = true := by
  unfold fits
  rw [Bool.and_eq_true]
  refine ⟨decide_eq_true h, List.all_eq_true.mpr fun r hr => ?_⟩
  obtain ⟨i, hi, rfl⟩ := List.mem_iff_getElem.mp hr
  exact decide_eq_true (h2 i hi)

/-- what the program tells: the stripes, and an error's number -/
def cutE (p : P) (b : List UInt8) : Int := if p.right then (if 240 < b.length then 7 else 0) else 1
def cutA (p : P) (b : List UInt8) : List (List UInt8) := if cutE p b = 0 then cut p b else []
def joinE (p : P) (l : List (List UInt8)) (size : Int) : Int := if p.right then (if size < 0 ∨ 240 < size then 2 else if fits p l size then 0 else 3) else 1
def joinA (p : P) (l : List (List UInt8)) (size : Int) : List UInt8 := if joinE p l size = 0 then join p.L.toNat l size.toNat else []
end Go.Proofs.Ytompeiemioeohaa.StripeM

/- layer 10's answers, plain -/
set_option maxRecDepth 100000
namespace Go.Proofs.Ytompeiemioeohaa.DealM
open PolyM PlanM StripeM LagrM

/-- a stripe's polynomial -/
def poly (p : P) (r tape : List UInt8) : List UInt8 := padd (thr p.secrets r) (pmul (proot p.secrets) tape)
/-- what stripe j takes of a tape -/
def take_ (T : Nat) (tape : List UInt8) (j : Nat) : List UInt8 := (tape.drop (j * T)).take T
def polysTo (p : P) (blob tape : List UInt8) (k : Nat) : List (List UInt8) := (List.range k).map fun j => poly p (row p.L.toNat blob j) (take_ p.T.toNat tape j)
def polys (p : P) (blob tape : List UInt8) : List (List UInt8) := polysTo p blob tape (p.stripes blob.length)
def cost (p : P) (size : Int) : Int := p.T * p.stripes size
def share (q : List (List UInt8)) (i : Int) : List UInt8 := q.map fun r => ev r (point i)
def xorL (a b : List UInt8) : List UInt8 := tab a.length fun k => GfM.add (co a k) (co b k)

theorem take_len (T : Nat) (tape : List UInt8) (j : Nat) (h : (j + 1) * T ≤ tape.length) : (take_ T tape j).length = T := by
  unfold take_; rw [List.length_take, List.length_drop, Nat.add_mul] at *; omega
theorem polysTo_len (p : P) (blob tape : List UInt8) (k : Nat) : (polysTo p blob tape k).length = k := by unfold polysTo; simp
theorem polysTo_succ (p : P) (blob tape : List UInt8) (k : Nat) : polysTo p blob tape (k + 1) = polysTo p blob tape k ++ [poly p (row p.L.toNat blob k) (take_ p.T.toNat tape k)] := by unfold polysTo; rw [List.range_succ, List.map_append]; rfl
theorem share_len (q : List (List UInt8)) (i : Int) : (share q i).length = q.length := by unfold share; simp
theorem share_take (q : List (List UInt8)) (i : Int) (k : Nat) (h : k < q.length) : share (q.take (k + 1)) i = share (q.take k) i ++ [ev q[k] (point i)] := by
  unfold share; rw [List.take_succ_eq_append_getElem h, List.map_append]; rfl
theorem secrets_len (p : P) : p.secrets.length = p.L.toNat := from_len _ _
theorem xorL_len (a b : List UInt8) : (xorL a b).length = a.length := tab_len _ _
theorem polys_get (p : P) (blob tape : List UInt8) (k : Nat) (h : k < (polys p blob tape).length) : (polys p blob tape)[k] = poly p (row p.L.toNat blob k) (take_ p.T.toNat tape k) := by simp [polys, polysTo]
theorem polys_row (p : P) (blob tape : List UInt8) (k : Nat) (h : k < (polys p blob tape).length) : (polys p blob tape)[k].length ≤ p.L.toNat + tape.length + 1 := by
  rw [polys_get]
  have a1 : (take_ p.T.toNat tape k).length ≤ tape.length := by unfold take_; rw [List.length_take, List.length_drop]; omega
  unfold poly
  rw [LagrM.padd_len, LagrM.thr_len, PolyM.pmul_len, secrets_len, PolyM.proot_len, secrets_len]
  split <;> omega
theorem polys_le (p : P) (blob tape : List UInt8) (hL : 1 ≤ p.L) : (polys p blob tape).length ≤ 240 := by unfold polys; rw [polysTo_len]; exact stripes_le p _ hL
/-- all custodians' shares -/
def shares (p : P) (q : List (List UInt8)) : List (List UInt8) := (all p.N.toNat).map (share q)
theorem shares_len (p : P) (q : List (List UInt8)) : (shares p q).length = p.N.toNat := by unfold shares; rw [List.length_map, all_len]
theorem shares_get (p : P) (q : List (List UInt8)) (k : Nat) (h : k < (shares p q).length) : (shares p q)[k] = share q ((k : Int) + 1) := by simp [shares, all]
/-- what the program tells, and an error's number -/
def costA (p : P) (size : Int) : Int := if p.right then cost p size else 0
def dealE (p : P) (blob tape : List UInt8) : Int := if p.right then (if 240 < blob.length then 7 else if (tape.length : Int) < cost p blob.length then 12 else 0) else 1
def dealA (p : P) (blob tape : List UInt8) : List (List UInt8) := if dealE p blob tape = 0 then shares p (polys p blob tape) else []
def shareE (p : P) (blob tape : List UInt8) (i : Int) : Int := if p.right then (if p.is i then dealE p blob tape else 2) else 1
def shareA (p : P) (blob tape : List UInt8) (i : Int) : List UInt8 := if shareE p blob tape i = 0 then share (polys p blob tape) i else []
end Go.Proofs.Ytompeiemioeohaa.DealM

/- what layers 10 to 14 say, plain: shares add up; points are unlike -/
set_option maxRecDepth 100000
namespace Go.Proofs.Ytompeiemioeohaa.DealM
open PolyM PlanM StripeM LagrM GfM

theorem from_nodup (n k : Nat) (h : n + k ≤ 256) : (from_ n k).Nodup := by
  unfold from_
  rw [List.nodup_iff_pairwise_ne, List.pairwise_map]
  refine List.Pairwise.imp_of_mem ?_ List.pairwise_lt_range
  intro i j hi hj hlt e
  rw [List.mem_range] at hi hj
  have := congrArg UInt8.toNat e
  rw [UInt8.toNat_ofNat_of_lt' (by simp only [UInt8.size]; omega), UInt8.toNat_ofNat_of_lt' (by simp only [UInt8.size]; omega)] at this
  omega
theorem May.secrets {p : P} (h : p.May) : p.secrets.Nodup := by
  unfold P.May at h
  exact from_nodup _ _ (by omega)
/-- the polynomial through sums is the sum of the polynomials -/
theorem ev_thr_add {xs : List UInt8} (h : xs.Nodup) (r1 r2 r3 : List UInt8) (hr : ∀ j, j < xs.length → co r3 j = add (co r1 j) (co r2 j)) (x : UInt8) : ev (thr xs r3) x = add (ev (thr xs r1) x) (ev (thr xs r2) x) := by
  rw [← ev_padd]
  congr 1
  refine (thr_is h r3 _ (by rw [padd_len, thr_len, thr_len, Nat.max_self]) fun j hj => ?_).symm
  rw [ev_padd, thr_ev h _ _ hj, thr_ev h _ _ hj, hr j hj]
theorem co_take (l : List UInt8) (n k : Nat) : co (l.take n) k = if k < n then co l k else 0 := by
  unfold co
  rw [List.getD_eq_getElem?_getD, List.getD_eq_getElem?_getD, List.getElem?_take]
  split <;> rfl
theorem co_drop (l : List UInt8) (n k : Nat) : co (l.drop n) k = co l (n + k) := by
  unfold co
  rw [List.getD_eq_getElem?_getD, List.getD_eq_getElem?_getD, List.getElem?_drop]
theorem co_take_ (T : Nat) (tape : List UInt8) (j k : Nat) : co (take_ T tape j) k = if k < T then co tape (j * T + k) else 0 := by
  unfold take_; rw [co_take, co_drop]
theorem co_row (L : Nat) (b : List UInt8) (k j : Nat) : co (row L b k) j = if j < L then co b (k * L + j) else 0 := by unfold row; rw [co_tab]
theorem co_xorL (a b : List UInt8) (h : b.length ≤ a.length) (k : Nat) : co (xorL a b) k = add (co a k) (co b k) := by
  unfold xorL
  rw [co_tab]
  split
  · rfl
  · rw [co_ge a k (by omega), co_ge b k (by omega)]; rfl
/-- two stripes' polynomials add up -/
theorem ev_poly_add {p : P} (h : p.secrets.Nodup) (r1 r2 r3 t1 t2 t3 : List UInt8) (hr : ∀ j, j < p.secrets.length → co r3 j = add (co r1 j) (co r2 j)) (ht : ∀ k, co t3 k = add (co t1 k) (co t2 k)) (x : UInt8) : ev (poly p r3 t3) x = add (ev (poly p r1 t1) x) (ev (poly p r2 t2) x) := by
  unfold poly
  rw [ev_padd, ev_padd, ev_padd, ev_pmul, ev_pmul, ev_pmul, ev_thr_add h r1 r2 r3 hr, ev_ext (p := t3) (q := padd t1 t2) (fun k => by rw [co_padd, ht]), ev_padd, muladd]
  exact add4 _ _ _ _
theorem co_share (q : List (List UInt8)) (i : Int) (k : Nat) (h : k < q.length) : co (share q i) k = ev q[k] (point i) := by
  rw [co_get _ _ (by rw [share_len]; exact h)]; simp [share]
/-- shares add up: of two blobs of one size, and two tapes -/
theorem share_add {p : P} (hp : p.May) (b0 b1 t0 t1 t3 : List UInt8) (hb : b0.length = b1.length) (ht : ∀ k, k < p.stripes b0.length * p.T.toNat → co t3 k = add (co t0 k) (co t1 k)) (i : Int) :
    share (polys p (xorL b0 b1) t3) i = xorL (share (polys p b0 t0) i) (share (polys p b1 t1) i) := by
  have hs := May.secrets hp
  have hl3 : (polys p (xorL b0 b1) t3).length = p.stripes b0.length := by unfold polys; rw [polysTo_len, xorL_len]
  have hl0 : (polys p b0 t0).length = p.stripes b0.length := by unfold polys; rw [polysTo_len]
  have hl1 : (polys p b1 t1).length = p.stripes b0.length := by unfold polys; rw [polysTo_len, hb]
  refine list_ext (by rw [share_len, xorL_len, share_len, hl3, hl0]) fun k => ?_
  rw [co_xorL _ _ (by rw [share_len, share_len, hl0, hl1]; exact Nat.le_refl _)]
  by_cases hk : k < p.stripes b0.length
  · rw [co_share _ _ _ (by omega), co_share _ _ _ (by omega), co_share _ _ _ (by omega), polys_get, polys_get, polys_get]
    refine ev_poly_add hs _ _ _ _ _ _ (fun j _ => ?_) (fun m => ?_) _
    · rw [co_row, co_row, co_row]
      split
      · exact co_xorL _ _ (by omega) _
      · rfl
    · rw [co_take_, co_take_, co_take_]
      split
      · rename_i hm
        refine ht _ ?_
        have h1 : (k + 1) * p.T.toNat ≤ p.stripes b0.length * p.T.toNat := Nat.mul_le_mul_right _ hk
        have h2 := Nat.add_mul k 1 p.T.toNat
        omega
      · rfl
  · rw [co_ge _ _ (by rw [share_len]; omega), co_ge _ _ (by rw [share_len]; omega), co_ge _ _ (by rw [share_len]; omega)]; rfl
end Go.Proofs.Ytompeiemioeohaa.DealM

/- layer 11's answers, plain; shares that are enough tell the polynomials -/
set_option maxRecDepth 100000
namespace Go.Proofs.Ytompeiemioeohaa.RebM
open PolyM PlanM StripeM LagrM GfM DealM

def need (p : P) : Nat := (p.T + p.L).toNat
/-- what share i has at stripe j -/
def at_ (sh : List (List UInt8)) (i j : Nat) : UInt8 := co (sh.getD i []) j
def rys (p : P) (sh : List (List UInt8)) (j : Nat) : List UInt8 := tab (need p) fun i => at_ sh i j
def rpoly (p : P) (who : List Int) (sh : List (List UInt8)) (j : Nat) : List UInt8 := thr (points (who.take (need p))) (rys p sh j)
def rbyte (p : P) (who : List Int) (sh : List (List UInt8)) (i : Nat) : UInt8 := ev (rpoly p who sh (i / p.L.toNat)) (co p.secrets (i % p.L.toNat))
def rblob (p : P) (size : Nat) (who : List Int) (sh : List (List UInt8)) : List UInt8 := tab size (rbyte p who sh)
/-- stripe j is agreed on by the first n -/
def ragR (p : P) (who : List Int) (sh : List (List UInt8)) (j n : Nat) : Bool := (List.range n).all fun i => decide (ev (rpoly p who sh j) (point (who.getD i 0)) = at_ sh i j)
def ragTo (p : P) (who : List Int) (sh : List (List UInt8)) (m : Nat) : Bool := (List.range m).all fun j => ragR p who sh j who.length
def ragree (p : P) (who : List Int) (sh : List (List UInt8)) : Bool := ragTo p who sh (sh.getD 0 []).length
def isAll (p : P) (who : List Int) : Bool := who.all fun i => p.is i
def fitAll (p : P) (size : Int) (sh : List (List UInt8)) : Bool := sh.all fun s => decide (s.length = p.stripes size)
def rcheck (p : P) (size : Int) (who : List Int) (sh : List (List UInt8)) : Int :=
  if p.right then (if size < 0 ∨ 240 < size then 2 else if isAll p who then (if unl (points who) then (if (who.length : Int) < p.T + p.L then 6 else if sh.length ≠ who.length then 3 else if fitAll p size sh then 0 else 3) else 5) else 2) else 1

/-- what the program tells -/
def rblobA (p : P) (size : Int) (who : List Int) (sh : List (List UInt8)) : List UInt8 := if rcheck p size who sh = 0 then rblob p size.toNat who sh else []
def ragreeA (p : P) (size : Int) (who : List Int) (sh : List (List UInt8)) : Bool := decide (rcheck p size who sh = 0) && ragree p who sh

theorem points_co (who : List Int) {i : Nat} (h : i < who.length) : co (points who) i = point (who.getD i 0) := by
  rw [co_get _ _ (by rw [points_len]; exact h), ← List.getElem_eq_getD (h := h)]; simp [points]
theorem points_take (who : List Int) (n : Nat) : points (who.take n) = (points who).take n := by unfold points; rw [List.map_take]
/-- the polynomial through shares that are values of one is that one -/
theorem rpoly_of {p : P} {who : List Int} {sh : List (List UInt8)} {j : Nat} {q : List UInt8} (hn : (points who).Nodup) (hl : need p ≤ who.length) (hq : q.length ≤ need p) (hv : ∀ i, i < need p → at_ sh i j = ev q (point (who.getD i 0))) (k : Nat) : co (rpoly p who sh j) k = co q k := by
  have hx : ((points who).take (need p)).Nodup := nodup_take hn _
  have hxl : ((points who).take (need p)).length = need p := by rw [List.length_take, points_len]; omega
  unfold rpoly
  rw [points_take]
  refine (thr_eq hx _ q (by omega) (fun i hi => ?_) k).symm
  rw [hxl] at hi
  unfold rys
  rw [co_take, if_pos hi, points_co who (by omega), co_tab, if_pos hi, hv i hi]
theorem rpoly_ev {p : P} {who : List Int} {sh : List (List UInt8)} {j : Nat} {q : List UInt8} (hn : (points who).Nodup) (hl : need p ≤ who.length) (hq : q.length ≤ need p) (hv : ∀ i, i < need p → at_ sh i j = ev q (point (who.getD i 0))) (x : UInt8) : ev (rpoly p who sh j) x = ev q x :=
  ev_ext (rpoly_of hn hl hq hv) x
/-- a stripe's polynomial is of few places, and has the stripe's bytes -/
theorem poly_len {p : P} (hp : p.May) (r t : List UInt8) (ht : t.length = p.T.toNat) : (poly p r t).length ≤ need p := by
  unfold P.May at hp
  unfold poly need
  rw [padd_len, thr_len, secrets_len, pmul_len, proot_len, secrets_len, ht]
  split <;> omega
theorem poly_has {p : P} (hp : p.May) (r t : List UInt8) {m : Nat} (hm : m < p.L.toNat) : ev (poly p r t) (co p.secrets m) = co r m := by
  have hs := May.secrets hp
  have hl : m < p.secrets.length := by rw [secrets_len]; exact hm
  unfold poly
  rw [ev_padd, ev_pmul, root_at hl, zmul, add0, thr_ev hs _ _ hl]
/-- shares of polynomials that have a blob's bytes tell the blob -/
theorem rblob_of {p : P} (hp : p.May) {who : List Int} {sh : List (List UInt8)} {Q : Nat → List UInt8} {b : List UInt8} (hn : (points who).Nodup) (hl : need p ≤ who.length) (hb : b.length ≤ 240)
    (hq : ∀ j, j < p.stripes b.length → (Q j).length ≤ need p) (hv : ∀ j i, j < p.stripes b.length → i < need p → at_ sh i j = ev (Q j) (point (who.getD i 0)))
    (hh : ∀ j m, j < p.stripes b.length → m < p.L.toNat → ev (Q j) (co p.secrets m) = co (row p.L.toNat b j) m) : rblob p b.length who sh = b := by
  have hL : 1 ≤ p.L := by unfold P.May at hp; omega
  have hL0 : 0 < p.L.toNat := by omega
  unfold rblob
  conv => rhs; rw [← tab_of b]
  refine tab_congr fun i hi => ?_
  have hen := stripes_enough p b.length hL hb
  have hj : i / p.L.toNat < p.stripes b.length := by rw [Nat.div_lt_iff_lt_mul hL0]; omega
  have hm : i % p.L.toNat < p.L.toNat := Nat.mod_lt _ hL0
  unfold rbyte
  rw [rpoly_ev hn hl (hq _ hj) (fun k hk => hv _ k hj hk), hh _ _ hj hm, co_row, if_pos hm]
  congr 1
  rw [Nat.mul_comm]; exact Nat.div_add_mod _ _
theorem ragR_iff (p : P) (who : List Int) (sh : List (List UInt8)) (j n : Nat) : ragR p who sh j n = true ↔ ∀ i, i < n → ev (rpoly p who sh j) (point (who.getD i 0)) = at_ sh i j := by
  unfold ragR; rw [List.all_eq_true]; simp
theorem ragTo_iff (p : P) (who : List Int) (sh : List (List UInt8)) (m : Nat) : ragTo p who sh m = true ↔ ∀ j, j < m → ragR p who sh j who.length = true := by
  unfold ragTo; rw [List.all_eq_true]; simp
theorem ragree_of {p : P} {who : List Int} {sh : List (List UInt8)} {Q : Nat → List UInt8} {n : Nat} (hn : (points who).Nodup) (hl : need p ≤ who.length) (h0 : (sh.getD 0 []).length = n)
    (hq : ∀ j, j < n → (Q j).length ≤ need p) (hv : ∀ j i, j < n → i < who.length → at_ sh i j = ev (Q j) (point (who.getD i 0))) : ragree p who sh = true := by
  unfold ragree
  rw [ragTo_iff]
  intro j hj
  rw [h0] at hj
  rw [ragR_iff]
  intro i hi
  rw [rpoly_ev hn hl (hq j hj) (fun k hk => hv j k hj (by omega)), hv j i hj hi]
/-- one share that is turned, of more than are needed, is told -/
theorem ragree_tells {p : P} {who : List Int} {sh : List (List UInt8)} {q : List UInt8} {j i0 : Nat} (hn : (points who).Nodup) (hl : need p < who.length) (hj : j < (sh.getD 0 []).length) (h0 : i0 < who.length)
    (hq : q.length ≤ need p) (hv : ∀ i, i < who.length → i ≠ i0 → at_ sh i j = ev q (point (who.getD i 0))) (hx : at_ sh i0 j ≠ ev q (point (who.getD i0 0))) : ragree p who sh = false := by
  rcases hr : ragree p who sh with _ | _
  · rfl
  · exfalso
    unfold ragree at hr
    rw [ragTo_iff] at hr
    have ha := hr j hj
    rw [ragR_iff] at ha
    refine hx ?_
    rw [← ha i0 h0]
    have hlen : (rpoly p who sh j).length ≤ need p := by unfold rpoly; rw [thr_len, points_len, List.length_take]; omega
    refine ev_ext (unique (n := need p) (xs := (points who).eraseIdx i0) hlen hq (hn.sublist (List.eraseIdx_sublist _ _)) (by rw [List.length_eraseIdx, if_pos (by rw [points_len]; exact h0), points_len]; omega) fun x hx => ?_) _
    rw [List.mem_eraseIdx_iff_getElem] at hx
    obtain ⟨i, hi, hne, rfl⟩ := hx
    have hi' : i < who.length := by rw [points_len] at hi; exact hi
    have e : (points who)[i] = point (who.getD i 0) := by rw [← co_get, points_co who hi']
    rw [e, ha i hi', hv i hi' hne]
end Go.Proofs.Ytompeiemioeohaa.RebM

/- layers 12 and 13, plain: zero shares, blindings; what is told back -/
set_option maxRecDepth 100000
namespace Go.Proofs.Ytompeiemioeohaa.ZeroM
open PolyM PlanM StripeM LagrM GfM DealM RebM

/-! zero shares -/
def zpoly (p : P) (t : List UInt8) : List UInt8 := pmul (proot p.secrets) t
def zpolysTo (p : P) (tape : List UInt8) (k : Nat) : List (List UInt8) := (List.range k).map fun j => zpoly p (take_ p.T.toNat tape j)
def zcheck (p : P) (n : Int) (tape : List UInt8) : Int := if p.right then (if n < 0 ∨ 240 < n then 2 else if (tape.length : Int) < p.T * n then 12 else 0) else 1
def zcost (p : P) (n : Int) : Int := if p.right then (if n < 0 ∨ 240 < n then 0 else p.T * n) else 0
def zeroE (p : P) (n : Int) (tape : List UInt8) : Int := zcheck p n tape
def zeroA (p : P) (n : Int) (tape : List UInt8) : List (List UInt8) := if zcheck p n tape = 0 then shares p (zpolysTo p tape n.toNat) else []
theorem zpolysTo_len (p : P) (tape : List UInt8) (k : Nat) : (zpolysTo p tape k).length = k := by unfold zpolysTo; simp
theorem zpolysTo_succ (p : P) (tape : List UInt8) (k : Nat) : zpolysTo p tape (k + 1) = zpolysTo p tape k ++ [zpoly p (take_ p.T.toNat tape k)] := by unfold zpolysTo; rw [List.range_succ, List.map_append]; rfl
theorem zpolysTo_get (p : P) (tape : List UInt8) (n k : Nat) (h : k < (zpolysTo p tape n).length) : (zpolysTo p tape n)[k] = zpoly p (take_ p.T.toNat tape k) := by simp [zpolysTo]
theorem zpoly_len {p : P} (hp : p.May) (t : List UInt8) (ht : t.length = p.T.toNat) : (zpoly p t).length ≤ need p := by
  unfold P.May at hp
  unfold zpoly need
  rw [pmul_len, proot_len, secrets_len, ht]
  split <;> omega
theorem zpoly_zero (p : P) (t : List UInt8) {m : Nat} (hm : m < p.L.toNat) : ev (zpoly p t) (co p.secrets m) = 0 := by
  have hl : m < p.secrets.length := by rw [secrets_len]; exact hm
  unfold zpoly
  rw [ev_pmul, root_at hl, zmul]
/-- the sums of two lists, as long as the shorter one -/
def add2 (a b : List UInt8) : List UInt8 := tab (min a.length b.length) fun k => add (co a k) (co b k)
theorem add2_len (a b : List UInt8) : (add2 a b).length = min a.length b.length := tab_len _ _
theorem co_add2 (a b : List UInt8) (k : Nat) (h1 : k < a.length) (h2 : k < b.length) : co (add2 a b) k = add (co a k) (co b k) := by
  unfold add2; rw [co_tab, if_pos (by omega)]
def addL : List (List UInt8) → List UInt8
  | [] => []
  | a :: l => l.foldl add2 a
def addTo_ (l : List (List UInt8)) (k : Nat) : List UInt8 := addL (l.take k)
theorem addTo_one (l : List (List UInt8)) (h : 0 < l.length) : addTo_ l 1 = l[0] := by
  cases l with
  | nil => simp at h
  | cons a l => rfl
theorem addTo_succ (l : List (List UInt8)) (k : Nat) (h0 : 0 < k) (h : k < l.length) : addTo_ l (k + 1) = add2 (addTo_ l k) l[k] := by
  cases l with
  | nil => simp at h
  | cons a l =>
    obtain ⟨k, rfl⟩ : ∃ j, k = j + 1 := ⟨k - 1, by omega⟩
    have hl : k < l.length := by simp at h; omega
    unfold addTo_ addL
    simp only [List.take_succ_cons, List.getElem_cons_succ]
    rw [List.take_succ_eq_append_getElem hl, List.foldl_append]
    rfl
theorem addTo_all (l : List (List UInt8)) : addTo_ l l.length = addL l := by unfold addTo_; rw [List.take_length]
/-! blindings -/
def width (p : P) : Int := p.T + p.L - 1
def bpoly (t : Int) (r : List UInt8) : List UInt8 := pmul [point t, 1] r
def bpolysTo (p : P) (t : Int) (tape : List UInt8) (k : Nat) : List (List UInt8) := (List.range k).map fun j => bpoly t (take_ (width p).toNat tape j)
def bcheck (p : P) (n t : Int) : Int := if p.right then (if n < 0 ∨ 240 < n then 2 else if p.is t then 0 else 2) else 1
def bcost (p : P) (n : Int) : Int := if p.right then (if n < 0 ∨ 240 < n then 0 else width p * n) else 0
def blindE (p : P) (n t : Int) (tape : List UInt8) : Int := if bcheck p n t = 0 then (if (tape.length : Int) < width p * n then 12 else 0) else bcheck p n t
def blindA (p : P) (n t : Int) (tape : List UInt8) : List (List UInt8) := if blindE p n t tape = 0 then shares p (bpolysTo p t tape n.toNat) else []
theorem bpolysTo_len (p : P) (t : Int) (tape : List UInt8) (k : Nat) : (bpolysTo p t tape k).length = k := by unfold bpolysTo; simp
theorem bpolysTo_succ (p : P) (t : Int) (tape : List UInt8) (k : Nat) : bpolysTo p t tape (k + 1) = bpolysTo p t tape k ++ [bpoly t (take_ (width p).toNat tape k)] := by unfold bpolysTo; rw [List.range_succ, List.map_append]; rfl
theorem bpolysTo_get (p : P) (t : Int) (tape : List UInt8) (n k : Nat) (h : k < (bpolysTo p t tape n).length) : (bpolysTo p t tape n)[k] = bpoly t (take_ (width p).toNat tape k) := by simp [bpolysTo]
theorem bpoly_len {p : P} (hp : p.May) (t : Int) (r : List UInt8) (hr : r.length = (width p).toNat) : (bpoly t r).length ≤ need p := by
  unfold P.May at hp
  unfold bpoly need
  unfold width at hr
  rw [pmul_len, hr]
  simp only [List.length_cons, List.length_nil]
  split <;> omega
theorem bpoly_zero (t : Int) (r : List UInt8) : ev (bpoly t r) (point t) = 0 := by
  unfold bpoly
  rw [ev_pmul, ev_lin, adds, zmul]
/-- what is found of parts -/
def fbyte (p : P) (who : List Int) (t : Int) (sh : List (List UInt8)) (j : Nat) : UInt8 := ev (rpoly p who sh j) (point t)
def find (p : P) (n : Nat) (t : Int) (who : List Int) (sh : List (List UInt8)) : List UInt8 := tab n (fbyte p who t sh)
theorem find_of {p : P} {n : Nat} {t : Int} {who : List Int} {sh : List (List UInt8)} {Q : Nat → List UInt8} {b : List UInt8} (hn : (points who).Nodup) (hl : need p ≤ who.length) (hb : b.length = n)
    (hq : ∀ j, j < n → (Q j).length ≤ need p) (hv : ∀ j i, j < n → i < need p → at_ sh i j = ev (Q j) (point (who.getD i 0))) (hh : ∀ j, j < n → ev (Q j) (point t) = co b j) : find p n t who sh = b := by
  subst hb
  unfold find
  conv => rhs; rw [← tab_of b]
  refine tab_congr fun j hj => ?_
  unfold fbyte
  rw [rpoly_ev hn hl (hq j hj) (fun k hk => hv j k hj hk), hh j hj]
end Go.Proofs.Ytompeiemioeohaa.ZeroM

/- layer 14, plain: shifts, and the masks that they are -/
set_option maxRecDepth 100000
namespace Go.Proofs.Ytompeiemioeohaa.MaskM
open PolyM PlanM StripeM LagrM GfM DealM RebM ZeroM

theorem co_left (a b : List UInt8) {k : Nat} (h : k < a.length) : co (a ++ b) k = co a k := by
  unfold co; rw [List.getD_eq_getElem?_getD, List.getD_eq_getElem?_getD, List.getElem?_append_left h]
theorem co_right (a b : List UInt8) (k : Nat) : co (a ++ b) (a.length + k) = co b k := by
  unfold co; rw [List.getD_eq_getElem?_getD, List.getD_eq_getElem?_getD, List.getElem?_append_right (by omega), Nat.add_sub_cancel_left]
/-! the custodians at whose points a shift is 0 -/
def zstep (T : Nat) (out : List Int) (i : Int) : List Int := if out.length < T then (if i ∈ out then out else out ++ [i]) else out
def zerosTo (T : Nat) (z : List Int) (k : Nat) : List Int := (all k).foldl (zstep T) z
def zeros (p : P) (z : List Int) : List Int := zerosTo p.T.toNat z p.N.toNat
theorem zerosTo_zero (T : Nat) (z : List Int) : zerosTo T z 0 = z := rfl
theorem zerosTo_succ (T : Nat) (z : List Int) (k : Nat) : zerosTo T z (k + 1) = zstep T (zerosTo T z k) ((k : Int) + 1) := by
  unfold zerosTo; rw [all_succ, List.foldl_append]; rfl
theorem zstep_full {T : Nat} {out : List Int} (h : T ≤ out.length) (i : Int) : zstep T out i = out := by unfold zstep; rw [if_neg (by omega)]
theorem zerosTo_full {T : Nat} {z : List Int} {k : Nat} (h : T ≤ (zerosTo T z k).length) : ∀ n, k ≤ n → zerosTo T z n = zerosTo T z k := by
  intro n
  induction n with
  | zero => intro hn; obtain rfl : k = 0 := by omega
            rfl
  | succ n ih =>
    intro hn
    by_cases e : k = n + 1
    · rw [e]
    · rw [zerosTo_succ, ih (by omega), zstep_full h]
theorem len_of_subset : ∀ (l m : List Int), l.Nodup → (∀ x ∈ l, x ∈ m) → l.length ≤ m.length
  | [], _, _, _ => Nat.zero_le _
  | x :: l, m, hn, h => by
    have hx := h x List.mem_cons_self
    have h1 := List.nodup_cons.mp hn
    have h2 := len_of_subset l (m.erase x) h1.2 fun y hy => (List.mem_erase_of_ne (fun e => h1.1 (by rw [← e]; exact hy))).mpr (h y (List.mem_cons_of_mem _ hy))
    have h3 := List.length_erase_of_mem hx
    have h4 : 0 < m.length := List.length_pos_of_mem hx
    simp only [List.length_cons]
    omega
theorem mem_all {n : Nat} {x : Int} : x ∈ all n ↔ 1 ≤ x ∧ x ≤ n := by
  unfold all
  simp only [List.mem_map, List.mem_range]
  constructor
  · rintro ⟨j, hj, rfl⟩; omega
  · rintro ⟨h1, h2⟩; exact ⟨(x - 1).toNat, by omega, by omega⟩
theorem all_nodup (n : Nat) : (all n).Nodup := by
  unfold all
  rw [List.nodup_iff_pairwise_ne, List.pairwise_map]
  refine List.Pairwise.imp_of_mem ?_ List.pairwise_lt_range
  intro i j _ _ hlt e
  omega
structure ZInv (p : P) (z out : List Int) (k : Nat) : Prop where
  nd : out.Nodup
  is : ∀ x ∈ out, p.is x = true
  le : out.length ≤ p.T.toNat
  sub : ∀ x ∈ z, x ∈ out
  full : out.length = p.T.toNat ∨ ∀ x : Int, 1 ≤ x → x ≤ k → x ∈ out
theorem zerosTo_inv {p : P} {z : List Int} (hz : z.Nodup) (hi : ∀ x ∈ z, p.is x = true) (hl : z.length ≤ p.T.toNat) (k : Nat) (hk : k ≤ p.N.toNat) : ZInv p z (zerosTo p.T.toNat z k) k := by
  induction k with
  | zero => exact ⟨hz, hi, hl, fun x h => h, .inr fun x h1 h2 => by omega⟩
  | succ k ih =>
    obtain ⟨h1, h2, h3, h4, h5⟩ := ih (by omega)
    rw [zerosTo_succ]
    unfold zstep
    split
    · rename_i hlt
      have h5 : ∀ x : Int, 1 ≤ x → x ≤ k → x ∈ zerosTo p.T.toNat z k := by
        rcases h5 with h | h
        · omega
        · exact h
      split
      · rename_i hm
        refine ⟨h1, h2, h3, h4, .inr fun x hx1 hx2 => ?_⟩
        by_cases e : x = (k : Int) + 1
        · rw [e]; exact hm
        · exact h5 x hx1 (by omega)
      · rename_i hm
        refine ⟨?_, fun x hx => ?_, by simp; omega, fun x hx => List.mem_append_left _ (h4 x hx), .inr fun x hx1 hx2 => ?_⟩
        · rw [List.nodup_append]
          exact ⟨h1, by simp, fun a ha b hb e => by simp at hb; exact hm (by rw [← hb, ← e]; exact ha)⟩
        · rcases List.mem_append.mp hx with hx | hx
          · exact h2 x hx
          · simp at hx; rw [hx]; exact decide_eq_true ⟨by omega, by omega⟩
        · by_cases e : x = (k : Int) + 1
          · rw [e]; simp
          · exact List.mem_append_left _ (h5 x hx1 (by omega))
    · rename_i hlt
      exact ⟨h1, h2, h3, h4, .inl (by omega)⟩
theorem zeros_inv {p : P} (hp : p.May) {z : List Int} (hz : z.Nodup) (hi : ∀ x ∈ z, p.is x = true) (hl : z.length ≤ p.T.toNat) : ZInv p z (zeros p z) p.N.toNat ∧ (zeros p z).length = p.T.toNat := by
  have h := zerosTo_inv hz hi hl p.N.toNat (Nat.le_refl _)
  refine ⟨h, ?_⟩
  rcases h.full with h5 | h5
  · exact h5
  · have h6 := len_of_subset (all p.N.toNat) _ (all_nodup _) fun x hx => by
      have := mem_all.mp hx
      exact h5 x this.1 this.2
    rw [all_len] at h6
    have := h.le
    unfold P.May at hp
    show (zerosTo p.T.toNat z p.N.toNat).length = _
    omega
theorem point_is {p : P} (hp : p.May) {x : Int} (h : p.is x = true) : (point x).toNat = (x - 1).toNat ∧ 1 ≤ x ∧ x ≤ p.N := by
  have h := of_decide_eq_true h
  unfold P.May at hp
  unfold point
  rw [if_neg (by omega), UInt8.toNat_ofNat_of_lt' (by simp only [UInt8.size]; omega)]
  exact ⟨rfl, h⟩
theorem points_nodup {p : P} (hp : p.May) {l : List Int} (h : l.Nodup) (hi : ∀ x ∈ l, p.is x = true) : (points l).Nodup := by
  unfold points
  rw [List.nodup_iff_pairwise_ne, List.pairwise_map]
  rw [List.nodup_iff_pairwise_ne] at h
  refine List.Pairwise.imp_of_mem ?_ h
  intro a b ha hb hne e
  have h1 := point_is hp (hi a ha)
  have h2 := point_is hp (hi b hb)
  have := congrArg UInt8.toNat e
  omega
theorem nodup_of_points {l : List Int} (h : (points l).Nodup) : l.Nodup := by
  unfold points at h
  rw [List.nodup_iff_pairwise_ne, List.pairwise_map] at h
  rw [List.nodup_iff_pairwise_ne]
  exact h.imp fun h e => h (by rw [e])
/-- a custodian's point is no stripe's byte's point -/
theorem secret_ne {p : P} (hp : p.May) {x : Int} (h : p.is x = true) : point x ∉ p.secrets := by
  intro hm
  have h1 := point_is hp h
  unfold P.secrets from_ at hm
  simp only [List.mem_map, List.mem_range] at hm
  obtain ⟨j, hj, e⟩ := hm
  unfold P.May at hp
  have := congrArg UInt8.toNat e
  rw [UInt8.toNat_ofNat_of_lt' (by simp only [UInt8.size]; omega)] at this
  omega
theorem both_nodup {p : P} (hp : p.May) {l : List Int} (h : l.Nodup) (hi : ∀ x ∈ l, p.is x = true) : (p.secrets ++ points l).Nodup := by
  rw [List.nodup_append]
  refine ⟨May.secrets hp, points_nodup hp h hi, fun a ha b hb e => ?_⟩
  unfold points at hb
  simp only [List.mem_map] at hb
  obtain ⟨x, hx, rfl⟩ := hb
  exact secret_ne hp (hi x hx) (by rw [← e]; exact ha)
/-! shifts -/
def mcheck (p : P) (delta : List UInt8) (z : List Int) : Int :=
  if p.right then (if (delta.length : Int) ≠ p.L then 3 else if p.T < z.length then 2 else if isAll p z then (if unl (points z) then 0 else 5) else 2) else 1
def shift (p : P) (delta : List UInt8) (z : List Int) : List UInt8 := thr (p.secrets ++ points (zeros p z)) (delta ++ List.replicate (points (zeros p z)).length 0)
structure MOk (p : P) (delta : List UInt8) (z : List Int) : Prop where
  may : p.May
  len : delta.length = p.L.toNat
  few : z.length ≤ p.T.toNat
  is : ∀ x ∈ z, p.is x = true
  nd : z.Nodup
theorem mcheck_ok {p : P} {delta : List UInt8} {z : List Int} (h : mcheck p delta z = 0) : MOk p delta z := by
  unfold mcheck at h
  split at h
  · rename_i hr
    have hm : p.May := of_decide_eq_true hr
    have hm' := hm
    unfold P.May at hm'
    split at h
    · omega
    · split at h
      · omega
      · split at h
        · rename_i h3
          split at h
          · rename_i h4
            unfold isAll at h3
            rw [List.all_eq_true] at h3
            exact ⟨hm, by omega, by omega, h3, nodup_of_points ((unl_iff _).mp h4)⟩
          · omega
        · omega
  · omega
theorem shift_len {p : P} {delta : List UInt8} {z : List Int} (h : MOk p delta z) : (shift p delta z).length = p.L.toNat + p.T.toNat := by
  unfold shift
  rw [thr_len, List.length_append, secrets_len, points_len, (zeros_inv h.may h.nd h.is h.few).2]
theorem shift_has {p : P} {delta : List UInt8} {z : List Int} (h : MOk p delta z) {m : Nat} (hm : m < p.L.toNat) : ev (shift p delta z) (co p.secrets m) = co delta m := by
  have hi := zeros_inv h.may h.nd h.is h.few
  have hn := both_nodup h.may hi.1.nd hi.1.is
  have hl : m < p.secrets.length := by rw [secrets_len]; exact hm
  have e : co p.secrets m = co (p.secrets ++ points (zeros p z)) m := (co_left _ _ hl).symm
  unfold shift
  rw [e, thr_ev hn _ _ (by rw [List.length_append]; omega), co_left _ _ (by rw [h.len]; exact hm)]
theorem shift_zero {p : P} {delta : List UInt8} {z : List Int} (h : MOk p delta z) {x : Int} (hx : x ∈ zeros p z) : ev (shift p delta z) (point x) = 0 := by
  have hi := zeros_inv h.may h.nd h.is h.few
  have hn := both_nodup h.may hi.1.nd hi.1.is
  obtain ⟨i, hil, rfl⟩ := List.mem_iff_getElem.mp hx
  have e : point (zeros p z)[i] = co (p.secrets ++ points (zeros p z)) (p.secrets.length + i) := by
    rw [co_right, co_get _ _ (by rw [points_len]; exact hil)]
    simp [points]
  unfold shift
  rw [e, thr_ev hn _ _ (by rw [List.length_append, points_len]; omega)]
  rw [secrets_len, ← h.len, co_right]
  unfold co
  rw [List.getD_eq_getElem?_getD, List.getElem?_replicate]
  split <;> rfl
theorem shift_zero' {p : P} {delta : List UInt8} {z : List Int} (h : MOk p delta z) {x : Int} (hx : x ∈ z) : ev (shift p delta z) (point x) = 0 :=
  shift_zero h ((zeros_inv h.may h.nd h.is h.few).1.sub x hx)
/-! long division by a polynomial whose last byte is 1 -/
def ostep (q : List UInt8) (k : Nat) (r : List UInt8) : List UInt8 := tab r.length fun i => if k ≤ i ∧ i < k + q.length then add (co r i) (mul (co r (k + q.length - 1)) (co q (i - k))) else co r i
def orest (p q : List UInt8) (n : Nat) : Nat → List UInt8
  | 0 => p
  | s + 1 => ostep q (n - 1 - s) (orest p q n s)
/-- the quotient's place k -/
def oc (p q : List UInt8) (n k : Nat) : UInt8 := co (orest p q n (n - 1 - k)) (k + q.length - 1)
def over (p q : List UInt8) : List UInt8 := tab (p.length + 1 - q.length) (oc p q (p.length + 1 - q.length))
theorem orest_len (p q : List UInt8) (n s : Nat) : (orest p q n s).length = p.length := by
  induction s with
  | zero => rfl
  | succ s ih => unfold orest ostep; rw [tab_len, ih]
theorem ev_shifted (q : List UInt8) (c x : UInt8) (k n : Nat) (h : k + q.length ≤ n) : xsum (fun i => mul (if k ≤ i ∧ i < k + q.length then mul c (co q (i - k)) else 0) (npow x i)) n = mul (mul c (npow x k)) (ev q x) := by
  have h1 : xsum (fun i => mul (if k ≤ i ∧ i < k + q.length then mul c (co q (i - k)) else 0) (npow x i)) n = xsum (fun i => mul (if k ≤ i ∧ i < k + q.length then mul c (co q (i - k)) else 0) (npow x i)) (k + q.length) :=
    xsum_more _ h fun i hi _ => by rw [if_neg (by omega), zmul]
  rw [h1]
  have h2 : ∀ m, m ≤ q.length → xsum (fun i => mul (if k ≤ i ∧ i < k + q.length then mul c (co q (i - k)) else 0) (npow x i)) (k + m) = mul (mul c (npow x k)) (xsum (fun i => mul (co q i) (npow x i)) m) := by
    intro m
    induction m with
    | zero =>
      intro _
      rw [xsum_zero _ _ fun i hi => by rw [if_neg (by omega), zmul]]
      show _ = mul _ 0
      rw [mul0]
    | succ m ih =>
      intro hm
      rw [show k + (m + 1) = (k + m) + 1 from rfl]
      simp only [xsum]
      rw [ih (by omega), muladd]
      congr 1
      rw [if_pos (by omega), Nat.add_sub_cancel_left, npow_add, mula, mula, ← mula (co q m), mulc (co q m) (npow x k), mula]
  rw [h2 _ (Nat.le_refl _), ev_sum q x (Nat.le_refl _)]
theorem ev_ostep (q r : List UInt8) (k : Nat) (h : k + q.length ≤ r.length) (x : UInt8) : ev (ostep q k r) x = add (ev r x) (mul (mul (co r (k + q.length - 1)) (npow x k)) (ev q x)) := by
  unfold ostep
  rw [ev_tab, ← ev_shifted q (co r (k + q.length - 1)) x k r.length h, ← ev_sum r x (Nat.le_refl _), ← xsum_add]
  refine xsum_congr _ fun i _ => ?_
  rw [← addmul]
  split
  · rfl
  · rw [add0]
/-- what is left behind s steps, and what has come of the quotient -/
theorem orest_ev (p q : List UInt8) (n : Nat) (hn : n + q.length = p.length + 1) (x : UInt8) : ∀ s, s ≤ n → ev p x = add (ev (orest p q n s) x) (mul (xsum (fun i => if n - s ≤ i then mul (oc p q n i) (npow x i) else 0) n) (ev q x)) := by
  intro s
  induction s with
  | zero => intro _; rw [xsum_zero _ _ fun i hi => by rw [if_neg (by omega)], zmul, add0]; rfl
  | succ s ih =>
    intro hs
    rw [ih (by omega)]
    have hk : n - 1 - s + q.length ≤ (orest p q n s).length := by rw [orest_len]; omega
    have e1 : ev (orest p q n (s + 1)) x = add (ev (orest p q n s) x) (mul (mul (co (orest p q n s) (n - 1 - s + q.length - 1)) (npow x (n - 1 - s))) (ev q x)) := ev_ostep q _ _ hk x
    have e2 : oc p q n (n - 1 - s) = co (orest p q n s) (n - 1 - s + q.length - 1) := by
      unfold oc; rw [show n - 1 - (n - 1 - s) = s from by omega]
    rw [← e2] at e1
    have e3 : xsum (fun i => if n - (s + 1) ≤ i then mul (oc p q n i) (npow x i) else 0) n = add (xsum (fun i => if n - s ≤ i then mul (oc p q n i) (npow x i) else 0) n) (mul (oc p q n (n - 1 - s)) (npow x (n - 1 - s))) := by
      rw [← xsum_one (fun i => if i = n - 1 - s then mul (oc p q n (n - 1 - s)) (npow x (n - 1 - s)) else 0) n (n - 1 - s) (by omega) (fun i _ hne => if_neg hne) |>.trans (if_pos rfl), ← xsum_add]
      refine xsum_congr _ fun i hi => ?_
      by_cases h1 : i = n - 1 - s
      · rw [if_pos (by omega), if_neg (by omega), if_pos h1, zadd, h1]
      · rw [if_neg h1, add0]
        by_cases h2 : n - s ≤ i
        · rw [if_pos (by omega), if_pos h2]
        · rw [if_neg (by omega), if_neg h2]
    rw [e1, e3, addmul, add4, adds, add0]
/-- a polynomial whose last byte is 1 goes n - s places down: nothing is left from there on -/
theorem orest_top (p q : List UInt8) (n : Nat) (hn : n + q.length = p.length + 1) (h0 : 0 < q.length) (h1 : co q (q.length - 1) = 1) : ∀ s, s ≤ n → ∀ i, n - s + q.length - 1 ≤ i → co (orest p q n s) i = 0 := by
  intro s
  induction s with
  | zero => intro _ i hi; exact co_ge _ _ (by show p.length ≤ i; omega)
  | succ s ih =>
    intro hs i hi
    show co (ostep q (n - 1 - s) (orest p q n s)) i = 0
    unfold ostep
    rw [co_tab]
    split
    · split
      · rename_i h2
        by_cases e : i = n - 1 - s + q.length - 1
        · rw [e, show n - 1 - s + q.length - 1 - (n - 1 - s) = q.length - 1 from by omega, h1, mul1, adds]
        · omega
      · exact ih (by omega) i (by omega)
    · rfl
theorem over_len (p q : List UInt8) : (over p q).length = p.length + 1 - q.length := tab_len _ _
/-- a polynomial that is 0 at all roots of another one is its quotient times it -/
theorem over_exact {p xs : List UInt8} (hx : xs.Nodup) (hl : xs.length ≤ p.length) (hz : ∀ x ∈ xs, ev p x = 0) (x : UInt8) : ev p x = mul (ev (over p (proot xs)) x) (ev (proot xs) x) := by
  obtain ⟨n, hn⟩ : ∃ n, n = p.length + 1 - (proot xs).length := ⟨_, rfl⟩
  have hql := proot_len xs
  have hn2 : n + (proot xs).length = p.length + 1 := by omega
  have hev : ∀ y, ev p y = add (ev (orest p (proot xs) n n) y) (mul (ev (over p (proot xs)) y) (ev (proot xs) y)) := fun y => by
    have := orest_ev p (proot xs) n hn2 y n (Nat.le_refl _)
    rw [this]
    congr 2
    unfold over
    rw [ev_tab, ← hn]
    exact xsum_congr _ fun i _ => by rw [if_pos (by omega)]
  have htop := orest_top p (proot xs) n hn2 (by omega) (by rw [hql]; exact proot_last xs) n (Nat.le_refl _)
  have hrest : ∀ k, co (orest p (proot xs) n n) k = co [] k := by
    have h1 : ∀ k, co (orest p (proot xs) n n) k = co ((orest p (proot xs) n n).take xs.length) k := fun k => by
      rw [co_take]
      split
      · rfl
      · exact htop k (by omega)
    intro k
    rw [h1 k]
    refine unique (n := xs.length) (xs := xs) (by rw [List.length_take]; omega) (Nat.zero_le _) hx (Nat.le_refl _) (fun y hy => ?_) k
    rw [← ev_ext h1 y]
    have e := hev y
    rw [hz y hy, (ev_proot xs y).mpr hy, mul0, add0] at e
    exact e.symm
  rw [hev x, ev_ext hrest x]
  exact zadd _
/-! masks -/
def sized (b : List UInt8) (n : Nat) : List UInt8 := tab n (co b)
theorem sized_len (b : List UInt8) (n : Nat) : (sized b n).length = n := tab_len _ _
theorem ev_sized (b : List UInt8) (n : Nat) (h : b.length ≤ n) (x : UInt8) : ev (sized b n) x = ev b x := ev_ext (fun k => by
  unfold sized; rw [co_tab]; split
  · rfl
  · exact (co_ge b k (by omega)).symm) x
def mdeal (p : P) (delta sh : List UInt8) : List UInt8 := sized (over (padd sh (thr p.secrets (sized delta p.secrets.length))) (proot p.secrets)) p.T.toNat
def mzero (p : P) (sh : List UInt8) : List UInt8 := sized (over sh (proot p.secrets)) p.T.toNat
def mblind (p : P) (sh : List UInt8) (t : Int) : List UInt8 := sized (over sh [point t, 1]) (width p).toNat
/-- a mask added to a tape at a place -/
def apply (tape : List UInt8) (at_ : Int) (m : List UInt8) : List UInt8 := tab tape.length fun k => if at_ ≤ k ∧ k < at_ + m.length ∧ 0 ≤ at_ then add (co tape k) (co m ((k : Int) - at_).toNat) else co tape k
theorem apply_len (tape : List UInt8) (at_ : Int) (m : List UInt8) : (apply tape at_ m).length = tape.length := tab_len _ _
theorem proot_one (c : UInt8) : proot [c] = [c, 1] := by
  have : proot ([] ++ [c]) = pmul (proot []) [c, 1] := proot_snoc _ _
  rw [List.nil_append] at this
  rw [this]
  refine list_ext (by rw [pmul_len]; rfl) fun k => ?_
  rw [co_pmul]
  have e1 : proot [] = [1] := rfl
  rw [e1]
  unfold conv
  rw [xsum_head, co_zero, one_mul, Nat.sub_zero, xsum_zero _ _ fun i _ => by rw [co_succ, co_nil, zmul], add0]
theorem mzero_is {p : P} (hp : p.May) (d : List UInt8) (hl : d.length = p.L.toNat + p.T.toNat) (hz : ∀ m, m < p.L.toNat → ev d (co p.secrets m) = 0) (x : UInt8) : ev d x = mul (ev (mzero p d) x) (ev (proot p.secrets) x) := by
  have hs := May.secrets hp
  unfold mzero
  rw [ev_sized _ _ (by rw [over_len, hl, proot_len, secrets_len]; omega)]
  refine over_exact hs (by rw [secrets_len, hl]; omega) (fun y hy => ?_) x
  obtain ⟨i, hi, rfl⟩ := List.mem_iff_getElem.mp hy
  have := hz i (by rw [← secrets_len]; exact hi)
  rw [co_get _ _ hi] at this
  exact this
theorem mblind_is {p : P} (hp : p.May) (s : List UInt8) (t : Int) (hl : s.length = p.L.toNat + p.T.toNat) (hz : ev s (point t) = 0) (x : UInt8) : ev s x = mul (ev (mblind p s t) x) (ev [point t, 1] x) := by
  unfold P.May at hp
  unfold mblind
  rw [ev_sized _ _ (by rw [over_len, hl]; unfold width; simp only [List.length_cons, List.length_nil]; omega), ← proot_one]
  refine over_exact (by simp) (by simp only [List.length_cons, List.length_nil]; omega) (fun y hy => ?_) x
  simp at hy; rw [hy]; exact hz
theorem mdeal_is {p : P} {delta : List UInt8} {z : List Int} (h : MOk p delta z) (x : UInt8) : add (ev (shift p delta z) x) (ev (thr p.secrets delta) x) = mul (ev (mdeal p delta (shift p delta z)) x) (ev (proot p.secrets) x) := by
  have hs := May.secrets h.may
  have hsd : sized delta p.secrets.length = delta := by
    unfold sized
    rw [secrets_len, ← h.len]; exact tab_of delta
  have hl : (padd (shift p delta z) (thr p.secrets delta)).length = p.L.toNat + p.T.toNat := by rw [padd_len, thr_len, shift_len h, secrets_len]; omega
  unfold mdeal
  rw [hsd, ev_sized _ _ (by rw [over_len, hl, proot_len, secrets_len]; omega), ← ev_padd]
  refine over_exact hs (by rw [secrets_len, hl]; omega) (fun y hy => ?_) x
  obtain ⟨i, hi, rfl⟩ := List.mem_iff_getElem.mp hy
  have hi2 : i < p.L.toNat := by rw [← secrets_len]; exact hi
  have e := shift_has h hi2
  have e2 := thr_ev hs delta i hi
  rw [co_get _ _ hi] at e e2
  rw [ev_padd, e, e2, adds]
theorem co_apply (tape m : List UInt8) (a k : Nat) (hk : k < tape.length) : co (apply tape (a : Int) m) k = if a ≤ k ∧ k < a + m.length then add (co tape k) (co m (k - a)) else co tape k := by
  unfold apply
  rw [co_tab, if_pos hk]
  by_cases h : a ≤ k ∧ k < a + m.length
  · rw [if_pos h, if_pos (by omega), show ((k : Int) - (a : Int)).toNat = k - a from by omega]
  · rw [if_neg h, if_neg (by omega)]
/-- a tape with masks added, stripe by stripe -/
def othTo (T : Nat) (tape : List UInt8) (m : Nat → List UInt8) : Nat → List UInt8
  | 0 => tape
  | k + 1 => apply (othTo T tape m k) ((k * T : Nat) : Int) (m k)
theorem othTo_len (T : Nat) (tape : List UInt8) (m : Nat → List UInt8) (k : Nat) : (othTo T tape m k).length = tape.length := by
  induction k with
  | zero => rfl
  | succ k ih => unfold othTo; rw [apply_len, ih]
theorem co_othTo {T : Nat} {tape : List UInt8} {m : Nat → List UInt8} (j i : Nat) (hi : i < T) (hl : j * T + i < tape.length) : ∀ n, (∀ j, j < n → (m j).length = T) → co (othTo T tape m n) (j * T + i) = if j < n then add (co tape (j * T + i)) (co (m j) i) else co tape (j * T + i) := by
  intro n
  induction n with
  | zero => intro _; rw [if_neg (by omega)]; rfl
  | succ n ih =>
    intro hm
    unfold othTo
    rw [co_apply _ _ _ _ (by rw [othTo_len]; exact hl), ih fun j hj => hm j (by omega), hm n (by omega)]
    by_cases e : j = n
    · subst e
      rw [if_pos (by omega), if_neg (by omega), if_pos (by omega), Nat.add_sub_cancel_left]
    · have hne : ¬ (n * T ≤ j * T + i ∧ j * T + i < n * T + T) := fun h => by
        rcases Nat.lt_or_ge j n with h1 | h1
        · have : (j + 1) * T ≤ n * T := Nat.mul_le_mul_right _ h1
          have h2 := Nat.add_mul j 1 T
          omega
        · have : (n + 1) * T ≤ j * T := Nat.mul_le_mul_right _ (by omega)
          have h2 := Nat.add_mul n 1 T
          omega
      rw [if_neg hne]
      by_cases h : j < n
      · rw [if_pos h, if_pos (by omega)]
      · rw [if_neg h, if_neg (by omega)]
theorem split_at {T : Nat} (_hT : 0 < T) (k : Nat) : k = k / T * T + k % T := by
  have := Nat.div_add_mod k T
  rw [Nat.mul_comm] at this; omega
/-- the same masks lead back -/
theorem oth_back {T : Nat} {tape : List UInt8} {m : Nat → List UInt8} {n : Nat} (hT : 0 < T) (hm : ∀ j, j < n → (m j).length = T) : othTo T (othTo T tape m n) m n = tape := by
  refine list_ext (by rw [othTo_len, othTo_len]) fun k => ?_
  by_cases hk : k < tape.length
  · have e := split_at hT k
    have hi := Nat.mod_lt k hT
    rw [e] at hk ⊢
    rw [co_othTo _ _ hi (by rw [othTo_len]; exact hk) n hm, co_othTo _ _ hi hk n hm]
    split
    · rw [adda, adds, add0]
    · rfl
  · rw [co_ge _ _ (by rw [othTo_len, othTo_len]; omega), co_ge _ _ (by omega)]
/-- the other blob's shares with the masks are the very same, at custodians where the shifts are 0 -/
theorem hides {p : P} (hp : p.May) {a b tape : List UInt8} {z : List Int} {n : Nat} (hn : n = p.stripes a.length) (hab : a.length = b.length) (ht : n * p.T.toNat ≤ tape.length) (hz : z.Nodup) (his : ∀ x ∈ z, p.is x = true) (hfew : z.length ≤ p.T.toNat)
    {x : Int} (hx : x ∈ z) {d : Nat → List UInt8} (hd : ∀ j, d j = xorL (row p.L.toNat a j) (row p.L.toNat b j)) {m : Nat → List UInt8} (hm : ∀ j, m j = mdeal p (d j) (shift p (d j) z)) :
    share (polys p b (othTo p.T.toNat tape m n)) x = share (polys p a tape) x := by
  have hs := May.secrets hp
  have hlb : (polys p b (othTo p.T.toNat tape m n)).length = n := by unfold polys; rw [polysTo_len, ← hab, hn]
  have hla : (polys p a tape).length = n := by unfold polys; rw [polysTo_len, hn]
  have hml : ∀ j, (m j).length = p.T.toNat := fun j => by rw [hm]; exact sized_len _ _
  refine list_ext (by rw [share_len, share_len, hla, hlb]) fun j => ?_
  by_cases hj : j < n
  · rw [co_share _ _ _ (by omega), co_share _ _ _ (by omega), polys_get, polys_get]
    have hok : MOk p (d j) z := ⟨hp, by rw [hd, xorL_len, row_len], hfew, his, hz⟩
    have h0 := shift_zero' hok hx
    have hmd := mdeal_is hok (point x)
    rw [h0, zadd] at hmd
    have ht1 : ∀ k, co (take_ p.T.toNat (othTo p.T.toNat tape m n) j) k = co (padd (take_ p.T.toNat tape j) (m j)) k := fun k => by
      rw [co_padd, co_take_, co_take_]
      by_cases hk : k < p.T.toNat
      · have h1 : (j + 1) * p.T.toNat ≤ n * p.T.toNat := Nat.mul_le_mul_right _ hj
        have h2 := Nat.add_mul j 1 p.T.toNat
        rw [if_pos hk, if_pos hk, co_othTo j k hk (by omega) n fun j _ => hml j, if_pos hj]
      · rw [if_neg hk, if_neg hk, co_ge (m j) k (by rw [hml]; omega), add0]
    have hr : ev (thr p.secrets (row p.L.toNat a j)) (point x) = add (ev (thr p.secrets (row p.L.toNat b j)) (point x)) (ev (thr p.secrets (d j)) (point x)) := by
      refine ev_thr_add hs _ _ _ (fun i hi => ?_) _
      rw [hd, co_xorL _ _ (by rw [row_len, row_len]; exact Nat.le_refl _), addc, adda, adds, add0]
    unfold poly
    rw [ev_padd, ev_padd, ev_pmul, ev_pmul, ev_ext ht1, ev_padd, muladd, hr, hmd, hm j, mulc (ev (mdeal p (d j) (shift p (d j) z)) (point x))]
    rw [adda]
    congr 1
    exact addc _ _
  · rw [co_ge _ _ (by rw [share_len]; omega), co_ge _ _ (by rw [share_len]; omega)]
/-- in whatever order they come the shift is the same -/
theorem zerosTo_same {T : Nat} {z z' : List Int} (hl : z.length = z'.length) (hm : ∀ x, x ∈ z ↔ x ∈ z') (k : Nat) : (zerosTo T z k).length = (zerosTo T z' k).length ∧ ∀ x, x ∈ zerosTo T z k ↔ x ∈ zerosTo T z' k := by
  induction k with
  | zero => exact ⟨hl, hm⟩
  | succ k ih =>
    obtain ⟨h1, h2⟩ := ih
    rw [zerosTo_succ, zerosTo_succ]
    unfold zstep
    rw [h1]
    split
    · by_cases h3 : ((k : Int) + 1) ∈ zerosTo T z k
      · rw [if_pos h3, if_pos ((h2 _).mp h3)]; exact ⟨h1, h2⟩
      · rw [if_neg h3, if_neg fun h => h3 ((h2 _).mpr h)]
        exact ⟨by simp [h1], fun x => by simp [h2 x]⟩
    · exact ⟨h1, h2⟩
theorem shift_turn {p : P} {delta : List UInt8} {z z' : List Int} (h : MOk p delta z) (h' : MOk p delta z') (hl : z.length = z'.length) (hm : ∀ x, x ∈ z ↔ x ∈ z') : shift p delta z = shift p delta z' := by
  have hi := zeros_inv h'.may h'.nd h'.is h'.few
  have hn := both_nodup h'.may hi.1.nd hi.1.is
  have hsame := zerosTo_same (T := p.T.toNat) hl hm p.N.toNat
  have hlen : (p.secrets ++ points (zeros p z')).length = p.L.toNat + p.T.toNat := by rw [List.length_append, secrets_len, points_len, hi.2]
  refine thr_is hn _ _ (by rw [shift_len h, hlen]) fun j hj => ?_
  by_cases hjl : j < p.secrets.length
  · have hj2 : j < p.L.toNat := by rw [← secrets_len]; exact hjl
    rw [co_left _ _ hjl, shift_has h hj2, co_left _ _ (by rw [h.len]; exact hj2)]
  · obtain ⟨i, rfl⟩ : ∃ i, j = p.secrets.length + i := ⟨j - p.secrets.length, by omega⟩
    have hil : i < (zeros p z').length := by rw [hi.2]; rw [hlen, secrets_len] at hj; omega
    have e : co (points (zeros p z')) i = point (zeros p z')[i] := by
      rw [co_get _ _ (by rw [points_len]; exact hil)]; simp [points]
    rw [co_right, e, shift_zero h ((hsame.2 _).mpr (List.getElem_mem hil)), secrets_len, ← h.len, co_right]
    unfold co
    rw [List.getD_eq_getElem?_getD, List.getElem?_replicate]
    split <;> rfl
/-- a zero polynomial with the mask of a difference is that difference more -/
theorem zmoves {p : P} (hp : p.May) (d t : List UInt8) (hl : d.length = p.L.toNat + p.T.toNat) (hz : ∀ m, m < p.L.toNat → ev d (co p.secrets m) = 0) (t2 : List UInt8) (h2 : ∀ k, co t2 k = add (co t k) (co (mzero p d) k)) (x : UInt8) : add (ev (zpoly p t) x) (ev (zpoly p t2) x) = ev d x := by
  unfold zpoly
  rw [ev_pmul, ev_pmul, ev_ext (p := t2) (q := padd t (mzero p d)) (fun k => by rw [co_padd, h2]), ev_padd, muladd, ← adda, adds, zadd, mzero_is hp d hl hz x, mulc]
theorem bmoves {p : P} (hp : p.May) (s r : List UInt8) (t : Int) (hl : s.length = p.L.toNat + p.T.toNat) (hz : ev s (point t) = 0) (r2 : List UInt8) (h2 : ∀ k, co r2 k = add (co r k) (co (mblind p s t) k)) (x : UInt8) : add (ev (bpoly t r) x) (ev (bpoly t r2) x) = ev s x := by
  unfold bpoly
  rw [ev_pmul, ev_pmul, ev_ext (p := r2) (q := padd r (mblind p s t)) (fun k => by rw [co_padd, h2]), ev_padd, muladd, ← adda, adds, zadd, mblind_is hp s t hl hz x, mulc]
end Go.Proofs.Ytompeiemioeohaa.MaskM

/- layer 11, plain: dealt shares that are enough tell the blob, and agree; one that is turned is told -/
set_option maxRecDepth 100000
namespace Go.Proofs.Ytompeiemioeohaa.RebM
open PolyM PlanM StripeM LagrM GfM DealM

def gath (p : P) (b tp : List UInt8) (who : List Int) : List (List UInt8) := who.map (share (polys p b tp))
theorem gath_len (p : P) (b tp : List UInt8) (who : List Int) : (gath p b tp who).length = who.length := by unfold gath; rw [List.length_map]
theorem gath_get (p : P) (b tp : List UInt8) (who : List Int) (i : Nat) (h : i < (gath p b tp who).length) : (gath p b tp who)[i] = share (polys p b tp) (who[i]'(by rw [← gath_len p b tp who]; exact h)) := by simp [gath]
theorem gath_snoc (p : P) (b tp : List UInt8) (who : List Int) (k : Nat) (h : k < who.length) : gath p b tp (who.take (k + 1)) = gath p b tp (who.take k) ++ [share (polys p b tp) who[k]] := by
  unfold gath; rw [List.take_succ_eq_append_getElem h, List.map_append]; rfl
theorem polys_len (p : P) (b tp : List UInt8) : (polys p b tp).length = p.stripes b.length := by unfold polys; rw [polysTo_len]
theorem at_gath {p : P} {b tp : List UInt8} {who : List Int} {i j : Nat} (hi : i < who.length) (hj : j < p.stripes b.length) : at_ (gath p b tp who) i j = ev (poly p (row p.L.toNat b j) (take_ p.T.toNat tp j)) (point (who.getD i 0)) := by
  have hi' : i < (gath p b tp who).length := by rw [gath_len]; exact hi
  unfold at_
  rw [← List.getElem_eq_getD (h := hi'), gath_get, co_share _ _ _ (by rw [polys_len]; exact hj), polys_get, ← List.getElem_eq_getD (h := hi)]
theorem take_full {p : P} {tp : List UInt8} {st j : Nat} (ht : st * p.T.toNat ≤ tp.length) (hj : j < st) : (take_ p.T.toNat tp j).length = p.T.toNat :=
  take_len _ _ _ (Nat.le_trans (Nat.mul_le_mul_right _ hj) ht)
theorem back_ok {p : P} (hp : p.May) {b tp : List UInt8} {who : List Int} (hb : b.length ≤ 240) (ht : p.stripes b.length * p.T.toNat ≤ tp.length) (hall : ∀ i, (hi : i < who.length) → p.is who[i] = true) (hu : unl (points who) = true) (hw : p.T + p.L ≤ who.length) :
    rcheck p b.length who (gath p b tp who) = 0 ∧ rblobA p b.length who (gath p b tp who) = b ∧ ragreeA p b.length who (gath p b tp who) = true := by
  have hM := hp
  unfold P.May at hM
  have hn := (unl_iff _).mp hu
  have hne : need p ≤ who.length := by unfold need; omega
  have hc : rcheck p b.length who (gath p b tp who) = 0 := by
    unfold rcheck
    rw [if_pos (P.right_yes hp), if_neg (by omega), if_pos, if_pos hu, if_neg (by omega), if_neg (by rw [gath_len]; simp), if_pos]
    · unfold fitAll
      rw [List.all_eq_true]
      intro x hx
      obtain ⟨i, hi, rfl⟩ := List.mem_iff_getElem.mp hx
      rw [gath_get, share_len, polys_len]
      exact decide_eq_true rfl
    · unfold isAll
      rw [List.all_eq_true]
      intro x hx
      obtain ⟨i, hi, rfl⟩ := List.mem_iff_getElem.mp hx
      exact hall i hi
  have hq : ∀ j, j < p.stripes b.length → (poly p (row p.L.toNat b j) (take_ p.T.toNat tp j)).length ≤ need p := fun j hj => poly_len hp _ _ (take_full ht hj)
  refine ⟨hc, ?_, ?_⟩
  · unfold rblobA
    rw [if_pos hc, Int.toNat_natCast]
    exact rblob_of hp (Q := fun j => poly p (row p.L.toNat b j) (take_ p.T.toNat tp j)) hn hne hb hq (fun j i hj hi => at_gath (by omega) hj) (fun j m hj hm => poly_has hp _ _ hm)
  · unfold ragreeA
    rw [hc]
    have h0 : ((gath p b tp who).getD 0 []).length = p.stripes b.length := by
      have h1 : 0 < (gath p b tp who).length := by rw [gath_len]; omega
      rw [← List.getElem_eq_getD (h := h1), gath_get, share_len, polys_len]
    rw [ragree_of hn hne h0 hq fun j i hj hi => at_gath hi hj]
    rfl
end Go.Proofs.Ytompeiemioeohaa.RebM
