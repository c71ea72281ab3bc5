/- what layers 10 to 14 say, plain: shares add up; points are unlike -/
import Derived.Test.YtmeenipcfmeopaaDealMath
set_option maxRecDepth 100000
namespace Go.Proofs.Ytmeenipcfmeopaa.DealM
open PolyM PlanM StripeM LagrM GfM

theorem from_nodup (n k : Nat) (h : n + k ≤ 256) : (from_ n k).Nodup := by
  unfold from_
  rw [List.nodup_iff_pairwise_ne, List.pairwise_map]
  refine List.Pairwise.imp_of_mem ?_ List.pairwise_lt_range
  intro i j hi hj hlt e
  rw [List.mem_range] at hi hj
  have := congrArg UInt8.toNat e
  rw [UInt8.toNat_ofNat_of_lt' (by simp only [UInt8.size]; omega), UInt8.toNat_ofNat_of_lt' (by simp only [UInt8.size]; omega)] at this
  omega
theorem May.secrets {p : P} (h : p.May) : p.secrets.Nodup := by
  unfold P.May at h
  exact from_nodup _ _ (by omega)
/-- the polynomial through sums is the sum of the polynomials -/
theorem ev_thr_add {xs : List UInt8} (h : xs.Nodup) (r1 r2 r3 : List UInt8) (hr : ∀ j, j < xs.length → co r3 j = add (co r1 j) (co r2 j)) (x : UInt8) : ev (thr xs r3) x = add (ev (thr xs r1) x) (ev (thr xs r2) x) := by
  rw [← ev_padd]
  congr 1
  refine (thr_is h r3 _ (by rw [padd_len, thr_len, thr_len, Nat.max_self]) fun j hj => ?_).symm
  rw [ev_padd, thr_ev h _ _ hj, thr_ev h _ _ hj, hr j hj]
theorem co_take (l : List UInt8) (n k : Nat) : co (l.take n) k = if k < n then co l k else 0 := by
  unfold co
  rw [List.getD_eq_getElem?_getD, List.getD_eq_getElem?_getD, List.getElem?_take]
  split <;> rfl
theorem co_drop (l : List UInt8) (n k : Nat) : co (l.drop n) k = co l (n + k) := by
  unfold co
  rw [List.getD_eq_getElem?_getD, List.getD_eq_getElem?_getD, List.getElem?_drop]
theorem co_take_ (T : Nat) (tape : List UInt8) (j k : Nat) : co (take_ T tape j) k = if k < T then co tape (j * T + k) else 0 := by
  unfold take_; rw [co_take, co_drop]
theorem co_row (L : Nat) (b : List UInt8) (k j : Nat) : co (row L b k) j = if j < L then co b (k * L + j) else 0 := by unfold row; rw [co_tab]
theorem co_xorL (a b : List UInt8) (h : b.length ≤ a.length) (k : Nat) : co (xorL a b) k = add (co a k) (co b k) := by
  unfold xorL
  rw [co_tab]
  split
  · rfl
  · rw [co_ge a k (by omega), co_ge b k (by omega)]; rfl
/-- two stripes' polynomials add up -/
theorem ev_poly_add {p : P} (h : p.secrets.Nodup) (r1 r2 r3 t1 t2 t3 : List UInt8) (hr : ∀ j, j < p.secrets.length → co r3 j = add (co r1 j) (co r2 j)) (ht : ∀ k, co t3 k = add (co t1 k) (co t2 k)) (x : UInt8) : ev (poly p r3 t3) x = add (ev (poly p r1 t1) x) (ev (poly p r2 t2) x) := by
  unfold poly
  rw [ev_padd, ev_padd, ev_padd, ev_pmul, ev_pmul, ev_pmul, ev_thr_add h r1 r2 r3 hr, ev_ext (p := t3) (q := padd t1 t2) (fun k => by rw [co_padd, ht]), ev_padd, muladd]
  exact add4 _ _ _ _
theorem co_share (q : List (List UInt8)) (i : Int) (k : Nat) (h : k < q.length) : co (share q i) k = ev q[k] (point i) := by
  rw [co_get _ _ (by rw [share_len]; exact h)]; simp [share]
/-- shares add up: of two blobs of one size, and two tapes -/
theorem share_add {p : P} (hp : p.May) (b0 b1 t0 t1 t3 : List UInt8) (hb : b0.length = b1.length) (ht : ∀ k, k < p.stripes b0.length * p.T.toNat → co t3 k = add (co t0 k) (co t1 k)) (i : Int) :
    share (polys p (xorL b0 b1) t3) i = xorL (share (polys p b0 t0) i) (share (polys p b1 t1) i) := by
  have hs := May.secrets hp
  have hl3 : (polys p (xorL b0 b1) t3).length = p.stripes b0.length := by unfold polys; rw [polysTo_len, xorL_len]
  have hl0 : (polys p b0 t0).length = p.stripes b0.length := by unfold polys; rw [polysTo_len]
  have hl1 : (polys p b1 t1).length = p.stripes b0.length := by unfold polys; rw [polysTo_len, hb]
  refine list_ext (by rw [share_len, xorL_len, share_len, hl3, hl0]) fun k => ?_
  rw [co_xorL _ _ (by rw [share_len, share_len, hl0, hl1]; exact Nat.le_refl _)]
  by_cases hk : k < p.stripes b0.length
  · rw [co_share _ _ _ (by omega), co_share _ _ _ (by omega), co_share _ _ _ (by omega), polys_get, polys_get, polys_get]
    refine ev_poly_add hs _ _ _ _ _ _ (fun j _ => ?_) (fun m => ?_) _
    · rw [co_row, co_row, co_row]
      split
      · exact co_xorL _ _ (by omega) _
      · rfl
    · rw [co_take_, co_take_, co_take_]
      split
      · rename_i hm
        refine ht _ ?_
        have h1 : (k + 1) * p.T.toNat ≤ p.stripes b0.length * p.T.toNat := Nat.mul_le_mul_right _ hk
        have h2 := Nat.add_mul k 1 p.T.toNat
        omega
      · rfl
  · rw [co_ge _ _ (by rw [share_len]; omega), co_ge _ _ (by rw [share_len]; omega), co_ge _ _ (by rw [share_len]; omega)]; rfl
end Go.Proofs.Ytmeenipcfmeopaa.DealM
