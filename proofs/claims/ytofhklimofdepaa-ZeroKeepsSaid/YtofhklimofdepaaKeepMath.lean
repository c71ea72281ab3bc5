/- layer 12, plain: shares that are made new tell the blob, and agree -/
import Derived.Test.YtofhklimofdepaaMB
set_option maxRecDepth 100000
namespace Go.Proofs.Ytofhklimofdepaa.ZeroM
open PolyM PlanM StripeM LagrM GfM DealM RebM

/-- a custodian's share, with two zero shares added -/
def mix (p : P) (b tp u v : List UInt8) (n : Nat) (i : Int) : List UInt8 := addL [share (polys p b tp) i, share (zpolysTo p u n) i, share (zpolysTo p v n) i]
def mixed (p : P) (b tp u v : List UInt8) (n : Nat) (who : List Int) : List (List UInt8) := who.map (mix p b tp u v n)
theorem mixed_len (p : P) (b tp u v : List UInt8) (n : Nat) (who : List Int) : (mixed p b tp u v n who).length = who.length := by simp [mixed]
theorem mixed_get (p : P) (b tp u v : List UInt8) (n : Nat) (who : List Int) (i : Nat) (h : i < (mixed p b tp u v n who).length) : (mixed p b tp u v n who)[i] = mix p b tp u v n (who[i]'(by rw [← mixed_len p b tp u v n who]; exact h)) := by simp [mixed]
theorem mixed_snoc (p : P) (b tp u v : List UInt8) (n : Nat) (who : List Int) (k : Nat) (h : k < who.length) : mixed p b tp u v n (who.take (k + 1)) = mixed p b tp u v n (who.take k) ++ [mix p b tp u v n who[k]] := by
  unfold mixed; rw [List.take_succ_eq_append_getElem h, List.map_append]; rfl
theorem mix_len {p : P} {b tp u v : List UInt8} {n : Nat} (hn : n = p.stripes b.length) (i : Int) : (mix p b tp u v n i).length = n := by
  show (add2 (add2 _ _) _).length = n
  rw [add2_len, add2_len, share_len, share_len, share_len, polys_len, zpolysTo_len, zpolysTo_len, ← hn]
  omega
theorem co_mix {p : P} {b tp u v : List UInt8} {n : Nat} (hn : n = p.stripes b.length) (i : Int) {j : Nat} (hj : j < n) :
    co (mix p b tp u v n i) j = ev (padd (padd (poly p (row p.L.toNat b j) (take_ p.T.toNat tp j)) (zpoly p (take_ p.T.toNat u j))) (zpoly p (take_ p.T.toNat v j))) (point i) := by
  have l1 : (share (polys p b tp) i).length = n := by rw [share_len, polys_len, hn]
  have l2 : (share (zpolysTo p u n) i).length = n := by rw [share_len, zpolysTo_len]
  have l3 : (share (zpolysTo p v n) i).length = n := by rw [share_len, zpolysTo_len]
  show co (add2 (add2 _ _) _) j = _
  rw [co_add2 _ _ _ (by rw [add2_len]; omega) (by omega), co_add2 _ _ _ (by omega) (by omega), ev_padd, ev_padd]
  rw [co_share _ _ _ (by rw [polys_len, ← hn]; exact hj), polys_get, co_share _ _ _ (by rw [zpolysTo_len]; exact hj), zpolysTo_get, co_share _ _ _ (by rw [zpolysTo_len]; exact hj), zpolysTo_get]
theorem mixed_ok {p : P} (hp : p.May) {b tp u v : List UInt8} {who : List Int} {n : Nat} (hn : n = p.stripes b.length) (hb : b.length ≤ 240) (ht : n * p.T.toNat ≤ tp.length) (hu : n * p.T.toNat ≤ u.length) (hv : n * p.T.toNat ≤ v.length)
    (hall : ∀ i, (hi : i < who.length) → p.is who[i] = true) (hun : unl (points who) = true) (hw : p.T + p.L ≤ who.length) :
    rcheck p b.length who (mixed p b tp u v n who) = 0 ∧ rblobA p b.length who (mixed p b tp u v n who) = b ∧ ragreeA p b.length who (mixed p b tp u v n who) = true := by
  have hM := hp
  unfold P.May at hM
  have hnd := (unl_iff _).mp hun
  have hne : need p ≤ who.length := by unfold need; omega
  have hc : rcheck p b.length who (mixed p b tp u v n who) = 0 := by
    unfold rcheck
    rw [if_pos (P.right_yes hp), if_neg (by omega), if_pos, if_pos hun, if_neg (by omega), if_neg (by rw [mixed_len]; simp), if_pos]
    · unfold fitAll
      rw [List.all_eq_true]
      intro x hx
      obtain ⟨i, hi, rfl⟩ := List.mem_iff_getElem.mp hx
      rw [mixed_get, mix_len hn, hn]
      exact decide_eq_true rfl
    · unfold isAll
      rw [List.all_eq_true]
      intro x hx
      obtain ⟨i, hi, rfl⟩ := List.mem_iff_getElem.mp hx
      exact hall i hi
  have hat : ∀ j i, j < n → i < who.length → at_ (mixed p b tp u v n who) i j = ev (padd (padd (poly p (row p.L.toNat b j) (take_ p.T.toNat tp j)) (zpoly p (take_ p.T.toNat u j))) (zpoly p (take_ p.T.toNat v j))) (point (who.getD i 0)) := fun j i hj hi => by
    have hi' : i < (mixed p b tp u v n who).length := by rw [mixed_len]; exact hi
    unfold at_
    rw [← List.getElem_eq_getD (h := hi'), mixed_get, co_mix hn _ hj, ← List.getElem_eq_getD (h := hi)]
  have hq : ∀ j, j < n → (padd (padd (poly p (row p.L.toNat b j) (take_ p.T.toNat tp j)) (zpoly p (take_ p.T.toNat u j))) (zpoly p (take_ p.T.toNat v j))).length ≤ need p := fun j hj => by
    have h1 := poly_len hp (row p.L.toNat b j) _ (take_full ht hj)
    have h2 := zpoly_len hp _ (take_full hu hj)
    have h3 := zpoly_len hp _ (take_full hv hj)
    rw [padd_len, padd_len]
    omega
  refine ⟨hc, ?_, ?_⟩
  · unfold rblobA
    rw [if_pos hc, Int.toNat_natCast]
    refine rblob_of hp (Q := fun j => padd (padd (poly p (row p.L.toNat b j) (take_ p.T.toNat tp j)) (zpoly p (take_ p.T.toNat u j))) (zpoly p (take_ p.T.toNat v j))) hnd hne hb (fun j hj => hq j (by omega)) (fun j i hj hi => hat j i (by omega) (by omega)) (fun j m hj hm => ?_)
    rw [ev_padd, ev_padd, poly_has hp _ _ hm, zpoly_zero _ _ hm, zpoly_zero _ _ hm, add0, add0]
  · unfold ragreeA
    rw [hc]
    have h0 : ((mixed p b tp u v n who).getD 0 []).length = n := by
      have h1 : 0 < (mixed p b tp u v n who).length := by rw [mixed_len]; omega
      rw [← List.getElem_eq_getD (h := h1), mixed_get, mix_len hn]
    rw [ragree_of hnd hne h0 hq fun j i hj hi => hat j i hj hi]
    rfl
end Go.Proofs.Ytofhklimofdepaa.ZeroM
