/- layer 14, plain: zero and blinding polynomials with a mask: the rows that are told -/
import Derived.Test.YtompeiemioeohaaShiftMath
set_option maxRecDepth 100000
namespace Go.Proofs.Ytompeiemioeohaa.MaskM
open PolyM PlanM StripeM LagrM GfM DealM RebM ZeroM

theorem mv_take {T : Nat} {tape m : List UInt8} (hm : m.length = T) (ht : T ≤ tape.length) (k : Nat) : co (take_ T (apply tape 0 m) 0) k = add (co (take_ T tape 0) k) (co m k) := by
  rw [co_take_, co_take_]
  by_cases hk : k < T
  · rw [if_pos hk, if_pos hk]
    have h := co_apply tape m 0 (0 * T + k) (by omega)
    rw [show ((0 : Nat) : Int) = 0 from rfl, if_pos (by omega)] at h
    rw [h]
    congr 2; omega
  · rw [if_neg hk, if_neg hk, co_ge m k (by omega), add0]
theorem one_polyZ (p : P) (tape : List UInt8) (i : Int) : share (zpolysTo p tape 1) i = [ev (zpoly p (take_ p.T.toNat tape 0)) (point i)] := rfl
theorem one_polyB (p : P) (t : Int) (tape : List UInt8) (i : Int) : share (bpolysTo p t tape 1) i = [ev (bpoly t (take_ (width p).toNat tape 0)) (point i)] := rfl
theorem zero_rows {p : P} (hp : p.May) {tape : List UInt8} (ht : p.T ≤ tape.length) :
    zeroE p 1 tape = 0 ∧ (zeroA p 1 tape).length = p.N.toNat ∧ ∀ k, (h : k < (zeroA p 1 tape).length) → (zeroA p 1 tape)[k] = [ev (zpoly p (take_ p.T.toNat tape 0)) (point ((k : Int) + 1))] := by
  have hc : zcheck p 1 tape = 0 := by unfold zcheck; rw [P.right_yes hp, if_pos rfl, if_neg (by omega), if_neg (by omega)]
  have e : zeroA p 1 tape = shares p (zpolysTo p tape 1) := by unfold zeroA; rw [if_pos hc]; rfl
  refine ⟨hc, by rw [e, shares_len], ?_⟩
  rw [e]
  intro k h
  rw [shares_get, one_polyZ]
theorem blind_rows {p : P} (hp : p.May) {t : Int} (hi : p.is t = true) {tape : List UInt8} (ht : width p ≤ tape.length) :
    blindE p 1 t tape = 0 ∧ (blindA p 1 t tape).length = p.N.toNat ∧ ∀ k, (h : k < (blindA p 1 t tape).length) → (blindA p 1 t tape)[k] = [ev (bpoly t (take_ (width p).toNat tape 0)) (point ((k : Int) + 1))] := by
  have hb : bcheck p 1 t = 0 := by unfold bcheck; rw [P.right_yes hp, if_pos rfl, if_neg (by omega), hi, if_pos rfl]
  have hc : blindE p 1 t tape = 0 := by unfold blindE; rw [if_pos hb, if_neg (by omega)]
  have e : blindA p 1 t tape = shares p (bpolysTo p t tape 1) := by unfold blindA; rw [if_pos hc]; rfl
  refine ⟨hc, by rw [e, shares_len], ?_⟩
  rw [e]
  intro k h
  rw [shares_get, one_polyB]
theorem diff_len {p : P} {delta : List UInt8} {z0 z1 : List Int} (h0 : MOk p delta z0) (h1 : MOk p delta z1) : (padd (shift p delta z0) (shift p delta z1)).length = p.L.toNat + p.T.toNat := by
  rw [padd_len, shift_len h0, shift_len h1, Nat.max_self]
/-- the zero polynomials differ by the shifts' difference -/
theorem moves_zero {p : P} {delta tape : List UInt8} {z0 z1 : List Int} (h0 : MOk p delta z0) (h1 : MOk p delta z1) (ht : p.T.toNat ≤ tape.length) (x : UInt8) :
    add (ev (zpoly p (take_ p.T.toNat tape 0)) x) (ev (zpoly p (take_ p.T.toNat (apply tape 0 (mzero p (padd (shift p delta z0) (shift p delta z1)))) 0)) x) = ev (padd (shift p delta z0) (shift p delta z1)) x :=
  zmoves h0.may _ _ (diff_len h0 h1) (fun m hm => by rw [ev_padd, shift_has h0 hm, shift_has h1 hm, adds]) _ (mv_take (sized_len _ _) ht) x
/-- the blinding polynomials differ by the shift -/
theorem moves_blind {p : P} {delta tape : List UInt8} {z0 : List Int} (h0 : MOk p delta z0) {t : Int} (hz : t ∈ z0) (ht : (width p).toNat ≤ tape.length) (x : UInt8) :
    add (ev (bpoly t (take_ (width p).toNat tape 0)) x) (ev (bpoly t (take_ (width p).toNat (apply tape 0 (mblind p (shift p delta z0) t)) 0)) x) = ev (shift p delta z0) x :=
  bmoves h0.may _ _ t (shift_len h0) (shift_zero' h0 hz) _ (mv_take (sized_len _ _) ht) x
end Go.Proofs.Ytompeiemioeohaa.MaskM
