/- layer 13, plain: what is wrong with parts; what is found -/
import Derived.Test.YtompeiemioeohaaMB
set_option maxRecDepth 100000
namespace Go.Proofs.Ytompeiemioeohaa.ZeroM
open PolyM PlanM StripeM LagrM GfM DealM RebM

/-- one of them is no custodian, or the target -/
def anyOff (p : P) (t : Int) (who : List Int) : Bool := who.any fun i => !(p.is i) || i == t
def allAre (n : Int) (sh : List (List UInt8)) : Bool := sh.all fun s => decide ((s.length : Int) = n)
def among (p : P) (n t : Int) (who : List Int) (sh : List (List UInt8)) : Int :=
  if anyOff p t who then 2 else if unl (points who) then (if (who.length : Int) < p.T + p.L then 6 else if sh.length ≠ who.length then 3 else if allAre n sh then 0 else 3) else 5
def findE (p : P) (n t : Int) (who : List Int) (sh : List (List UInt8)) : Int := if bcheck p n t = 0 then among p n t who sh else bcheck p n t
def findA (p : P) (n t : Int) (who : List Int) (sh : List (List UInt8)) : List UInt8 := if findE p n t who sh = 0 then find p n.toNat t who sh else []
theorem anyOff_yes {p : P} {t : Int} {who : List Int} {i : Nat} (hi : i < who.length) (h : (!(p.is who[i]) || who[i] == t) = true) : anyOff p t who = true := by
  unfold anyOff; rw [List.any_eq_true]; exact ⟨who[i], List.getElem_mem hi, h⟩
theorem anyOff_no {p : P} {t : Int} {who : List Int} (h : ∀ i, (hi : i < who.length) → (!(p.is who[i]) || who[i] == t) = false) : anyOff p t who = false := by
  unfold anyOff; rw [List.any_eq_false]; intro x hx
  obtain ⟨i, hi, rfl⟩ := List.mem_iff_getElem.mp hx
  rw [h i hi]; simp
theorem allAre_no {n : Int} {sh : List (List UInt8)} {i : Nat} (hi : i < sh.length) (h : ¬ (sh[i].length : Int) = n) : allAre n sh = false := by
  unfold allAre; rw [List.all_eq_false]; exact ⟨sh[i], List.getElem_mem hi, by simpa using h⟩
theorem allAre_yes {n : Int} {sh : List (List UInt8)} (h : ∀ i, (hi : i < sh.length) → (sh[i].length : Int) = n) : allAre n sh = true := by
  unfold allAre
  refine List.all_eq_true.mpr fun r hr => ?_
  obtain ⟨i, hi, rfl⟩ := List.mem_iff_getElem.mp hr
  exact decide_eq_true (h i hi)
/-- what a check has told -/
structure FOk (p : P) (n t : Int) (who : List Int) (sh : List (List UInt8)) : Prop where
  may : p.May
  n0 : 0 ≤ n
  n1 : n ≤ 240
  is : p.is t = true
  off : ∀ i, (hi : i < who.length) → p.is who[i] = true ∧ who[i] ≠ t
  nd : (points who).Nodup
  enough : p.T + p.L ≤ who.length
  same : sh.length = who.length
  row : ∀ i, (hi : i < sh.length) → (sh[i].length : Int) = n
theorem bcheck_ok {p : P} {n t : Int} (h : bcheck p n t = 0) : p.May ∧ 0 ≤ n ∧ n ≤ 240 ∧ p.is t = true := by
  unfold bcheck at h
  split at h
  · rename_i h1
    split at h
    · omega
    · split at h
      · rename_i h2; exact ⟨of_decide_eq_true h1, by omega, by omega, h2⟩
      · omega
  · omega
theorem find_ok {p : P} {n t : Int} {who : List Int} {sh : List (List UInt8)} (h : findE p n t who sh = 0) : FOk p n t who sh := by
  unfold findE at h
  split at h
  · rename_i h1
    obtain ⟨a1, a2, a3, a4⟩ := bcheck_ok h1
    unfold among at h
    split at h
    · omega
    · rename_i h2
      split at h
      · rename_i h3
        split at h
        · omega
        · split at h
          · omega
          · split at h
            · rename_i h6
              refine ⟨a1, a2, a3, a4, fun i hi => ?_, (unl_iff _).1 h3, by omega, by omega, fun i hi => ?_⟩
              · have h7 : (!(p.is who[i]) || who[i] == t) = false := by
                  rcases hx : (!(p.is who[i]) || who[i] == t) with _ | _
                  · rfl
                  · exact absurd (anyOff_yes hi hx) h2
                rw [Bool.or_eq_false_iff] at h7
                exact ⟨by simpa using h7.1, by simpa using h7.2⟩
              · unfold allAre at h6
                rw [List.all_eq_true] at h6
                exact of_decide_eq_true (h6 sh[i] (List.getElem_mem hi))
            · omega
      · omega
  · omega
/-! what the target finds of blinded parts -/
/-- a helper's part, k times blinded -/
def part (p : P) (b tp z : List UInt8) (t : Int) (n c : Nat) : Nat → Int → List UInt8
  | 0, i => share (polys p b tp) i
  | k + 1, i => add2 (part p b tp z t n c k i) (share (bpolysTo p t (z.drop (k * c)) n) i)
def parts (p : P) (b tp z : List UInt8) (t : Int) (n c k : Nat) (who : List Int) : List (List UInt8) := who.map (part p b tp z t n c k)
def qTo (p : P) (b tp z : List UInt8) (t : Int) (c : Nat) : Nat → Nat → List UInt8
  | 0, j => poly p (row p.L.toNat b j) (take_ p.T.toNat tp j)
  | k + 1, j => padd (qTo p b tp z t c k j) (bpoly t (take_ (width p).toNat (z.drop (k * c)) j))
section
variable {p : P} {b tp z : List UInt8} {t : Int} {n c : Nat}
theorem part_len (hn : n = p.stripes b.length) (k : Nat) (i : Int) : (part p b tp z t n c k i).length = n := by
  induction k with
  | zero => show (share _ _).length = n; rw [share_len, polys_len, hn]
  | succ k ih => show (add2 _ _).length = n; rw [add2_len, ih, share_len, bpolysTo_len]; omega
theorem co_part (hn : n = p.stripes b.length) {j : Nat} (hj : j < n) (i : Int) (k : Nat) : co (part p b tp z t n c k i) j = ev (qTo p b tp z t c k j) (point i) := by
  induction k with
  | zero =>
    show co (share _ _) j = _
    rw [co_share _ _ _ (by rw [polys_len, ← hn]; exact hj), polys_get]; rfl
  | succ k ih =>
    show co (add2 _ _) j = ev (padd _ _) _
    rw [co_add2 _ _ _ (by rw [part_len hn]; exact hj) (by rw [share_len, bpolysTo_len]; exact hj), ih, co_share _ _ _ (by rw [bpolysTo_len]; exact hj), bpolysTo_get, ev_padd]
theorem qTo_len (hp : p.May) (ht : n * p.T.toNat ≤ tp.length) (hc : c = (width p).toNat * n) {j : Nat} (hj : j < n) : ∀ k, k * c ≤ z.length → (qTo p b tp z t c k j).length ≤ need p
  | 0, _ => poly_len hp _ _ (take_full ht hj)
  | k + 1, hk => by
    have h1 := qTo_len hp ht hc hj k (Nat.le_trans (Nat.mul_le_mul_right _ (by omega)) hk)
    have h2 : (take_ (width p).toNat (z.drop (k * c)) j).length = (width p).toNat := take_len _ _ _ (by
      rw [List.length_drop]
      have h3 : (j + 1) * (width p).toNat ≤ c := by rw [hc, Nat.mul_comm]; exact Nat.mul_le_mul (Nat.le_refl _) (by omega)
      rw [Nat.add_mul, Nat.one_mul] at hk
      omega)
    have h4 := bpoly_len hp t _ h2
    show (padd _ _).length ≤ _
    rw [padd_len]; omega
theorem qTo_target (k j : Nat) : ev (qTo p b tp z t c k j) (point t) = ev (poly p (row p.L.toNat b j) (take_ p.T.toNat tp j)) (point t) := by
  induction k with
  | zero => rfl
  | succ k ih => show ev (padd _ _) _ = _; rw [ev_padd, ih, bpoly_zero, add0]
theorem parts_len (k : Nat) (who : List Int) : (parts p b tp z t n c k who).length = who.length := by simp [parts]
theorem parts_get (k : Nat) (who : List Int) (i : Nat) (h : i < (parts p b tp z t n c k who).length) : (parts p b tp z t n c k who)[i] = part p b tp z t n c k (who[i]'(by rw [← parts_len (p := p) (b := b) (tp := tp) (z := z) (t := t) (n := n) (c := c) k who]; exact h)) := by simp [parts]
theorem parts_ok (hp : p.May) {who : List Int} (hn : n = p.stripes b.length) (hn2 : n ≤ 240) (ht : n * p.T.toNat ≤ tp.length) (hc : c = (width p).toNat * n) {k : Nat} (hk : k * c ≤ z.length) (hit : p.is t = true)
    (hall : ∀ i, (hi : i < who.length) → p.is who[i] = true ∧ who[i] ≠ t) (hu : unl (points who) = true) (hw : p.T + p.L ≤ who.length) :
    findE p n t who (parts p b tp z t n c k who) = 0 ∧ findA p n t who (parts p b tp z t n c k who) = share (polys p b tp) t := by
  have hM := hp
  unfold P.May at hM
  have hnd := (unl_iff _).mp hu
  have hne : need p ≤ who.length := by unfold need; omega
  have hE : findE p n t who (parts p b tp z t n c k who) = 0 := by
    have hb : bcheck p n t = 0 := by
      unfold bcheck
      rw [if_pos (P.right_yes hp), if_neg (by omega), if_pos hit]
    unfold findE
    rw [if_pos hb]
    unfold among
    rw [if_neg, if_pos hu, if_neg (by omega), if_neg (by rw [parts_len]; simp), if_pos]
    · refine allAre_yes fun i hi => ?_
      rw [parts_get, part_len hn]
    · rw [anyOff_no fun i hi => by obtain ⟨h1, h2⟩ := hall i hi; rw [h1]; simpa using h2]; simp
  refine ⟨hE, ?_⟩
  unfold findA
  rw [if_pos hE, Int.toNat_natCast]
  have hat : ∀ j i, j < n → i < need p → at_ (parts p b tp z t n c k who) i j = ev (qTo p b tp z t c k j) (point (who.getD i 0)) := fun j i hj hi => by
    have hi2 : i < who.length := by omega
    have hi' : i < (parts p b tp z t n c k who).length := by rw [parts_len]; exact hi2
    unfold at_
    rw [← List.getElem_eq_getD (h := hi'), parts_get, co_part hn hj, ← List.getElem_eq_getD (h := hi2)]
  refine find_of (Q := fun j => qTo p b tp z t c k j) hnd hne (by rw [share_len, polys_len, hn]) (fun j hj => qTo_len hp ht hc hj k hk) hat (fun j hj => ?_)
  rw [qTo_target, co_share _ _ _ (by rw [polys_len, ← hn]; exact hj), polys_get]
end
end Go.Proofs.Ytompeiemioeohaa.ZeroM
