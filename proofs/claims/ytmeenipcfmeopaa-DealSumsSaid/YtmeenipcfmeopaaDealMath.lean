/- layer 10's answers, plain -/
import Derived.Test.YtmeenipcfmeopaaStripeMath
import Derived.Test.YtmeenipcfmeopaaLagrMath
set_option maxRecDepth 100000
namespace Go.Proofs.Ytmeenipcfmeopaa.DealM
open PolyM PlanM StripeM LagrM

/-- a stripe's polynomial -/
def poly (p : P) (r tape : List UInt8) : List UInt8 := padd (thr p.secrets r) (pmul (proot p.secrets) tape)
/-- what stripe j takes of a tape -/
def take_ (T : Nat) (tape : List UInt8) (j : Nat) : List UInt8 := (tape.drop (j * T)).take T
def polysTo (p : P) (blob tape : List UInt8) (k : Nat) : List (List UInt8) := (List.range k).map fun j => poly p (row p.L.toNat blob j) (take_ p.T.toNat tape j)
def polys (p : P) (blob tape : List UInt8) : List (List UInt8) := polysTo p blob tape (p.stripes blob.length)
def cost (p : P) (size : Int) : Int := p.T * p.stripes size
def share (q : List (List UInt8)) (i : Int) : List UInt8 := q.map fun r => ev r (point i)
def xorL (a b : List UInt8) : List UInt8 := tab a.length fun k => GfM.add (co a k) (co b k)

theorem take_len (T : Nat) (tape : List UInt8) (j : Nat) (h : (j + 1) * T ≤ tape.length) : (take_ T tape j).length = T := by
  unfold take_; rw [List.length_take, List.length_drop, Nat.add_mul] at *; omega
theorem polysTo_len (p : P) (blob tape : List UInt8) (k : Nat) : (polysTo p blob tape k).length = k := by unfold polysTo; simp
theorem polysTo_succ (p : P) (blob tape : List UInt8) (k : Nat) : polysTo p blob tape (k + 1) = polysTo p blob tape k ++ [poly p (row p.L.toNat blob k) (take_ p.T.toNat tape k)] := by unfold polysTo; rw [List.range_succ, List.map_append]; rfl
theorem share_len (q : List (List UInt8)) (i : Int) : (share q i).length = q.length := by unfold share; simp
theorem share_take (q : List (List UInt8)) (i : Int) (k : Nat) (h : k < q.length) : share (q.take (k + 1)) i = share (q.take k) i ++ [ev q[k] (point i)] := by
  unfold share; rw [List.take_succ_eq_append_getElem h, List.map_append]; rfl
theorem secrets_len (p : P) : p.secrets.length = p.L.toNat := from_len _ _
theorem xorL_len (a b : List UInt8) : (xorL a b).length = a.length := tab_len _ _
theorem polys_get (p : P) (blob tape : List UInt8) (k : Nat) (h : k < (polys p blob tape).length) : (polys p blob tape)[k] = poly p (row p.L.toNat blob k) (take_ p.T.toNat tape k) := by simp [polys, polysTo]
theorem polys_row (p : P) (blob tape : List UInt8) (k : Nat) (h : k < (polys p blob tape).length) : (polys p blob tape)[k].length ≤ p.L.toNat + tape.length + 1 := by
  rw [polys_get]
  have a1 : (take_ p.T.toNat tape k).length ≤ tape.length := by unfold take_; rw [List.length_take, List.length_drop]; omega
  unfold poly
  rw [LagrM.padd_len, LagrM.thr_len, PolyM.pmul_len, secrets_len, PolyM.proot_len, secrets_len]
  split <;> omega
theorem polys_le (p : P) (blob tape : List UInt8) (hL : 1 ≤ p.L) : (polys p blob tape).length ≤ 240 := by unfold polys; rw [polysTo_len]; exact stripes_le p _ hL
/-- all custodians' shares -/
def shares (p : P) (q : List (List UInt8)) : List (List UInt8) := (all p.N.toNat).map (share q)
theorem shares_len (p : P) (q : List (List UInt8)) : (shares p q).length = p.N.toNat := by unfold shares; rw [List.length_map, all_len]
theorem shares_get (p : P) (q : List (List UInt8)) (k : Nat) (h : k < (shares p q).length) : (shares p q)[k] = share q ((k : Int) + 1) := by simp [shares, all]
/-- what the program tells, and an error's number -/
def costA (p : P) (size : Int) : Int := if p.right then cost p size else 0
def dealE (p : P) (blob tape : List UInt8) : Int := if p.right then (if 240 < blob.length then 7 else if (tape.length : Int) < cost p blob.length then 12 else 0) else 1
def dealA (p : P) (blob tape : List UInt8) : List (List UInt8) := if dealE p blob tape = 0 then shares p (polys p blob tape) else []
def shareE (p : P) (blob tape : List UInt8) (i : Int) : Int := if p.right then (if p.is i then dealE p blob tape else 2) else 1
def shareA (p : P) (blob tape : List UInt8) (i : Int) : List UInt8 := if shareE p blob tape i = 0 then share (polys p blob tape) i else []
end Go.Proofs.Ytmeenipcfmeopaa.DealM
