/- layer 8's answers, plain -/
import Derived.Test.YtjoocjkakgjgmaaMem
set_option maxRecDepth 100000
namespace Go.Proofs.Ytjoocjkakgjgmaa.PlanM

/-- a plan's numbers -/
structure P where
  N : Int
  T : Int
  L : Int
  W : Int
  S : Int
  R : Int
def P.val (p : P) : Value := .agg #[.int .i64 p.N, .int .i64 p.T, .int .i64 p.L, .int .i64 p.W, .int .i64 p.S, .int .i64 p.R]
/-- its numbers are numbers of the machine -/
def In64 (n : Int) : Prop := -9223372036854775808 ≤ n ∧ n ≤ 9223372036854775807
structure P.In (p : P) : Prop where
  n : In64 p.N
  t : In64 p.T
  l : In64 p.L
  w : In64 p.W
  s : In64 p.S
  r : In64 p.R
def P.May (p : P) : Prop := 1 ≤ p.T ∧ 1 ≤ p.L ∧ p.T + p.L ≤ p.W ∧ p.W ≤ p.N ∧ p.N + p.L ≤ 256 ∧ 1 ≤ p.S ∧ p.S ≤ 256 ∧ 1 ≤ p.R ∧ p.R ≤ 64
instance (p : P) : Decidable p.May := by unfold P.May; infer_instance
def P.right (p : P) : Bool := decide p.May
def P.is (p : P) (i : Int) : Bool := decide (1 ≤ i ∧ i ≤ p.N)
/-- a custodian's point -/
def point (i : Int) : UInt8 := if i < 1 ∨ 256 < i then 0 else UInt8.ofNat (i - 1).toNat
def points (l : List Int) : List UInt8 := l.map point
/-- bytes from n on, k of them -/
def from_ (n k : Nat) : List UInt8 := (List.range k).map fun j => UInt8.ofNat (n + j)
def P.secrets (p : P) : List UInt8 := from_ p.N.toNat p.L.toNat
def all (n : Nat) : List Int := (List.range n).map fun (j : Nat) => ((j : Int) + 1)
/-- how many stripes -/
def P.stripes (p : P) (size : Int) : Nat := if size < 1 ∨ 240 < size then 0 else ((size + p.L - 1) / p.L).toNat

/-- what the program tells of any plan -/
def P.secretsA (p : P) : List UInt8 := if p.right then p.secrets else []
def P.allA (p : P) : List Int := if p.right then all p.N.toNat else []
def P.isA (p : P) (i : Int) : Bool := p.right && p.is i
def P.needA (p : P) : Int := if p.right then p.T + p.L else 0
def P.quorumA (p : P) : Int := if p.right then p.N - p.W + 1 else 0
def P.dealersA (p : P) : Int := if p.right then p.T + 1 else 0
def P.stripesA (p : P) (size : Int) : Int := if p.right then (p.stripes size : Nat) else 0

theorem P.right_yes {p : P} (h : p.May) : p.right = true := decide_eq_true h
theorem P.right_no {p : P} (h : ¬ p.May) : p.right = false := decide_eq_false h
theorem from_len (n k : Nat) : (from_ n k).length = k := by unfold from_; simp
theorem from_zero (n : Nat) : from_ n 0 = [] := rfl
theorem from_succ (n k : Nat) : from_ n (k + 1) = from_ n k ++ [UInt8.ofNat (n + k)] := by unfold from_; rw [List.range_succ, List.map_append]; rfl
theorem all_len (n : Nat) : (all n).length = n := by unfold all; simp
theorem all_succ (n : Nat) : all (n + 1) = all n ++ [(n : Int) + 1] := by unfold all; rw [List.range_succ, List.map_append]; rfl
theorem points_len (l : List Int) : (points l).length = l.length := by unfold points; simp
theorem stripes_step {L size n : Int} (hL : 1 ≤ L) (h : n * L < size) : n + 1 ≤ (size + L - 1) / L := by
  rw [Int.le_ediv_iff_mul_le (by omega)]
  have := Int.add_mul n 1 L
  rw [Int.one_mul] at this
  omega
theorem stripes_end {L size n : Int} (hL : 1 ≤ L) (h : ¬ n * L < size) : (size + L - 1) / L ≤ n := by
  have h1 : (size + L - 1) / L < n + 1 := by
    rw [Int.ediv_lt_iff_lt_mul (by omega)]
    have := Int.add_mul n 1 L
    rw [Int.one_mul] at this
    omega
  omega
end Go.Proofs.Ytjoocjkakgjgmaa.PlanM
