/-
  No cell of these rows narrows 'for every input' (looked for: loops, veiled, ifaces, maps, wideKeys, modest, calm, conditions, laid).
  DERIVED. THE GIVEN ROWS OF THIS SEAT. 3 by the template 'for every input the law returns true; each argument reads behind the call as it read before'; 0 by the template 'total and deterministic' (their statements: YtofhklimofdepaaTotals.lean).
  GIVEN WITH THE SEED: the statements are not yours to turn. If you find one false, say at which input.
  Laid BY PROGRAM, IN A SANDBOX (cutbox-rows.mjs): the forced cells as the released guide's own fill.sh prints them over the translation 6135a789d140e9e8… (all of the seat's roots in one cut). By AI agents, Wed Nov 11 2026. No macro, syntax, notation, axiom, sorry.
-/
import Derived.Test.YtofhklimofdepaaChecked
import GoSem.Claim
import GoSem.ClaimJoined
import GoSem.ClaimMapViews
import Derived.JoinedTies
import Derived.KernelRfl
namespace Go.Proofs.Ytofhklimofdepaa
/- THE CELL 'sum', in the pinned program and in every row, IS THE sha256 OF THE DUMP (.gsa) THAT YtofhklimofdepaaProg.lean LOADS. Nothing in Lean hashes anything: it is a label: what it is worth is what the hold of that sum in a sandbox is worth. -/
noncomputable def Try.pinned : Pinned := { name := "ytofhklimofdepaa", sum := "6135a789d140e9e83d2f181d2736bb1e5af94443951f4f6ecc6a0e0af508c2d5", checked := Try.checked }
namespace Rows
def none {H : Type} : Left H := { results := [], args := [] }

/-- 'sherdlaw12.ZeroShares': WHATEVER THE INPUT: true; the input reads as it did. -/
def zeroSharesSpec : ChangeSpec := { name := "zeroShares", fn := fun _ => fun
  | [d1, d2, d3] => { results := [.lit (.bool true)], args := [d1, d2, d3] }
  | _ => none }
def zeroSharesRow : OpenClaim := { program := "ytofhklimofdepaa", sum := "6135a789d140e9e83d2f181d2736bb1e5af94443951f4f6ecc6a0e0af508c2d5", func := "sherd/sherdlaw12.ZeroShares", spec := "zeroShares", unfollowed := true, recurses := true, apart := false }
def ZeroSharesSaid : Prop := zeroSharesRow.holds Try.pinned (OpenSpec.ofChange zeroSharesSpec)

/-- ITS FALSE NEIGHBOUR: 'it returns false'. Refute it at one input. -/
def zeroSharesWrong : ChangeSpec := { name := "zeroShares", fn := fun _ => fun
  | [d1, d2, d3] => { results := [.lit (.bool false)], args := [d1, d2, d3] }
  | _ => none }
def ZeroSharesWrongFalsely : Prop := zeroSharesRow.holds Try.pinned (OpenSpec.ofChange zeroSharesWrong)

/-- 'sherdlaw12.ZeroAdds': WHATEVER THE INPUT: true; the input reads as it did. -/
def zeroAddsSpec : ChangeSpec := { name := "zeroAdds", fn := fun _ => fun
  | [d] => { results := [.lit (.bool true)], args := [d] }
  | _ => none }
def zeroAddsRow : OpenClaim := { program := "ytofhklimofdepaa", sum := "6135a789d140e9e83d2f181d2736bb1e5af94443951f4f6ecc6a0e0af508c2d5", func := "sherd/sherdlaw12.ZeroAdds", spec := "zeroAdds", unfollowed := true, recurses := true, apart := false }
def ZeroAddsSaid : Prop := zeroAddsRow.holds Try.pinned (OpenSpec.ofChange zeroAddsSpec)

/-- ITS FALSE NEIGHBOUR: 'it returns false'. Refute it at one input. -/
def zeroAddsWrong : ChangeSpec := { name := "zeroAdds", fn := fun _ => fun
  | [d] => { results := [.lit (.bool false)], args := [d] }
  | _ => none }
def ZeroAddsWrongFalsely : Prop := zeroAddsRow.holds Try.pinned (OpenSpec.ofChange zeroAddsWrong)

/-- 'sherdlaw12.ZeroKeeps': WHATEVER THE INPUT: true; the input reads as it did. -/
def zeroKeepsSpec : ChangeSpec := { name := "zeroKeeps", fn := fun _ => fun
  | [d1, d2, d3] => { results := [.lit (.bool true)], args := [d1, d2, d3] }
  | _ => none }
def zeroKeepsRow : OpenClaim := { program := "ytofhklimofdepaa", sum := "6135a789d140e9e83d2f181d2736bb1e5af94443951f4f6ecc6a0e0af508c2d5", func := "sherd/sherdlaw12.ZeroKeeps", spec := "zeroKeeps", unfollowed := true, recurses := true, apart := false }
def ZeroKeepsSaid : Prop := zeroKeepsRow.holds Try.pinned (OpenSpec.ofChange zeroKeepsSpec)

/-- ITS FALSE NEIGHBOUR: 'it returns false'. Refute it at one input. -/
def zeroKeepsWrong : ChangeSpec := { name := "zeroKeeps", fn := fun _ => fun
  | [d1, d2, d3] => { results := [.lit (.bool false)], args := [d1, d2, d3] }
  | _ => none }
def ZeroKeepsWrongFalsely : Prop := zeroKeepsRow.holds Try.pinned (OpenSpec.ofChange zeroKeepsWrong)

/- THE SECOND FORM. 'bulk': how many values and letters a reading holds, each counted each time it is reached (what is shared counts as often as it is met; a slice's spare places count too). A statement '..UptoSaid' is the law's where the arguments, and the package variables that the reading takes, are together of bulk at most 1048576: NARROWER than '..Said'. Prove '..Said' where nothing that the law and all that it calls make is longer than what came in: it says more and counts as full. Else prove '..UptoSaid'. A law counts once. -/
mutual
def uptoBulk {H : Type} : DataW H → Nat
  | .lit (.string bytes) => bytes.length + 1
  | .lit _ => 1
  | .nil => 1
  | .ptr d => uptoBulk d + 1
  | .slice elems spare => uptoBulkAll elems + uptoBulkAll spare + 1
  | .agg parts => uptoBulkAll parts + 1
  | .iface _ d => uptoBulk d + 1
  | .map entries => uptoBulkEntries entries + 1
  | .held _ => 1
def uptoBulkAll {H : Type} : List (DataW H) → Nat
  | [] => 0
  | d :: r => uptoBulk d + uptoBulkAll r
def uptoBulkEntries {H : Type} : List (Lit × DataW H) → Nat
  | [] => 0
  | x :: r => uptoBulkEntry x + uptoBulkEntries r
def uptoBulkEntry {H : Type} : Lit × DataW H → Nat
  | (.string bytes, d) => bytes.length + uptoBulk d + 1
  | (_, d) => uptoBulk d + 1
 end
def uptoSmall : (H : Type) → List (DataW H) → Bool := fun _ ds => decide (uptoBulkAll ds ≤ 1048576)
def OpenSpec.upto (s : _root_.Go.ChangeSpec) : _root_.Go.OpenSpec := { _root_.Go.OpenSpec.ofChange s with cond := some uptoSmall }

/-- 'sherdlaw12.ZeroShares', WHERE WHAT IT READS IS OF BULK AT MOST 1048576: true; the input reads as it did. -/
def zeroSharesUptoRow : OpenClaim := { program := "ytofhklimofdepaa", sum := "6135a789d140e9e83d2f181d2736bb1e5af94443951f4f6ecc6a0e0af508c2d5", func := "sherd/sherdlaw12.ZeroShares", spec := "zeroShares", unfollowed := true, recurses := true, apart := false, narrowed := true }
def ZeroSharesUptoSaid : Prop := zeroSharesUptoRow.holds Try.pinned (OpenSpec.upto zeroSharesSpec)

/-- 'sherdlaw12.ZeroAdds', WHERE WHAT IT READS IS OF BULK AT MOST 1048576: true; the input reads as it did. -/
def zeroAddsUptoRow : OpenClaim := { program := "ytofhklimofdepaa", sum := "6135a789d140e9e83d2f181d2736bb1e5af94443951f4f6ecc6a0e0af508c2d5", func := "sherd/sherdlaw12.ZeroAdds", spec := "zeroAdds", unfollowed := true, recurses := true, apart := false, narrowed := true }
def ZeroAddsUptoSaid : Prop := zeroAddsUptoRow.holds Try.pinned (OpenSpec.upto zeroAddsSpec)

/-- 'sherdlaw12.ZeroKeeps', WHERE WHAT IT READS IS OF BULK AT MOST 1048576: true; the input reads as it did. -/
def zeroKeepsUptoRow : OpenClaim := { program := "ytofhklimofdepaa", sum := "6135a789d140e9e83d2f181d2736bb1e5af94443951f4f6ecc6a0e0af508c2d5", func := "sherd/sherdlaw12.ZeroKeeps", spec := "zeroKeeps", unfollowed := true, recurses := true, apart := false, narrowed := true }
def ZeroKeepsUptoSaid : Prop := zeroKeepsUptoRow.holds Try.pinned (OpenSpec.upto zeroKeepsSpec)

end Rows
end Go.Proofs.Ytofhklimofdepaa
