/-
  No cell of these rows narrows 'for every input' (looked for: loops, veiled, ifaces, maps, wideKeys, modest, calm, conditions, laid).
  DERIVED. THE GIVEN ROWS OF THIS SEAT. 3 by the template 'for every input the law returns true; each argument reads behind the call as it read before'; 0 by the template 'total and deterministic' (their statements: YtcnhfbahnbnnlaaTotals.lean).
  GIVEN WITH THE SEED: the statements are not yours to turn. If you find one false, say at which input.
  Laid BY PROGRAM, IN A SANDBOX (cutbox-rows.mjs): the forced cells as the released guide's own fill.sh prints them over the translation 4e8a228cbd0254d1… (all of the seat's roots in one cut). By AI agents, Wed Nov 11 2026. No macro, syntax, notation, axiom, sorry.
-/
import Derived.Test.YtcnhfbahnbnnlaaChecked
import GoSem.Claim
import GoSem.ClaimJoined
import GoSem.ClaimMapViews
import Derived.JoinedTies
import Derived.KernelRfl
namespace Go.Proofs.Ytcnhfbahnbnnlaa
/- THE CELL 'sum', in the pinned program and in every row, IS THE sha256 OF THE DUMP (.gsa) THAT YtcnhfbahnbnnlaaProg.lean LOADS. Nothing in Lean hashes anything: it is a label: what it is worth is what the hold of that sum in a sandbox is worth. -/
noncomputable def Try.pinned : Pinned := { name := "ytcnhfbahnbnnlaa", sum := "4e8a228cbd0254d1adf1714bd328db2cb467f9f68599aa9d547e4cd52c9cfc7a", checked := Try.checked }
namespace Rows
def none {H : Type} : Left H := { results := [], args := [] }

/-- 'sherdlaw11.RebuildBlobs': WHATEVER THE INPUT: true; the input reads as it did. -/
def rebuildBlobsSpec : ChangeSpec := { name := "rebuildBlobs", fn := fun _ => fun
  | [d1, d2] => { results := [.lit (.bool true)], args := [d1, d2] }
  | _ => none }
def rebuildBlobsRow : OpenClaim := { program := "ytcnhfbahnbnnlaa", sum := "4e8a228cbd0254d1adf1714bd328db2cb467f9f68599aa9d547e4cd52c9cfc7a", func := "sherd/sherdlaw11.RebuildBlobs", spec := "rebuildBlobs", unfollowed := true, recurses := true, apart := false }
def RebuildBlobsSaid : Prop := rebuildBlobsRow.holds Try.pinned (OpenSpec.ofChange rebuildBlobsSpec)

/-- ITS FALSE NEIGHBOUR: 'it returns false'. Refute it at one input. -/
def rebuildBlobsWrong : ChangeSpec := { name := "rebuildBlobs", fn := fun _ => fun
  | [d1, d2] => { results := [.lit (.bool false)], args := [d1, d2] }
  | _ => none }
def RebuildBlobsWrongFalsely : Prop := rebuildBlobsRow.holds Try.pinned (OpenSpec.ofChange rebuildBlobsWrong)

/-- 'sherdlaw11.RebuildBack': WHATEVER THE INPUT: true; the input reads as it did. -/
def rebuildBackSpec : ChangeSpec := { name := "rebuildBack", fn := fun _ => fun
  | [d1, d2, d3] => { results := [.lit (.bool true)], args := [d1, d2, d3] }
  | _ => none }
def rebuildBackRow : OpenClaim := { program := "ytcnhfbahnbnnlaa", sum := "4e8a228cbd0254d1adf1714bd328db2cb467f9f68599aa9d547e4cd52c9cfc7a", func := "sherd/sherdlaw11.RebuildBack", spec := "rebuildBack", unfollowed := true, recurses := true, apart := false }
def RebuildBackSaid : Prop := rebuildBackRow.holds Try.pinned (OpenSpec.ofChange rebuildBackSpec)

/-- ITS FALSE NEIGHBOUR: 'it returns false'. Refute it at one input. -/
def rebuildBackWrong : ChangeSpec := { name := "rebuildBack", fn := fun _ => fun
  | [d1, d2, d3] => { results := [.lit (.bool false)], args := [d1, d2, d3] }
  | _ => none }
def RebuildBackWrongFalsely : Prop := rebuildBackRow.holds Try.pinned (OpenSpec.ofChange rebuildBackWrong)

/-- 'sherdlaw11.RebuildTells': WHATEVER THE INPUT: true; the input reads as it did. -/
def rebuildTellsSpec : ChangeSpec := { name := "rebuildTells", fn := fun _ => fun
  | [d1, d2, d3] => { results := [.lit (.bool true)], args := [d1, d2, d3] }
  | _ => none }
def rebuildTellsRow : OpenClaim := { program := "ytcnhfbahnbnnlaa", sum := "4e8a228cbd0254d1adf1714bd328db2cb467f9f68599aa9d547e4cd52c9cfc7a", func := "sherd/sherdlaw11.RebuildTells", spec := "rebuildTells", unfollowed := true, recurses := true, apart := false }
def RebuildTellsSaid : Prop := rebuildTellsRow.holds Try.pinned (OpenSpec.ofChange rebuildTellsSpec)

/-- ITS FALSE NEIGHBOUR: 'it returns false'. Refute it at one input. -/
def rebuildTellsWrong : ChangeSpec := { name := "rebuildTells", fn := fun _ => fun
  | [d1, d2, d3] => { results := [.lit (.bool false)], args := [d1, d2, d3] }
  | _ => none }
def RebuildTellsWrongFalsely : Prop := rebuildTellsRow.holds Try.pinned (OpenSpec.ofChange rebuildTellsWrong)

/- THE SECOND FORM. 'bulk': how many values and letters a reading holds, each counted each time it is reached (what is shared counts as often as it is met; a slice's spare places count too). A statement '..UptoSaid' is the law's where the arguments, and the package variables that the reading takes, are together of bulk at most 1048576: NARROWER than '..Said'. Prove '..Said' where nothing that the law and all that it calls make is longer than what came in: it says more and counts as full. Else prove '..UptoSaid'. A law counts once. -/
mutual
def uptoBulk {H : Type} : DataW H → Nat
  | .lit (.string bytes) => bytes.length + 1
  | .lit _ => 1
  | .nil => 1
  | .ptr d => uptoBulk d + 1
  | .slice elems spare => uptoBulkAll elems + uptoBulkAll spare + 1
  | .agg parts => uptoBulkAll parts + 1
  | .iface _ d => uptoBulk d + 1
  | .map entries => uptoBulkEntries entries + 1
  | .held _ => 1
def uptoBulkAll {H : Type} : List (DataW H) → Nat
  | [] => 0
  | d :: r => uptoBulk d + uptoBulkAll r
def uptoBulkEntries {H : Type} : List (Lit × DataW H) → Nat
  | [] => 0
  | x :: r => uptoBulkEntry x + uptoBulkEntries r
def uptoBulkEntry {H : Type} : Lit × DataW H → Nat
  | (.string bytes, d) => bytes.length + uptoBulk d + 1
  | (_, d) => uptoBulk d + 1
 end
def uptoSmall : (H : Type) → List (DataW H) → Bool := fun _ ds => decide (uptoBulkAll ds ≤ 1048576)
def OpenSpec.upto (s : _root_.Go.ChangeSpec) : _root_.Go.OpenSpec := { _root_.Go.OpenSpec.ofChange s with cond := some uptoSmall }

/-- 'sherdlaw11.RebuildBlobs', WHERE WHAT IT READS IS OF BULK AT MOST 1048576: true; the input reads as it did. -/
def rebuildBlobsUptoRow : OpenClaim := { program := "ytcnhfbahnbnnlaa", sum := "4e8a228cbd0254d1adf1714bd328db2cb467f9f68599aa9d547e4cd52c9cfc7a", func := "sherd/sherdlaw11.RebuildBlobs", spec := "rebuildBlobs", unfollowed := true, recurses := true, apart := false, narrowed := true }
def RebuildBlobsUptoSaid : Prop := rebuildBlobsUptoRow.holds Try.pinned (OpenSpec.upto rebuildBlobsSpec)

/-- 'sherdlaw11.RebuildBack', WHERE WHAT IT READS IS OF BULK AT MOST 1048576: true; the input reads as it did. -/
def rebuildBackUptoRow : OpenClaim := { program := "ytcnhfbahnbnnlaa", sum := "4e8a228cbd0254d1adf1714bd328db2cb467f9f68599aa9d547e4cd52c9cfc7a", func := "sherd/sherdlaw11.RebuildBack", spec := "rebuildBack", unfollowed := true, recurses := true, apart := false, narrowed := true }
def RebuildBackUptoSaid : Prop := rebuildBackUptoRow.holds Try.pinned (OpenSpec.upto rebuildBackSpec)

/-- 'sherdlaw11.RebuildTells', WHERE WHAT IT READS IS OF BULK AT MOST 1048576: true; the input reads as it did. -/
def rebuildTellsUptoRow : OpenClaim := { program := "ytcnhfbahnbnnlaa", sum := "4e8a228cbd0254d1adf1714bd328db2cb467f9f68599aa9d547e4cd52c9cfc7a", func := "sherd/sherdlaw11.RebuildTells", spec := "rebuildTells", unfollowed := true, recurses := true, apart := false, narrowed := true }
def RebuildTellsUptoSaid : Prop := rebuildTellsUptoRow.holds Try.pinned (OpenSpec.upto rebuildTellsSpec)

end Rows
end Go.Proofs.Ytcnhfbahnbnnlaa
