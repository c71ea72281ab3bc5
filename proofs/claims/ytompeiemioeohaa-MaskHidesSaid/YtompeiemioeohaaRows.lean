/-
  No cell of these rows narrows 'for every input' (looked for: loops, veiled, ifaces, maps, wideKeys, modest, calm, conditions, laid).
  DERIVED. THE GIVEN ROWS OF THIS SEAT. 5 by the template 'for every input the law returns true; each argument reads behind the call as it read before'; 0 by the template 'total and deterministic' (their statements: YtompeiemioeohaaTotals.lean).
  GIVEN WITH THE SEED: the statements are not yours to turn. If you find one false, say at which input.
  Laid BY PROGRAM, IN A SANDBOX (cutbox-rows.mjs): the forced cells as the released guide's own fill.sh prints them over the translation 36a39a5a209706a1… (all of the seat's roots in one cut). By AI agents, Wed Nov 11 2026. No macro, syntax, notation, axiom, sorry.
-/
import Derived.Test.YtompeiemioeohaaChecked
import GoSem.Claim
import GoSem.ClaimJoined
import GoSem.ClaimMapViews
import Derived.JoinedTies
import Derived.KernelRfl
namespace Go.Proofs.Ytompeiemioeohaa
/- THE CELL 'sum', in the pinned program and in every row, IS THE sha256 OF THE DUMP (.gsa) THAT YtompeiemioeohaaProg.lean LOADS. Nothing in Lean hashes anything: it is a label: what it is worth is what the hold of that sum in a sandbox is worth. -/
noncomputable def Try.pinned : Pinned := { name := "ytompeiemioeohaa", sum := "36a39a5a209706a1d2775098fdeb53b6e55f8a83d582982b825926e25c0b5248", checked := Try.checked }
namespace Rows
def none {H : Type} : Left H := { results := [], args := [] }

/-- 'sherdlaw14.MaskShifts': WHATEVER THE INPUT: true; the input reads as it did. -/
def maskShiftsSpec : ChangeSpec := { name := "maskShifts", fn := fun _ => fun
  | [d1, d2, d3] => { results := [.lit (.bool true)], args := [d1, d2, d3] }
  | _ => none }
def maskShiftsRow : OpenClaim := { program := "ytompeiemioeohaa", sum := "36a39a5a209706a1d2775098fdeb53b6e55f8a83d582982b825926e25c0b5248", func := "sherd/sherdlaw14.MaskShifts", spec := "maskShifts", unfollowed := true, recurses := true, apart := false }
def MaskShiftsSaid : Prop := maskShiftsRow.holds Try.pinned (OpenSpec.ofChange maskShiftsSpec)

/-- ITS FALSE NEIGHBOUR: 'it returns false'. Refute it at one input. -/
def maskShiftsWrong : ChangeSpec := { name := "maskShifts", fn := fun _ => fun
  | [d1, d2, d3] => { results := [.lit (.bool false)], args := [d1, d2, d3] }
  | _ => none }
def MaskShiftsWrongFalsely : Prop := maskShiftsRow.holds Try.pinned (OpenSpec.ofChange maskShiftsWrong)

/-- 'sherdlaw14.MaskMasks': WHATEVER THE INPUT: true; the input reads as it did. -/
def maskMasksSpec : ChangeSpec := { name := "maskMasks", fn := fun _ => fun
  | [d1, d2, d3] => { results := [.lit (.bool true)], args := [d1, d2, d3] }
  | _ => none }
def maskMasksRow : OpenClaim := { program := "ytompeiemioeohaa", sum := "36a39a5a209706a1d2775098fdeb53b6e55f8a83d582982b825926e25c0b5248", func := "sherd/sherdlaw14.MaskMasks", spec := "maskMasks", unfollowed := true, recurses := true, apart := false }
def MaskMasksSaid : Prop := maskMasksRow.holds Try.pinned (OpenSpec.ofChange maskMasksSpec)

/-- ITS FALSE NEIGHBOUR: 'it returns false'. Refute it at one input. -/
def maskMasksWrong : ChangeSpec := { name := "maskMasks", fn := fun _ => fun
  | [d1, d2, d3] => { results := [.lit (.bool false)], args := [d1, d2, d3] }
  | _ => none }
def MaskMasksWrongFalsely : Prop := maskMasksRow.holds Try.pinned (OpenSpec.ofChange maskMasksWrong)

/-- 'sherdlaw14.MaskHides': WHATEVER THE INPUT: true; the input reads as it did. -/
def maskHidesSpec : ChangeSpec := { name := "maskHides", fn := fun _ => fun
  | [d1, d2, d3] => { results := [.lit (.bool true)], args := [d1, d2, d3] }
  | _ => none }
def maskHidesRow : OpenClaim := { program := "ytompeiemioeohaa", sum := "36a39a5a209706a1d2775098fdeb53b6e55f8a83d582982b825926e25c0b5248", func := "sherd/sherdlaw14.MaskHides", spec := "maskHides", unfollowed := true, recurses := true, apart := false }
def MaskHidesSaid : Prop := maskHidesRow.holds Try.pinned (OpenSpec.ofChange maskHidesSpec)

/-- ITS FALSE NEIGHBOUR: 'it returns false'. Refute it at one input. -/
def maskHidesWrong : ChangeSpec := { name := "maskHides", fn := fun _ => fun
  | [d1, d2, d3] => { results := [.lit (.bool false)], args := [d1, d2, d3] }
  | _ => none }
def MaskHidesWrongFalsely : Prop := maskHidesRow.holds Try.pinned (OpenSpec.ofChange maskHidesWrong)

/-- 'sherdlaw14.MaskMoves': WHATEVER THE INPUT: true; the input reads as it did. -/
def maskMovesSpec : ChangeSpec := { name := "maskMoves", fn := fun _ => fun
  | [d1, d2, d3] => { results := [.lit (.bool true)], args := [d1, d2, d3] }
  | _ => none }
def maskMovesRow : OpenClaim := { program := "ytompeiemioeohaa", sum := "36a39a5a209706a1d2775098fdeb53b6e55f8a83d582982b825926e25c0b5248", func := "sherd/sherdlaw14.MaskMoves", spec := "maskMoves", unfollowed := true, recurses := true, apart := false }
def MaskMovesSaid : Prop := maskMovesRow.holds Try.pinned (OpenSpec.ofChange maskMovesSpec)

/-- ITS FALSE NEIGHBOUR: 'it returns false'. Refute it at one input. -/
def maskMovesWrong : ChangeSpec := { name := "maskMoves", fn := fun _ => fun
  | [d1, d2, d3] => { results := [.lit (.bool false)], args := [d1, d2, d3] }
  | _ => none }
def MaskMovesWrongFalsely : Prop := maskMovesRow.holds Try.pinned (OpenSpec.ofChange maskMovesWrong)

/-- 'sherdlaw14.MaskTurns': WHATEVER THE INPUT: true; the input reads as it did. -/
def maskTurnsSpec : ChangeSpec := { name := "maskTurns", fn := fun _ => fun
  | [d1, d2, d3] => { results := [.lit (.bool true)], args := [d1, d2, d3] }
  | _ => none }
def maskTurnsRow : OpenClaim := { program := "ytompeiemioeohaa", sum := "36a39a5a209706a1d2775098fdeb53b6e55f8a83d582982b825926e25c0b5248", func := "sherd/sherdlaw14.MaskTurns", spec := "maskTurns", unfollowed := true, recurses := true, apart := false }
def MaskTurnsSaid : Prop := maskTurnsRow.holds Try.pinned (OpenSpec.ofChange maskTurnsSpec)

/-- ITS FALSE NEIGHBOUR: 'it returns false'. Refute it at one input. -/
def maskTurnsWrong : ChangeSpec := { name := "maskTurns", fn := fun _ => fun
  | [d1, d2, d3] => { results := [.lit (.bool false)], args := [d1, d2, d3] }
  | _ => none }
def MaskTurnsWrongFalsely : Prop := maskTurnsRow.holds Try.pinned (OpenSpec.ofChange maskTurnsWrong)

/- THE SECOND FORM. 'bulk': how many values and letters a reading holds, each counted each time it is reached (what is shared counts as often as it is met; a slice's spare places count too). A statement '..UptoSaid' is the law's where the arguments, and the package variables that the reading takes, are together of bulk at most 1048576: NARROWER than '..Said'. Prove '..Said' where nothing that the law and all that it calls make is longer than what came in: it says more and counts as full. Else prove '..UptoSaid'. A law counts once. -/
mutual
def uptoBulk {H : Type} : DataW H → Nat
  | .lit (.string bytes) => bytes.length + 1
  | .lit _ => 1
  | .nil => 1
  | .ptr d => uptoBulk d + 1
  | .slice elems spare => uptoBulkAll elems + uptoBulkAll spare + 1
  | .agg parts => uptoBulkAll parts + 1
  | .iface _ d => uptoBulk d + 1
  | .map entries => uptoBulkEntries entries + 1
  | .held _ => 1
def uptoBulkAll {H : Type} : List (DataW H) → Nat
  | [] => 0
  | d :: r => uptoBulk d + uptoBulkAll r
def uptoBulkEntries {H : Type} : List (Lit × DataW H) → Nat
  | [] => 0
  | x :: r => uptoBulkEntry x + uptoBulkEntries r
def uptoBulkEntry {H : Type} : Lit × DataW H → Nat
  | (.string bytes, d) => bytes.length + uptoBulk d + 1
  | (_, d) => uptoBulk d + 1
 end
def uptoSmall : (H : Type) → List (DataW H) → Bool := fun _ ds => decide (uptoBulkAll ds ≤ 1048576)
def OpenSpec.upto (s : _root_.Go.ChangeSpec) : _root_.Go.OpenSpec := { _root_.Go.OpenSpec.ofChange s with cond := some uptoSmall }

/-- 'sherdlaw14.MaskShifts', WHERE WHAT IT READS IS OF BULK AT MOST 1048576: true; the input reads as it did. -/
def maskShiftsUptoRow : OpenClaim := { program := "ytompeiemioeohaa", sum := "36a39a5a209706a1d2775098fdeb53b6e55f8a83d582982b825926e25c0b5248", func := "sherd/sherdlaw14.MaskShifts", spec := "maskShifts", unfollowed := true, recurses := true, apart := false, narrowed := true }
def MaskShiftsUptoSaid : Prop := maskShiftsUptoRow.holds Try.pinned (OpenSpec.upto maskShiftsSpec)

/-- 'sherdlaw14.MaskMasks', WHERE WHAT IT READS IS OF BULK AT MOST 1048576: true; the input reads as it did. -/
def maskMasksUptoRow : OpenClaim := { program := "ytompeiemioeohaa", sum := "36a39a5a209706a1d2775098fdeb53b6e55f8a83d582982b825926e25c0b5248", func := "sherd/sherdlaw14.MaskMasks", spec := "maskMasks", unfollowed := true, recurses := true, apart := false, narrowed := true }
def MaskMasksUptoSaid : Prop := maskMasksUptoRow.holds Try.pinned (OpenSpec.upto maskMasksSpec)

/-- 'sherdlaw14.MaskHides', WHERE WHAT IT READS IS OF BULK AT MOST 1048576: true; the input reads as it did. -/
def maskHidesUptoRow : OpenClaim := { program := "ytompeiemioeohaa", sum := "36a39a5a209706a1d2775098fdeb53b6e55f8a83d582982b825926e25c0b5248", func := "sherd/sherdlaw14.MaskHides", spec := "maskHides", unfollowed := true, recurses := true, apart := false, narrowed := true }
def MaskHidesUptoSaid : Prop := maskHidesUptoRow.holds Try.pinned (OpenSpec.upto maskHidesSpec)

/-- 'sherdlaw14.MaskMoves', WHERE WHAT IT READS IS OF BULK AT MOST 1048576: true; the input reads as it did. -/
def maskMovesUptoRow : OpenClaim := { program := "ytompeiemioeohaa", sum := "36a39a5a209706a1d2775098fdeb53b6e55f8a83d582982b825926e25c0b5248", func := "sherd/sherdlaw14.MaskMoves", spec := "maskMoves", unfollowed := true, recurses := true, apart := false, narrowed := true }
def MaskMovesUptoSaid : Prop := maskMovesUptoRow.holds Try.pinned (OpenSpec.upto maskMovesSpec)

/-- 'sherdlaw14.MaskTurns', WHERE WHAT IT READS IS OF BULK AT MOST 1048576: true; the input reads as it did. -/
def maskTurnsUptoRow : OpenClaim := { program := "ytompeiemioeohaa", sum := "36a39a5a209706a1d2775098fdeb53b6e55f8a83d582982b825926e25c0b5248", func := "sherd/sherdlaw14.MaskTurns", spec := "maskTurns", unfollowed := true, recurses := true, apart := false, narrowed := true }
def MaskTurnsUptoSaid : Prop := maskTurnsUptoRow.holds Try.pinned (OpenSpec.upto maskTurnsSpec)

end Rows
end Go.Proofs.Ytompeiemioeohaa
