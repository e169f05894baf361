/-
  No cell of these rows narrows 'for every input' (looked for: loops, veiled, ifaces, maps, wideKeys, modest, calm, conditions, laid).
  DERIVED. THE GIVEN ROWS OF THIS SEAT. 6 by the template 'for every input the law returns true; each argument reads behind the call as it read before'; 0 by the template 'total and deterministic' (their statements: YtgjcbcbnjgghaaaTotals.lean).
  GIVEN WITH THE SEED: the statements are not yours to turn. If you find one false, say at which input.
  Laid BY PROGRAM, IN A SANDBOX (cutbox-rows.mjs): the forced cells as the released guide's own fill.sh prints them over the translation d53af19ff46fb147… (all of the seat's roots in one cut). By AI agents, Wed Nov 11 2026. No macro, syntax, notation, axiom, sorry.
-/
import Derived.Test.YtgjcbcbnjgghaaaChecked
import GoSem.Claim
import GoSem.ClaimJoined
import GoSem.ClaimMapViews
import Derived.JoinedTies
import Derived.KernelRfl
namespace Go.Proofs.Ytgjcbcbnjgghaaa
/- THE CELL 'sum', in the pinned program and in every row, IS THE sha256 OF THE DUMP (.gsa) THAT YtgjcbcbnjgghaaaProg.lean LOADS. Nothing in Lean hashes anything: it is a label: what it is worth is what the hold of that sum in a sandbox is worth. -/
noncomputable def Try.pinned : Pinned := { name := "ytgjcbcbnjgghaaa", sum := "d53af19ff46fb147c757b1c304f9da365aa6683b102314c38de0fed6044a23d7", checked := Try.checked }
namespace Rows
def none {H : Type} : Left H := { results := [], args := [] }

/-- 'laws.FnPlays': WHATEVER THE INPUT: true; the input reads as it did. -/
def fnPlaysSpec : ChangeSpec := { name := "fnPlays", fn := fun _ => fun
  | [d] => { results := [.lit (.bool true)], args := [d] }
  | _ => none }
def fnPlaysRow : OpenClaim := { program := "ytgjcbcbnjgghaaa", sum := "d53af19ff46fb147c757b1c304f9da365aa6683b102314c38de0fed6044a23d7", func := "loop.example/g00992/laws.FnPlays", spec := "fnPlays", apart := false }
def FnPlaysSaid : Prop := fnPlaysRow.holds Try.pinned (OpenSpec.ofChange fnPlaysSpec)

/-- ITS FALSE NEIGHBOUR: 'it returns false'. Refute it at one input. -/
def fnPlaysWrong : ChangeSpec := { name := "fnPlays", fn := fun _ => fun
  | [d] => { results := [.lit (.bool false)], args := [d] }
  | _ => none }
def FnPlaysWrongFalsely : Prop := fnPlaysRow.holds Try.pinned (OpenSpec.ofChange fnPlaysWrong)

/-- 'laws.FnExactPlayOk': WHATEVER THE INPUT: true; the input reads as it did. -/
def fnExactPlayOkSpec : ChangeSpec := { name := "fnExactPlayOk", fn := fun _ => fun
  | [d1, d2] => { results := [.lit (.bool true)], args := [d1, d2] }
  | _ => none }
def fnExactPlayOkRow : OpenClaim := { program := "ytgjcbcbnjgghaaa", sum := "d53af19ff46fb147c757b1c304f9da365aa6683b102314c38de0fed6044a23d7", func := "loop.example/g00992/laws.FnExactPlayOk", spec := "fnExactPlayOk", apart := false }
def FnExactPlayOkSaid : Prop := fnExactPlayOkRow.holds Try.pinned (OpenSpec.ofChange fnExactPlayOkSpec)

/-- ITS FALSE NEIGHBOUR: 'it returns false'. Refute it at one input. -/
def fnExactPlayOkWrong : ChangeSpec := { name := "fnExactPlayOk", fn := fun _ => fun
  | [d1, d2] => { results := [.lit (.bool false)], args := [d1, d2] }
  | _ => none }
def FnExactPlayOkWrongFalsely : Prop := fnExactPlayOkRow.holds Try.pinned (OpenSpec.ofChange fnExactPlayOkWrong)

/-- 'laws.FnExactPlayStep': WHATEVER THE INPUT: true; the input reads as it did. -/
def fnExactPlayStepSpec : ChangeSpec := { name := "fnExactPlayStep", fn := fun _ => fun
  | [d1, d2, d3] => { results := [.lit (.bool true)], args := [d1, d2, d3] }
  | _ => none }
def fnExactPlayStepRow : OpenClaim := { program := "ytgjcbcbnjgghaaa", sum := "d53af19ff46fb147c757b1c304f9da365aa6683b102314c38de0fed6044a23d7", func := "loop.example/g00992/laws.FnExactPlayStep", spec := "fnExactPlayStep", apart := false }
def FnExactPlayStepSaid : Prop := fnExactPlayStepRow.holds Try.pinned (OpenSpec.ofChange fnExactPlayStepSpec)

/-- ITS FALSE NEIGHBOUR: 'it returns false'. Refute it at one input. -/
def fnExactPlayStepWrong : ChangeSpec := { name := "fnExactPlayStep", fn := fun _ => fun
  | [d1, d2, d3] => { results := [.lit (.bool false)], args := [d1, d2, d3] }
  | _ => none }
def FnExactPlayStepWrongFalsely : Prop := fnExactPlayStepRow.holds Try.pinned (OpenSpec.ofChange fnExactPlayStepWrong)

/-- 'laws.FnExactPlayAll': WHATEVER THE INPUT: true; the input reads as it did. -/
def fnExactPlayAllSpec : ChangeSpec := { name := "fnExactPlayAll", fn := fun _ => fun
  | [d1, d2, d3] => { results := [.lit (.bool true)], args := [d1, d2, d3] }
  | _ => none }
def fnExactPlayAllRow : OpenClaim := { program := "ytgjcbcbnjgghaaa", sum := "d53af19ff46fb147c757b1c304f9da365aa6683b102314c38de0fed6044a23d7", func := "loop.example/g00992/laws.FnExactPlayAll", spec := "fnExactPlayAll", apart := false }
def FnExactPlayAllSaid : Prop := fnExactPlayAllRow.holds Try.pinned (OpenSpec.ofChange fnExactPlayAllSpec)

/-- ITS FALSE NEIGHBOUR: 'it returns false'. Refute it at one input. -/
def fnExactPlayAllWrong : ChangeSpec := { name := "fnExactPlayAll", fn := fun _ => fun
  | [d1, d2, d3] => { results := [.lit (.bool false)], args := [d1, d2, d3] }
  | _ => none }
def FnExactPlayAllWrongFalsely : Prop := fnExactPlayAllRow.holds Try.pinned (OpenSpec.ofChange fnExactPlayAllWrong)

/-- 'laws.FnExactCountMoves': WHATEVER THE INPUT: true; the input reads as it did. -/
def fnExactCountMovesSpec : ChangeSpec := { name := "fnExactCountMoves", fn := fun _ => fun
  | [d1, d2, d3] => { results := [.lit (.bool true)], args := [d1, d2, d3] }
  | _ => none }
def fnExactCountMovesRow : OpenClaim := { program := "ytgjcbcbnjgghaaa", sum := "d53af19ff46fb147c757b1c304f9da365aa6683b102314c38de0fed6044a23d7", func := "loop.example/g00992/laws.FnExactCountMoves", spec := "fnExactCountMoves", apart := false }
def FnExactCountMovesSaid : Prop := fnExactCountMovesRow.holds Try.pinned (OpenSpec.ofChange fnExactCountMovesSpec)

/-- ITS FALSE NEIGHBOUR: 'it returns false'. Refute it at one input. -/
def fnExactCountMovesWrong : ChangeSpec := { name := "fnExactCountMoves", fn := fun _ => fun
  | [d1, d2, d3] => { results := [.lit (.bool false)], args := [d1, d2, d3] }
  | _ => none }
def FnExactCountMovesWrongFalsely : Prop := fnExactCountMovesRow.holds Try.pinned (OpenSpec.ofChange fnExactCountMovesWrong)

/-- 'laws.FnExactGreatestLag': WHATEVER THE INPUT: true; the input reads as it did. -/
def fnExactGreatestLagSpec : ChangeSpec := { name := "fnExactGreatestLag", fn := fun _ => fun
  | [d1, d2, d3] => { results := [.lit (.bool true)], args := [d1, d2, d3] }
  | _ => none }
def fnExactGreatestLagRow : OpenClaim := { program := "ytgjcbcbnjgghaaa", sum := "d53af19ff46fb147c757b1c304f9da365aa6683b102314c38de0fed6044a23d7", func := "loop.example/g00992/laws.FnExactGreatestLag", spec := "fnExactGreatestLag", apart := false }
def FnExactGreatestLagSaid : Prop := fnExactGreatestLagRow.holds Try.pinned (OpenSpec.ofChange fnExactGreatestLagSpec)

/-- ITS FALSE NEIGHBOUR: 'it returns false'. Refute it at one input. -/
def fnExactGreatestLagWrong : ChangeSpec := { name := "fnExactGreatestLag", fn := fun _ => fun
  | [d1, d2, d3] => { results := [.lit (.bool false)], args := [d1, d2, d3] }
  | _ => none }
def FnExactGreatestLagWrongFalsely : Prop := fnExactGreatestLagRow.holds Try.pinned (OpenSpec.ofChange fnExactGreatestLagWrong)

/- THE SECOND FORM. 'bulk': how many values and letters a reading holds, each counted each time it is reached (what is shared counts as often as it is met; a slice's spare places count too). A statement '..UptoSaid' is the law's where the arguments, and the package variables that the reading takes, are together of bulk at most 1048576: NARROWER than '..Said'. Prove '..Said' where nothing that the law and all that it calls make is longer than what came in: it says more and counts as full. Else prove '..UptoSaid'. A law counts once. -/
mutual
def uptoBulk {H : Type} : DataW H → Nat
  | .lit (.string bytes) => bytes.length + 1
  | .lit _ => 1
  | .nil => 1
  | .ptr d => uptoBulk d + 1
  | .slice elems spare => uptoBulkAll elems + uptoBulkAll spare + 1
  | .agg parts => uptoBulkAll parts + 1
  | .iface _ d => uptoBulk d + 1
  | .map entries => uptoBulkEntries entries + 1
  | .held _ => 1
def uptoBulkAll {H : Type} : List (DataW H) → Nat
  | [] => 0
  | d :: r => uptoBulk d + uptoBulkAll r
def uptoBulkEntries {H : Type} : List (Lit × DataW H) → Nat
  | [] => 0
  | x :: r => uptoBulkEntry x + uptoBulkEntries r
def uptoBulkEntry {H : Type} : Lit × DataW H → Nat
  | (.string bytes, d) => bytes.length + uptoBulk d + 1
  | (_, d) => uptoBulk d + 1
 end
def uptoSmall : (H : Type) → List (DataW H) → Bool := fun _ ds => decide (uptoBulkAll ds ≤ 1048576)
def OpenSpec.upto (s : _root_.Go.ChangeSpec) : _root_.Go.OpenSpec := { _root_.Go.OpenSpec.ofChange s with cond := some uptoSmall }

/-- 'laws.FnPlays', WHERE WHAT IT READS IS OF BULK AT MOST 1048576: true; the input reads as it did. -/
def fnPlaysUptoRow : OpenClaim := { program := "ytgjcbcbnjgghaaa", sum := "d53af19ff46fb147c757b1c304f9da365aa6683b102314c38de0fed6044a23d7", func := "loop.example/g00992/laws.FnPlays", spec := "fnPlays", apart := false, narrowed := true }
def FnPlaysUptoSaid : Prop := fnPlaysUptoRow.holds Try.pinned (OpenSpec.upto fnPlaysSpec)

/-- 'laws.FnExactPlayOk', WHERE WHAT IT READS IS OF BULK AT MOST 1048576: true; the input reads as it did. -/
def fnExactPlayOkUptoRow : OpenClaim := { program := "ytgjcbcbnjgghaaa", sum := "d53af19ff46fb147c757b1c304f9da365aa6683b102314c38de0fed6044a23d7", func := "loop.example/g00992/laws.FnExactPlayOk", spec := "fnExactPlayOk", apart := false, narrowed := true }
def FnExactPlayOkUptoSaid : Prop := fnExactPlayOkUptoRow.holds Try.pinned (OpenSpec.upto fnExactPlayOkSpec)

/-- 'laws.FnExactPlayStep', WHERE WHAT IT READS IS OF BULK AT MOST 1048576: true; the input reads as it did. -/
def fnExactPlayStepUptoRow : OpenClaim := { program := "ytgjcbcbnjgghaaa", sum := "d53af19ff46fb147c757b1c304f9da365aa6683b102314c38de0fed6044a23d7", func := "loop.example/g00992/laws.FnExactPlayStep", spec := "fnExactPlayStep", apart := false, narrowed := true }
def FnExactPlayStepUptoSaid : Prop := fnExactPlayStepUptoRow.holds Try.pinned (OpenSpec.upto fnExactPlayStepSpec)

/-- 'laws.FnExactPlayAll', WHERE WHAT IT READS IS OF BULK AT MOST 1048576: true; the input reads as it did. -/
def fnExactPlayAllUptoRow : OpenClaim := { program := "ytgjcbcbnjgghaaa", sum := "d53af19ff46fb147c757b1c304f9da365aa6683b102314c38de0fed6044a23d7", func := "loop.example/g00992/laws.FnExactPlayAll", spec := "fnExactPlayAll", apart := false, narrowed := true }
def FnExactPlayAllUptoSaid : Prop := fnExactPlayAllUptoRow.holds Try.pinned (OpenSpec.upto fnExactPlayAllSpec)

/-- 'laws.FnExactCountMoves', WHERE WHAT IT READS IS OF BULK AT MOST 1048576: true; the input reads as it did. -/
def fnExactCountMovesUptoRow : OpenClaim := { program := "ytgjcbcbnjgghaaa", sum := "d53af19ff46fb147c757b1c304f9da365aa6683b102314c38de0fed6044a23d7", func := "loop.example/g00992/laws.FnExactCountMoves", spec := "fnExactCountMoves", apart := false, narrowed := true }
def FnExactCountMovesUptoSaid : Prop := fnExactCountMovesUptoRow.holds Try.pinned (OpenSpec.upto fnExactCountMovesSpec)

/-- 'laws.FnExactGreatestLag', WHERE WHAT IT READS IS OF BULK AT MOST 1048576: true; the input reads as it did. -/
def fnExactGreatestLagUptoRow : OpenClaim := { program := "ytgjcbcbnjgghaaa", sum := "d53af19ff46fb147c757b1c304f9da365aa6683b102314c38de0fed6044a23d7", func := "loop.example/g00992/laws.FnExactGreatestLag", spec := "fnExactGreatestLag", apart := false, narrowed := true }
def FnExactGreatestLagUptoSaid : Prop := fnExactGreatestLagUptoRow.holds Try.pinned (OpenSpec.upto fnExactGreatestLagSpec)

end Rows
end Go.Proofs.Ytgjcbcbnjgghaaa
