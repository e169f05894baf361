/-
  No cell of these rows narrows 'for every input' (looked for: loops, veiled, ifaces, maps, wideKeys, modest, calm, conditions, laid).
  DERIVED. THE GIVEN ROWS OF THIS SEAT. 6 by the template 'for every input the law returns true; each argument reads behind the call as it read before'; 0 by the template 'total and deterministic' (their statements: YtdnjpekclmiliaaTotals.lean).
  GIVEN WITH THE SEED: the statements are not yours to turn. If you find one false, say at which input.
  Laid BY PROGRAM, IN A SANDBOX (cutbox-rows.mjs): the forced cells as the released guide's own fill.sh prints them over the translation ee59f3cb8085c848… (all of the seat's roots in one cut). By AI agents, Wed Nov 11 2026. No macro, syntax, notation, axiom, sorry.
-/
import Derived.Test.YtdnjpekclmiliaaChecked
import GoSem.Claim
import GoSem.ClaimJoined
import GoSem.ClaimMapViews
import Derived.JoinedTies
import Derived.KernelRfl
namespace Go.Proofs.Ytdnjpekclmiliaa
/- THE CELL 'sum', in the pinned program and in every row, IS THE sha256 OF THE DUMP (.gsa) THAT YtdnjpekclmiliaaProg.lean LOADS. Nothing in Lean hashes anything: it is a label: what it is worth is what the hold of that sum in a sandbox is worth. -/
noncomputable def Try.pinned : Pinned := { name := "ytdnjpekclmiliaa", sum := "ee59f3cb8085c8485677b908cef2d458330df4d673957c9dc2a008b7f7b3f34e", checked := Try.checked }
namespace Rows
def none {H : Type} : Left H := { results := [], args := [] }

/-- 'laws.FnPerfects': WHATEVER THE INPUT: true; the input reads as it did. -/
def fnPerfectsSpec : ChangeSpec := { name := "fnPerfects", fn := fun _ => fun
  | [d] => { results := [.lit (.bool true)], args := [d] }
  | _ => none }
def fnPerfectsRow : OpenClaim := { program := "ytdnjpekclmiliaa", sum := "ee59f3cb8085c8485677b908cef2d458330df4d673957c9dc2a008b7f7b3f34e", func := "loop.example/g00992/laws.FnPerfects", spec := "fnPerfects", unfollowed := true, recurses := true, apart := false }
def FnPerfectsSaid : Prop := fnPerfectsRow.holds Try.pinned (OpenSpec.ofChange fnPerfectsSpec)

/-- ITS FALSE NEIGHBOUR: 'it returns false'. Refute it at one input. -/
def fnPerfectsWrong : ChangeSpec := { name := "fnPerfects", fn := fun _ => fun
  | [d] => { results := [.lit (.bool false)], args := [d] }
  | _ => none }
def FnPerfectsWrongFalsely : Prop := fnPerfectsRow.holds Try.pinned (OpenSpec.ofChange fnPerfectsWrong)

/-- 'laws.FnExactSumWays': WHATEVER THE INPUT: true; the input reads as it did. -/
def fnExactSumWaysSpec : ChangeSpec := { name := "fnExactSumWays", fn := fun _ => fun
  | [d1, d2] => { results := [.lit (.bool true)], args := [d1, d2] }
  | _ => none }
def fnExactSumWaysRow : OpenClaim := { program := "ytdnjpekclmiliaa", sum := "ee59f3cb8085c8485677b908cef2d458330df4d673957c9dc2a008b7f7b3f34e", func := "loop.example/g00992/laws.FnExactSumWays", spec := "fnExactSumWays", apart := false }
def FnExactSumWaysSaid : Prop := fnExactSumWaysRow.holds Try.pinned (OpenSpec.ofChange fnExactSumWaysSpec)

/-- ITS FALSE NEIGHBOUR: 'it returns false'. Refute it at one input. -/
def fnExactSumWaysWrong : ChangeSpec := { name := "fnExactSumWays", fn := fun _ => fun
  | [d1, d2] => { results := [.lit (.bool false)], args := [d1, d2] }
  | _ => none }
def FnExactSumWaysWrongFalsely : Prop := fnExactSumWaysRow.holds Try.pinned (OpenSpec.ofChange fnExactSumWaysWrong)

/-- 'laws.FnExactIsComplete': WHATEVER THE INPUT: true; the input reads as it did. -/
def fnExactIsCompleteSpec : ChangeSpec := { name := "fnExactIsComplete", fn := fun _ => fun
  | [d] => { results := [.lit (.bool true)], args := [d] }
  | _ => none }
def fnExactIsCompleteRow : OpenClaim := { program := "ytdnjpekclmiliaa", sum := "ee59f3cb8085c8485677b908cef2d458330df4d673957c9dc2a008b7f7b3f34e", func := "loop.example/g00992/laws.FnExactIsComplete", spec := "fnExactIsComplete", unfollowed := true, recurses := true, apart := false }
def FnExactIsCompleteSaid : Prop := fnExactIsCompleteRow.holds Try.pinned (OpenSpec.ofChange fnExactIsCompleteSpec)

/-- ITS FALSE NEIGHBOUR: 'it returns false'. Refute it at one input. -/
def fnExactIsCompleteWrong : ChangeSpec := { name := "fnExactIsComplete", fn := fun _ => fun
  | [d] => { results := [.lit (.bool false)], args := [d] }
  | _ => none }
def FnExactIsCompleteWrongFalsely : Prop := fnExactIsCompleteRow.holds Try.pinned (OpenSpec.ofChange fnExactIsCompleteWrong)

/-- 'laws.FnExactIsPerfectSet': WHATEVER THE INPUT: true; the input reads as it did. -/
def fnExactIsPerfectSetSpec : ChangeSpec := { name := "fnExactIsPerfectSet", fn := fun _ => fun
  | [d] => { results := [.lit (.bool true)], args := [d] }
  | _ => none }
def fnExactIsPerfectSetRow : OpenClaim := { program := "ytdnjpekclmiliaa", sum := "ee59f3cb8085c8485677b908cef2d458330df4d673957c9dc2a008b7f7b3f34e", func := "loop.example/g00992/laws.FnExactIsPerfectSet", spec := "fnExactIsPerfectSet", unfollowed := true, recurses := true, apart := false }
def FnExactIsPerfectSetSaid : Prop := fnExactIsPerfectSetRow.holds Try.pinned (OpenSpec.ofChange fnExactIsPerfectSetSpec)

/-- ITS FALSE NEIGHBOUR: 'it returns false'. Refute it at one input. -/
def fnExactIsPerfectSetWrong : ChangeSpec := { name := "fnExactIsPerfectSet", fn := fun _ => fun
  | [d] => { results := [.lit (.bool false)], args := [d] }
  | _ => none }
def FnExactIsPerfectSetWrongFalsely : Prop := fnExactIsPerfectSetRow.holds Try.pinned (OpenSpec.ofChange fnExactIsPerfectSetWrong)

/-- 'laws.FnExactPerfectLists': WHATEVER THE INPUT: true; the input reads as it did. -/
def fnExactPerfectListsSpec : ChangeSpec := { name := "fnExactPerfectLists", fn := fun _ => fun
  | [d] => { results := [.lit (.bool true)], args := [d] }
  | _ => none }
def fnExactPerfectListsRow : OpenClaim := { program := "ytdnjpekclmiliaa", sum := "ee59f3cb8085c8485677b908cef2d458330df4d673957c9dc2a008b7f7b3f34e", func := "loop.example/g00992/laws.FnExactPerfectLists", spec := "fnExactPerfectLists", recurses := true, apart := false }
def FnExactPerfectListsSaid : Prop := fnExactPerfectListsRow.holds Try.pinned (OpenSpec.ofChange fnExactPerfectListsSpec)

/-- ITS FALSE NEIGHBOUR: 'it returns false'. Refute it at one input. -/
def fnExactPerfectListsWrong : ChangeSpec := { name := "fnExactPerfectLists", fn := fun _ => fun
  | [d] => { results := [.lit (.bool false)], args := [d] }
  | _ => none }
def FnExactPerfectListsWrongFalsely : Prop := fnExactPerfectListsRow.holds Try.pinned (OpenSpec.ofChange fnExactPerfectListsWrong)

/-- 'laws.FnExactOrderedFactors': WHATEVER THE INPUT: true; the input reads as it did. -/
def fnExactOrderedFactorsSpec : ChangeSpec := { name := "fnExactOrderedFactors", fn := fun _ => fun
  | [d] => { results := [.lit (.bool true)], args := [d] }
  | _ => none }
def fnExactOrderedFactorsRow : OpenClaim := { program := "ytdnjpekclmiliaa", sum := "ee59f3cb8085c8485677b908cef2d458330df4d673957c9dc2a008b7f7b3f34e", func := "loop.example/g00992/laws.FnExactOrderedFactors", spec := "fnExactOrderedFactors", recurses := true, apart := false }
def FnExactOrderedFactorsSaid : Prop := fnExactOrderedFactorsRow.holds Try.pinned (OpenSpec.ofChange fnExactOrderedFactorsSpec)

/-- ITS FALSE NEIGHBOUR: 'it returns false'. Refute it at one input. -/
def fnExactOrderedFactorsWrong : ChangeSpec := { name := "fnExactOrderedFactors", fn := fun _ => fun
  | [d] => { results := [.lit (.bool false)], args := [d] }
  | _ => none }
def FnExactOrderedFactorsWrongFalsely : Prop := fnExactOrderedFactorsRow.holds Try.pinned (OpenSpec.ofChange fnExactOrderedFactorsWrong)

/- THE SECOND FORM. 'bulk': how many values and letters a reading holds, each counted each time it is reached (what is shared counts as often as it is met; a slice's spare places count too). A statement '..UptoSaid' is the law's where the arguments, and the package variables that the reading takes, are together of bulk at most 1048576: NARROWER than '..Said'. Prove '..Said' where nothing that the law and all that it calls make is longer than what came in: it says more and counts as full. Else prove '..UptoSaid'. A law counts once. -/
mutual
def uptoBulk {H : Type} : DataW H → Nat
  | .lit (.string bytes) => bytes.length + 1
  | .lit _ => 1
  | .nil => 1
  | .ptr d => uptoBulk d + 1
  | .slice elems spare => uptoBulkAll elems + uptoBulkAll spare + 1
  | .agg parts => uptoBulkAll parts + 1
  | .iface _ d => uptoBulk d + 1
  | .map entries => uptoBulkEntries entries + 1
  | .held _ => 1
def uptoBulkAll {H : Type} : List (DataW H) → Nat
  | [] => 0
  | d :: r => uptoBulk d + uptoBulkAll r
def uptoBulkEntries {H : Type} : List (Lit × DataW H) → Nat
  | [] => 0
  | x :: r => uptoBulkEntry x + uptoBulkEntries r
def uptoBulkEntry {H : Type} : Lit × DataW H → Nat
  | (.string bytes, d) => bytes.length + uptoBulk d + 1
  | (_, d) => uptoBulk d + 1
 end
def uptoSmall : (H : Type) → List (DataW H) → Bool := fun _ ds => decide (uptoBulkAll ds ≤ 1048576)
def OpenSpec.upto (s : _root_.Go.ChangeSpec) : _root_.Go.OpenSpec := { _root_.Go.OpenSpec.ofChange s with cond := some uptoSmall }

/-- 'laws.FnPerfects', WHERE WHAT IT READS IS OF BULK AT MOST 1048576: true; the input reads as it did. -/
def fnPerfectsUptoRow : OpenClaim := { program := "ytdnjpekclmiliaa", sum := "ee59f3cb8085c8485677b908cef2d458330df4d673957c9dc2a008b7f7b3f34e", func := "loop.example/g00992/laws.FnPerfects", spec := "fnPerfects", unfollowed := true, recurses := true, apart := false, narrowed := true }
def FnPerfectsUptoSaid : Prop := fnPerfectsUptoRow.holds Try.pinned (OpenSpec.upto fnPerfectsSpec)

/-- 'laws.FnExactSumWays', WHERE WHAT IT READS IS OF BULK AT MOST 1048576: true; the input reads as it did. -/
def fnExactSumWaysUptoRow : OpenClaim := { program := "ytdnjpekclmiliaa", sum := "ee59f3cb8085c8485677b908cef2d458330df4d673957c9dc2a008b7f7b3f34e", func := "loop.example/g00992/laws.FnExactSumWays", spec := "fnExactSumWays", apart := false, narrowed := true }
def FnExactSumWaysUptoSaid : Prop := fnExactSumWaysUptoRow.holds Try.pinned (OpenSpec.upto fnExactSumWaysSpec)

/-- 'laws.FnExactIsComplete', WHERE WHAT IT READS IS OF BULK AT MOST 1048576: true; the input reads as it did. -/
def fnExactIsCompleteUptoRow : OpenClaim := { program := "ytdnjpekclmiliaa", sum := "ee59f3cb8085c8485677b908cef2d458330df4d673957c9dc2a008b7f7b3f34e", func := "loop.example/g00992/laws.FnExactIsComplete", spec := "fnExactIsComplete", unfollowed := true, recurses := true, apart := false, narrowed := true }
def FnExactIsCompleteUptoSaid : Prop := fnExactIsCompleteUptoRow.holds Try.pinned (OpenSpec.upto fnExactIsCompleteSpec)

/-- 'laws.FnExactIsPerfectSet', WHERE WHAT IT READS IS OF BULK AT MOST 1048576: true; the input reads as it did. -/
def fnExactIsPerfectSetUptoRow : OpenClaim := { program := "ytdnjpekclmiliaa", sum := "ee59f3cb8085c8485677b908cef2d458330df4d673957c9dc2a008b7f7b3f34e", func := "loop.example/g00992/laws.FnExactIsPerfectSet", spec := "fnExactIsPerfectSet", unfollowed := true, recurses := true, apart := false, narrowed := true }
def FnExactIsPerfectSetUptoSaid : Prop := fnExactIsPerfectSetUptoRow.holds Try.pinned (OpenSpec.upto fnExactIsPerfectSetSpec)

/-- 'laws.FnExactPerfectLists', WHERE WHAT IT READS IS OF BULK AT MOST 1048576: true; the input reads as it did. -/
def fnExactPerfectListsUptoRow : OpenClaim := { program := "ytdnjpekclmiliaa", sum := "ee59f3cb8085c8485677b908cef2d458330df4d673957c9dc2a008b7f7b3f34e", func := "loop.example/g00992/laws.FnExactPerfectLists", spec := "fnExactPerfectLists", recurses := true, apart := false, narrowed := true }
def FnExactPerfectListsUptoSaid : Prop := fnExactPerfectListsUptoRow.holds Try.pinned (OpenSpec.upto fnExactPerfectListsSpec)

/-- 'laws.FnExactOrderedFactors', WHERE WHAT IT READS IS OF BULK AT MOST 1048576: true; the input reads as it did. -/
def fnExactOrderedFactorsUptoRow : OpenClaim := { program := "ytdnjpekclmiliaa", sum := "ee59f3cb8085c8485677b908cef2d458330df4d673957c9dc2a008b7f7b3f34e", func := "loop.example/g00992/laws.FnExactOrderedFactors", spec := "fnExactOrderedFactors", recurses := true, apart := false, narrowed := true }
def FnExactOrderedFactorsUptoSaid : Prop := fnExactOrderedFactorsUptoRow.holds Try.pinned (OpenSpec.upto fnExactOrderedFactorsSpec)

end Rows
end Go.Proofs.Ytdnjpekclmiliaa
