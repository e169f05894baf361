/-
  No cell of these rows narrows 'for every input' (looked for: loops, veiled, ifaces, maps, wideKeys, modest, calm, conditions, laid).
  DERIVED. THE GIVEN ROWS OF THIS SEAT. 7 by the template 'for every input the law returns true; each argument reads behind the call as it read before'; 0 by the template 'total and deterministic' (their statements: YtngegifiekjfbaaTotals.lean).
  GIVEN WITH THE SEED: the statements are not yours to turn. If you find one false, say at which input.
  Laid BY PROGRAM, IN A SANDBOX (cutbox-rows.mjs): the forced cells as the released guide's own fill.sh prints them over the translation 37407103497c7134… (all of the seat's roots in one cut). By AI agents, Wed Nov 11 2026. No macro, syntax, notation, axiom, sorry.
-/
import Derived.Test.YtngegifiekjfbaaChecked
import GoSem.Claim
import GoSem.ClaimJoined
import GoSem.ClaimMapViews
import Derived.JoinedTies
import Derived.KernelRfl
namespace Go.Proofs.Ytngegifiekjfbaa
/- THE CELL 'sum', in the pinned program and in every row, IS THE sha256 OF THE DUMP (.gsa) THAT YtngegifiekjfbaaProg.lean LOADS. Nothing in Lean hashes anything: it is a label: what it is worth is what the hold of that sum in a sandbox is worth. -/
noncomputable def Try.pinned : Pinned := { name := "ytngegifiekjfbaa", sum := "37407103497c71340a3d94ee03016d653cf28f174b0d6539a9712821c9fbda4d", checked := Try.checked }
namespace Rows
def none {H : Type} : Left H := { results := [], args := [] }

/-- 'laws.FnArms': WHATEVER THE INPUT: true; the input reads as it did. -/
def fnArmsSpec : ChangeSpec := { name := "fnArms", fn := fun _ => fun
  | [d] => { results := [.lit (.bool true)], args := [d] }
  | _ => none }
def fnArmsRow : OpenClaim := { program := "ytngegifiekjfbaa", sum := "37407103497c71340a3d94ee03016d653cf28f174b0d6539a9712821c9fbda4d", func := "loop.example/g00992/laws.FnArms", spec := "fnArms", unfollowed := true, recurses := true, apart := false }
def FnArmsSaid : Prop := fnArmsRow.holds Try.pinned (OpenSpec.ofChange fnArmsSpec)

/-- ITS FALSE NEIGHBOUR: 'it returns false'. Refute it at one input. -/
def fnArmsWrong : ChangeSpec := { name := "fnArms", fn := fun _ => fun
  | [d] => { results := [.lit (.bool false)], args := [d] }
  | _ => none }
def FnArmsWrongFalsely : Prop := fnArmsRow.holds Try.pinned (OpenSpec.ofChange fnArmsWrong)

/-- 'laws.FnExactArmsOk': WHATEVER THE INPUT: true; the input reads as it did. -/
def fnExactArmsOkSpec : ChangeSpec := { name := "fnExactArmsOk", fn := fun _ => fun
  | [d1, d2] => { results := [.lit (.bool true)], args := [d1, d2] }
  | _ => none }
def fnExactArmsOkRow : OpenClaim := { program := "ytngegifiekjfbaa", sum := "37407103497c71340a3d94ee03016d653cf28f174b0d6539a9712821c9fbda4d", func := "loop.example/g00992/laws.FnExactArmsOk", spec := "fnExactArmsOk", apart := false }
def FnExactArmsOkSaid : Prop := fnExactArmsOkRow.holds Try.pinned (OpenSpec.ofChange fnExactArmsOkSpec)

/-- ITS FALSE NEIGHBOUR: 'it returns false'. Refute it at one input. -/
def fnExactArmsOkWrong : ChangeSpec := { name := "fnExactArmsOk", fn := fun _ => fun
  | [d1, d2] => { results := [.lit (.bool false)], args := [d1, d2] }
  | _ => none }
def FnExactArmsOkWrongFalsely : Prop := fnExactArmsOkRow.holds Try.pinned (OpenSpec.ofChange fnExactArmsOkWrong)

/-- 'laws.FnExactReadLeft': WHATEVER THE INPUT: true; the input reads as it did. -/
def fnExactReadLeftSpec : ChangeSpec := { name := "fnExactReadLeft", fn := fun _ => fun
  | [d1, d2, d3] => { results := [.lit (.bool true)], args := [d1, d2, d3] }
  | _ => none }
def fnExactReadLeftRow : OpenClaim := { program := "ytngegifiekjfbaa", sum := "37407103497c71340a3d94ee03016d653cf28f174b0d6539a9712821c9fbda4d", func := "loop.example/g00992/laws.FnExactReadLeft", spec := "fnExactReadLeft", unfollowed := true, recurses := true, apart := false }
def FnExactReadLeftSaid : Prop := fnExactReadLeftRow.holds Try.pinned (OpenSpec.ofChange fnExactReadLeftSpec)

/-- ITS FALSE NEIGHBOUR: 'it returns false'. Refute it at one input. -/
def fnExactReadLeftWrong : ChangeSpec := { name := "fnExactReadLeft", fn := fun _ => fun
  | [d1, d2, d3] => { results := [.lit (.bool false)], args := [d1, d2, d3] }
  | _ => none }
def FnExactReadLeftWrongFalsely : Prop := fnExactReadLeftRow.holds Try.pinned (OpenSpec.ofChange fnExactReadLeftWrong)

/-- 'laws.FnExactReadRight': WHATEVER THE INPUT: true; the input reads as it did. -/
def fnExactReadRightSpec : ChangeSpec := { name := "fnExactReadRight", fn := fun _ => fun
  | [d1, d2, d3] => { results := [.lit (.bool true)], args := [d1, d2, d3] }
  | _ => none }
def fnExactReadRightRow : OpenClaim := { program := "ytngegifiekjfbaa", sum := "37407103497c71340a3d94ee03016d653cf28f174b0d6539a9712821c9fbda4d", func := "loop.example/g00992/laws.FnExactReadRight", spec := "fnExactReadRight", unfollowed := true, recurses := true, apart := false }
def FnExactReadRightSaid : Prop := fnExactReadRightRow.holds Try.pinned (OpenSpec.ofChange fnExactReadRightSpec)

/-- ITS FALSE NEIGHBOUR: 'it returns false'. Refute it at one input. -/
def fnExactReadRightWrong : ChangeSpec := { name := "fnExactReadRight", fn := fun _ => fun
  | [d1, d2, d3] => { results := [.lit (.bool false)], args := [d1, d2, d3] }
  | _ => none }
def FnExactReadRightWrongFalsely : Prop := fnExactReadRightRow.holds Try.pinned (OpenSpec.ofChange fnExactReadRightWrong)

/-- 'laws.FnExactSquareFrom': WHATEVER THE INPUT: true; the input reads as it did. -/
def fnExactSquareFromSpec : ChangeSpec := { name := "fnExactSquareFrom", fn := fun _ => fun
  | [d1, d2] => { results := [.lit (.bool true)], args := [d1, d2] }
  | _ => none }
def fnExactSquareFromRow : OpenClaim := { program := "ytngegifiekjfbaa", sum := "37407103497c71340a3d94ee03016d653cf28f174b0d6539a9712821c9fbda4d", func := "loop.example/g00992/laws.FnExactSquareFrom", spec := "fnExactSquareFrom", apart := false }
def FnExactSquareFromSaid : Prop := fnExactSquareFromRow.holds Try.pinned (OpenSpec.ofChange fnExactSquareFromSpec)

/-- ITS FALSE NEIGHBOUR: 'it returns false'. Refute it at one input. -/
def fnExactSquareFromWrong : ChangeSpec := { name := "fnExactSquareFrom", fn := fun _ => fun
  | [d1, d2] => { results := [.lit (.bool false)], args := [d1, d2] }
  | _ => none }
def FnExactSquareFromWrongFalsely : Prop := fnExactSquareFromRow.holds Try.pinned (OpenSpec.ofChange fnExactSquareFromWrong)

/-- 'laws.FnExactRatioFrom': WHATEVER THE INPUT: true; the input reads as it did. -/
def fnExactRatioFromSpec : ChangeSpec := { name := "fnExactRatioFrom", fn := fun _ => fun
  | [d1, d2] => { results := [.lit (.bool true)], args := [d1, d2] }
  | _ => none }
def fnExactRatioFromRow : OpenClaim := { program := "ytngegifiekjfbaa", sum := "37407103497c71340a3d94ee03016d653cf28f174b0d6539a9712821c9fbda4d", func := "loop.example/g00992/laws.FnExactRatioFrom", spec := "fnExactRatioFrom", apart := false }
def FnExactRatioFromSaid : Prop := fnExactRatioFromRow.holds Try.pinned (OpenSpec.ofChange fnExactRatioFromSpec)

/-- ITS FALSE NEIGHBOUR: 'it returns false'. Refute it at one input. -/
def fnExactRatioFromWrong : ChangeSpec := { name := "fnExactRatioFrom", fn := fun _ => fun
  | [d1, d2] => { results := [.lit (.bool false)], args := [d1, d2] }
  | _ => none }
def FnExactRatioFromWrongFalsely : Prop := fnExactRatioFromRow.holds Try.pinned (OpenSpec.ofChange fnExactRatioFromWrong)

/-- 'laws.FnExactSubstitute': WHATEVER THE INPUT: true; the input reads as it did. -/
def fnExactSubstituteSpec : ChangeSpec := { name := "fnExactSubstitute", fn := fun _ => fun
  | [d1, d2, d3, d4] => { results := [.lit (.bool true)], args := [d1, d2, d3, d4] }
  | _ => none }
def fnExactSubstituteRow : OpenClaim := { program := "ytngegifiekjfbaa", sum := "37407103497c71340a3d94ee03016d653cf28f174b0d6539a9712821c9fbda4d", func := "loop.example/g00992/laws.FnExactSubstitute", spec := "fnExactSubstitute", unfollowed := true, recurses := true, apart := false }
def FnExactSubstituteSaid : Prop := fnExactSubstituteRow.holds Try.pinned (OpenSpec.ofChange fnExactSubstituteSpec)

/-- ITS FALSE NEIGHBOUR: 'it returns false'. Refute it at one input. -/
def fnExactSubstituteWrong : ChangeSpec := { name := "fnExactSubstitute", fn := fun _ => fun
  | [d1, d2, d3, d4] => { results := [.lit (.bool false)], args := [d1, d2, d3, d4] }
  | _ => none }
def FnExactSubstituteWrongFalsely : Prop := fnExactSubstituteRow.holds Try.pinned (OpenSpec.ofChange fnExactSubstituteWrong)

/- THE SECOND FORM. 'bulk': how many values and letters a reading holds, each counted each time it is reached (what is shared counts as often as it is met; a slice's spare places count too). A statement '..UptoSaid' is the law's where the arguments, and the package variables that the reading takes, are together of bulk at most 1048576: NARROWER than '..Said'. Prove '..Said' where nothing that the law and all that it calls make is longer than what came in: it says more and counts as full. Else prove '..UptoSaid'. A law counts once. -/
mutual
def uptoBulk {H : Type} : DataW H → Nat
  | .lit (.string bytes) => bytes.length + 1
  | .lit _ => 1
  | .nil => 1
  | .ptr d => uptoBulk d + 1
  | .slice elems spare => uptoBulkAll elems + uptoBulkAll spare + 1
  | .agg parts => uptoBulkAll parts + 1
  | .iface _ d => uptoBulk d + 1
  | .map entries => uptoBulkEntries entries + 1
  | .held _ => 1
def uptoBulkAll {H : Type} : List (DataW H) → Nat
  | [] => 0
  | d :: r => uptoBulk d + uptoBulkAll r
def uptoBulkEntries {H : Type} : List (Lit × DataW H) → Nat
  | [] => 0
  | x :: r => uptoBulkEntry x + uptoBulkEntries r
def uptoBulkEntry {H : Type} : Lit × DataW H → Nat
  | (.string bytes, d) => bytes.length + uptoBulk d + 1
  | (_, d) => uptoBulk d + 1
 end
def uptoSmall : (H : Type) → List (DataW H) → Bool := fun _ ds => decide (uptoBulkAll ds ≤ 1048576)
def OpenSpec.upto (s : _root_.Go.ChangeSpec) : _root_.Go.OpenSpec := { _root_.Go.OpenSpec.ofChange s with cond := some uptoSmall }

/-- 'laws.FnArms', WHERE WHAT IT READS IS OF BULK AT MOST 1048576: true; the input reads as it did. -/
def fnArmsUptoRow : OpenClaim := { program := "ytngegifiekjfbaa", sum := "37407103497c71340a3d94ee03016d653cf28f174b0d6539a9712821c9fbda4d", func := "loop.example/g00992/laws.FnArms", spec := "fnArms", unfollowed := true, recurses := true, apart := false, narrowed := true }
def FnArmsUptoSaid : Prop := fnArmsUptoRow.holds Try.pinned (OpenSpec.upto fnArmsSpec)

/-- 'laws.FnExactArmsOk', WHERE WHAT IT READS IS OF BULK AT MOST 1048576: true; the input reads as it did. -/
def fnExactArmsOkUptoRow : OpenClaim := { program := "ytngegifiekjfbaa", sum := "37407103497c71340a3d94ee03016d653cf28f174b0d6539a9712821c9fbda4d", func := "loop.example/g00992/laws.FnExactArmsOk", spec := "fnExactArmsOk", apart := false, narrowed := true }
def FnExactArmsOkUptoSaid : Prop := fnExactArmsOkUptoRow.holds Try.pinned (OpenSpec.upto fnExactArmsOkSpec)

/-- 'laws.FnExactReadLeft', WHERE WHAT IT READS IS OF BULK AT MOST 1048576: true; the input reads as it did. -/
def fnExactReadLeftUptoRow : OpenClaim := { program := "ytngegifiekjfbaa", sum := "37407103497c71340a3d94ee03016d653cf28f174b0d6539a9712821c9fbda4d", func := "loop.example/g00992/laws.FnExactReadLeft", spec := "fnExactReadLeft", unfollowed := true, recurses := true, apart := false, narrowed := true }
def FnExactReadLeftUptoSaid : Prop := fnExactReadLeftUptoRow.holds Try.pinned (OpenSpec.upto fnExactReadLeftSpec)

/-- 'laws.FnExactReadRight', WHERE WHAT IT READS IS OF BULK AT MOST 1048576: true; the input reads as it did. -/
def fnExactReadRightUptoRow : OpenClaim := { program := "ytngegifiekjfbaa", sum := "37407103497c71340a3d94ee03016d653cf28f174b0d6539a9712821c9fbda4d", func := "loop.example/g00992/laws.FnExactReadRight", spec := "fnExactReadRight", unfollowed := true, recurses := true, apart := false, narrowed := true }
def FnExactReadRightUptoSaid : Prop := fnExactReadRightUptoRow.holds Try.pinned (OpenSpec.upto fnExactReadRightSpec)

/-- 'laws.FnExactSquareFrom', WHERE WHAT IT READS IS OF BULK AT MOST 1048576: true; the input reads as it did. -/
def fnExactSquareFromUptoRow : OpenClaim := { program := "ytngegifiekjfbaa", sum := "37407103497c71340a3d94ee03016d653cf28f174b0d6539a9712821c9fbda4d", func := "loop.example/g00992/laws.FnExactSquareFrom", spec := "fnExactSquareFrom", apart := false, narrowed := true }
def FnExactSquareFromUptoSaid : Prop := fnExactSquareFromUptoRow.holds Try.pinned (OpenSpec.upto fnExactSquareFromSpec)

/-- 'laws.FnExactRatioFrom', WHERE WHAT IT READS IS OF BULK AT MOST 1048576: true; the input reads as it did. -/
def fnExactRatioFromUptoRow : OpenClaim := { program := "ytngegifiekjfbaa", sum := "37407103497c71340a3d94ee03016d653cf28f174b0d6539a9712821c9fbda4d", func := "loop.example/g00992/laws.FnExactRatioFrom", spec := "fnExactRatioFrom", apart := false, narrowed := true }
def FnExactRatioFromUptoSaid : Prop := fnExactRatioFromUptoRow.holds Try.pinned (OpenSpec.upto fnExactRatioFromSpec)

/-- 'laws.FnExactSubstitute', WHERE WHAT IT READS IS OF BULK AT MOST 1048576: true; the input reads as it did. -/
def fnExactSubstituteUptoRow : OpenClaim := { program := "ytngegifiekjfbaa", sum := "37407103497c71340a3d94ee03016d653cf28f174b0d6539a9712821c9fbda4d", func := "loop.example/g00992/laws.FnExactSubstitute", spec := "fnExactSubstitute", unfollowed := true, recurses := true, apart := false, narrowed := true }
def FnExactSubstituteUptoSaid : Prop := fnExactSubstituteUptoRow.holds Try.pinned (OpenSpec.upto fnExactSubstituteSpec)

end Rows
end Go.Proofs.Ytngegifiekjfbaa
