/-
  No cell of these rows narrows 'for every input' (looked for: loops, veiled, ifaces, maps, wideKeys, modest, calm, conditions, laid).
  DERIVED. THE GIVEN ROWS OF THIS SEAT. 7 by the template 'for every input the law returns true; each argument reads behind the call as it read before'; 0 by the template 'total and deterministic' (their statements: YtacfblhmijabgaaTotals.lean).
  GIVEN WITH THE SEED: the statements are not yours to turn. If you find one false, say at which input.
  Laid BY PROGRAM, IN A SANDBOX (cutbox-rows.mjs): the forced cells as the released guide's own fill.sh prints them over the translation 1bf4883c7d660819… (all of the seat's roots in one cut). By AI agents, Wed Nov 11 2026. No macro, syntax, notation, axiom, sorry.
-/
import Derived.Test.YtacfblhmijabgaaChecked
import GoSem.Claim
import GoSem.ClaimJoined
import GoSem.ClaimMapViews
import Derived.JoinedTies
import Derived.KernelRfl
namespace Go.Proofs.Ytacfblhmijabgaa
/- THE CELL 'sum', in the pinned program and in every row, IS THE sha256 OF THE DUMP (.gsa) THAT YtacfblhmijabgaaProg.lean LOADS. Nothing in Lean hashes anything: it is a label: what it is worth is what the hold of that sum in a sandbox is worth. -/
noncomputable def Try.pinned : Pinned := { name := "ytacfblhmijabgaa", sum := "1bf4883c7d660819408b98491f3b0e23d5dedf244bceef0029b30310a3377eaa", checked := Try.checked }
namespace Rows
def none {H : Type} : Left H := { results := [], args := [] }

/-- 'laws.FnWeighings': WHATEVER THE INPUT: true; the input reads as it did. -/
def fnWeighingsSpec : ChangeSpec := { name := "fnWeighings", fn := fun _ => fun
  | [d] => { results := [.lit (.bool true)], args := [d] }
  | _ => none }
def fnWeighingsRow : OpenClaim := { program := "ytacfblhmijabgaa", sum := "1bf4883c7d660819408b98491f3b0e23d5dedf244bceef0029b30310a3377eaa", func := "loop.example/g00992/laws.FnWeighings", spec := "fnWeighings", apart := false }
def FnWeighingsSaid : Prop := fnWeighingsRow.holds Try.pinned (OpenSpec.ofChange fnWeighingsSpec)

/-- ITS FALSE NEIGHBOUR: 'it returns false'. Refute it at one input. -/
def fnWeighingsWrong : ChangeSpec := { name := "fnWeighings", fn := fun _ => fun
  | [d] => { results := [.lit (.bool false)], args := [d] }
  | _ => none }
def FnWeighingsWrongFalsely : Prop := fnWeighingsRow.holds Try.pinned (OpenSpec.ofChange fnWeighingsWrong)

/-- 'laws.FnExactCoinsOk': WHATEVER THE INPUT: true; the input reads as it did. -/
def fnExactCoinsOkSpec : ChangeSpec := { name := "fnExactCoinsOk", fn := fun _ => fun
  | [d] => { results := [.lit (.bool true)], args := [d] }
  | _ => none }
def fnExactCoinsOkRow : OpenClaim := { program := "ytacfblhmijabgaa", sum := "1bf4883c7d660819408b98491f3b0e23d5dedf244bceef0029b30310a3377eaa", func := "loop.example/g00992/laws.FnExactCoinsOk", spec := "fnExactCoinsOk", apart := false }
def FnExactCoinsOkSaid : Prop := fnExactCoinsOkRow.holds Try.pinned (OpenSpec.ofChange fnExactCoinsOkSpec)

/-- ITS FALSE NEIGHBOUR: 'it returns false'. Refute it at one input. -/
def fnExactCoinsOkWrong : ChangeSpec := { name := "fnExactCoinsOk", fn := fun _ => fun
  | [d] => { results := [.lit (.bool false)], args := [d] }
  | _ => none }
def FnExactCoinsOkWrongFalsely : Prop := fnExactCoinsOkRow.holds Try.pinned (OpenSpec.ofChange fnExactCoinsOkWrong)

/-- 'laws.FnExactLoadOk': WHATEVER THE INPUT: true; the input reads as it did. -/
def fnExactLoadOkSpec : ChangeSpec := { name := "fnExactLoadOk", fn := fun _ => fun
  | [d1, d2] => { results := [.lit (.bool true)], args := [d1, d2] }
  | _ => none }
def fnExactLoadOkRow : OpenClaim := { program := "ytacfblhmijabgaa", sum := "1bf4883c7d660819408b98491f3b0e23d5dedf244bceef0029b30310a3377eaa", func := "loop.example/g00992/laws.FnExactLoadOk", spec := "fnExactLoadOk", apart := false }
def FnExactLoadOkSaid : Prop := fnExactLoadOkRow.holds Try.pinned (OpenSpec.ofChange fnExactLoadOkSpec)

/-- ITS FALSE NEIGHBOUR: 'it returns false'. Refute it at one input. -/
def fnExactLoadOkWrong : ChangeSpec := { name := "fnExactLoadOk", fn := fun _ => fun
  | [d1, d2] => { results := [.lit (.bool false)], args := [d1, d2] }
  | _ => none }
def FnExactLoadOkWrongFalsely : Prop := fnExactLoadOkRow.holds Try.pinned (OpenSpec.ofChange fnExactLoadOkWrong)

/-- 'laws.FnExactWeigh': WHATEVER THE INPUT: true; the input reads as it did. -/
def fnExactWeighSpec : ChangeSpec := { name := "fnExactWeigh", fn := fun _ => fun
  | [d1, d2] => { results := [.lit (.bool true)], args := [d1, d2] }
  | _ => none }
def fnExactWeighRow : OpenClaim := { program := "ytacfblhmijabgaa", sum := "1bf4883c7d660819408b98491f3b0e23d5dedf244bceef0029b30310a3377eaa", func := "loop.example/g00992/laws.FnExactWeigh", spec := "fnExactWeigh", apart := false }
def FnExactWeighSaid : Prop := fnExactWeighRow.holds Try.pinned (OpenSpec.ofChange fnExactWeighSpec)

/-- ITS FALSE NEIGHBOUR: 'it returns false'. Refute it at one input. -/
def fnExactWeighWrong : ChangeSpec := { name := "fnExactWeigh", fn := fun _ => fun
  | [d1, d2] => { results := [.lit (.bool false)], args := [d1, d2] }
  | _ => none }
def FnExactWeighWrongFalsely : Prop := fnExactWeighRow.holds Try.pinned (OpenSpec.ofChange fnExactWeighWrong)

/-- 'laws.FnExactCountLoad': WHATEVER THE INPUT: true; the input reads as it did. -/
def fnExactCountLoadSpec : ChangeSpec := { name := "fnExactCountLoad", fn := fun _ => fun
  | [d] => { results := [.lit (.bool true)], args := [d] }
  | _ => none }
def fnExactCountLoadRow : OpenClaim := { program := "ytacfblhmijabgaa", sum := "1bf4883c7d660819408b98491f3b0e23d5dedf244bceef0029b30310a3377eaa", func := "loop.example/g00992/laws.FnExactCountLoad", spec := "fnExactCountLoad", apart := false }
def FnExactCountLoadSaid : Prop := fnExactCountLoadRow.holds Try.pinned (OpenSpec.ofChange fnExactCountLoadSpec)

/-- ITS FALSE NEIGHBOUR: 'it returns false'. Refute it at one input. -/
def fnExactCountLoadWrong : ChangeSpec := { name := "fnExactCountLoad", fn := fun _ => fun
  | [d] => { results := [.lit (.bool false)], args := [d] }
  | _ => none }
def FnExactCountLoadWrongFalsely : Prop := fnExactCountLoadRow.holds Try.pinned (OpenSpec.ofChange fnExactCountLoadWrong)

/-- 'laws.FnExactIsFair': WHATEVER THE INPUT: true; the input reads as it did. -/
def fnExactIsFairSpec : ChangeSpec := { name := "fnExactIsFair", fn := fun _ => fun
  | [d1, d2] => { results := [.lit (.bool true)], args := [d1, d2] }
  | _ => none }
def fnExactIsFairRow : OpenClaim := { program := "ytacfblhmijabgaa", sum := "1bf4883c7d660819408b98491f3b0e23d5dedf244bceef0029b30310a3377eaa", func := "loop.example/g00992/laws.FnExactIsFair", spec := "fnExactIsFair", apart := false }
def FnExactIsFairSaid : Prop := fnExactIsFairRow.holds Try.pinned (OpenSpec.ofChange fnExactIsFairSpec)

/-- ITS FALSE NEIGHBOUR: 'it returns false'. Refute it at one input. -/
def fnExactIsFairWrong : ChangeSpec := { name := "fnExactIsFair", fn := fun _ => fun
  | [d1, d2] => { results := [.lit (.bool false)], args := [d1, d2] }
  | _ => none }
def FnExactIsFairWrongFalsely : Prop := fnExactIsFairRow.holds Try.pinned (OpenSpec.ofChange fnExactIsFairWrong)

/-- 'laws.FnExactTurnLoad': WHATEVER THE INPUT: true; the input reads as it did. -/
def fnExactTurnLoadSpec : ChangeSpec := { name := "fnExactTurnLoad", fn := fun _ => fun
  | [d] => { results := [.lit (.bool true)], args := [d] }
  | _ => none }
def fnExactTurnLoadRow : OpenClaim := { program := "ytacfblhmijabgaa", sum := "1bf4883c7d660819408b98491f3b0e23d5dedf244bceef0029b30310a3377eaa", func := "loop.example/g00992/laws.FnExactTurnLoad", spec := "fnExactTurnLoad", apart := false }
def FnExactTurnLoadSaid : Prop := fnExactTurnLoadRow.holds Try.pinned (OpenSpec.ofChange fnExactTurnLoadSpec)

/-- ITS FALSE NEIGHBOUR: 'it returns false'. Refute it at one input. -/
def fnExactTurnLoadWrong : ChangeSpec := { name := "fnExactTurnLoad", fn := fun _ => fun
  | [d] => { results := [.lit (.bool false)], args := [d] }
  | _ => none }
def FnExactTurnLoadWrongFalsely : Prop := fnExactTurnLoadRow.holds Try.pinned (OpenSpec.ofChange fnExactTurnLoadWrong)

/- THE SECOND FORM. 'bulk': how many values and letters a reading holds, each counted each time it is reached (what is shared counts as often as it is met; a slice's spare places count too). A statement '..UptoSaid' is the law's where the arguments, and the package variables that the reading takes, are together of bulk at most 1048576: NARROWER than '..Said'. Prove '..Said' where nothing that the law and all that it calls make is longer than what came in: it says more and counts as full. Else prove '..UptoSaid'. A law counts once. -/
mutual
def uptoBulk {H : Type} : DataW H → Nat
  | .lit (.string bytes) => bytes.length + 1
  | .lit _ => 1
  | .nil => 1
  | .ptr d => uptoBulk d + 1
  | .slice elems spare => uptoBulkAll elems + uptoBulkAll spare + 1
  | .agg parts => uptoBulkAll parts + 1
  | .iface _ d => uptoBulk d + 1
  | .map entries => uptoBulkEntries entries + 1
  | .held _ => 1
def uptoBulkAll {H : Type} : List (DataW H) → Nat
  | [] => 0
  | d :: r => uptoBulk d + uptoBulkAll r
def uptoBulkEntries {H : Type} : List (Lit × DataW H) → Nat
  | [] => 0
  | x :: r => uptoBulkEntry x + uptoBulkEntries r
def uptoBulkEntry {H : Type} : Lit × DataW H → Nat
  | (.string bytes, d) => bytes.length + uptoBulk d + 1
  | (_, d) => uptoBulk d + 1
 end
def uptoSmall : (H : Type) → List (DataW H) → Bool := fun _ ds => decide (uptoBulkAll ds ≤ 1048576)
def OpenSpec.upto (s : _root_.Go.ChangeSpec) : _root_.Go.OpenSpec := { _root_.Go.OpenSpec.ofChange s with cond := some uptoSmall }

/-- 'laws.FnWeighings', WHERE WHAT IT READS IS OF BULK AT MOST 1048576: true; the input reads as it did. -/
def fnWeighingsUptoRow : OpenClaim := { program := "ytacfblhmijabgaa", sum := "1bf4883c7d660819408b98491f3b0e23d5dedf244bceef0029b30310a3377eaa", func := "loop.example/g00992/laws.FnWeighings", spec := "fnWeighings", apart := false, narrowed := true }
def FnWeighingsUptoSaid : Prop := fnWeighingsUptoRow.holds Try.pinned (OpenSpec.upto fnWeighingsSpec)

/-- 'laws.FnExactCoinsOk', WHERE WHAT IT READS IS OF BULK AT MOST 1048576: true; the input reads as it did. -/
def fnExactCoinsOkUptoRow : OpenClaim := { program := "ytacfblhmijabgaa", sum := "1bf4883c7d660819408b98491f3b0e23d5dedf244bceef0029b30310a3377eaa", func := "loop.example/g00992/laws.FnExactCoinsOk", spec := "fnExactCoinsOk", apart := false, narrowed := true }
def FnExactCoinsOkUptoSaid : Prop := fnExactCoinsOkUptoRow.holds Try.pinned (OpenSpec.upto fnExactCoinsOkSpec)

/-- 'laws.FnExactLoadOk', WHERE WHAT IT READS IS OF BULK AT MOST 1048576: true; the input reads as it did. -/
def fnExactLoadOkUptoRow : OpenClaim := { program := "ytacfblhmijabgaa", sum := "1bf4883c7d660819408b98491f3b0e23d5dedf244bceef0029b30310a3377eaa", func := "loop.example/g00992/laws.FnExactLoadOk", spec := "fnExactLoadOk", apart := false, narrowed := true }
def FnExactLoadOkUptoSaid : Prop := fnExactLoadOkUptoRow.holds Try.pinned (OpenSpec.upto fnExactLoadOkSpec)

/-- 'laws.FnExactWeigh', WHERE WHAT IT READS IS OF BULK AT MOST 1048576: true; the input reads as it did. -/
def fnExactWeighUptoRow : OpenClaim := { program := "ytacfblhmijabgaa", sum := "1bf4883c7d660819408b98491f3b0e23d5dedf244bceef0029b30310a3377eaa", func := "loop.example/g00992/laws.FnExactWeigh", spec := "fnExactWeigh", apart := false, narrowed := true }
def FnExactWeighUptoSaid : Prop := fnExactWeighUptoRow.holds Try.pinned (OpenSpec.upto fnExactWeighSpec)

/-- 'laws.FnExactCountLoad', WHERE WHAT IT READS IS OF BULK AT MOST 1048576: true; the input reads as it did. -/
def fnExactCountLoadUptoRow : OpenClaim := { program := "ytacfblhmijabgaa", sum := "1bf4883c7d660819408b98491f3b0e23d5dedf244bceef0029b30310a3377eaa", func := "loop.example/g00992/laws.FnExactCountLoad", spec := "fnExactCountLoad", apart := false, narrowed := true }
def FnExactCountLoadUptoSaid : Prop := fnExactCountLoadUptoRow.holds Try.pinned (OpenSpec.upto fnExactCountLoadSpec)

/-- 'laws.FnExactIsFair', WHERE WHAT IT READS IS OF BULK AT MOST 1048576: true; the input reads as it did. -/
def fnExactIsFairUptoRow : OpenClaim := { program := "ytacfblhmijabgaa", sum := "1bf4883c7d660819408b98491f3b0e23d5dedf244bceef0029b30310a3377eaa", func := "loop.example/g00992/laws.FnExactIsFair", spec := "fnExactIsFair", apart := false, narrowed := true }
def FnExactIsFairUptoSaid : Prop := fnExactIsFairUptoRow.holds Try.pinned (OpenSpec.upto fnExactIsFairSpec)

/-- 'laws.FnExactTurnLoad', WHERE WHAT IT READS IS OF BULK AT MOST 1048576: true; the input reads as it did. -/
def fnExactTurnLoadUptoRow : OpenClaim := { program := "ytacfblhmijabgaa", sum := "1bf4883c7d660819408b98491f3b0e23d5dedf244bceef0029b30310a3377eaa", func := "loop.example/g00992/laws.FnExactTurnLoad", spec := "fnExactTurnLoad", apart := false, narrowed := true }
def FnExactTurnLoadUptoSaid : Prop := fnExactTurnLoadUptoRow.holds Try.pinned (OpenSpec.upto fnExactTurnLoadSpec)

end Rows
end Go.Proofs.Ytacfblhmijabgaa
