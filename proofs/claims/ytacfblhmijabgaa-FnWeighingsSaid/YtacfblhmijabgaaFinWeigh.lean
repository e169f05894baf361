/-
  The law on weighings, put together.
-/
import Derived.Test.YtacfblhmijabgaaFactsWeigh
import Derived.Test.YtacfblhmijabgaaFinThree
namespace Go.Proofs.Ytacfblhmijabgaa
open Go.ChangeShapes Go.WideShapes Go.ChangeAt Go.RowKit Go.PlainAid

theorem impl3 : Impl3 where
  hW W L A A' c c' v h1 h2 r r' := implWeigh_any A A' c c' _ _ W L v rfl rfl (by omega) (by omega) r r'
  hC L A c v h r := (implCount_any A c _ L v rfl (by omega) r).mono fun _ _ h => says_of_tellsII h
  hF m L A c v h r := implFair_any m A c _ L v rfl (by omega) r
  hT L A c v h r := implTurn_any A c _ L v rfl h r

theorem weighings_law (a : Option Addr) (len cap : Nat) (w : World) (hl : len ≤ 1048576) (hr : Bytes w w.heap.size a len) :
    Calls Try.prog 3 #[.slice a len cap] w fun e w' => e = .returned (.bool true) ∧ Below w.heap.size w w' := weighings_any impl3 a len cap w hl hr
end Go.Proofs.Ytacfblhmijabgaa
