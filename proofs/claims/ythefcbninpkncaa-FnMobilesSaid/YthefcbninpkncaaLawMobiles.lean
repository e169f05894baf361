/-
  The law on mobiles: the least weights balance, have no common divisor, and a balanced mobile is a multiple.
-/
import Derived.Test.YthefcbninpkncaaLawMobilesW
import Derived.Test.YthefcbninpkncaaImplLeast
import Derived.Test.YthefcbninpkncaaImplVals
namespace Go.Proofs.Ythefcbninpkncaa
open Go.ChangeShapes Go.WideShapes Go.ChangeAt Go.RowKit Go.PlainAid

theorem mobiles_any (A : Option Addr) (len cap : Nat) (w : World) (hl : len ≤ 1048576) (hr : Bytes w w.heap.size A len) :
    Calls Try.prog 3 #[.slice A len cap] w fun e w' => e = .returned (.bool true) ∧ Below w.heap.size w w' :=
  mobiles_walk A len cap w hl hr
    (fun A n c L W hn a r h => implLeast_yes A n c L W hn a r h)
    (fun A n c L W hn r h => implCount A n c L W hn (by have := h.len; omega) r)
    (fun A n c L W hn r h => implBal A n c L W hn (by have := h.len; omega) r)
    (fun A n c L W hn r h => implFt A n c L W hn (by have := h.len; omega) r)
    (fun A n c L m W hn r h => implWof A n c L m W hn (by have := h.len; omega) r)
end Go.Proofs.Ythefcbninpkncaa
