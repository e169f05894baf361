/-
  The exact laws of chapter 11 over ints, put together: the model and the program answer the same.
-/
import Derived.Test.YtmoncfplcmdpcaaExactJugs
import Derived.Test.YtmoncfplcmdpcaaSpecFew
import Derived.Test.YtmoncfplcmdpcaaImplFew
import Derived.Test.YtmoncfplcmdpcaaJugLast
namespace Go.Proofs.Ytmoncfplcmdpcaa
open Go.ChangeShapes Go.WideShapes Go.ChangeAt Go.RowKit Go.PlainAid

theorem exactFew_any (m0 m1 m2 : Int) (w : World) : Calls Try.prog 7 #[.int .i64 m0, .int .i64 m1, .int .i64 m2] w fun e w' => e = .returned (.bool true) ∧ Below w.heap.size w w' := by
  obtain ⟨l, ok, h⟩ := ans_ex m0 m1 m2
  exact exactFew_walk m0 m1 m2 l ok w (by have := ans_len h; omega) (fun W => specFew_any m0 m1 m2 l ok W h) (fun W => implFew_any m0 m1 m2 l ok W h)
theorem exactCan_any (m0 m1 m2 : Int) (w : World) : Calls Try.prog 8 #[.int .i64 m0, .int .i64 m1, .int .i64 m2] w fun e w' => e = .returned (.bool true) ∧ Below w.heap.size w w' := by
  obtain ⟨l, ok, h⟩ := ans_ex m0 m1 m2
  exact exactCan_walk m0 m1 m2 ok w (fun W => specCan_any m0 m1 m2 l ok W h) (fun W => implCan_any m0 m1 m2 l ok W h)
end Go.Proofs.Ytmoncfplcmdpcaa
