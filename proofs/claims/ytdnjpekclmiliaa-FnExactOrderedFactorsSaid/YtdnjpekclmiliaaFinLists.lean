/-
  The laws of chapter 6 on lists of lists, put together, where the program's functions answer as the model's do.
-/
import Derived.Test.YtdnjpekclmiliaaExactLists
import Derived.Test.YtdnjpekclmiliaaSpecPerf
import Derived.Test.YtdnjpekclmiliaaImpl6
namespace Go.Proofs.Ytdnjpekclmiliaa
open Go.ChangeShapes Go.WideShapes Go.ChangeAt Go.RowKit Go.PlainAid

theorem exactLists_any (H : Impl6) (m : Int) (w : World) :
    Calls Try.prog 7 #[.int .i64 m] w fun e w' => e = .returned (.bool true) ∧ Below w.heap.size w w' := by
  have h := sizeP m
  exact exactLists_walk m (listsP m) w (by omega) (fun L hL => by have := h.2.1 L hL; omega) (by omega) (fun W => specPL_any m W) (fun W => H.hL m W)

theorem exactFactors_any (H : Impl6) (m : Int) (w : World) :
    Calls Try.prog 8 #[.int .i64 m] w fun e w' => e = .returned (.bool true) ∧ Below w.heap.size w w' := by
  have h := sizeF m
  exact exactFactors_walk m (listsF m) w (by omega) (fun L hL => by have := h.2.1 L hL; omega) (by omega) (fun W => specOF_any m W) (fun W => H.hF m W)
end Go.Proofs.Ytdnjpekclmiliaa
