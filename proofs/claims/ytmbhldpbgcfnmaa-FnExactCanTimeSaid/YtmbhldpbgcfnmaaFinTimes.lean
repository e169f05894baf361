/-
  The exact laws of chapter 12 over ints: the model and the program answer the same.
-/
import Derived.Test.YtmbhldpbgcfnmaaExactTimes
import Derived.Test.YtmbhldpbgcfnmaaTimesAny
namespace Go.Proofs.Ytmbhldpbgcfnmaa
open Go.ChangeShapes Go.WideShapes Go.ChangeAt Go.RowKit Go.PlainAid

theorem exactTimes_any (m0 m1 m2 : Int) (w : World) :
    Calls Try.prog 7 #[.int .i64 m0, .int .i64 m1, .int .i64 m2] w fun e w' => e = .returned (.bool true) ∧ Below w.heap.size w w' :=
  exactTimes_walk m0 m1 m2 (timA m0 m1 m2) w (by have := timA_len m0 m1 m2; omega) (fun W => specTimes_any m0 m1 m2 W) (fun W => implTimes_any m0 m1 m2 W)

theorem exactCan_any (m0 m1 m2 : Int) (w : World) :
    Calls Try.prog 8 #[.int .i64 m0, .int .i64 m1, .int .i64 m2] w fun e w' => e = .returned (.bool true) ∧ Below w.heap.size w w' :=
  exactCan_walk m0 m1 m2 (canA m0 m1 m2) w (fun W => specCan_any m0 m1 m2 W) (fun W => implCan_any m0 m1 m2 W)
end Go.Proofs.Ytmbhldpbgcfnmaa
