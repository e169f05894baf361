/-
  The exact laws' own comparison says true of a fraction and itself. No condition.
-/
import Derived.Test.YtploanbnbkhciaaFracOk
namespace Go.Proofs.Ytploanbnbkhciaa
open Go.ChangeShapes Go.WideShapes Go.ChangeAt Go.RowKit Go.PlainAid

/-- The law's own comparison says true of a fraction and itself. -/
theorem same_any (t b : Int) (w : World) : Calls Try.prog 21 #[.agg #[.int .i64 t, .int .i64 b], .agg #[.int .i64 t, .int .i64 b]] w (SaysB true w) := by
  go_enter Try.func21, Try.ntmps21
  go_wp2_with fail
  go_ret
  refine ⟨rfl, ?_⟩
  repeat' (first | exact Below.refl _ _ | refine Below.setCell ?_ (by simp <;> omega) _ | refine Below.alloc ?_ (by simp <;> omega) _)

end Go.Proofs.Ytploanbnbkhciaa
