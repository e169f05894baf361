/-
  LineOk answers as the model's does. No condition.
-/
import Derived.Test.YtploanbnbkhciaaBxLine
import Derived.Test.YtploanbnbkhciaaSameF
import Derived.Test.YtploanbnbkhciaaSpecLine
import Derived.Test.YtploanbnbkhciaaImplLine
import Derived.Test.YtploanbnbkhciaaToLine
import Derived.Deep.RegionLaw
import Derived.Deep.DeepCutAuto
import Derived.Deep.RegionHeld3
namespace Go.Proofs.Ytploanbnbkhciaa
open Go.ChangeShapes Go.WideShapes Go.ChangeAt Go.RowKit Go.PlainAid

theorem exactLok_any (a b c d : Int) (w : World) : Calls Try.prog 4 #[.agg #[.int .i64 a, .int .i64 b, .int .i64 c, .int .i64 d]] w fun e w' => e = .returned (.bool true) ∧ Below w.heap.size w w' := by
  have hT := fun W => toLine_below a b c d W
  have hS := fun W => specLok_any a b c d W
  have hI := fun W => implLok_any a b c d W
  generalize lnOk a b c d = z at hS hI
  obtain ⟨x, kb⟩ := bx_4 w a b c d 39
  obtain ⟨xc0, xc1, xc2, xc3⟩ := x.cells
  go_enter Try.func4, Try.ntmps4
  go_wp2_with fail
  refine (hT _).mono ?_
  rintro en w1 ⟨rfl, b⟩
  replace x := x.under b
  replace kb := below_more kb kb.size b
  clear b xc0 xc1 xc2 xc3
  obtain ⟨xc0, xc1, xc2, xc3⟩ := x.cells
  go_wp2_with fail
  refine (hS _).mono ?_
  rintro en w2 ⟨rfl, b⟩
  replace x := x.under b
  replace kb := below_more kb kb.size b
  clear b xc0 xc1 xc2 xc3 hS
  obtain ⟨xc0, xc1, xc2, xc3⟩ := x.cells
  go_wp2_with fail
  refine (hT _).mono ?_
  rintro en w3 ⟨rfl, b⟩
  replace x := x.under b
  replace kb := below_more kb kb.size b
  clear b xc0 xc1 xc2 xc3
  obtain ⟨xc0, xc1, xc2, xc3⟩ := x.cells
  go_wp2_with fail
  refine (hI _).mono ?_
  rintro en w4 ⟨rfl, b⟩
  replace x := x.under b
  replace kb := below_more kb kb.size b
  clear b xc0 xc1 xc2 xc3 hI
  obtain ⟨xc0, xc1, xc2, xc3⟩ := x.cells
  go_wp2_with fail
  go_ret
  exact ⟨rfl, kb⟩

end Go.Proofs.Ytploanbnbkhciaa
