/-
  The law that the program makes a fraction out of two ints as the model does: for all ints. No condition.
-/
import Derived.Test.YtdjlohhpgdegfaaMake
namespace Go.Proofs.Ytdjlohhpgdegfaa
open Go.ChangeShapes Go.WideShapes Go.ChangeAt Go.RowKit Go.PlainAid

/-- The law's own comparison says true of a fraction and itself. -/
theorem same_any (t b : Int) (w : World) : Calls Try.prog 19 #[.agg #[.int .i64 t, .int .i64 b], .agg #[.int .i64 t, .int .i64 b]] w (SaysB true w) := by
  go_enter Try.func19, Try.ntmps19
  go_wp2_with fail
  go_ret
  refine ⟨rfl, ?_⟩
  repeat' (first | exact Below.refl _ _ | refine Below.setCell ?_ (by simp <;> omega) _ | refine Below.alloc ?_ (by simp <;> omega) _)

theorem exactMake_walk (t b T B : Int) (O : Bool) (w : World) (hS : ∀ W : World, Calls Try.prog 18 #[.int .i64 t, .int .i64 b] W (SaysF T B O W)) (hI : ∀ W : World, Calls Try.prog 13 #[.int .i64 t, .int .i64 b] W (SaysF T B O W)) :
    Calls Try.prog 5 #[.int .i64 t, .int .i64 b] w fun e w' => e = .returned (.bool true) ∧ Below w.heap.size w w' := by
  have hE := fun W => same_any T B W
  go_enter Try.func5, Try.ntmps5
  go_wp2_with fail
  refine (hS _).mono ?_
  rintro e w1 ⟨rfl, b1⟩
  have x1 := Box.new w1 T B 25
  have b2 : Below w.heap.size w (w1.alloc (.cells #[.int .i64 T, .int .i64 B] 25)) := b1.alloc b1.size _
  clear hS b1
  go_wp2_with fail
  refine (hI _).mono ?_
  rintro e w2 ⟨rfl, b3⟩
  have x2 := (x1.keep b3 x1.lt).alloc (.cells #[.int .i64 T, .int .i64 B] 25)
  have y2 := Box.new w2 T B 25
  have b4 := below_more b2 b2.size b3
  have b5 : Below w.heap.size w (w2.alloc (.cells #[.int .i64 T, .int .i64 B] 25)) := b4.alloc b4.size _
  have c0 := x2.c0
  have c1 := x2.c1
  clear hI b4 b3 b2 x1
  go_wp2_with fail
  refine (hE _).mono ?_
  rintro e w3 ⟨rfl, b6⟩
  replace b6 := below_more b5 b5.size b6
  clear hE b5 x2 y2 c0 c1
  go_wp2_with fail
  go_ret
  exact ⟨rfl, b6⟩

theorem exactMake_any (t b : Int) (w : World) : Calls Try.prog 5 #[.int .i64 t, .int .i64 b] w fun e w' => e = .returned (.bool true) ∧ Below w.heap.size w w' := by
  by_cases h : Given t b
  · exact exactMake_walk t b _ _ _ w (fun W => specMake_yes t b W h) (fun W => implMake_yes t b W h)
  · exact exactMake_walk t b _ _ _ w (fun W => specMake_no t b W h) (fun W => implMake_no t b W h)
end Go.Proofs.Ytdjlohhpgdegfaa
