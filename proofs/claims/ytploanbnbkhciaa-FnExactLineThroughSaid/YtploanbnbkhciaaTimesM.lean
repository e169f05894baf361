/-
  The contract of the program's product of two valid fractions. Only new memory is written.
-/
import Derived.Test.YtploanbnbkhciaaBoxes
import Derived.Test.YtploanbnbkhciaaShortF
namespace Go.Proofs.Ytploanbnbkhciaa
open Go.ChangeShapes Go.WideShapes Go.ChangeAt Go.RowKit Go.PlainAid

theorem times_walk (t1 b1 t2 b2 m1 m3 T B : Int) (O : Bool) (w : World) (h1 : t1 * t2 = m1) (h3 : b1 * b2 = m3)
    (l1 : -1000000000000 ≤ m1) (l2 : m1 ≤ 1000000000000) (l5 : -1000000000000 ≤ m3) (l6 : m3 ≤ 1000000000000)
    (hS : ∀ W : World, Calls Try.prog 49 #[.int .i64 m1, .int .i64 m3] W (SaysF T B O W)) :
    Calls Try.prog 37 #[.agg #[.int .i64 t1, .int .i64 b1], .agg #[.int .i64 t2, .int .i64 b2]] w (SaysF T B O w) := by
  obtain ⟨x0, y0, z0, k0⟩ := three_boxes w t1 b1 t2 b2 25 25
  go_enter Try.func37, Try.ntmps37
  go_wp2_with fail
  refine (hS _).mono ?_
  rintro e w1 ⟨rfl, k1⟩
  have z1 := z0.keep k1 z0.lt
  replace k1 := below_more k0 k0.size k1
  have c0 := z1.c0
  have c1 := z1.c1
  have f0 := z1.free0
  have f1 := z1.free1
  clear x0 y0 z0 k0 hS
  go_wp2_with fail
  (try simp only [Exit.inBlock, Exit.then])
  refine bodyPost_ret (v := .tuple #[.agg #[.int .i64 T, .int .i64 B], .bool O]) ?_ rfl ⟨rfl, ?_⟩
  · rw [results_cell_tmp rfl]
    go_simp
  · repeat' (first | exact k1 | refine Below.setCell ?_ (by simp <;> omega) _)

end Go.Proofs.Ytploanbnbkhciaa
