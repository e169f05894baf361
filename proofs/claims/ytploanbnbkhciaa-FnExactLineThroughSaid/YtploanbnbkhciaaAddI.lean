/-
  The contract of the program's sum of fractions. Only new memory is written.
-/
import Derived.Test.YtploanbnbkhciaaBoxes
import Derived.Test.YtploanbnbkhciaaShortF
namespace Go.Proofs.Ytploanbnbkhciaa
open Go.ChangeShapes Go.WideShapes Go.ChangeAt Go.RowKit Go.PlainAid

theorem plus_walk (t1 b1 t2 b2 m1 m2 m3 T B : Int) (O : Bool) (w : World) (h1 : t1 * b2 = m1) (h2 : t2 * b1 = m2) (h3 : b1 * b2 = m3)
    (l1 : -1000000000000 ≤ m1) (l2 : m1 ≤ 1000000000000) (l3 : -1000000000000 ≤ m2) (l4 : m2 ≤ 1000000000000) (l5 : -1000000000000 ≤ m3) (l6 : m3 ≤ 1000000000000)
    (hS : ∀ W : World, Calls Try.prog 49 #[.int .i64 (m1 + m2), .int .i64 m3] W (SaysF T B O W)) :
    Calls Try.prog 34 #[.agg #[.int .i64 t1, .int .i64 b1], .agg #[.int .i64 t2, .int .i64 b2]] w (SaysF T B O w) := by
  obtain ⟨x0, y0, z0, k0⟩ := three_boxes w t1 b1 t2 b2 25 25
  go_enter Try.func34, Try.ntmps34
  go_wp2_with fail
  refine (hS _).mono ?_
  rintro e w1 ⟨rfl, k1⟩
  have z1 := z0.keep k1 z0.lt
  replace k1 := below_more k0 k0.size k1
  have c0 := z1.c0
  have c1 := z1.c1
  have f0 := z1.free0
  have f1 := z1.free1
  clear x0 y0 z0 k0 hS
  go_wp2_with fail
  (try simp only [Exit.inBlock, Exit.then])
  refine bodyPost_ret (v := .tuple #[.agg #[.int .i64 T, .int .i64 B], .bool O]) ?_ rfl ⟨rfl, ?_⟩
  · rw [results_cell_tmp rfl]
    go_simp
  · repeat' (first | exact k1 | refine Below.setCell ?_ (by simp <;> omega) _)

theorem implAdd_no1 (t1 b1 t2 b2 : Int) (w : World) (h1 : okF t1 b1 = false) :
    Calls Try.prog 13 #[.agg #[.int .i64 t1, .int .i64 b1], .agg #[.int .i64 t2, .int .i64 b2]] w (SaysF 0 0 false w) := by
  obtain ⟨x0, y0, z0, k0⟩ := three_boxes w t1 b1 t2 b2 25 25
  have hV := fun W => valid_any t1 b1 W
  rw [h1] at hV
  clear h1
  go_enter Try.func13, Try.ntmps13
  go_wp2_with fail
  refine (hV _).mono ?_
  rintro e w1 ⟨rfl, k1⟩
  have z1 := z0.keep k1 z0.lt
  replace k1 := below_more k0 k0.size k1
  have c0 := z1.c0
  have c1 := z1.c1
  have f0 := z1.free0
  have f1 := z1.free1
  clear x0 y0 z0 k0 hV
  go_wp2_with fail
  (try simp only [Exit.inBlock, Exit.then])
  refine bodyPost_ret (v := .tuple #[.agg #[.int .i64 0, .int .i64 0], .bool false]) ?_ rfl ⟨rfl, ?_⟩
  · rw [results_cell_tmp rfl]
    go_simp
  · repeat' (first | exact k1 | refine Below.setCell ?_ (by simp <;> omega) _)

theorem implAdd_no2 (t1 b1 t2 b2 : Int) (w : World) (h1 : okF t1 b1 = true) (h2 : okF t2 b2 = false) :
    Calls Try.prog 13 #[.agg #[.int .i64 t1, .int .i64 b1], .agg #[.int .i64 t2, .int .i64 b2]] w (SaysF 0 0 false w) := by
  obtain ⟨x0, y0, z0, k0⟩ := three_boxes w t1 b1 t2 b2 25 25
  have hV := fun W => valid_any t1 b1 W
  rw [h1] at hV
  have hV2 := fun W => valid_any t2 b2 W
  rw [h2] at hV2
  clear h1 h2
  go_enter Try.func13, Try.ntmps13
  go_wp2_with fail
  refine (hV _).mono ?_
  rintro e w1 ⟨rfl, k1⟩
  have z1 := z0.keep k1 z0.lt
  have y1 := y0.keep k1 y0.lt
  replace k1 := below_more k0 k0.size k1
  have d0 := y1.c0
  have d1 := y1.c1
  clear x0 y0 z0 k0 hV
  go_wp2_with fail
  refine (hV2 _).mono ?_
  rintro e w2 ⟨rfl, k2⟩
  have z2 := z1.keep k2 z1.lt
  replace k2 := below_more k1 k1.size k2
  have c0 := z2.c0
  have c1 := z2.c1
  have f0 := z2.free0
  have f1 := z2.free1
  clear y1 z1 k1 hV2 d0 d1
  go_wp2_with fail
  (try simp only [Exit.inBlock, Exit.then])
  refine bodyPost_ret (v := .tuple #[.agg #[.int .i64 0, .int .i64 0], .bool false]) ?_ rfl ⟨rfl, ?_⟩
  · rw [results_cell_tmp rfl]
    go_simp
  · repeat' (first | exact k2 | refine Below.setCell ?_ (by simp <;> omega) _)

theorem implAdd_yes (t1 b1 t2 b2 T B : Int) (O : Bool) (w : World) (h1 : okF t1 b1 = true) (h2 : okF t2 b2 = true)
    (hP : ∀ W : World, Calls Try.prog 34 #[.agg #[.int .i64 t1, .int .i64 b1], .agg #[.int .i64 t2, .int .i64 b2]] W (SaysF T B O W)) :
    Calls Try.prog 13 #[.agg #[.int .i64 t1, .int .i64 b1], .agg #[.int .i64 t2, .int .i64 b2]] w (SaysF T B O w) := by
  obtain ⟨x0, y0, z0, k0⟩ := three_boxes w t1 b1 t2 b2 25 25
  have hV := fun W => valid_any t1 b1 W
  rw [h1] at hV
  have hV2 := fun W => valid_any t2 b2 W
  rw [h2] at hV2
  clear h1 h2
  go_enter Try.func13, Try.ntmps13
  go_wp2_with fail
  refine (hV _).mono ?_
  rintro e w1 ⟨rfl, k1⟩
  have x1 := x0.keep k1 x0.lt
  have y1 := y0.keep k1 y0.lt
  have z1 := z0.keep k1 z0.lt
  replace k1 := below_more k0 k0.size k1
  have d0 := y1.c0
  have d1 := y1.c1
  clear x0 y0 z0 k0 hV
  go_wp2_with fail
  refine (hV2 _).mono ?_
  rintro e w2 ⟨rfl, k2⟩
  have x2 := x1.keep k2 x1.lt
  have y2 := y1.keep k2 y1.lt
  have z2 := z1.keep k2 z1.lt
  replace k2 := below_more k1 k1.size k2
  clear x1 y1 z1 k1 hV2 d0 d1
  have a0 := x2.c0
  have a1 := x2.c1
  have d0 := y2.c0
  have d1 := y2.c1
  go_wp2_with fail
  refine (hP _).mono ?_
  rintro e w3 ⟨rfl, k3⟩
  have z3 := z2.keep k3 z2.lt
  replace k3 := below_more k2 k2.size k3
  have c0 := z3.c0
  have c1 := z3.c1
  have f0 := z3.free0
  have f1 := z3.free1
  clear x2 y2 z2 k2 hP a0 a1 d0 d1
  go_wp2_with fail
  (try simp only [Exit.inBlock, Exit.then])
  refine bodyPost_ret (v := .tuple #[.agg #[.int .i64 T, .int .i64 B], .bool O]) ?_ rfl ⟨rfl, ?_⟩
  · rw [results_cell_tmp rfl]
    go_simp
  · repeat' (first | exact k3 | refine Below.setCell ?_ (by simp <;> omega) _)

/-- The sum of two valid fractions, as the program has it. -/
theorem implAdd_any (t1 b1 t2 b2 : Int) (w : World) (h1 : okF t1 b1 = true) (h2 : okF t2 b2 = true) :
    Calls Try.prog 13 #[.agg #[.int .i64 t1, .int .i64 b1], .agg #[.int .i64 t2, .int .i64 b2]] w (SaysF (shT (t1 * b2 + t2 * b1) (b1 * b2)) (shB (t1 * b2 + t2 * b1) (b1 * b2)) (shO (t1 * b2 + t2 * b1) (b1 * b2)) w) := by
  obtain ⟨x0, x1, x2, x3, -⟩ := (okF_iff t1 b1).1 h1
  obtain ⟨y0, y1, y2, y3, -⟩ := (okF_iff t2 b2).1 h2
  have m1 := mul_in t1 b2 (by omega) (by omega) (by omega) (by omega)
  have m2 := mul_in t2 b1 (by omega) (by omega) (by omega) (by omega)
  have m3 := mul_in b1 b2 (by omega) (by omega) (by omega) (by omega)
  have p3 : 0 < b1 * b2 := Int.mul_pos (by omega) (by omega)
  exact implAdd_yes t1 b1 t2 b2 _ _ _ w h1 h2 fun W => plus_walk t1 b1 t2 b2 _ _ _ _ _ _ W rfl rfl rfl m1.1 m1.2 m2.1 m2.2 m3.1 m3.2 fun W => short_any _ _ W (by omega) (by omega) (by omega) (by omega) (by omega)

end Go.Proofs.Ytploanbnbkhciaa
