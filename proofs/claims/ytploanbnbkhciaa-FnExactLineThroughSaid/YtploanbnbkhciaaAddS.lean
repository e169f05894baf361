/-
  The contract of the model's sum of fractions. Only new memory is written.
-/
import Derived.Test.YtploanbnbkhciaaBoxes
import Derived.Test.YtploanbnbkhciaaMakeS
namespace Go.Proofs.Ytploanbnbkhciaa
open Go.ChangeShapes Go.WideShapes Go.ChangeAt Go.RowKit Go.PlainAid

theorem specAdd_no1 (t1 b1 t2 b2 : Int) (w : World) (h1 : okF t1 b1 = false) :
    Calls Try.prog 40 #[.agg #[.int .i64 t1, .int .i64 b1], .agg #[.int .i64 t2, .int .i64 b2]] w (SaysF 0 0 false w) := by
  obtain ⟨x0, y0, z0, k0⟩ := three_boxes w t1 b1 t2 b2 25 25
  have hV := fun W => specOk_any t1 b1 W
  rw [h1] at hV
  clear h1
  go_enter Try.func40, Try.ntmps40
  go_wp2_with fail
  refine (hV _).mono ?_
  rintro e w1 ⟨rfl, k1⟩
  have z1 := z0.keep k1 z0.lt
  replace k1 := below_more k0 k0.size k1
  have c0 := z1.c0
  have c1 := z1.c1
  have f0 := z1.free0
  have f1 := z1.free1
  clear x0 y0 z0 k0 hV
  go_wp2_with fail
  (try simp only [Exit.inBlock, Exit.then])
  refine bodyPost_ret (v := .tuple #[.agg #[.int .i64 0, .int .i64 0], .bool false]) ?_ rfl ⟨rfl, ?_⟩
  · rw [results_cell_tmp rfl]
    go_simp
  · repeat' (first | exact k1 | refine Below.setCell ?_ (by simp <;> omega) _)

theorem specAdd_no2 (t1 b1 t2 b2 : Int) (w : World) (h1 : okF t1 b1 = true) (h2 : okF t2 b2 = false) :
    Calls Try.prog 40 #[.agg #[.int .i64 t1, .int .i64 b1], .agg #[.int .i64 t2, .int .i64 b2]] w (SaysF 0 0 false w) := by
  obtain ⟨x0, y0, z0, k0⟩ := three_boxes w t1 b1 t2 b2 25 25
  have hV := fun W => specOk_any t1 b1 W
  rw [h1] at hV
  have hV2 := fun W => specOk_any t2 b2 W
  rw [h2] at hV2
  clear h1 h2
  go_enter Try.func40, Try.ntmps40
  go_wp2_with fail
  refine (hV _).mono ?_
  rintro e w1 ⟨rfl, k1⟩
  have z1 := z0.keep k1 z0.lt
  have y1 := y0.keep k1 y0.lt
  replace k1 := below_more k0 k0.size k1
  have d0 := y1.c0
  have d1 := y1.c1
  clear x0 y0 z0 k0 hV
  go_wp2_with fail
  refine (hV2 _).mono ?_
  rintro e w2 ⟨rfl, k2⟩
  have z2 := z1.keep k2 z1.lt
  replace k2 := below_more k1 k1.size k2
  have c0 := z2.c0
  have c1 := z2.c1
  have f0 := z2.free0
  have f1 := z2.free1
  clear y1 z1 k1 hV2 d0 d1
  go_wp2_with fail
  (try simp only [Exit.inBlock, Exit.then])
  refine bodyPost_ret (v := .tuple #[.agg #[.int .i64 0, .int .i64 0], .bool false]) ?_ rfl ⟨rfl, ?_⟩
  · rw [results_cell_tmp rfl]
    go_simp
  · repeat' (first | exact k2 | refine Below.setCell ?_ (by simp <;> omega) _)

theorem specAdd_yes (t1 b1 t2 b2 g u1 u2 m1 m2 m3 h q r : Int) (O : Bool) (w : World) (h1 : okF t1 b1 = true) (h2 : okF t2 b2 = true)
    (hG : ∀ W : World, Calls Try.prog 52 #[.int .i64 b1, .int .i64 b2] W fun e w' => e = .returned (.int .i64 g) ∧ Below W.heap.size W w')
    (g0 : g ≠ 0) (e1 : b1.tdiv g = u1) (e2 : b2.tdiv g = u2) (e3 : t1 * u2 = m1) (e4 : t2 * u1 = m2) (e5 : u1 * b2 = m3)
    (l1 : -1000000000000 ≤ m1) (l2 : m1 ≤ 1000000000000) (l3 : -1000000000000 ≤ m2) (l4 : m2 ≤ 1000000000000) (l5 : -1000000000000 ≤ m3) (l6 : m3 ≤ 1000000000000)
    (l7 : -1000000 ≤ u1) (l8 : u1 ≤ 1000000) (l9 : -1000000 ≤ u2) (l10 : u2 ≤ 1000000)
    (hH : ∀ W : World, Calls Try.prog 52 #[.int .i64 (m1 + m2), .int .i64 m3] W fun e w' => e = .returned (.int .i64 h) ∧ Below W.heap.size W w')
    (h0 : h ≠ 0) (e6 : (m1 + m2).tdiv h = q) (e7 : m3.tdiv h = r) (q0 : -4611686018427387904 ≤ q) (q1 : q ≤ 4611686018427387904) (r0 : -4611686018427387904 ≤ r) (r1 : r ≤ 4611686018427387904)
    (hP : ∀ W : World, Calls Try.prog 38 #[.agg #[.int .i64 q, .int .i64 r]] W (SaysB O W)) :
    Calls Try.prog 40 #[.agg #[.int .i64 t1, .int .i64 b1], .agg #[.int .i64 t2, .int .i64 b2]] w (SaysS q r O w) := by
  obtain ⟨x0, y0, z0, k0⟩ := three_boxes w t1 b1 t2 b2 25 25
  have hV := fun W => specOk_any t1 b1 W
  rw [h1] at hV
  have hV2 := fun W => specOk_any t2 b2 W
  rw [h2] at hV2
  clear h1 h2
  go_enter Try.func40, Try.ntmps40
  go_wp2_with fail
  refine (hV _).mono ?_
  rintro e w1 ⟨rfl, k1⟩
  have x1 := x0.keep k1 x0.lt
  have y1 := y0.keep k1 y0.lt
  have z1 := z0.keep k1 z0.lt
  replace k1 := below_more k0 k0.size k1
  have d0 := y1.c0
  have d1 := y1.c1
  clear x0 y0 z0 k0 hV
  go_wp2_with fail
  refine (hV2 _).mono ?_
  rintro e w2 ⟨rfl, k2⟩
  have x2 := x1.keep k2 x1.lt
  have y2 := y1.keep k2 y1.lt
  have z2 := z1.keep k2 z1.lt
  replace k2 := below_more k1 k1.size k2
  clear x1 y1 z1 k1 hV2 d0 d1
  have a0 := x2.c0
  have a1 := x2.c1
  have d0 := y2.c0
  have d1 := y2.c1
  go_wp2_with fail
  refine (hG _).mono ?_
  rintro e w3 ⟨rfl, k3⟩
  have x3 := x2.keep k3 x2.lt
  have y3 := y2.keep k3 y2.lt
  have z3 := z2.keep k3 z2.lt
  replace k3 := below_more k2 k2.size k3
  clear x2 y2 z2 k2 hG a0 a1 d0 d1
  have a0 := x3.c0
  have a1 := x3.c1
  have d0 := y3.c0
  have d1 := y3.c1
  go_wp2_with fail
  go_quiet (fail)
  go_wp2_with fail
  go_quiet (fail)
  clear a0 a1 d0 d1 x3 y3
  go_wp2_with fail
  refine (hH _).mono ?_
  rintro e w4 ⟨rfl, k4⟩
  have z4 := (z3.drewN _).keep k4 z3.lt
  replace k4 := below_more (below_drewN k3 _) k3.size k4
  clear z3 k3 hH
  go_wp2_with fail
  go_region
  have z5 : Box (w4.alloc (.cells #[.int .i64 q, .int .i64 r] 25)).drew (w.heap.size + 1 + 1) 0 0 25 := z4.alloc _
  have y5 : Box (w4.alloc (.cells #[.int .i64 q, .int .i64 r] 25)).drew w4.heap.size q r 25 := Box.new w4 q r _
  have k5 : Below w.heap.size w (w4.alloc (.cells #[.int .i64 q, .int .i64 r] 25)).drew := (k4.alloc k4.size _).drew
  clear k4 z4
  go_wp2_with fail
  refine (hP _).mono ?_
  rintro e w6 ⟨rfl, k6⟩
  have z6 := z5.keep k6 z5.lt
  have y6 := y5.keep k6 y5.lt
  replace k6 := below_more k5 k5.size k6
  have c0 := z6.c0
  have c1 := z6.c1
  have f0 := z6.free0
  have f1 := z6.free1
  have d0 := y6.c0
  have d1 := y6.c1
  clear z5 y5 k5 hP
  cases O
  · go_wp2_with fail
    (try simp only [Exit.inBlock, Exit.then])
    refine bodyPost_ret (v := .tuple #[.agg #[.int .i64 0, .int .i64 0], .bool false]) ?_ rfl ⟨rfl, ?_⟩
    · rw [results_cell_tmp rfl]
      go_simp
    · repeat' (first | exact k6 | refine Below.setCell ?_ (by simp <;> omega) _)
  · go_wp2_with fail
    (try simp only [Exit.inBlock, Exit.then])
    refine bodyPost_ret (v := .tuple #[.agg #[.int .i64 q, .int .i64 r], .bool true]) ?_ rfl ⟨rfl, ?_⟩
    · rw [results_cell_tmp rfl]
      go_simp
    · repeat' (first | exact k6 | refine Below.setCell ?_ (by simp <;> omega) _)

theorem specAdd_any (t1 b1 t2 b2 : Int) (w : World) (h1 : okF t1 b1 = true) (h2 : okF t2 b2 = true) :
    Calls Try.prog 40 #[.agg #[.int .i64 t1, .int .i64 b1], .agg #[.int .i64 t2, .int .i64 b2]] w (SaysF (shT (t1 * b2 + t2 * b1) (b1 * b2)) (shB (t1 * b2 + t2 * b1) (b1 * b2)) (shO (t1 * b2 + t2 * b1) (b1 * b2)) w) := by
  obtain ⟨x0, x1, x2, x3, -⟩ := (okF_iff t1 b1).1 h1
  obtain ⟨y0, y1, y2, y3, -⟩ := (okF_iff t2 b2).1 h2
  have hl := red_add_lcm (x1 := t1) (y1 := b1) (x2 := t2) (y2 := b2) (by omega) (by omega)
  unfold shT shB shO
  rw [← hl.1, ← hl.2]
  clear hl
  have g := gcd_pos b1 b2 (by omega)
  have u1 := tdiv_in b1 (Int.gcd b1 b2) (by omega) (by omega)
  have u2 := tdiv_in b2 (Int.gcd b1 b2) (by omega) (by omega)
  have pu : 0 < b1.tdiv (Int.gcd b1 b2) := by
    have e1 := Int.tdiv_mul_cancel (Int.gcd_dvd_left b1 b2)
    rcases Int.lt_or_le 0 (b1.tdiv (Int.gcd b1 b2)) with h3 | h3
    · exact h3
    · have := Int.mul_nonpos_of_nonpos_of_nonneg h3 (Int.le_of_lt g)
      omega
  have hG := fun W => specGcd_any b1 b2 W (by omega) (by omega) (by omega) (by omega)
  generalize (Int.gcd b1 b2 : Int) = k at *
  have m1 := mul_in t1 (b2.tdiv k) (by omega) (by omega) (by omega) (by omega)
  have m2 := mul_in t2 (b1.tdiv k) (by omega) (by omega) (by omega) (by omega)
  have m3 := mul_in (b1.tdiv k) b2 (by omega) (by omega) (by omega) (by omega)
  have p3 : 0 < b1.tdiv k * b2 := Int.mul_pos pu (by omega)
  unfold redT redB
  rw [dvs_pos p3]
  have g3 := gcd_pos (t1 * b2.tdiv k + t2 * b1.tdiv k) (b1.tdiv k * b2) (by omega)
  have hH := fun W => specGcd_any (t1 * b2.tdiv k + t2 * b1.tdiv k) (b1.tdiv k * b2) W (by omega) (by omega) (by omega) (by omega)
  have hq := tdiv_le (t1 * b2.tdiv k + t2 * b1.tdiv k) (Int.gcd (t1 * b2.tdiv k + t2 * b1.tdiv k) (b1.tdiv k * b2)) (by omega) (by omega)
  have hr := tdiv_le (b1.tdiv k * b2) (Int.gcd (t1 * b2.tdiv k + t2 * b1.tdiv k) (b1.tdiv k * b2)) (by omega) (by omega)
  exact specAdd_yes t1 b1 t2 b2 k _ _ _ _ _ _ _ _ _ w h1 h2 hG (by omega) rfl rfl rfl rfl rfl m1.1 m1.2 m2.1 m2.2 m3.1 m3.2 u1.1 u1.2 u2.1 u2.2 hH (by omega) rfl rfl hq.1 hq.2 hr.1 hr.2 fun W => specOk_any _ _ W

end Go.Proofs.Ytploanbnbkhciaa
