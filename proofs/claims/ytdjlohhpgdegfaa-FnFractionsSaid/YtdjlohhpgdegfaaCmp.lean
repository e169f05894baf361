/-
  The contracts of the program's and the model's comparison of fractions. Only new memory is written.
-/
import Derived.Test.YtdjlohhpgdegfaaSumC
namespace Go.Proofs.Ytdjlohhpgdegfaa
open Go.ChangeShapes Go.WideShapes Go.ChangeAt Go.RowKit Go.PlainAid

/-- An int is answered, only new memory is written. -/
def SaysI (R : Int) (w : World) (e : Ending) (w' : World) : Prop := e = .returned (.int .i64 R) ∧ Below w.heap.size w w'
def cmpV (x y : Int) : Int := if x < y then -1 else if y < x then 1 else 0

theorem cmp_any (x y : Int) (w : World) : Calls Try.prog 35 #[.int .i64 x, .int .i64 y] w fun e w' => e = .returned (.int .i64 (cmpV x y)) ∧ w = w' := by
  by_cases h1 : x < y
  · have e : cmpV x y = -1 := by unfold cmpV; rw [if_pos h1]
    rw [e]
    clear e
    go_enter Try.func35, Try.ntmps35
    go_wp2_with (go_at_call 37; go_in)
    go_ret
    exact ⟨rfl, rfl⟩
  · by_cases h2 : y < x
    · have e : cmpV x y = 1 := by unfold cmpV; rw [if_neg h1, if_pos h2]
      rw [e]
      clear e
      go_enter Try.func35, Try.ntmps35
      go_wp2_with (go_at_call 37; go_in)
      go_ret
      exact ⟨rfl, rfl⟩
    · have e : cmpV x y = 0 := by unfold cmpV; rw [if_neg h1, if_neg h2]
      rw [e]
      clear e
      go_enter Try.func35, Try.ntmps35
      go_wp2_with (go_at_call 37; go_in)
      go_ret
      exact ⟨rfl, rfl⟩

theorem compare_walk (t1 b1 t2 b2 m1 m2 R : Int) (w : World) (h1 : t1 * b2 = m1) (h2 : t2 * b1 = m2)
    (l1 : -1000000000000 ≤ m1) (l2 : m1 ≤ 1000000000000) (l3 : -1000000000000 ≤ m2) (l4 : m2 ≤ 1000000000000)
    (hS : ∀ W : World, Calls Try.prog 35 #[.int .i64 m1, .int .i64 m2] W fun e w' => e = .returned (.int .i64 R) ∧ W = w') :
    Calls Try.prog 30 #[.agg #[.int .i64 t1, .int .i64 b1], .agg #[.int .i64 t2, .int .i64 b2]] w (SaysI R w) := by
  obtain ⟨x0, y0, k0⟩ := two_boxes w t1 b1 t2 b2 25
  go_enter Try.func30, Try.ntmps30
  go_wp2_with fail
  refine (hS _).mono ?_
  rintro e w1 ⟨rfl, rfl⟩
  go_wp2_with fail
  go_ret
  exact ⟨rfl, k0⟩

theorem implCompare_no1 (t1 b1 t2 b2 : Int) (w : World) (h1 : okF t1 b1 = false) :
    Calls Try.prog 14 #[.agg #[.int .i64 t1, .int .i64 b1], .agg #[.int .i64 t2, .int .i64 b2]] w (SaysI (-2) w) := by
  obtain ⟨x0, y0, k0⟩ := two_boxes w t1 b1 t2 b2 25
  have hV := fun W => valid_any t1 b1 W
  rw [h1] at hV
  clear h1
  go_enter Try.func14, Try.ntmps14
  go_wp2_with fail
  refine (hV _).mono ?_
  rintro e w1 ⟨rfl, k1⟩
  replace k1 := below_more k0 k0.size k1
  clear x0 y0 k0 hV
  go_wp2_with fail
  go_ret
  exact ⟨rfl, k1⟩

theorem implCompare_no2 (t1 b1 t2 b2 : Int) (w : World) (h1 : okF t1 b1 = true) (h2 : okF t2 b2 = false) :
    Calls Try.prog 14 #[.agg #[.int .i64 t1, .int .i64 b1], .agg #[.int .i64 t2, .int .i64 b2]] w (SaysI (-2) w) := by
  obtain ⟨x0, y0, k0⟩ := two_boxes w t1 b1 t2 b2 25
  have hV := fun W => valid_any t1 b1 W
  rw [h1] at hV
  have hV2 := fun W => valid_any t2 b2 W
  rw [h2] at hV2
  clear h1 h2
  go_enter Try.func14, Try.ntmps14
  go_wp2_with fail
  refine (hV _).mono ?_
  rintro e w1 ⟨rfl, k1⟩
  have y1 := y0.keep k1 y0.lt
  replace k1 := below_more k0 k0.size k1
  have d0 := y1.c0
  have d1 := y1.c1
  clear x0 y0 k0 hV
  go_wp2_with fail
  refine (hV2 _).mono ?_
  rintro e w2 ⟨rfl, k2⟩
  replace k2 := below_more k1 k1.size k2
  clear y1 k1 hV2 d0 d1
  go_wp2_with fail
  go_ret
  exact ⟨rfl, k2⟩

theorem implCompare_yes (t1 b1 t2 b2 R : Int) (w : World) (h1 : okF t1 b1 = true) (h2 : okF t2 b2 = true)
    (hP : ∀ W : World, Calls Try.prog 30 #[.agg #[.int .i64 t1, .int .i64 b1], .agg #[.int .i64 t2, .int .i64 b2]] W (SaysI R W)) :
    Calls Try.prog 14 #[.agg #[.int .i64 t1, .int .i64 b1], .agg #[.int .i64 t2, .int .i64 b2]] w (SaysI R w) := by
  obtain ⟨x0, y0, k0⟩ := two_boxes w t1 b1 t2 b2 25
  have hV := fun W => valid_any t1 b1 W
  rw [h1] at hV
  have hV2 := fun W => valid_any t2 b2 W
  rw [h2] at hV2
  clear h1 h2
  go_enter Try.func14, Try.ntmps14
  go_wp2_with fail
  refine (hV _).mono ?_
  rintro e w1 ⟨rfl, k1⟩
  have x1 := x0.keep k1 x0.lt
  have y1 := y0.keep k1 y0.lt
  replace k1 := below_more k0 k0.size k1
  have d0 := y1.c0
  have d1 := y1.c1
  clear x0 y0 k0 hV
  go_wp2_with fail
  refine (hV2 _).mono ?_
  rintro e w2 ⟨rfl, k2⟩
  have x2 := x1.keep k2 x1.lt
  have y2 := y1.keep k2 y1.lt
  replace k2 := below_more k1 k1.size k2
  clear x1 y1 k1 hV2 d0 d1
  have a0 := x2.c0
  have a1 := x2.c1
  have d0 := y2.c0
  have d1 := y2.c1
  go_wp2_with fail
  refine (hP _).mono ?_
  rintro e w3 ⟨rfl, k3⟩
  replace k3 := below_more k2 k2.size k3
  clear x2 y2 k2 hP a0 a1 d0 d1
  go_wp2_with fail
  go_ret
  exact ⟨rfl, k3⟩
theorem specCompare_no1 (t1 b1 t2 b2 : Int) (w : World) (h1 : okF t1 b1 = false) :
    Calls Try.prog 22 #[.agg #[.int .i64 t1, .int .i64 b1], .agg #[.int .i64 t2, .int .i64 b2]] w (SaysI (-2) w) := by
  obtain ⟨x0, y0, k0⟩ := two_boxes w t1 b1 t2 b2 25
  have hV := fun W => specOk_any t1 b1 W
  rw [h1] at hV
  clear h1
  go_enter Try.func22, Try.ntmps22
  go_wp2_with fail
  refine (hV _).mono ?_
  rintro e w1 ⟨rfl, k1⟩
  replace k1 := below_more k0 k0.size k1
  clear x0 y0 k0 hV
  go_wp2_with fail
  go_ret
  exact ⟨rfl, k1⟩

theorem specCompare_no2 (t1 b1 t2 b2 : Int) (w : World) (h1 : okF t1 b1 = true) (h2 : okF t2 b2 = false) :
    Calls Try.prog 22 #[.agg #[.int .i64 t1, .int .i64 b1], .agg #[.int .i64 t2, .int .i64 b2]] w (SaysI (-2) w) := by
  obtain ⟨x0, y0, k0⟩ := two_boxes w t1 b1 t2 b2 25
  have hV := fun W => specOk_any t1 b1 W
  rw [h1] at hV
  have hV2 := fun W => specOk_any t2 b2 W
  rw [h2] at hV2
  clear h1 h2
  go_enter Try.func22, Try.ntmps22
  go_wp2_with fail
  refine (hV _).mono ?_
  rintro e w1 ⟨rfl, k1⟩
  have y1 := y0.keep k1 y0.lt
  replace k1 := below_more k0 k0.size k1
  have d0 := y1.c0
  have d1 := y1.c1
  clear x0 y0 k0 hV
  go_wp2_with fail
  refine (hV2 _).mono ?_
  rintro e w2 ⟨rfl, k2⟩
  replace k2 := below_more k1 k1.size k2
  clear y1 k1 hV2 d0 d1
  go_wp2_with fail
  go_ret
  exact ⟨rfl, k2⟩


theorem specCompare_yes (t1 b1 t2 b2 m1 m2 : Int) (w : World) (h1 : okF t1 b1 = true) (h2 : okF t2 b2 = true) (e1 : t1 * b2 = m1) (e2 : t2 * b1 = m2)
    (l1 : -1000000000000 ≤ m1) (l2 : m1 ≤ 1000000000000) (l3 : -1000000000000 ≤ m2) (l4 : m2 ≤ 1000000000000) :
    Calls Try.prog 22 #[.agg #[.int .i64 t1, .int .i64 b1], .agg #[.int .i64 t2, .int .i64 b2]] w (SaysI (cmpV m1 m2) w) := by
  obtain ⟨x0, y0, k0⟩ := two_boxes w t1 b1 t2 b2 25
  have hV := fun W => specOk_any t1 b1 W
  rw [h1] at hV
  have hV2 := fun W => specOk_any t2 b2 W
  rw [h2] at hV2
  clear h1 h2
  have e : (m1 < m2 ∧ cmpV m1 m2 = -1) ∨ (¬ m1 < m2 ∧ m2 < m1 ∧ cmpV m1 m2 = 1) ∨ (¬ m1 < m2 ∧ ¬ m2 < m1 ∧ cmpV m1 m2 = 0) := by
    unfold cmpV
    by_cases g1 : m1 < m2
    · exact .inl ⟨g1, by rw [if_pos g1]⟩
    · by_cases g2 : m2 < m1
      · exact .inr (.inl ⟨g1, g2, by rw [if_neg g1, if_pos g2]⟩)
      · exact .inr (.inr ⟨g1, g2, by rw [if_neg g1, if_neg g2]⟩)
  generalize cmpV m1 m2 = R at e
  go_enter Try.func22, Try.ntmps22
  go_wp2_with fail
  refine (hV _).mono ?_
  rintro e w1 ⟨rfl, k1⟩
  have x1 := x0.keep k1 x0.lt
  have y1 := y0.keep k1 y0.lt
  replace k1 := below_more k0 k0.size k1
  have d0 := y1.c0
  have d1 := y1.c1
  clear x0 y0 k0 hV
  go_wp2_with fail
  refine (hV2 _).mono ?_
  rintro e w2 ⟨rfl, k2⟩
  have x2 := x1.keep k2 x1.lt
  have y2 := y1.keep k2 y1.lt
  replace k2 := below_more k1 k1.size k2
  clear x1 y1 k1 hV2 d0 d1
  have a0 := x2.c0
  have a1 := x2.c1
  have d0 := y2.c0
  have d1 := y2.c1
  rcases e with ⟨g1, rfl⟩ | ⟨g1, g2, rfl⟩ | ⟨g1, g2, rfl⟩
  all_goals
    go_wp2_with fail
    go_ret
    exact ⟨rfl, k2⟩

theorem implCompare_any (t1 b1 t2 b2 : Int) (w : World) (h1 : okF t1 b1 = true) (h2 : okF t2 b2 = true) :
    Calls Try.prog 14 #[.agg #[.int .i64 t1, .int .i64 b1], .agg #[.int .i64 t2, .int .i64 b2]] w (SaysI (cmpV (t1 * b2) (t2 * b1)) w) := by
  obtain ⟨x0, x1, x2, x3, -⟩ := (okF_iff t1 b1).1 h1
  obtain ⟨y0, y1, y2, y3, -⟩ := (okF_iff t2 b2).1 h2
  have m1 := mul_in t1 b2 (by omega) (by omega) (by omega) (by omega)
  have m2 := mul_in t2 b1 (by omega) (by omega) (by omega) (by omega)
  exact implCompare_yes t1 b1 t2 b2 _ w h1 h2 fun W => compare_walk t1 b1 t2 b2 _ _ _ W rfl rfl m1.1 m1.2 m2.1 m2.2 fun W => cmp_any _ _ W

theorem specCompare_any (t1 b1 t2 b2 : Int) (w : World) (h1 : okF t1 b1 = true) (h2 : okF t2 b2 = true) :
    Calls Try.prog 22 #[.agg #[.int .i64 t1, .int .i64 b1], .agg #[.int .i64 t2, .int .i64 b2]] w (SaysI (cmpV (t1 * b2) (t2 * b1)) w) := by
  obtain ⟨x0, x1, x2, x3, -⟩ := (okF_iff t1 b1).1 h1
  obtain ⟨y0, y1, y2, y3, -⟩ := (okF_iff t2 b2).1 h2
  have m1 := mul_in t1 b2 (by omega) (by omega) (by omega) (by omega)
  have m2 := mul_in t2 b1 (by omega) (by omega) (by omega) (by omega)
  exact specCompare_yes t1 b1 t2 b2 _ _ w h1 h2 rfl rfl m1.1 m1.2 m2.1 m2.2

theorem compare_both (t1 b1 t2 b2 : Int) : ∃ R : Int,
    (∀ W : World, Calls Try.prog 22 #[.agg #[.int .i64 t1, .int .i64 b1], .agg #[.int .i64 t2, .int .i64 b2]] W (SaysI R W)) ∧
    ∀ W : World, Calls Try.prog 14 #[.agg #[.int .i64 t1, .int .i64 b1], .agg #[.int .i64 t2, .int .i64 b2]] W (SaysI R W) := by
  cases h1 : okF t1 b1
  · exact ⟨_, fun W => specCompare_no1 _ _ _ _ W h1, fun W => implCompare_no1 _ _ _ _ W h1⟩
  · cases h2 : okF t2 b2
    · exact ⟨_, fun W => specCompare_no2 _ _ _ _ W h1 h2, fun W => implCompare_no2 _ _ _ _ W h1 h2⟩
    · exact ⟨_, fun W => specCompare_any _ _ _ _ W h1 h2, fun W => implCompare_any _ _ _ _ W h1 h2⟩
end Go.Proofs.Ytdjlohhpgdegfaa
