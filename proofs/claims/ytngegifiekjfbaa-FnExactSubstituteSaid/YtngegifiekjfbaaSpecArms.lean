/-
  The contracts of the model's functions on unequal arms. Only new memory is written.
-/
import Derived.Test.YtngegifiekjfbaaArms
import Derived.Test.YtngegifiekjfbaaToThree
import Derived.Test.YtngegifiekjfbaaMake
import Derived.Test.YtngegifiekjfbaaTimesS
import Derived.Deep.DeepCutAuto
namespace Go.Proofs.Ytngegifiekjfbaa
open Go.ChangeShapes Go.WideShapes Go.ChangeAt Go.RowKit Go.PlainAid

theorem specAok_any (a b : Int) (w : World) : Calls Try.prog 18 #[.int .i64 a, .int .i64 b] w fun e w' => e = .returned (.bool (okA a b)) ∧ w = w' := by
  by_cases h0 : 1 ≤ a ∧ a ≤ 1000
  · have hP := in_to true a 1 1000 w (decide_eq_true h0)
    have hS := in_to (decide (1 ≤ b ∧ b ≤ 1000)) b 1 1000 w rfl
    rw [okA_b h0]
    generalize decide (1 ≤ b ∧ b ≤ 1000) = z at hS ⊢
    clear h0
    go_enter Try.func18, Try.ntmps18
    go_wp2_with fail
    refine hP.mono ?_
    rintro en w2 ⟨rfl, rfl⟩
    go_wp2_with fail
    refine hS.mono ?_
    rintro en w2 ⟨rfl, rfl⟩
    go_wp2_with fail
    go_ret
    exact ⟨rfl, rfl⟩
  · have hP := in_to false a 1 1000 w (decide_eq_false h0)
    rw [okA_a h0]
    clear h0
    go_enter Try.func18, Try.ntmps18
    go_wp2_with fail
    refine hP.mono ?_
    rintro en w2 ⟨rfl, rfl⟩
    go_wp2_with fail
    go_ret
    exact ⟨rfl, rfl⟩

theorem specLeft_no (a b n : Int) (w : World) (h : ¬ rdIn a b n) : Calls Try.prog 19 #[.int .i64 a, .int .i64 b, .int .i64 n] w (SaysF 0 0 false w) := by
  have x := Box.new w 0 0 27
  have kb := below_new w (.cells #[.int .i64 0, .int .i64 0] 27)
  have hV := fun W => specAok_any a b W
  by_cases h1 : okA a b = true
  · rw [h1] at hV
    have hI := fun W => in_to false n 0 1000 W (decide_eq_false (fun g => h ⟨h1, g⟩))
    clear h h1
    go_enter Try.func19, Try.ntmps19
    go_wp2_with fail
    refine (hV _).mono ?_
    rintro en w9 ⟨rfl, rfl⟩
    clear hV
    go_wp2_with fail
    refine (hI _).mono ?_
    rintro en w9 ⟨rfl, rfl⟩
    clear hI
    obtain ⟨c0, c1⟩ := And.intro x.c0 x.c1
    obtain ⟨c2, c3⟩ := And.intro x.free0 x.free1
    go_wp2_with fail
    (try simp only [Exit.inBlock, Exit.then])
    refine bodyPost_ret (v := .tuple #[.agg #[.int .i64 0, .int .i64 0], .bool false]) ?_ rfl ⟨rfl, ?_⟩
    · rw [results_cell_tmp rfl]
      go_simp
    · repeat' (first | exact kb | refine Below.setCell ?_ (by simp <;> omega) _)
  · rw [show okA a b = false by simpa using h1] at hV
    clear h h1
    go_enter Try.func19, Try.ntmps19
    go_wp2_with fail
    refine (hV _).mono ?_
    rintro en w9 ⟨rfl, rfl⟩
    clear hV
    obtain ⟨c0, c1⟩ := And.intro x.c0 x.c1
    obtain ⟨c2, c3⟩ := And.intro x.free0 x.free1
    go_wp2_with fail
    (try simp only [Exit.inBlock, Exit.then])
    refine bodyPost_ret (v := .tuple #[.agg #[.int .i64 0, .int .i64 0], .bool false]) ?_ rfl ⟨rfl, ?_⟩
    · rw [results_cell_tmp rfl]
      go_simp
    · repeat' (first | exact kb | refine Below.setCell ?_ (by simp <;> omega) _)

theorem specLeft_mk (a b n m T B : Int) (O : Bool) (w : World) (h : rdIn a b n) (e1 : n * a = m) (l1 : 0 ≤ m) (l2 : m ≤ 1000000)
    (hM : ∀ W : World, Calls Try.prog 36 #[.int .i64 m, .int .i64 b] W (SaysF T B O W)) :
    Calls Try.prog 19 #[.int .i64 a, .int .i64 b, .int .i64 n] w (SaysF T B O w) := by
  have x := Box.new w 0 0 27
  have kb := below_new w (.cells #[.int .i64 0, .int .i64 0] 27)
  have hV := fun W => specAok_any a b W
  rw [h.1] at hV
  have hI := fun W => in_to true n 0 1000 W (decide_eq_true h.2)
  clear h
  go_enter Try.func19, Try.ntmps19
  go_wp2_with fail
  refine (hV _).mono ?_
  rintro en w9 ⟨rfl, rfl⟩
  go_wp2_with fail
  refine (hI _).mono ?_
  rintro en w9 ⟨rfl, rfl⟩
  clear hV hI
  go_wp2_with fail
  refine (hM _).mono ?_
  rintro en w9 ⟨rfl, b⟩
  replace x := x.under b
  replace kb := below_more kb kb.size b
  clear b hM
  obtain ⟨c0, c1⟩ := And.intro x.c0 x.c1
  obtain ⟨c2, c3⟩ := And.intro x.free0 x.free1
  go_wp2_with fail
  (try simp only [Exit.inBlock, Exit.then])
  refine bodyPost_ret (v := .tuple #[.agg #[.int .i64 T, .int .i64 B], .bool O]) ?_ rfl ⟨rfl, ?_⟩
  · rw [results_cell_tmp rfl]
    go_simp
  · repeat' (first | exact kb | refine Below.setCell ?_ (by simp <;> omega) _)

theorem specLeft_any (a b n : Int) (w : World) : Calls Try.prog 19 #[.int .i64 a, .int .i64 b, .int .i64 n] w (SaysF (rdT a b n) (rdB a b n) (rdO a b n) w) := by
  by_cases h : rdIn a b n
  · obtain ⟨e1, e2, e3⟩ := rd_yes h
    rw [e1, e2, e3]
    obtain ⟨ha, hb⟩ := (okA_iff a b).1 h.1
    obtain ⟨-, n0, n1⟩ := id h
    have b1 := yb (x := n) (y := a) 1000 1000 (by omega) (by omega) (by omega) (by omega)
    have b2 := Int.mul_nonneg (a := n) (b := a) (by omega) (by omega)
    exact specLeft_mk a b n _ _ _ _ w h rfl (by omega) (by omega) fun W => specMake_yes _ _ W ⟨by omega, by omega, by omega⟩
  · obtain ⟨e1, e2, e3⟩ := rd_no h
    rw [e1, e2, e3]
    exact specLeft_no a b n w h

theorem specRight_any (a b n : Int) (w : World) : Calls Try.prog 21 #[.int .i64 a, .int .i64 b, .int .i64 n] w (SaysF (rdT b a n) (rdB b a n) (rdO b a n) w) := by
  have hM := fun W => specLeft_any b a n W
  generalize rdT b a n = T at hM ⊢
  generalize rdB b a n = B at hM ⊢
  generalize rdO b a n = O at hM ⊢
  have x := Box.new w 0 0 27
  have kb := below_new w (.cells #[.int .i64 0, .int .i64 0] 27)
  go_enter Try.func21, Try.ntmps21
  go_wp2_with fail
  refine (hM _).mono ?_
  rintro en w9 ⟨rfl, b⟩
  replace x := x.under b
  replace kb := below_more kb kb.size b
  clear b hM
  obtain ⟨c0, c1⟩ := And.intro x.c0 x.c1
  obtain ⟨c2, c3⟩ := And.intro x.free0 x.free1
  go_wp2_with fail
  (try simp only [Exit.inBlock, Exit.then])
  refine bodyPost_ret (v := .tuple #[.agg #[.int .i64 T, .int .i64 B], .bool O]) ?_ rfl ⟨rfl, ?_⟩
  · rw [results_cell_tmp rfl]
    go_simp
  · repeat' (first | exact kb | refine Below.setCell ?_ (by simp <;> omega) _)

theorem specSquare_walk (t1 b1 t2 b2 T B : Int) (O : Bool) (w : World) (hM : ∀ W : World, Calls Try.prog 37 #[.agg #[.int .i64 t1, .int .i64 b1], .agg #[.int .i64 t2, .int .i64 b2]] W (SaysF T B O W)) : Calls Try.prog 22 #[.agg #[.int .i64 t1, .int .i64 b1], .agg #[.int .i64 t2, .int .i64 b2]] w (SaysF T B O w) := by
  obtain ⟨x, y, z, kb⟩ := three_boxes w t1 b1 t2 b2 27 27
  obtain ⟨a0, a1⟩ := And.intro x.c0 x.c1
  obtain ⟨d0, d1⟩ := And.intro y.c0 y.c1
  go_enter Try.func22, Try.ntmps22
  go_wp2_with fail
  refine (hM _).mono ?_
  rintro en w9 ⟨rfl, b⟩
  replace z := z.under b
  replace kb := below_more kb kb.size b
  clear b hM x y a0 a1 d0 d1
  obtain ⟨c0, c1⟩ := And.intro z.c0 z.c1
  obtain ⟨c2, c3⟩ := And.intro z.free0 z.free1
  go_wp2_with fail
  (try simp only [Exit.inBlock, Exit.then])
  refine bodyPost_ret (v := .tuple #[.agg #[.int .i64 T, .int .i64 B], .bool O]) ?_ rfl ⟨rfl, ?_⟩
  · rw [results_cell_tmp rfl]
    go_simp
  · repeat' (first | exact kb | refine Below.setCell ?_ (by simp <;> omega) _)

theorem specRatio_no1 (t1 b1 t2 b2 : Int) (w : World) (h1 : okF t1 b1 = false) : Calls Try.prog 24 #[.agg #[.int .i64 t1, .int .i64 b1], .agg #[.int .i64 t2, .int .i64 b2]] w (SaysF 0 0 false w) := by
  obtain ⟨x, y, z, kb⟩ := three_boxes w t1 b1 t2 b2 27 27
  have hV := fun W => specOk_any t1 b1 W
  rw [h1] at hV
  clear h1
  obtain ⟨a0, a1⟩ := And.intro x.c0 x.c1
  go_enter Try.func24, Try.ntmps24
  go_wp2_with fail
  refine (hV _).mono ?_
  rintro en w9 ⟨rfl, b⟩
  replace y := y.under b
  replace z := z.under b
  replace kb := below_more kb kb.size b
  clear b hV a0 a1 x
  obtain ⟨c0, c1⟩ := And.intro z.c0 z.c1
  obtain ⟨c2, c3⟩ := And.intro z.free0 z.free1
  go_wp2_with fail
  (try simp only [Exit.inBlock, Exit.then])
  refine bodyPost_ret (v := .tuple #[.agg #[.int .i64 0, .int .i64 0], .bool false]) ?_ rfl ⟨rfl, ?_⟩
  · rw [results_cell_tmp rfl]
    go_simp
  · repeat' (first | exact kb | refine Below.setCell ?_ (by simp <;> omega) _)

theorem specRatio_no2 (t1 b1 t2 b2 : Int) (w : World) (h1 : okF t1 b1 = true) (h2 : okF t2 b2 = false) : Calls Try.prog 24 #[.agg #[.int .i64 t1, .int .i64 b1], .agg #[.int .i64 t2, .int .i64 b2]] w (SaysF 0 0 false w) := by
  obtain ⟨x, y, z, kb⟩ := three_boxes w t1 b1 t2 b2 27 27
  have hV := fun W => specOk_any t1 b1 W
  rw [h1] at hV
  have hW := fun W => specOk_any t2 b2 W
  rw [h2] at hW
  clear h1 h2
  obtain ⟨a0, a1⟩ := And.intro x.c0 x.c1
  go_enter Try.func24, Try.ntmps24
  go_wp2_with fail
  refine (hV _).mono ?_
  rintro en w9 ⟨rfl, b⟩
  replace y := y.under b
  replace z := z.under b
  replace kb := below_more kb kb.size b
  clear b hV a0 a1 x
  obtain ⟨d0, d1⟩ := And.intro y.c0 y.c1
  go_wp2_with fail
  refine (hW _).mono ?_
  rintro en w9 ⟨rfl, b⟩
  replace z := z.under b
  replace kb := below_more kb kb.size b
  clear b hW d0 d1 y
  obtain ⟨c0, c1⟩ := And.intro z.c0 z.c1
  obtain ⟨c2, c3⟩ := And.intro z.free0 z.free1
  go_wp2_with fail
  (try simp only [Exit.inBlock, Exit.then])
  refine bodyPost_ret (v := .tuple #[.agg #[.int .i64 0, .int .i64 0], .bool false]) ?_ rfl ⟨rfl, ?_⟩
  · rw [results_cell_tmp rfl]
    go_simp
  · repeat' (first | exact kb | refine Below.setCell ?_ (by simp <;> omega) _)

theorem specRatio_zero (t1 b1 b2 : Int) (w : World) (h1 : okF t1 b1 = true) (h2 : okF 0 b2 = true) : Calls Try.prog 24 #[.agg #[.int .i64 t1, .int .i64 b1], .agg #[.int .i64 0, .int .i64 b2]] w (SaysF 0 0 false w) := by
  obtain ⟨x, y, z, kb⟩ := three_boxes w t1 b1 0 b2 27 27
  have hV := fun W => specOk_any t1 b1 W
  rw [h1] at hV
  have hW := fun W => specOk_any 0 b2 W
  rw [h2] at hW
  clear h1 h2
  obtain ⟨a0, a1⟩ := And.intro x.c0 x.c1
  go_enter Try.func24, Try.ntmps24
  go_wp2_with fail
  refine (hV _).mono ?_
  rintro en w9 ⟨rfl, b⟩
  replace y := y.under b
  replace z := z.under b
  replace kb := below_more kb kb.size b
  clear b hV a0 a1 x
  obtain ⟨d0, d1⟩ := And.intro y.c0 y.c1
  go_wp2_with fail
  refine (hW _).mono ?_
  rintro en w9 ⟨rfl, b⟩
  replace y := y.under b
  replace z := z.under b
  replace kb := below_more kb kb.size b
  clear b hW d0 d1
  obtain ⟨d0, d1⟩ := And.intro y.c0 y.c1
  obtain ⟨c0, c1⟩ := And.intro z.c0 z.c1
  obtain ⟨c2, c3⟩ := And.intro z.free0 z.free1
  go_wp2_with fail
  (try simp only [Exit.inBlock, Exit.then])
  refine bodyPost_ret (v := .tuple #[.agg #[.int .i64 0, .int .i64 0], .bool false]) ?_ rfl ⟨rfl, ?_⟩
  · rw [results_cell_tmp rfl]
    go_simp
  · repeat' (first | exact kb | refine Below.setCell ?_ (by simp <;> omega) _)

theorem specRatio_mk (t1 b1 t2 b2 m1 m2 T B : Int) (O : Bool) (w : World) (h1 : okF t1 b1 = true) (h2 : okF t2 b2 = true) (hz : t2 ≠ 0) (e1 : t1 * b2 = m1) (e2 : b1 * t2 = m2) (l1 : -1000000000000 ≤ m1) (l2 : m1 ≤ 1000000000000) (l3 : -1000000000000 ≤ m2) (l4 : m2 ≤ 1000000000000)
    (hM : ∀ W : World, Calls Try.prog 36 #[.int .i64 m1, .int .i64 m2] W (SaysF T B O W)) : Calls Try.prog 24 #[.agg #[.int .i64 t1, .int .i64 b1], .agg #[.int .i64 t2, .int .i64 b2]] w (SaysF T B O w) := by
  obtain ⟨x, y, z, kb⟩ := three_boxes w t1 b1 t2 b2 27 27
  have hV := fun W => specOk_any t1 b1 W
  rw [h1] at hV
  have hW := fun W => specOk_any t2 b2 W
  rw [h2] at hW
  clear h1 h2
  obtain ⟨a0, a1⟩ := And.intro x.c0 x.c1
  go_enter Try.func24, Try.ntmps24
  go_wp2_with fail
  refine (hV _).mono ?_
  rintro en w9 ⟨rfl, b⟩
  replace x := x.under b
  replace y := y.under b
  replace z := z.under b
  replace kb := below_more kb kb.size b
  clear b hV a0 a1
  obtain ⟨d0, d1⟩ := And.intro y.c0 y.c1
  go_wp2_with fail
  refine (hW _).mono ?_
  rintro en w9 ⟨rfl, b⟩
  replace x := x.under b
  replace y := y.under b
  replace z := z.under b
  replace kb := below_more kb kb.size b
  clear b hW d0 d1
  obtain ⟨a0, a1⟩ := And.intro x.c0 x.c1
  obtain ⟨d0, d1⟩ := And.intro y.c0 y.c1
  go_wp2_with fail
  refine (hM _).mono ?_
  rintro en w9 ⟨rfl, b⟩
  replace z := z.under b
  replace kb := below_more kb kb.size b
  clear b hM a0 a1 d0 d1 x y
  obtain ⟨c0, c1⟩ := And.intro z.c0 z.c1
  obtain ⟨c2, c3⟩ := And.intro z.free0 z.free1
  go_wp2_with fail
  (try simp only [Exit.inBlock, Exit.then])
  refine bodyPost_ret (v := .tuple #[.agg #[.int .i64 T, .int .i64 B], .bool O]) ?_ rfl ⟨rfl, ?_⟩
  · rw [results_cell_tmp rfl]
    go_simp
  · repeat' (first | exact kb | refine Below.setCell ?_ (by simp <;> omega) _)

theorem specRatio_any (t1 b1 t2 b2 : Int) (w : World) : Calls Try.prog 24 #[.agg #[.int .i64 t1, .int .i64 b1], .agg #[.int .i64 t2, .int .i64 b2]] w (SaysF (raT t1 b1 t2 b2) (raB t1 b1 t2 b2) (raO t1 b1 t2 b2) w) := by
  by_cases h : raIn t1 b1 t2 b2
  · obtain ⟨e1, e2, e3⟩ := ra_yes h
    rw [e1, e2, e3]
    obtain ⟨x0, x1, x2, x3, -⟩ := (okF_iff t1 b1).1 h.1
    obtain ⟨y0, y1, y2, y3, -⟩ := (okF_iff t2 b2).1 h.2.1
    have m1 := mul_in t1 b2 (by omega) (by omega) (by omega) (by omega)
    have m2 := mul_in b1 t2 (by omega) (by omega) (by omega) (by omega)
    have hn : b1 * t2 ≠ 0 := Int.mul_ne_zero (by omega) h.2.2
    exact specRatio_mk t1 b1 t2 b2 _ _ _ _ _ w h.1 h.2.1 h.2.2 rfl rfl m1.1 m1.2 m2.1 m2.2 fun W => specMake_yes _ _ W ⟨hn, m1, m2⟩
  · obtain ⟨e1, e2, e3⟩ := ra_no h
    rw [e1, e2, e3]
    cases h1 : okF t1 b1
    · exact specRatio_no1 t1 b1 t2 b2 w h1
    · cases h2 : okF t2 b2
      · exact specRatio_no2 t1 b1 t2 b2 w h1 h2
      · have hz : t2 = 0 := by
          rcases Decidable.em (t2 = 0) with hz | hz
          · exact hz
          · exact absurd ⟨h1, h2, hz⟩ h
        subst hz
        exact specRatio_zero t1 b1 b2 w h1 h2

theorem specSubst_no1 (a b n t u T B : Int) (w : World) (hL : ∀ W : World, Calls Try.prog 19 #[.int .i64 a, .int .i64 b, .int .i64 n] W (SaysF T B false W)) : Calls Try.prog 25 #[.int .i64 a, .int .i64 b, .int .i64 n, .agg #[.int .i64 t, .int .i64 u]] w (SaysF 0 0 false w) := by
  obtain ⟨y, z, kb⟩ := two_boxes w t u 0 0 27
  go_enter Try.func25, Try.ntmps25
  go_wp2_with fail
  refine (hL _).mono ?_
  rintro en w9 ⟨rfl, b⟩
  replace y := y.under (b.alloc b.size (.cells #[.int .i64 T, .int .i64 B] 27))
  replace z := z.under (b.alloc b.size (.cells #[.int .i64 T, .int .i64 B] 27))
  have x := Box.new w9 T B 27
  replace kb := below_more kb kb.size (b.alloc b.size (.cells #[.int .i64 T, .int .i64 B] 27))
  clear b hL
  go_upto_region 2 with fail
  generalize w9.heap.size = q at x ⊢
  generalize w9.alloc (.cells #[.int .i64 T, .int .i64 B] 27) = w3 at x y z kb ⊢
  obtain ⟨a0, a1⟩ := And.intro x.c0 x.c1
  obtain ⟨d0, d1⟩ := And.intro y.c0 y.c1
  obtain ⟨c0, c1⟩ := And.intro z.c0 z.c1
  obtain ⟨c2, c3⟩ := And.intro z.free0 z.free1
  go_wp2_with fail
  (try simp only [Exit.inBlock, Exit.then])
  refine bodyPost_ret (v := .tuple #[.agg #[.int .i64 0, .int .i64 0], .bool false]) ?_ rfl ⟨rfl, ?_⟩
  · rw [results_cell_tmp rfl]
    go_simp
  · repeat' (first | exact kb | refine Below.setCell ?_ (by simp <;> omega) _)

theorem specSubst_no2 (a b n t u T B : Int) (w : World) (h : ¬ t = T) (hL : ∀ W : World, Calls Try.prog 19 #[.int .i64 a, .int .i64 b, .int .i64 n] W (SaysF T B true W)) : Calls Try.prog 25 #[.int .i64 a, .int .i64 b, .int .i64 n, .agg #[.int .i64 t, .int .i64 u]] w (SaysF 0 0 false w) := by
  have h' : ¬ T = t := fun g => h g.symm
  obtain ⟨y, z, kb⟩ := two_boxes w t u 0 0 27
  go_enter Try.func25, Try.ntmps25
  go_wp2_with fail
  refine (hL _).mono ?_
  rintro en w9 ⟨rfl, b⟩
  replace y := y.under (b.alloc b.size (.cells #[.int .i64 T, .int .i64 B] 27))
  replace z := z.under (b.alloc b.size (.cells #[.int .i64 T, .int .i64 B] 27))
  have x := Box.new w9 T B 27
  replace kb := below_more kb kb.size (b.alloc b.size (.cells #[.int .i64 T, .int .i64 B] 27))
  clear b hL
  go_upto_region 2 with fail
  generalize w9.heap.size = q at x ⊢
  generalize w9.alloc (.cells #[.int .i64 T, .int .i64 B] 27) = w3 at x y z kb ⊢
  obtain ⟨a0, a1⟩ := And.intro x.c0 x.c1
  obtain ⟨d0, d1⟩ := And.intro y.c0 y.c1
  obtain ⟨c0, c1⟩ := And.intro z.c0 z.c1
  obtain ⟨c2, c3⟩ := And.intro z.free0 z.free1
  go_wp2_with fail
  (try simp only [Exit.inBlock, Exit.then])
  refine bodyPost_ret (v := .tuple #[.agg #[.int .i64 0, .int .i64 0], .bool false]) ?_ rfl ⟨rfl, ?_⟩
  · rw [results_cell_tmp rfl]
    go_simp
  · repeat' (first | exact kb | refine Below.setCell ?_ (by simp <;> omega) _)

theorem specSubst_no3 (a b n u T B : Int) (w : World) (h : ¬ u = B) (hL : ∀ W : World, Calls Try.prog 19 #[.int .i64 a, .int .i64 b, .int .i64 n] W (SaysF T B true W)) : Calls Try.prog 25 #[.int .i64 a, .int .i64 b, .int .i64 n, .agg #[.int .i64 T, .int .i64 u]] w (SaysF 0 0 false w) := by
  have h' : ¬ B = u := fun g => h g.symm
  obtain ⟨y, z, kb⟩ := two_boxes w T u 0 0 27
  go_enter Try.func25, Try.ntmps25
  go_wp2_with fail
  refine (hL _).mono ?_
  rintro en w9 ⟨rfl, b⟩
  replace y := y.under (b.alloc b.size (.cells #[.int .i64 T, .int .i64 B] 27))
  replace z := z.under (b.alloc b.size (.cells #[.int .i64 T, .int .i64 B] 27))
  have x := Box.new w9 T B 27
  replace kb := below_more kb kb.size (b.alloc b.size (.cells #[.int .i64 T, .int .i64 B] 27))
  clear b hL
  go_upto_region 2 with fail
  generalize w9.heap.size = q at x ⊢
  generalize w9.alloc (.cells #[.int .i64 T, .int .i64 B] 27) = w3 at x y z kb ⊢
  obtain ⟨a0, a1⟩ := And.intro x.c0 x.c1
  obtain ⟨d0, d1⟩ := And.intro y.c0 y.c1
  obtain ⟨c0, c1⟩ := And.intro z.c0 z.c1
  obtain ⟨c2, c3⟩ := And.intro z.free0 z.free1
  go_wp2_with fail
  (try simp only [Exit.inBlock, Exit.then])
  refine bodyPost_ret (v := .tuple #[.agg #[.int .i64 0, .int .i64 0], .bool false]) ?_ rfl ⟨rfl, ?_⟩
  · rw [results_cell_tmp rfl]
    go_simp
  · repeat' (first | exact kb | refine Below.setCell ?_ (by simp <;> omega) _)

theorem specSubst_mk (a b n T B m1 m2 X Y : Int) (O : Bool) (w : World) (e1 : T * b = m1) (e2 : B * a = m2) (l1 : -1000000000000 ≤ m1) (l2 : m1 ≤ 1000000000000) (l3 : -1000000000000 ≤ m2) (l4 : m2 ≤ 1000000000000) (hL : ∀ W : World, Calls Try.prog 19 #[.int .i64 a, .int .i64 b, .int .i64 n] W (SaysF T B true W))
    (hM : ∀ W : World, Calls Try.prog 36 #[.int .i64 m1, .int .i64 m2] W (SaysF X Y O W)) : Calls Try.prog 25 #[.int .i64 a, .int .i64 b, .int .i64 n, .agg #[.int .i64 T, .int .i64 B]] w (SaysF X Y O w) := by
  obtain ⟨y, z, kb⟩ := two_boxes w T B 0 0 27
  go_enter Try.func25, Try.ntmps25
  go_wp2_with fail
  refine (hL _).mono ?_
  rintro en w9 ⟨rfl, b⟩
  replace y := y.under (b.alloc b.size (.cells #[.int .i64 T, .int .i64 B] 27))
  replace z := z.under (b.alloc b.size (.cells #[.int .i64 T, .int .i64 B] 27))
  have x := Box.new w9 T B 27
  replace kb := below_more kb kb.size (b.alloc b.size (.cells #[.int .i64 T, .int .i64 B] 27))
  clear b hL
  go_upto_region 2 with fail
  generalize w9.heap.size = q at x ⊢
  generalize w9.alloc (.cells #[.int .i64 T, .int .i64 B] 27) = w3 at x y z kb ⊢
  obtain ⟨a0, a1⟩ := And.intro x.c0 x.c1
  obtain ⟨d0, d1⟩ := And.intro y.c0 y.c1
  go_wp2_with fail
  refine (hM _).mono ?_
  rintro en w9 ⟨rfl, b⟩
  replace z := z.under b
  replace kb := below_more kb kb.size b
  clear b hM a0 a1 d0 d1 x y
  obtain ⟨c0, c1⟩ := And.intro z.c0 z.c1
  obtain ⟨c2, c3⟩ := And.intro z.free0 z.free1
  go_wp2_with fail
  (try simp only [Exit.inBlock, Exit.then])
  refine bodyPost_ret (v := .tuple #[.agg #[.int .i64 X, .int .i64 Y], .bool O]) ?_ rfl ⟨rfl, ?_⟩
  · rw [results_cell_tmp rfl]
    go_simp
  · repeat' (first | exact kb | refine Below.setCell ?_ (by simp <;> omega) _)

theorem specSubst_any (a b n t u : Int) (w : World) : Calls Try.prog 25 #[.int .i64 a, .int .i64 b, .int .i64 n, .agg #[.int .i64 t, .int .i64 u]] w (SaysF (suT a b n t u) (suB a b n t u) (suO a b n t u) w) := by
  have hL := fun W => specLeft_any a b n W
  by_cases h : suIn a b n t u
  · obtain ⟨e1, e2, e3⟩ := su_yes h
    rw [e1, e2, e3]
    obtain ⟨g1, g2, g3⟩ := h
    have hi := rdO_in g1
    obtain ⟨x0, x1, x2, x3, -⟩ := (okF_iff _ _).1 (rd_ok hi)
    obtain ⟨ha, hb⟩ := (okA_iff a b).1 hi.1
    rw [g1, ← g2, ← g3] at hL
    rw [← g2] at x0 x1
    rw [← g3] at x2 x3
    have m1 := mul_in t b (by omega) (by omega) (by omega) (by omega)
    have m2 := mul_in u a (by omega) (by omega) (by omega) (by omega)
    have hn : 0 < u * a := Int.mul_pos (by omega) (by omega)
    exact specSubst_mk a b n t u _ _ _ _ _ w rfl rfl m1.1 m1.2 m2.1 m2.2 hL fun W => specMake_yes _ _ W ⟨by omega, m1, m2⟩
  · obtain ⟨e1, e2, e3⟩ := su_no h
    rw [e1, e2, e3]
    cases g1 : rdO a b n
    · rw [g1] at hL
      exact specSubst_no1 a b n t u _ _ w hL
    · rw [g1] at hL
      rcases Decidable.em (t = rdT a b n) with g2 | g2
      · rcases Decidable.em (u = rdB a b n) with g3 | g3
        · exact absurd ⟨g1, g2, g3⟩ h
        · rw [g2]
          exact specSubst_no3 a b n u _ _ w g3 hL
      · exact specSubst_no2 a b n t u _ _ w g2 hL

end Go.Proofs.Ytngegifiekjfbaa
