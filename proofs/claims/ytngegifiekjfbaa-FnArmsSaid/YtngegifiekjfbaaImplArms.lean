/-
  The contracts of the program's functions on unequal arms. Only new memory is written.
-/
import Derived.Test.YtngegifiekjfbaaArms
import Derived.Test.YtngegifiekjfbaaToThree
import Derived.Test.YtngegifiekjfbaaMake
import Derived.Test.YtngegifiekjfbaaTimesI
import Derived.Deep.DeepCutAuto
namespace Go.Proofs.Ytngegifiekjfbaa
open Go.ChangeShapes Go.WideShapes Go.ChangeAt Go.RowKit Go.PlainAid

theorem within_to (x : Bool) (n lo hi : Int) (w : World) (h : decide (lo ≤ n ∧ n ≤ hi) = x) : Calls Try.prog 32 #[.int .i64 n, .int .i64 lo, .int .i64 hi] w fun e w' => e = .returned (.bool x) ∧ w = w' := by
  subst h
  by_cases h1 : lo ≤ n
  · by_cases h2 : n ≤ hi
    · rw [decide_eq_true ⟨h1, h2⟩]
      go_enter Try.func32, Try.ntmps32
      go_wp2_with fail
      go_ret
      exact ⟨rfl, rfl⟩
    · rw [decide_eq_false (fun h => h2 h.2)]
      go_enter Try.func32, Try.ntmps32
      go_wp2_with fail
      go_ret
      exact ⟨rfl, rfl⟩
  · rw [decide_eq_false (fun h => h1 h.1)]
    go_enter Try.func32, Try.ntmps32
    go_wp2_with fail
    go_ret
    exact ⟨rfl, rfl⟩

theorem implFok_any (t b : Int) (w : World) : Calls Try.prog 33 #[.agg #[.int .i64 t, .int .i64 b]] w (SaysB (okF t b) w) := by
  have b1 : Below w.heap.size w (w.alloc (.cells #[.int .i64 t, .int .i64 b] 27)) := (Below.refl _ _).alloc (Nat.le_refl _) _
  have hV := fun W => valid_any t b W
  go_enter Try.func33, Try.ntmps33
  go_wp2_with fail
  refine (hV _).mono ?_
  rintro en w1 ⟨rfl, b⟩
  replace b1 := below_more b1 b1.size b
  go_wp2_with fail
  go_ret
  exact ⟨rfl, b1⟩

theorem implAok_any (a b : Int) (w : World) : Calls Try.prog 16 #[.int .i64 a, .int .i64 b] w fun e w' => e = .returned (.bool (okA a b)) ∧ w = w' := by
  by_cases h0 : 1 ≤ a ∧ a ≤ 1000
  · have hP := within_to true a 1 1000 w (decide_eq_true h0)
    have hS := within_to (decide (1 ≤ b ∧ b ≤ 1000)) b 1 1000 w rfl
    rw [okA_b h0]
    generalize decide (1 ≤ b ∧ b ≤ 1000) = z at hS ⊢
    clear h0
    go_enter Try.func16, Try.ntmps16
    go_wp2_with fail
    refine hP.mono ?_
    rintro en w2 ⟨rfl, rfl⟩
    go_wp2_with fail
    refine hS.mono ?_
    rintro en w2 ⟨rfl, rfl⟩
    go_wp2_with fail
    go_ret
    exact ⟨rfl, rfl⟩
  · have hP := within_to false a 1 1000 w (decide_eq_false h0)
    rw [okA_a h0]
    clear h0
    go_enter Try.func16, Try.ntmps16
    go_wp2_with fail
    refine hP.mono ?_
    rintro en w2 ⟨rfl, rfl⟩
    go_wp2_with fail
    go_ret
    exact ⟨rfl, rfl⟩

/-- Two boxes of two types. -/
theorem two_mixed (w : World) (t1 b1 t2 b2 : Int) (ty ty' : TypeId) :
    Box ((w.alloc (.cells #[.int .i64 t1, .int .i64 b1] ty)).alloc (.cells #[.int .i64 t2, .int .i64 b2] ty')) w.heap.size t1 b1 ty ∧
    Box ((w.alloc (.cells #[.int .i64 t1, .int .i64 b1] ty)).alloc (.cells #[.int .i64 t2, .int .i64 b2] ty')) (w.heap.size + 1) t2 b2 ty' ∧
    Below w.heap.size w ((w.alloc (.cells #[.int .i64 t1, .int .i64 b1] ty)).alloc (.cells #[.int .i64 t2, .int .i64 b2] ty')) := by
  have h1 := Box.new (w.alloc (.cells #[.int .i64 t1, .int .i64 b1] ty)) t2 b2 ty'
  have e1 : (w.alloc (.cells #[.int .i64 t1, .int .i64 b1] ty)).heap.size = w.heap.size + 1 := by simp
  rw [e1] at h1
  exact ⟨(Box.new w t1 b1 ty).alloc _, h1, ((Below.refl _ _).alloc (Nat.le_refl _) _).alloc (by simp) _⟩
/-- Three boxes, the first of another type. -/
theorem three_mixed (w : World) (t1 b1 t2 b2 : Int) (ty ty' ty2 : TypeId) :
    Box (((w.alloc (.cells #[.int .i64 t1, .int .i64 b1] ty)).alloc (.cells #[.int .i64 t2, .int .i64 b2] ty')).alloc (.cells #[.int .i64 0, .int .i64 0] ty2)) w.heap.size t1 b1 ty ∧
    Box (((w.alloc (.cells #[.int .i64 t1, .int .i64 b1] ty)).alloc (.cells #[.int .i64 t2, .int .i64 b2] ty')).alloc (.cells #[.int .i64 0, .int .i64 0] ty2)) (w.heap.size + 1) t2 b2 ty' ∧
    Box (((w.alloc (.cells #[.int .i64 t1, .int .i64 b1] ty)).alloc (.cells #[.int .i64 t2, .int .i64 b2] ty')).alloc (.cells #[.int .i64 0, .int .i64 0] ty2)) (w.heap.size + 1 + 1) 0 0 ty2 ∧
    Below w.heap.size w (((w.alloc (.cells #[.int .i64 t1, .int .i64 b1] ty)).alloc (.cells #[.int .i64 t2, .int .i64 b2] ty')).alloc (.cells #[.int .i64 0, .int .i64 0] ty2)) := by
  obtain ⟨x, y, k⟩ := two_mixed w t1 b1 t2 b2 ty ty'
  have h2 := Box.new ((w.alloc (.cells #[.int .i64 t1, .int .i64 b1] ty)).alloc (.cells #[.int .i64 t2, .int .i64 b2] ty')) 0 0 ty2
  have e2 : ((w.alloc (.cells #[.int .i64 t1, .int .i64 b1] ty)).alloc (.cells #[.int .i64 t2, .int .i64 b2] ty')).heap.size = w.heap.size + 1 + 1 := by simp
  rw [e2] at h2
  exact ⟨x.alloc _, y.alloc _, h2, k.alloc (by simp <;> omega) _⟩
theorem implAgLeft_any (a b t u m1 m2 T B : Int) (O : Bool) (w : World) (e1 : t * a = m1) (e2 : u * b = m2) (l1 : -1000000000000 ≤ m1) (l2 : m1 ≤ 1000000000000) (l3 : -1000000000000 ≤ m2) (l4 : m2 ≤ 1000000000000)
    (hM : ∀ W : World, Calls Try.prog 34 #[.int .i64 m1, .int .i64 m2] W (SaysF T B O W)) : Calls Try.prog 29 #[.agg #[.int .i64 a, .int .i64 b], .agg #[.int .i64 t, .int .i64 u]] w (SaysF T B O w) := by
  obtain ⟨x, y, z, kb⟩ := three_mixed w a b t u 44 27 27
  obtain ⟨a0, a1⟩ := And.intro x.c0 x.c1
  obtain ⟨d0, d1⟩ := And.intro y.c0 y.c1
  go_enter Try.func29, Try.ntmps29
  go_wp2_with fail
  refine (hM _).mono ?_
  rintro en w9 ⟨rfl, b⟩
  replace z := z.under b
  replace kb := below_more kb kb.size b
  clear b hM a0 a1 d0 d1 x y
  obtain ⟨c0, c1⟩ := And.intro z.c0 z.c1
  obtain ⟨c2, c3⟩ := And.intro z.free0 z.free1
  go_wp2_with fail
  (try simp only [Exit.inBlock, Exit.then])
  refine bodyPost_ret (v := .tuple #[.agg #[.int .i64 T, .int .i64 B], .bool O]) ?_ rfl ⟨rfl, ?_⟩
  · rw [results_cell_tmp rfl]
    go_simp
  · repeat' (first | exact kb | refine Below.setCell ?_ (by simp <;> omega) _)

theorem implAgRight_any (a b t u m1 m2 T B : Int) (O : Bool) (w : World) (e1 : t * b = m1) (e2 : u * a = m2) (l1 : -1000000000000 ≤ m1) (l2 : m1 ≤ 1000000000000) (l3 : -1000000000000 ≤ m2) (l4 : m2 ≤ 1000000000000)
    (hM : ∀ W : World, Calls Try.prog 34 #[.int .i64 m1, .int .i64 m2] W (SaysF T B O W)) : Calls Try.prog 30 #[.agg #[.int .i64 a, .int .i64 b], .agg #[.int .i64 t, .int .i64 u]] w (SaysF T B O w) := by
  obtain ⟨x, y, z, kb⟩ := three_mixed w a b t u 44 27 27
  obtain ⟨a0, a1⟩ := And.intro x.c0 x.c1
  obtain ⟨d0, d1⟩ := And.intro y.c0 y.c1
  go_enter Try.func30, Try.ntmps30
  go_wp2_with fail
  refine (hM _).mono ?_
  rintro en w9 ⟨rfl, b⟩
  replace z := z.under b
  replace kb := below_more kb kb.size b
  clear b hM a0 a1 d0 d1 x y
  obtain ⟨c0, c1⟩ := And.intro z.c0 z.c1
  obtain ⟨c2, c3⟩ := And.intro z.free0 z.free1
  go_wp2_with fail
  (try simp only [Exit.inBlock, Exit.then])
  refine bodyPost_ret (v := .tuple #[.agg #[.int .i64 T, .int .i64 B], .bool O]) ?_ rfl ⟨rfl, ?_⟩
  · rw [results_cell_tmp rfl]
    go_simp
  · repeat' (first | exact kb | refine Below.setCell ?_ (by simp <;> omega) _)

theorem implObjL_no (a b n : Int) (w : World) (h : ¬ rdIn a b n) : Calls Try.prog 28 #[.agg #[.int .i64 a, .int .i64 b], .int .i64 n, .func (.func 29) #[] #[]] w (SaysF 0 0 false w) := by
  obtain ⟨y, x, kb⟩ := two_mixed w a b 0 0 44 27
  obtain ⟨d0, d1⟩ := And.intro y.c0 y.c1
  have hV := fun W => implAok_any a b W
  by_cases h1 : okA a b = true
  · rw [h1] at hV
    have hI := fun W => within_to false n 0 1000 W (decide_eq_false (fun g => h ⟨h1, g⟩))
    clear h h1
    go_enter Try.func28, Try.ntmps28
    go_wp2_with fail
    refine (hV _).mono ?_
    rintro en w9 ⟨rfl, rfl⟩
    clear hV
    go_wp2_with fail
    refine (hI _).mono ?_
    rintro en w9 ⟨rfl, rfl⟩
    clear hI
    obtain ⟨c0, c1⟩ := And.intro x.c0 x.c1
    obtain ⟨c2, c3⟩ := And.intro x.free0 x.free1
    go_wp2_with fail
    (try simp only [Exit.inBlock, Exit.then])
    refine bodyPost_ret (v := .tuple #[.agg #[.int .i64 0, .int .i64 0], .bool false]) ?_ rfl ⟨rfl, ?_⟩
    · rw [results_cell_tmp rfl]
      go_simp
    · repeat' (first | exact kb | refine Below.setCell ?_ (by simp <;> omega) _)
  · rw [show okA a b = false by simpa using h1] at hV
    clear h h1
    go_enter Try.func28, Try.ntmps28
    go_wp2_with fail
    refine (hV _).mono ?_
    rintro en w9 ⟨rfl, rfl⟩
    clear hV
    obtain ⟨c0, c1⟩ := And.intro x.c0 x.c1
    obtain ⟨c2, c3⟩ := And.intro x.free0 x.free1
    go_wp2_with fail
    (try simp only [Exit.inBlock, Exit.then])
    refine bodyPost_ret (v := .tuple #[.agg #[.int .i64 0, .int .i64 0], .bool false]) ?_ rfl ⟨rfl, ?_⟩
    · rw [results_cell_tmp rfl]
      go_simp
    · repeat' (first | exact kb | refine Below.setCell ?_ (by simp <;> omega) _)

theorem implObjL_mk (a b n T B : Int) (O : Bool) (w : World) (h : rdIn a b n) (hM : ∀ W : World, Calls Try.prog 29 #[.agg #[.int .i64 a, .int .i64 b], .agg #[.int .i64 n, .int .i64 1]] W (SaysF T B O W)) :
    Calls Try.prog 28 #[.agg #[.int .i64 a, .int .i64 b], .int .i64 n, .func (.func 29) #[] #[]] w (SaysF T B O w) := by
  obtain ⟨y, x, kb⟩ := two_mixed w a b 0 0 44 27
  obtain ⟨d0, d1⟩ := And.intro y.c0 y.c1
  have hV := fun W => implAok_any a b W
  rw [h.1] at hV
  have hI := fun W => within_to true n 0 1000 W (decide_eq_true h.2)
  clear h
  go_enter Try.func28, Try.ntmps28
  go_wp2_with fail
  refine (hV _).mono ?_
  rintro en w9 ⟨rfl, rfl⟩
  go_wp2_with fail
  refine (hI _).mono ?_
  rintro en w9 ⟨rfl, rfl⟩
  clear hV hI
  go_wp2_with fail
  refine (hM _).mono ?_
  rintro en w9 ⟨rfl, b⟩
  replace x := x.under b
  replace kb := below_more kb kb.size b
  clear b hM d0 d1 y
  obtain ⟨c0, c1⟩ := And.intro x.c0 x.c1
  obtain ⟨c2, c3⟩ := And.intro x.free0 x.free1
  go_wp2_with fail
  (try simp only [Exit.inBlock, Exit.then])
  refine bodyPost_ret (v := .tuple #[.agg #[.int .i64 T, .int .i64 B], .bool O]) ?_ rfl ⟨rfl, ?_⟩
  · rw [results_cell_tmp rfl]
    go_simp
  · repeat' (first | exact kb | refine Below.setCell ?_ (by simp <;> omega) _)

theorem implObjR_no (a b n : Int) (w : World) (h : ¬ rdIn a b n) : Calls Try.prog 28 #[.agg #[.int .i64 a, .int .i64 b], .int .i64 n, .func (.func 30) #[] #[]] w (SaysF 0 0 false w) := by
  obtain ⟨y, x, kb⟩ := two_mixed w a b 0 0 44 27
  obtain ⟨d0, d1⟩ := And.intro y.c0 y.c1
  have hV := fun W => implAok_any a b W
  by_cases h1 : okA a b = true
  · rw [h1] at hV
    have hI := fun W => within_to false n 0 1000 W (decide_eq_false (fun g => h ⟨h1, g⟩))
    clear h h1
    go_enter Try.func28, Try.ntmps28
    go_wp2_with fail
    refine (hV _).mono ?_
    rintro en w9 ⟨rfl, rfl⟩
    clear hV
    go_wp2_with fail
    refine (hI _).mono ?_
    rintro en w9 ⟨rfl, rfl⟩
    clear hI
    obtain ⟨c0, c1⟩ := And.intro x.c0 x.c1
    obtain ⟨c2, c3⟩ := And.intro x.free0 x.free1
    go_wp2_with fail
    (try simp only [Exit.inBlock, Exit.then])
    refine bodyPost_ret (v := .tuple #[.agg #[.int .i64 0, .int .i64 0], .bool false]) ?_ rfl ⟨rfl, ?_⟩
    · rw [results_cell_tmp rfl]
      go_simp
    · repeat' (first | exact kb | refine Below.setCell ?_ (by simp <;> omega) _)
  · rw [show okA a b = false by simpa using h1] at hV
    clear h h1
    go_enter Try.func28, Try.ntmps28
    go_wp2_with fail
    refine (hV _).mono ?_
    rintro en w9 ⟨rfl, rfl⟩
    clear hV
    obtain ⟨c0, c1⟩ := And.intro x.c0 x.c1
    obtain ⟨c2, c3⟩ := And.intro x.free0 x.free1
    go_wp2_with fail
    (try simp only [Exit.inBlock, Exit.then])
    refine bodyPost_ret (v := .tuple #[.agg #[.int .i64 0, .int .i64 0], .bool false]) ?_ rfl ⟨rfl, ?_⟩
    · rw [results_cell_tmp rfl]
      go_simp
    · repeat' (first | exact kb | refine Below.setCell ?_ (by simp <;> omega) _)

theorem implObjR_mk (a b n T B : Int) (O : Bool) (w : World) (h : rdIn a b n) (hM : ∀ W : World, Calls Try.prog 30 #[.agg #[.int .i64 a, .int .i64 b], .agg #[.int .i64 n, .int .i64 1]] W (SaysF T B O W)) :
    Calls Try.prog 28 #[.agg #[.int .i64 a, .int .i64 b], .int .i64 n, .func (.func 30) #[] #[]] w (SaysF T B O w) := by
  obtain ⟨y, x, kb⟩ := two_mixed w a b 0 0 44 27
  obtain ⟨d0, d1⟩ := And.intro y.c0 y.c1
  have hV := fun W => implAok_any a b W
  rw [h.1] at hV
  have hI := fun W => within_to true n 0 1000 W (decide_eq_true h.2)
  clear h
  go_enter Try.func28, Try.ntmps28
  go_wp2_with fail
  refine (hV _).mono ?_
  rintro en w9 ⟨rfl, rfl⟩
  go_wp2_with fail
  refine (hI _).mono ?_
  rintro en w9 ⟨rfl, rfl⟩
  clear hV hI
  go_wp2_with fail
  refine (hM _).mono ?_
  rintro en w9 ⟨rfl, b⟩
  replace x := x.under b
  replace kb := below_more kb kb.size b
  clear b hM d0 d1 y
  obtain ⟨c0, c1⟩ := And.intro x.c0 x.c1
  obtain ⟨c2, c3⟩ := And.intro x.free0 x.free1
  go_wp2_with fail
  (try simp only [Exit.inBlock, Exit.then])
  refine bodyPost_ret (v := .tuple #[.agg #[.int .i64 T, .int .i64 B], .bool O]) ?_ rfl ⟨rfl, ?_⟩
  · rw [results_cell_tmp rfl]
    go_simp
  · repeat' (first | exact kb | refine Below.setCell ?_ (by simp <;> omega) _)

theorem implLeft_walk (a b n T B : Int) (O : Bool) (w : World) (hM : ∀ W : World, Calls Try.prog 28 #[.agg #[.int .i64 a, .int .i64 b], .int .i64 n, .func (.func 29) #[] #[]] W (SaysF T B O W)) : Calls Try.prog 12 #[.int .i64 a, .int .i64 b, .int .i64 n] w (SaysF T B O w) := by
  have x := Box.new w 0 0 27
  have kb := below_new w (.cells #[.int .i64 0, .int .i64 0] 27)
  go_enter Try.func12, Try.ntmps12
  go_wp2_with fail
  refine (hM _).mono ?_
  rintro en w9 ⟨rfl, b⟩
  replace x := x.under b
  replace kb := below_more kb kb.size b
  clear b hM
  obtain ⟨c0, c1⟩ := And.intro x.c0 x.c1
  obtain ⟨c2, c3⟩ := And.intro x.free0 x.free1
  go_wp2_with fail
  (try simp only [Exit.inBlock, Exit.then])
  refine bodyPost_ret (v := .tuple #[.agg #[.int .i64 T, .int .i64 B], .bool O]) ?_ rfl ⟨rfl, ?_⟩
  · rw [results_cell_tmp rfl]
    go_simp
  · repeat' (first | exact kb | refine Below.setCell ?_ (by simp <;> omega) _)

theorem implLeft_any (a b n : Int) (w : World) : Calls Try.prog 12 #[.int .i64 a, .int .i64 b, .int .i64 n] w (SaysF (rdT a b n) (rdB a b n) (rdO a b n) w) := by
  by_cases h : rdIn a b n
  · obtain ⟨e1, e2, e3⟩ := rd_yes h
    rw [e1, e2, e3]
    obtain ⟨ha, hb⟩ := (okA_iff a b).1 h.1
    obtain ⟨-, n0, n1⟩ := id h
    have b1 := yb (x := n) (y := a) 1000 1000 (by omega) (by omega) (by omega) (by omega)
    exact implLeft_walk a b n _ _ _ w fun W => implObjL_mk a b n _ _ _ W (h) fun W => implAgLeft_any a b n 1 _ _ _ _ _ W rfl (Int.one_mul _) (by omega) (by omega) (by omega) (by omega) fun W => implMake_yes _ _ W ⟨by omega, by omega, by omega⟩
  · obtain ⟨e1, e2, e3⟩ := rd_no h
    rw [e1, e2, e3]
    exact implLeft_walk a b n _ _ _ w fun W => implObjL_no a b n W h

theorem implRight_walk (a b n T B : Int) (O : Bool) (w : World) (hM : ∀ W : World, Calls Try.prog 28 #[.agg #[.int .i64 a, .int .i64 b], .int .i64 n, .func (.func 30) #[] #[]] W (SaysF T B O W)) : Calls Try.prog 13 #[.int .i64 a, .int .i64 b, .int .i64 n] w (SaysF T B O w) := by
  have x := Box.new w 0 0 27
  have kb := below_new w (.cells #[.int .i64 0, .int .i64 0] 27)
  go_enter Try.func13, Try.ntmps13
  go_wp2_with fail
  refine (hM _).mono ?_
  rintro en w9 ⟨rfl, b⟩
  replace x := x.under b
  replace kb := below_more kb kb.size b
  clear b hM
  obtain ⟨c0, c1⟩ := And.intro x.c0 x.c1
  obtain ⟨c2, c3⟩ := And.intro x.free0 x.free1
  go_wp2_with fail
  (try simp only [Exit.inBlock, Exit.then])
  refine bodyPost_ret (v := .tuple #[.agg #[.int .i64 T, .int .i64 B], .bool O]) ?_ rfl ⟨rfl, ?_⟩
  · rw [results_cell_tmp rfl]
    go_simp
  · repeat' (first | exact kb | refine Below.setCell ?_ (by simp <;> omega) _)

theorem implRight_any (a b n : Int) (w : World) : Calls Try.prog 13 #[.int .i64 a, .int .i64 b, .int .i64 n] w (SaysF (rdT b a n) (rdB b a n) (rdO b a n) w) := by
  by_cases h : rdIn b a n
  · obtain ⟨e1, e2, e3⟩ := rd_yes h
    rw [e1, e2, e3]
    obtain ⟨ha, hb⟩ := (okA_iff b a).1 h.1
    obtain ⟨-, n0, n1⟩ := id h
    have b1 := yb (x := n) (y := b) 1000 1000 (by omega) (by omega) (by omega) (by omega)
    exact implRight_walk a b n _ _ _ w fun W => implObjR_mk a b n _ _ _ W (rdIn_turn h) fun W => implAgRight_any a b n 1 _ _ _ _ _ W rfl (Int.one_mul _) (by omega) (by omega) (by omega) (by omega) fun W => implMake_yes _ _ W ⟨by omega, by omega, by omega⟩
  · obtain ⟨e1, e2, e3⟩ := rd_no h
    rw [e1, e2, e3]
    exact implRight_walk a b n _ _ _ w fun W => implObjR_no a b n W (fun g => h (rdIn_turn g))

theorem implSquare_walk (t1 b1 t2 b2 T B : Int) (O : Bool) (w : World) (hM : ∀ W : World, Calls Try.prog 31 #[.agg #[.int .i64 t1, .int .i64 b1], .agg #[.int .i64 t2, .int .i64 b2]] W (SaysF T B O W)) : Calls Try.prog 14 #[.agg #[.int .i64 t1, .int .i64 b1], .agg #[.int .i64 t2, .int .i64 b2]] w (SaysF T B O w) := by
  obtain ⟨x, y, z, kb⟩ := three_boxes w t1 b1 t2 b2 27 27
  obtain ⟨a0, a1⟩ := And.intro x.c0 x.c1
  obtain ⟨d0, d1⟩ := And.intro y.c0 y.c1
  go_enter Try.func14, Try.ntmps14
  go_wp2_with fail
  refine (hM _).mono ?_
  rintro en w9 ⟨rfl, b⟩
  replace z := z.under b
  replace kb := below_more kb kb.size b
  clear b hM x y a0 a1 d0 d1
  obtain ⟨c0, c1⟩ := And.intro z.c0 z.c1
  obtain ⟨c2, c3⟩ := And.intro z.free0 z.free1
  go_wp2_with fail
  (try simp only [Exit.inBlock, Exit.then])
  refine bodyPost_ret (v := .tuple #[.agg #[.int .i64 T, .int .i64 B], .bool O]) ?_ rfl ⟨rfl, ?_⟩
  · rw [results_cell_tmp rfl]
    go_simp
  · repeat' (first | exact kb | refine Below.setCell ?_ (by simp <;> omega) _)

theorem implRatio_no1 (t1 b1 t2 b2 : Int) (w : World) (h1 : okF t1 b1 = false) : Calls Try.prog 17 #[.agg #[.int .i64 t1, .int .i64 b1], .agg #[.int .i64 t2, .int .i64 b2]] w (SaysF 0 0 false w) := by
  obtain ⟨x, y, z, kb⟩ := three_boxes w t1 b1 t2 b2 27 27
  have hV := fun W => implFok_any t1 b1 W
  rw [h1] at hV
  clear h1
  obtain ⟨a0, a1⟩ := And.intro x.c0 x.c1
  go_enter Try.func17, Try.ntmps17
  go_wp2_with fail
  refine (hV _).mono ?_
  rintro en w9 ⟨rfl, b⟩
  replace y := y.under b
  replace z := z.under b
  replace kb := below_more kb kb.size b
  clear b hV a0 a1 x
  obtain ⟨c0, c1⟩ := And.intro z.c0 z.c1
  obtain ⟨c2, c3⟩ := And.intro z.free0 z.free1
  go_wp2_with fail
  (try simp only [Exit.inBlock, Exit.then])
  refine bodyPost_ret (v := .tuple #[.agg #[.int .i64 0, .int .i64 0], .bool false]) ?_ rfl ⟨rfl, ?_⟩
  · rw [results_cell_tmp rfl]
    go_simp
  · repeat' (first | exact kb | refine Below.setCell ?_ (by simp <;> omega) _)

theorem implRatio_no2 (t1 b1 t2 b2 : Int) (w : World) (h1 : okF t1 b1 = true) (h2 : okF t2 b2 = false) : Calls Try.prog 17 #[.agg #[.int .i64 t1, .int .i64 b1], .agg #[.int .i64 t2, .int .i64 b2]] w (SaysF 0 0 false w) := by
  obtain ⟨x, y, z, kb⟩ := three_boxes w t1 b1 t2 b2 27 27
  have hV := fun W => implFok_any t1 b1 W
  rw [h1] at hV
  have hW := fun W => implFok_any t2 b2 W
  rw [h2] at hW
  clear h1 h2
  obtain ⟨a0, a1⟩ := And.intro x.c0 x.c1
  go_enter Try.func17, Try.ntmps17
  go_wp2_with fail
  refine (hV _).mono ?_
  rintro en w9 ⟨rfl, b⟩
  replace y := y.under b
  replace z := z.under b
  replace kb := below_more kb kb.size b
  clear b hV a0 a1 x
  obtain ⟨d0, d1⟩ := And.intro y.c0 y.c1
  go_wp2_with fail
  refine (hW _).mono ?_
  rintro en w9 ⟨rfl, b⟩
  replace z := z.under b
  replace kb := below_more kb kb.size b
  clear b hW d0 d1 y
  obtain ⟨c0, c1⟩ := And.intro z.c0 z.c1
  obtain ⟨c2, c3⟩ := And.intro z.free0 z.free1
  go_wp2_with fail
  (try simp only [Exit.inBlock, Exit.then])
  refine bodyPost_ret (v := .tuple #[.agg #[.int .i64 0, .int .i64 0], .bool false]) ?_ rfl ⟨rfl, ?_⟩
  · rw [results_cell_tmp rfl]
    go_simp
  · repeat' (first | exact kb | refine Below.setCell ?_ (by simp <;> omega) _)

theorem implRatio_mk (t1 b1 t2 b2 m1 m2 T B : Int) (O : Bool) (w : World) (h1 : okF t1 b1 = true) (h2 : okF t2 b2 = true) (e1 : t1 * b2 = m1) (e2 : b1 * t2 = m2) (l1 : -1000000000000 ≤ m1) (l2 : m1 ≤ 1000000000000) (l3 : -1000000000000 ≤ m2) (l4 : m2 ≤ 1000000000000)
    (hM : ∀ W : World, Calls Try.prog 34 #[.int .i64 m1, .int .i64 m2] W (SaysF T B O W)) : Calls Try.prog 17 #[.agg #[.int .i64 t1, .int .i64 b1], .agg #[.int .i64 t2, .int .i64 b2]] w (SaysF T B O w) := by
  obtain ⟨x, y, z, kb⟩ := three_boxes w t1 b1 t2 b2 27 27
  have hV := fun W => implFok_any t1 b1 W
  rw [h1] at hV
  have hW := fun W => implFok_any t2 b2 W
  rw [h2] at hW
  clear h1 h2
  obtain ⟨a0, a1⟩ := And.intro x.c0 x.c1
  go_enter Try.func17, Try.ntmps17
  go_wp2_with fail
  refine (hV _).mono ?_
  rintro en w9 ⟨rfl, b⟩
  replace x := x.under b
  replace y := y.under b
  replace z := z.under b
  replace kb := below_more kb kb.size b
  clear b hV a0 a1
  obtain ⟨d0, d1⟩ := And.intro y.c0 y.c1
  go_wp2_with fail
  refine (hW _).mono ?_
  rintro en w9 ⟨rfl, b⟩
  replace x := x.under b
  replace y := y.under b
  replace z := z.under b
  replace kb := below_more kb kb.size b
  clear b hW d0 d1
  obtain ⟨a0, a1⟩ := And.intro x.c0 x.c1
  obtain ⟨d0, d1⟩ := And.intro y.c0 y.c1
  go_wp2_with fail
  refine (hM _).mono ?_
  rintro en w9 ⟨rfl, b⟩
  replace z := z.under b
  replace kb := below_more kb kb.size b
  clear b hM a0 a1 d0 d1 x y
  obtain ⟨c0, c1⟩ := And.intro z.c0 z.c1
  obtain ⟨c2, c3⟩ := And.intro z.free0 z.free1
  go_wp2_with fail
  (try simp only [Exit.inBlock, Exit.then])
  refine bodyPost_ret (v := .tuple #[.agg #[.int .i64 T, .int .i64 B], .bool O]) ?_ rfl ⟨rfl, ?_⟩
  · rw [results_cell_tmp rfl]
    go_simp
  · repeat' (first | exact kb | refine Below.setCell ?_ (by simp <;> omega) _)

theorem implRatio_any (t1 b1 t2 b2 : Int) (w : World) : Calls Try.prog 17 #[.agg #[.int .i64 t1, .int .i64 b1], .agg #[.int .i64 t2, .int .i64 b2]] w (SaysF (raT t1 b1 t2 b2) (raB t1 b1 t2 b2) (raO t1 b1 t2 b2) w) := by
  by_cases h : raIn t1 b1 t2 b2
  · obtain ⟨e1, e2, e3⟩ := ra_yes h
    rw [e1, e2, e3]
    obtain ⟨x0, x1, x2, x3, -⟩ := (okF_iff t1 b1).1 h.1
    obtain ⟨y0, y1, y2, y3, -⟩ := (okF_iff t2 b2).1 h.2.1
    have m1 := mul_in t1 b2 (by omega) (by omega) (by omega) (by omega)
    have m2 := mul_in b1 t2 (by omega) (by omega) (by omega) (by omega)
    have hn : b1 * t2 ≠ 0 := Int.mul_ne_zero (by omega) h.2.2
    exact implRatio_mk t1 b1 t2 b2 _ _ _ _ _ w h.1 h.2.1 rfl rfl m1.1 m1.2 m2.1 m2.2 fun W => implMake_yes _ _ W ⟨hn, m1, m2⟩
  · obtain ⟨e1, e2, e3⟩ := ra_no h
    rw [e1, e2, e3]
    cases h1 : okF t1 b1
    · exact implRatio_no1 t1 b1 t2 b2 w h1
    · cases h2 : okF t2 b2
      · exact implRatio_no2 t1 b1 t2 b2 w h1 h2
      · have hz : t2 = 0 := by
          rcases Decidable.em (t2 = 0) with hz | hz
          · exact hz
          · exact absurd ⟨h1, h2, hz⟩ h
        subst hz
        obtain ⟨x0, x1, x2, x3, -⟩ := (okF_iff t1 b1).1 h1
        obtain ⟨y0, y1, y2, y3, -⟩ := (okF_iff 0 b2).1 h2
        have m1 := mul_in t1 b2 (by omega) (by omega) (by omega) (by omega)
        have hn : b1 * 0 = 0 := Int.mul_zero _
        exact implRatio_mk t1 b1 0 b2 _ _ _ _ _ w h1 h2 rfl hn m1.1 m1.2 (by omega) (by omega) fun W => implMake_no _ _ W (fun g => g.1 rfl)

theorem implSubst_no1 (a b n t u T B : Int) (w : World) (hL : ∀ W : World, Calls Try.prog 12 #[.int .i64 a, .int .i64 b, .int .i64 n] W (SaysF T B false W)) : Calls Try.prog 15 #[.int .i64 a, .int .i64 b, .int .i64 n, .agg #[.int .i64 t, .int .i64 u]] w (SaysF 0 0 false w) := by
  obtain ⟨y, z, kb⟩ := two_boxes w t u 0 0 27
  go_enter Try.func15, Try.ntmps15
  go_wp2_with fail
  refine (hL _).mono ?_
  rintro en w9 ⟨rfl, b⟩
  replace y := y.under (b.alloc b.size (.cells #[.int .i64 T, .int .i64 B] 27))
  replace z := z.under (b.alloc b.size (.cells #[.int .i64 T, .int .i64 B] 27))
  have x := Box.new w9 T B 27
  replace kb := below_more kb kb.size (b.alloc b.size (.cells #[.int .i64 T, .int .i64 B] 27))
  clear b hL
  go_upto_region 2 with fail
  generalize w9.heap.size = q at x ⊢
  generalize w9.alloc (.cells #[.int .i64 T, .int .i64 B] 27) = w3 at x y z kb ⊢
  obtain ⟨a0, a1⟩ := And.intro x.c0 x.c1
  obtain ⟨d0, d1⟩ := And.intro y.c0 y.c1
  obtain ⟨c0, c1⟩ := And.intro z.c0 z.c1
  obtain ⟨c2, c3⟩ := And.intro z.free0 z.free1
  go_wp2_with fail
  (try simp only [Exit.inBlock, Exit.then])
  refine bodyPost_ret (v := .tuple #[.agg #[.int .i64 0, .int .i64 0], .bool false]) ?_ rfl ⟨rfl, ?_⟩
  · rw [results_cell_tmp rfl]
    go_simp
  · repeat' (first | exact kb | refine Below.setCell ?_ (by simp <;> omega) _)

theorem implSubst_no2 (a b n t u T B : Int) (w : World) (h : ¬ t = T) (hL : ∀ W : World, Calls Try.prog 12 #[.int .i64 a, .int .i64 b, .int .i64 n] W (SaysF T B true W)) : Calls Try.prog 15 #[.int .i64 a, .int .i64 b, .int .i64 n, .agg #[.int .i64 t, .int .i64 u]] w (SaysF 0 0 false w) := by
  obtain ⟨y, z, kb⟩ := two_boxes w t u 0 0 27
  go_enter Try.func15, Try.ntmps15
  go_wp2_with fail
  refine (hL _).mono ?_
  rintro en w9 ⟨rfl, b⟩
  replace y := y.under (b.alloc b.size (.cells #[.int .i64 T, .int .i64 B] 27))
  replace z := z.under (b.alloc b.size (.cells #[.int .i64 T, .int .i64 B] 27))
  have x := Box.new w9 T B 27
  replace kb := below_more kb kb.size (b.alloc b.size (.cells #[.int .i64 T, .int .i64 B] 27))
  clear b hL
  go_upto_region 2 with fail
  generalize w9.heap.size = q at x ⊢
  generalize w9.alloc (.cells #[.int .i64 T, .int .i64 B] 27) = w3 at x y z kb ⊢
  obtain ⟨a0, a1⟩ := And.intro x.c0 x.c1
  obtain ⟨d0, d1⟩ := And.intro y.c0 y.c1
  obtain ⟨c0, c1⟩ := And.intro z.c0 z.c1
  obtain ⟨c2, c3⟩ := And.intro z.free0 z.free1
  go_wp2_with fail
  (try simp only [Exit.inBlock, Exit.then])
  refine bodyPost_ret (v := .tuple #[.agg #[.int .i64 0, .int .i64 0], .bool false]) ?_ rfl ⟨rfl, ?_⟩
  · rw [results_cell_tmp rfl]
    go_simp
  · repeat' (first | exact kb | refine Below.setCell ?_ (by simp <;> omega) _)

theorem implSubst_no3 (a b n u T B : Int) (w : World) (h : ¬ u = B) (hL : ∀ W : World, Calls Try.prog 12 #[.int .i64 a, .int .i64 b, .int .i64 n] W (SaysF T B true W)) : Calls Try.prog 15 #[.int .i64 a, .int .i64 b, .int .i64 n, .agg #[.int .i64 T, .int .i64 u]] w (SaysF 0 0 false w) := by
  obtain ⟨y, z, kb⟩ := two_boxes w T u 0 0 27
  go_enter Try.func15, Try.ntmps15
  go_wp2_with fail
  refine (hL _).mono ?_
  rintro en w9 ⟨rfl, b⟩
  replace y := y.under (b.alloc b.size (.cells #[.int .i64 T, .int .i64 B] 27))
  replace z := z.under (b.alloc b.size (.cells #[.int .i64 T, .int .i64 B] 27))
  have x := Box.new w9 T B 27
  replace kb := below_more kb kb.size (b.alloc b.size (.cells #[.int .i64 T, .int .i64 B] 27))
  clear b hL
  go_upto_region 2 with fail
  generalize w9.heap.size = q at x ⊢
  generalize w9.alloc (.cells #[.int .i64 T, .int .i64 B] 27) = w3 at x y z kb ⊢
  obtain ⟨a0, a1⟩ := And.intro x.c0 x.c1
  obtain ⟨d0, d1⟩ := And.intro y.c0 y.c1
  obtain ⟨c0, c1⟩ := And.intro z.c0 z.c1
  obtain ⟨c2, c3⟩ := And.intro z.free0 z.free1
  go_wp2_with fail
  (try simp only [Exit.inBlock, Exit.then])
  refine bodyPost_ret (v := .tuple #[.agg #[.int .i64 0, .int .i64 0], .bool false]) ?_ rfl ⟨rfl, ?_⟩
  · rw [results_cell_tmp rfl]
    go_simp
  · repeat' (first | exact kb | refine Below.setCell ?_ (by simp <;> omega) _)

theorem implSubst_mk (a b n T B X Y : Int) (O : Bool) (w : World) (hL : ∀ W : World, Calls Try.prog 12 #[.int .i64 a, .int .i64 b, .int .i64 n] W (SaysF T B true W))
    (hM : ∀ W : World, Calls Try.prog 30 #[.agg #[.int .i64 a, .int .i64 b], .agg #[.int .i64 T, .int .i64 B]] W (SaysF X Y O W)) : Calls Try.prog 15 #[.int .i64 a, .int .i64 b, .int .i64 n, .agg #[.int .i64 T, .int .i64 B]] w (SaysF X Y O w) := by
  obtain ⟨y, z, kb⟩ := two_boxes w T B 0 0 27
  go_enter Try.func15, Try.ntmps15
  go_wp2_with fail
  refine (hL _).mono ?_
  rintro en w9 ⟨rfl, b⟩
  replace y := y.under (b.alloc b.size (.cells #[.int .i64 T, .int .i64 B] 27))
  replace z := z.under (b.alloc b.size (.cells #[.int .i64 T, .int .i64 B] 27))
  have x := Box.new w9 T B 27
  replace kb := below_more kb kb.size (b.alloc b.size (.cells #[.int .i64 T, .int .i64 B] 27))
  clear b hL
  go_upto_region 2 with fail
  generalize w9.heap.size = q at x ⊢
  generalize w9.alloc (.cells #[.int .i64 T, .int .i64 B] 27) = w3 at x y z kb ⊢
  obtain ⟨a0, a1⟩ := And.intro x.c0 x.c1
  obtain ⟨d0, d1⟩ := And.intro y.c0 y.c1
  go_wp2_with fail
  refine (hM _).mono ?_
  rintro en w9 ⟨rfl, b⟩
  replace z := z.under b
  replace kb := below_more kb kb.size b
  clear b hM a0 a1 d0 d1 x y
  obtain ⟨c0, c1⟩ := And.intro z.c0 z.c1
  obtain ⟨c2, c3⟩ := And.intro z.free0 z.free1
  go_wp2_with fail
  (try simp only [Exit.inBlock, Exit.then])
  refine bodyPost_ret (v := .tuple #[.agg #[.int .i64 X, .int .i64 Y], .bool O]) ?_ rfl ⟨rfl, ?_⟩
  · rw [results_cell_tmp rfl]
    go_simp
  · repeat' (first | exact kb | refine Below.setCell ?_ (by simp <;> omega) _)

theorem implSubst_any (a b n t u : Int) (w : World) : Calls Try.prog 15 #[.int .i64 a, .int .i64 b, .int .i64 n, .agg #[.int .i64 t, .int .i64 u]] w (SaysF (suT a b n t u) (suB a b n t u) (suO a b n t u) w) := by
  have hL := fun W => implLeft_any a b n W
  by_cases h : suIn a b n t u
  · obtain ⟨e1, e2, e3⟩ := su_yes h
    rw [e1, e2, e3]
    obtain ⟨g1, g2, g3⟩ := h
    have hi := rdO_in g1
    obtain ⟨x0, x1, x2, x3, -⟩ := (okF_iff _ _).1 (rd_ok hi)
    obtain ⟨ha, hb⟩ := (okA_iff a b).1 hi.1
    rw [g1, ← g2, ← g3] at hL
    rw [← g2] at x0 x1
    rw [← g3] at x2 x3
    have m1 := mul_in t b (by omega) (by omega) (by omega) (by omega)
    have m2 := mul_in u a (by omega) (by omega) (by omega) (by omega)
    have hn : 0 < u * a := Int.mul_pos (by omega) (by omega)
    exact implSubst_mk a b n t u _ _ _ w hL fun W => implAgRight_any a b t u _ _ _ _ _ W rfl rfl m1.1 m1.2 m2.1 m2.2 fun W => implMake_yes _ _ W ⟨by omega, m1, m2⟩
  · obtain ⟨e1, e2, e3⟩ := su_no h
    rw [e1, e2, e3]
    cases g1 : rdO a b n
    · rw [g1] at hL
      exact implSubst_no1 a b n t u _ _ w hL
    · rw [g1] at hL
      rcases Decidable.em (t = rdT a b n) with g2 | g2
      · rcases Decidable.em (u = rdB a b n) with g3 | g3
        · exact absurd ⟨g1, g2, g3⟩ h
        · rw [g2]
          exact implSubst_no3 a b n u _ _ w g3 hL
      · exact implSubst_no2 a b n t u _ _ w g2 hL

end Go.Proofs.Ytngegifiekjfbaa
