/-
  The contracts of the program's functions on steelyards: which are valid, the mark of a load, the load at a place, whether the beam is level. Only new memory is written.
-/
import Derived.Test.YtjgonmabmannaaaTri
import Derived.Test.YtjgonmabmannaaaYard
import Derived.Test.YtjgonmabmannaaaMake
namespace Go.Proofs.Ytjgonmabmannaaa
open Go.ChangeShapes Go.WideShapes Go.ChangeAt Go.RowKit Go.PlainAid

theorem within_to (x : Bool) (n lo hi : Int) (w : World) (h : decide (lo ≤ n ∧ n ≤ hi) = x) : Calls Try.prog 31 #[.int .i64 n, .int .i64 lo, .int .i64 hi] w fun e w' => e = .returned (.bool x) ∧ w = w' := by
  subst h
  by_cases h1 : lo ≤ n
  · by_cases h2 : n ≤ hi
    · rw [decide_eq_true ⟨h1, h2⟩]
      go_enter Try.func31, Try.ntmps31
      go_wp2_with fail
      go_ret
      exact ⟨rfl, rfl⟩
    · rw [decide_eq_false (fun h => h2 h.2)]
      go_enter Try.func31, Try.ntmps31
      go_wp2_with fail
      go_ret
      exact ⟨rfl, rfl⟩
  · rw [decide_eq_false (fun h => h1 h.1)]
    go_enter Try.func31, Try.ntmps31
    go_wp2_with fail
    go_ret
    exact ⟨rfl, rfl⟩

theorem implFok_any (t b : Int) (w : World) : Calls Try.prog 33 #[.agg #[.int .i64 t, .int .i64 b]] w (SaysB (okF t b) w) := by
  have b1 : Below w.heap.size w (w.alloc (.cells #[.int .i64 t, .int .i64 b] 29)) := (Below.refl _ _).alloc (Nat.le_refl _) _
  have hV := fun W => valid_any t b W
  go_enter Try.func33, Try.ntmps33
  go_wp2_with fail
  refine (hV _).mono ?_
  rintro en w1 ⟨rfl, b⟩
  replace b1 := below_more b1 b1.size b
  go_wp2_with fail
  go_ret
  exact ⟨rfl, b1⟩

theorem implYok_any (p s e : Int) (w : World) : Calls Try.prog 19 #[agg3 p s e] w (SaysB (okS p s e) w) := by
  have b1 : Below w.heap.size w (w.alloc (obj3 p s e 25)) := (Below.refl _ _).alloc (Nat.le_refl _) _
  by_cases h0 : 1 ≤ p ∧ p ≤ 100
  · have hP := within_to true p 1 100 (w.alloc (obj3 p s e 25)) (decide_eq_true h0)
    by_cases h1 : 1 ≤ s ∧ s ≤ 1000
    · have hS := within_to true s 1 1000 (w.alloc (obj3 p s e 25)) (decide_eq_true h1)
      have hE := within_to (decide (-100 ≤ e ∧ e ≤ 100)) e (-100) 100 (w.alloc (obj3 p s e 25)) rfl
      rw [okS_e h0 h1]
      generalize decide (-100 ≤ e ∧ e ≤ 100) = z at hE ⊢
      clear h0 h1
      go_enter Try.func19, Try.ntmps19
      go_wp2_with fail
      refine hP.mono ?_
      rintro en w2 ⟨rfl, rfl⟩
      go_wp2_with fail
      refine hS.mono ?_
      rintro en w2 ⟨rfl, rfl⟩
      go_wp2_with fail
      refine hE.mono ?_
      rintro en w2 ⟨rfl, rfl⟩
      go_wp2_with fail
      go_ret
      exact ⟨rfl, b1⟩
    · have hS := within_to false s 1 1000 (w.alloc (obj3 p s e 25)) (decide_eq_false h1)
      rw [okS_s h1]
      clear h0 h1
      go_enter Try.func19, Try.ntmps19
      go_wp2_with fail
      refine hP.mono ?_
      rintro en w2 ⟨rfl, rfl⟩
      go_wp2_with fail
      refine hS.mono ?_
      rintro en w2 ⟨rfl, rfl⟩
      go_wp2_with fail
      go_ret
      exact ⟨rfl, b1⟩
  · have hP := within_to false p 1 100 (w.alloc (obj3 p s e 25)) (decide_eq_false h0)
    rw [okS_p h0]
    clear h0
    go_enter Try.func19, Try.ntmps19
    go_wp2_with fail
    refine hP.mono ?_
    rintro en w2 ⟨rfl, rfl⟩
    go_wp2_with fail
    go_ret
    exact ⟨rfl, b1⟩

theorem implMark_no (p s e l : Int) (w : World) (h : ¬ (okS p s e = true ∧ 0 ≤ l ∧ l ≤ 10000)) : Calls Try.prog 12 #[agg3 p s e, .int .i64 l] w (SaysF 0 0 false w) := by
  have hV := fun W => implYok_any p s e W
  obtain ⟨y, x, kb⟩ := tri_box w p s e 25
  by_cases h1 : okS p s e = true
  · rw [h1] at hV
    have hI := fun W => within_to false l 0 10000 W (decide_eq_false (fun g => h ⟨h1, g⟩))
    clear h h1
    go_enter Try.func12, Try.ntmps12
    go_wp2_with fail
    refine (hV _).mono ?_
    rintro en w1 ⟨rfl, b⟩
    replace y := y.under b
    replace x := x.under b
    replace kb := below_more kb kb.size b
    clear b hV
    go_wp2_with fail
    refine (hI _).mono ?_
    rintro en w2 ⟨rfl, rfl⟩
    have c0 := x.c0
    have c1 := x.c1
    have f0 := x.free0
    have f1 := x.free1
    go_wp2_with fail
    (try simp only [Exit.inBlock, Exit.then])
    refine bodyPost_ret (v := .tuple #[.agg #[.int .i64 0, .int .i64 0], .bool false]) ?_ rfl ⟨rfl, ?_⟩
    · rw [results_cell_tmp rfl]
      go_simp
    · repeat' (first | exact kb | refine Below.setCell ?_ (by simp <;> omega) _)
  · rw [show okS p s e = false by simpa using h1] at hV
    clear h h1
    go_enter Try.func12, Try.ntmps12
    go_wp2_with fail
    refine (hV _).mono ?_
    rintro en w1 ⟨rfl, b⟩
    replace y := y.under b
    replace x := x.under b
    replace kb := below_more kb kb.size b
    clear b hV
    have c0 := x.c0
    have c1 := x.c1
    have f0 := x.free0
    have f1 := x.free1
    go_wp2_with fail
    (try simp only [Exit.inBlock, Exit.then])
    refine bodyPost_ret (v := .tuple #[.agg #[.int .i64 0, .int .i64 0], .bool false]) ?_ rfl ⟨rfl, ?_⟩
    · rw [results_cell_tmp rfl]
      go_simp
    · repeat' (first | exact kb | refine Below.setCell ?_ (by simp <;> omega) _)

theorem implPut_mk (p s e l m1 m2 T B : Int) (O : Bool) (w : World) (e1 : e * s = m1) (e2 : l * p = m2) (l1 : -100000 ≤ m1) (l2 : m1 ≤ 100000) (l3 : 0 ≤ m2) (l4 : m2 ≤ 1000000)
    (hM : ∀ W : World, Calls Try.prog 34 #[.int .i64 (m1 + m2), .int .i64 s] W (SaysF T B O W)) :
    Calls Try.prog 32 #[agg3 p s e, .int .i64 l] w (SaysF T B O w) := by
  obtain ⟨y, x, kb⟩ := tri_box w p s e 25
  obtain ⟨c0, c1, c2⟩ := y.cells
  go_enter Try.func32, Try.ntmps32
  go_wp2_with fail
  refine (hM _).mono ?_
  rintro en w3 ⟨rfl, b⟩
  replace x := x.under b
  replace kb := below_more kb kb.size b
  clear b hM c0 c1 c2 y
  have d0 := x.c0
  have d1 := x.c1
  have f0 := x.free0
  have f1 := x.free1
  go_wp2_with fail
  (try simp only [Exit.inBlock, Exit.then])
  refine bodyPost_ret (v := .tuple #[.agg #[.int .i64 T, .int .i64 B], .bool O]) ?_ rfl ⟨rfl, ?_⟩
  · rw [results_cell_tmp rfl]
    go_simp
  · repeat' (first | exact kb | refine Below.setCell ?_ (by simp <;> omega) _)

theorem implMark_mk (p s e l T B : Int) (O : Bool) (w : World) (h1 : okS p s e = true) (h2 : 0 ≤ l ∧ l ≤ 10000)
    (hM : ∀ W : World, Calls Try.prog 32 #[agg3 p s e, .int .i64 l] W (SaysF T B O W)) :
    Calls Try.prog 12 #[agg3 p s e, .int .i64 l] w (SaysF T B O w) := by
  obtain ⟨y, x, kb⟩ := tri_box w p s e 25
  have hV := fun W => implYok_any p s e W
  rw [h1] at hV
  have hI := fun W => within_to true l 0 10000 W (decide_eq_true h2)
  clear h1 h2
  go_enter Try.func12, Try.ntmps12
  go_wp2_with fail
  refine (hV _).mono ?_
  rintro en w1 ⟨rfl, b⟩
  replace y := y.under b
  replace x := x.under b
  replace kb := below_more kb kb.size b
  clear b hV
  obtain ⟨c0, c1, c2⟩ := y.cells
  go_wp2_with fail
  refine (hI _).mono ?_
  rintro en w2 ⟨rfl, rfl⟩
  go_wp2_with fail
  refine (hM _).mono ?_
  rintro en w3 ⟨rfl, b⟩
  replace x := x.under b
  replace kb := below_more kb kb.size b
  clear b hM c0 c1 c2 y
  have d0 := x.c0
  have d1 := x.c1
  have f0 := x.free0
  have f1 := x.free1
  go_wp2_with fail
  (try simp only [Exit.inBlock, Exit.then])
  refine bodyPost_ret (v := .tuple #[.agg #[.int .i64 T, .int .i64 B], .bool O]) ?_ rfl ⟨rfl, ?_⟩
  · rw [results_cell_tmp rfl]
    go_simp
  · repeat' (first | exact kb | refine Below.setCell ?_ (by simp <;> omega) _)

theorem implMark_got (p s e l : Int) (w : World) (h1 : okS p s e = true) (h2 : 0 ≤ l ∧ l ≤ 10000) (l1 : -100000 ≤ e * s) (l2 : e * s ≤ 100000) (l3 : 0 ≤ l * p) (l4 : l * p ≤ 1000000) {T B : Int} {O : Bool}
    (hM : ∀ W : World, Calls Try.prog 34 #[.int .i64 (e * s + l * p), .int .i64 s] W (SaysF T B O W)) : Calls Try.prog 12 #[agg3 p s e, .int .i64 l] w (SaysF T B O w) := implMark_mk p s e l _ _ _ w h1 h2 fun W => implPut_mk p s e l _ _ _ _ _ W rfl rfl l1 l2 l3 l4 hM

theorem implLoad_no (p s e t b : Int) (w : World) (h : ¬ (okS p s e = true ∧ okF t b = true)) : Calls Try.prog 13 #[agg3 p s e, .agg #[.int .i64 t, .int .i64 b]] w (SaysF 0 0 false w) := by
  have hV := fun W => implYok_any p s e W
  have hI := fun W => implFok_any t b W
  obtain ⟨y, q, x, kb⟩ := tri_two w p s e t b 25 29
  by_cases h1 : okS p s e = true
  · rw [h1] at hV
    rw [show okF t b = false by cases hf : okF t b <;> simp_all] at hI
    clear h h1
    go_enter Try.func13, Try.ntmps13
    go_wp2_with fail
    refine (hV _).mono ?_
    rintro en w1 ⟨rfl, b⟩
    replace y := y.under b
    replace q := q.under b
    replace x := x.under b
    replace kb := below_more kb kb.size b
    clear b hV
    have c0 := q.c0
    have c1 := q.c1
    go_wp2_with fail
    refine (hI _).mono ?_
    rintro en w2 ⟨rfl, b⟩
    replace y := y.under b
    replace q := q.under b
    replace x := x.under b
    replace kb := below_more kb kb.size b
    clear b hI c0 c1
    have d0 := x.c0
    have d1 := x.c1
    have f0 := x.free0
    have f1 := x.free1
    go_wp2_with fail
    (try simp only [Exit.inBlock, Exit.then])
    refine bodyPost_ret (v := .tuple #[.agg #[.int .i64 0, .int .i64 0], .bool false]) ?_ rfl ⟨rfl, ?_⟩
    · rw [results_cell_tmp rfl]
      go_simp
    · repeat' (first | exact kb | refine Below.setCell ?_ (by simp <;> omega) _)
  · rw [show okS p s e = false by simpa using h1] at hV
    clear h h1 hI
    go_enter Try.func13, Try.ntmps13
    go_wp2_with fail
    refine (hV _).mono ?_
    rintro en w1 ⟨rfl, b⟩
    replace y := y.under b
    replace q := q.under b
    replace x := x.under b
    replace kb := below_more kb kb.size b
    clear b hV
    have d0 := x.c0
    have d1 := x.c1
    have f0 := x.free0
    have f1 := x.free1
    go_wp2_with fail
    (try simp only [Exit.inBlock, Exit.then])
    refine bodyPost_ret (v := .tuple #[.agg #[.int .i64 0, .int .i64 0], .bool false]) ?_ rfl ⟨rfl, ?_⟩
    · rw [results_cell_tmp rfl]
      go_simp
    · repeat' (first | exact kb | refine Below.setCell ?_ (by simp <;> omega) _)

theorem implLoad_mk (p s e t b m1 m2 m3 T B : Int) (O : Bool) (w : World) (h1 : okS p s e = true) (h2 : okF t b = true) (e1 : e * b = m1) (e2 : (t - m1) * s = m2) (e3 : b * p = m3) (l1 : -100000000 ≤ m1) (l2 : m1 ≤ 100000000) (l3 : -1000000 ≤ t) (l4 : t ≤ 1000000) (l5 : -1000000000000 ≤ m2) (l6 : m2 ≤ 1000000000000) (l7 : -1000000000000 ≤ m3) (l8 : m3 ≤ 1000000000000)
    (hM : ∀ W : World, Calls Try.prog 34 #[.int .i64 m2, .int .i64 m3] W (SaysF T B O W)) :
    Calls Try.prog 13 #[agg3 p s e, .agg #[.int .i64 t, .int .i64 b]] w (SaysF T B O w) := by
  obtain ⟨y, q, x, kb⟩ := tri_two w p s e t b 25 29
  have hV := fun W => implYok_any p s e W
  rw [h1] at hV
  have hI := fun W => implFok_any t b W
  rw [h2] at hI
  clear h1 h2
  go_enter Try.func13, Try.ntmps13
  go_wp2_with fail
  refine (hV _).mono ?_
  rintro en w1 ⟨rfl, b⟩
  replace y := y.under b
  replace q := q.under b
  replace x := x.under b
  replace kb := below_more kb kb.size b
  clear b hV
  have c0 := q.c0
  have c1 := q.c1
  go_wp2_with fail
  refine (hI _).mono ?_
  rintro en w2 ⟨rfl, b⟩
  replace y := y.under b
  replace q := q.under b
  replace x := x.under b
  replace kb := below_more kb kb.size b
  clear b hI c0 c1
  obtain ⟨a0, a1, a2⟩ := y.cells
  have c0 := q.c0
  have c1 := q.c1
  go_wp2_with fail
  refine (hM _).mono ?_
  rintro en w3 ⟨rfl, b⟩
  replace x := x.under b
  replace kb := below_more kb kb.size b
  clear b hM c0 c1 a0 a1 a2 y q
  have d0 := x.c0
  have d1 := x.c1
  have f0 := x.free0
  have f1 := x.free1
  go_wp2_with fail
  (try simp only [Exit.inBlock, Exit.then])
  refine bodyPost_ret (v := .tuple #[.agg #[.int .i64 T, .int .i64 B], .bool O]) ?_ rfl ⟨rfl, ?_⟩
  · rw [results_cell_tmp rfl]
    go_simp
  · repeat' (first | exact kb | refine Below.setCell ?_ (by simp <;> omega) _)

theorem implMark_any (p s e l : Int) (w : World) : Calls Try.prog 12 #[agg3 p s e, .int .i64 l] w (SaysF (mkT p s e l) (mkB p s e l) (mkO p s e l) w) := by
  by_cases h : okS p s e = true ∧ 0 ≤ l ∧ l ≤ 10000
  · obtain ⟨hp, hs, he⟩ := (okS_iff p s e).1 h.1
    have b1 := yb (x := e) (y := s) 100 1000 (by omega) (by omega) (by omega) (by omega)
    have b2 := yb (x := l) (y := p) 10000 100 (by omega) (by omega) (by omega) (by omega)
    have n2 : 0 ≤ l * p := Int.mul_nonneg (by omega) (by omega)
    obtain ⟨e1, e2, e3⟩ := mk_yes h
    rw [e1, e2, e3]
    exact implMark_got p s e l w h.1 h.2 (by omega) (by omega) (by omega) (by omega) fun W => implMake_yes _ _ W ⟨by omega, by omega, by omega⟩
  · obtain ⟨e1, e2, e3⟩ := mk_no h
    rw [e1, e2, e3]
    exact implMark_no p s e l w h

theorem implLoad_any (p s e t b : Int) (w : World) : Calls Try.prog 13 #[agg3 p s e, .agg #[.int .i64 t, .int .i64 b]] w (SaysF (ldT p s e t b) (ldB p s e t b) (ldO p s e t b) w) := by
  by_cases h : okS p s e = true ∧ okF t b = true
  · obtain ⟨hp, hs, he⟩ := (okS_iff p s e).1 h.1
    obtain ⟨t0, t1, t2, t3, -⟩ := (okF_iff t b).1 h.2
    have b1 := yb (x := e) (y := b) 100 1000000 (by omega) (by omega) (by omega) (by omega)
    have b2 := yb (x := t - e * b) (y := s) 101000000 1000 (by omega) (by omega) (by omega) (by omega)
    have b3 := yb (x := b) (y := p) 1000000 100 (by omega) (by omega) (by omega) (by omega)
    have n3 : 0 < b * p := Int.mul_pos (by omega) (by omega)
    obtain ⟨e1, e2, e3⟩ := ld_yes h
    rw [e1, e2, e3]
    exact implLoad_mk p s e t b _ _ _ _ _ _ w h.1 h.2 rfl rfl rfl (by omega) (by omega) (by omega) (by omega) (by omega) (by omega) (by omega) (by omega) fun W => implMake_yes _ _ W ⟨by omega, by omega, by omega⟩
  · obtain ⟨e1, e2, e3⟩ := ld_no h
    rw [e1, e2, e3]
    exact implLoad_no p s e t b w h

end Go.Proofs.Ytjgonmabmannaaa
