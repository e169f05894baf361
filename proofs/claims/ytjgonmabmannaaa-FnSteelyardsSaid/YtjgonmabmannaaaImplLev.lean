/-
  The contract of the program's LevelWith. Only new memory is written.
-/
import Derived.Test.YtjgonmabmannaaaImplYard
namespace Go.Proofs.Ytjgonmabmannaaa
open Go.ChangeShapes Go.WideShapes Go.ChangeAt Go.RowKit Go.PlainAid

theorem implLev_no1 (p s e l q : Int) (w : World) (h1 : okS p s e = false) : Calls Try.prog 16 #[agg3 p s e, .int .i64 l, .int .i64 q] w (SaysB false w) := by
  have y := Tri.new w p s e 25
  have kb : Below w.heap.size w (w.alloc (obj3 p s e 25)) := (Below.refl _ _).alloc (Nat.le_refl _) _
  have hV := fun W => implYok_any p s e W
  rw [h1] at hV
  clear h1
  go_enter Try.func16, Try.ntmps16
  go_wp2_with fail
  refine (hV _).mono ?_
  rintro en w1 ⟨rfl, b⟩
  replace y := y.under b
  replace kb := below_more kb kb.size b
  clear b hV
  obtain ⟨c0, c1, c2⟩ := y.cells
  go_wp2_with fail
  go_ret
  exact ⟨rfl, kb⟩

theorem implLev_no2 (p s e l q : Int) (w : World) (h1 : okS p s e = true) (h2 : ¬ (0 ≤ l ∧ l ≤ 10000)) : Calls Try.prog 16 #[agg3 p s e, .int .i64 l, .int .i64 q] w (SaysB false w) := by
  have y := Tri.new w p s e 25
  have kb : Below w.heap.size w (w.alloc (obj3 p s e 25)) := (Below.refl _ _).alloc (Nat.le_refl _) _
  have hV := fun W => implYok_any p s e W
  rw [h1] at hV
  have hL := fun W => within_to false l 0 10000 W (decide_eq_false h2)
  clear h1 h2
  go_enter Try.func16, Try.ntmps16
  go_wp2_with fail
  refine (hV _).mono ?_
  rintro en w1 ⟨rfl, b⟩
  replace y := y.under b
  replace kb := below_more kb kb.size b
  clear b hV
  obtain ⟨c0, c1, c2⟩ := y.cells
  go_wp2_with fail
  refine (hL _).mono ?_
  rintro en w2 ⟨rfl, rfl⟩
  go_wp2_with fail
  go_ret
  exact ⟨rfl, kb⟩

theorem implLev_no3 (p s e l q : Int) (w : World) (h1 : okS p s e = true) (h2 : 0 ≤ l ∧ l ≤ 10000) (h3 : ¬ (-10000 ≤ q ∧ q ≤ 10000)) : Calls Try.prog 16 #[agg3 p s e, .int .i64 l, .int .i64 q] w (SaysB false w) := by
  have y := Tri.new w p s e 25
  have kb : Below w.heap.size w (w.alloc (obj3 p s e 25)) := (Below.refl _ _).alloc (Nat.le_refl _) _
  have hV := fun W => implYok_any p s e W
  rw [h1] at hV
  have hL := fun W => within_to true l 0 10000 W (decide_eq_true h2)
  have hQ := fun W => within_to false q (-10000) 10000 W (decide_eq_false h3)
  clear h1 h2 h3
  go_enter Try.func16, Try.ntmps16
  go_wp2_with fail
  refine (hV _).mono ?_
  rintro en w1 ⟨rfl, b⟩
  replace y := y.under b
  replace kb := below_more kb kb.size b
  clear b hV
  obtain ⟨c0, c1, c2⟩ := y.cells
  go_wp2_with fail
  refine (hL _).mono ?_
  rintro en w2 ⟨rfl, rfl⟩
  go_wp2_with fail
  refine (hQ _).mono ?_
  rintro en w2 ⟨rfl, rfl⟩
  go_wp2_with fail
  go_ret
  exact ⟨rfl, kb⟩

theorem implLev_yes (p s e l q : Int) (w : World) (h1 : okS p s e = true) (h2 : 0 ≤ l ∧ l ≤ 10000) (h3 : -10000 ≤ q ∧ q ≤ 10000) (m1 m2 : Int) (e1 : l * p = m1) (e2 : (q - e) * s = m2) (l1 : 0 ≤ m1) (l2 : m1 ≤ 1000000) (l3 : -11000000 ≤ m2) (l4 : m2 ≤ 11000000) (l5 : -100 ≤ e) (l6 : e ≤ 100) : Calls Try.prog 16 #[agg3 p s e, .int .i64 l, .int .i64 q] w (SaysB (decide (m1 = m2)) w) := by
  have y := Tri.new w p s e 25
  have kb : Below w.heap.size w (w.alloc (obj3 p s e 25)) := (Below.refl _ _).alloc (Nat.le_refl _) _
  have hV := fun W => implYok_any p s e W
  rw [h1] at hV
  have hL := fun W => within_to true l 0 10000 W (decide_eq_true h2)
  have hQ := fun W => within_to true q (-10000) 10000 W (decide_eq_true h3)
  clear h1 h2
  obtain ⟨h3, h4⟩ := h3
  go_enter Try.func16, Try.ntmps16
  go_wp2_with fail
  refine (hV _).mono ?_
  rintro en w1 ⟨rfl, b⟩
  replace y := y.under b
  replace kb := below_more kb kb.size b
  clear b hV
  obtain ⟨c0, c1, c2⟩ := y.cells
  go_wp2_with fail
  refine (hL _).mono ?_
  rintro en w2 ⟨rfl, rfl⟩
  go_wp2_with fail
  refine (hQ _).mono ?_
  rintro en w2 ⟨rfl, rfl⟩
  go_wp2_with fail
  go_ret
  exact ⟨rfl, kb⟩

theorem implLev_any (p s e l q : Int) (w : World) : Calls Try.prog 16 #[agg3 p s e, .int .i64 l, .int .i64 q] w (SaysB (lvl p s e l q) w) := by
  cases h1 : okS p s e
  · rw [lvl_no (by rw [h1]; simp)]
    exact implLev_no1 p s e l q w h1
  · by_cases h2 : 0 ≤ l ∧ l ≤ 10000
    · by_cases h3 : -10000 ≤ q ∧ q ≤ 10000
      · rw [lvl_yes ⟨h1, h2, h3⟩]
        obtain ⟨hp, hs, he⟩ := (okS_iff p s e).1 h1
        have b1 := yb (x := q - e) (y := s) 10100 1000 (by omega) (by omega) (by omega) (by omega)
        have b2 := yb (x := l) (y := p) 10000 100 (by omega) (by omega) (by omega) (by omega)
        have n2 : 0 ≤ l * p := Int.mul_nonneg (by omega) (by omega)
        exact implLev_yes p s e l q w h1 h2 h3 _ _ rfl rfl (by omega) (by omega) (by omega) (by omega) he.1 he.2
      · rw [lvl_no (fun g => h3 g.2.2)]
        exact implLev_no3 p s e l q w h1 h2 h3
    · rw [lvl_no (fun g => h2 g.2.1)]
      exact implLev_no2 p s e l q w h1 h2

end Go.Proofs.Ytjgonmabmannaaa
