/-
  The contracts of the program's functions on lines. Only new memory is written.
-/
import Derived.Test.YtploanbnbkhciaaLine
import Derived.Test.YtploanbnbkhciaaBxLine
import Derived.Test.YtploanbnbkhciaaTimesM
import Derived.Test.YtploanbnbkhciaaAddI
import Derived.Deep.RegionLaw
import Derived.Deep.DeepCutAuto
import Derived.Deep.RegionHeld3
namespace Go.Proofs.Ytploanbnbkhciaa
open Go.ChangeShapes Go.WideShapes Go.ChangeAt Go.RowKit Go.PlainAid

theorem implFok_any (t b : Int) (w : World) : Calls Try.prog 29 #[.agg #[.int .i64 t, .int .i64 b]] w (SaysB (okF t b) w) := by
  have b1 : Below w.heap.size w (w.alloc (.cells #[.int .i64 t, .int .i64 b] 25)) := (Below.refl _ _).alloc (Nat.le_refl _) _
  have hV := fun W => valid_any t b W
  go_enter Try.func29, Try.ntmps29
  go_wp2_with fail
  refine (hV _).mono ?_
  rintro en w1 ⟨rfl, b⟩
  replace b1 := below_more b1 b1.size b
  go_wp2_with fail
  go_ret
  exact ⟨rfl, b1⟩

theorem implLok_no1 (a b c d : Int) (w : World) (h1 : okF a b = false) :
    Calls Try.prog 16 #[.agg #[.int .i64 a, .int .i64 b, .int .i64 c, .int .i64 d]] w (SaysB false w) := by
  have hV := fun W => implFok_any a b W
  rw [h1] at hV
  clear h1
  obtain ⟨x, kb⟩ := bx_4 w a b c d 27
  obtain ⟨xc0, xc1, xc2, xc3⟩ := x.cells
  go_enter Try.func16, Try.ntmps16
  go_wp2_with fail
  refine (hV _).mono ?_
  rintro en w1 ⟨rfl, b⟩
  replace x := x.under b
  replace kb := below_more kb kb.size b
  clear b xc0 xc1 xc2 xc3 hV
  obtain ⟨xc0, xc1, xc2, xc3⟩ := x.cells
  go_wp2_with fail
  go_ret
  exact ⟨rfl, kb⟩

theorem implLok_no2 (a b c d : Int) (w : World) (h1 : okF a b = true) (h2 : okF c d = false) :
    Calls Try.prog 16 #[.agg #[.int .i64 a, .int .i64 b, .int .i64 c, .int .i64 d]] w (SaysB false w) := by
  have hV := fun W => implFok_any a b W
  rw [h1] at hV
  have hW := fun W => implFok_any c d W
  rw [h2] at hW
  clear h1 h2
  obtain ⟨x, kb⟩ := bx_4 w a b c d 27
  obtain ⟨xc0, xc1, xc2, xc3⟩ := x.cells
  go_enter Try.func16, Try.ntmps16
  go_wp2_with fail
  refine (hV _).mono ?_
  rintro en w1 ⟨rfl, b⟩
  replace x := x.under b
  replace kb := below_more kb kb.size b
  clear b xc0 xc1 xc2 xc3 hV
  obtain ⟨xc0, xc1, xc2, xc3⟩ := x.cells
  go_wp2_with fail
  refine (hW _).mono ?_
  rintro en w2 ⟨rfl, b⟩
  replace x := x.under b
  replace kb := below_more kb kb.size b
  clear b xc0 xc1 xc2 xc3 hW
  obtain ⟨xc0, xc1, xc2, xc3⟩ := x.cells
  go_wp2_with fail
  go_ret
  exact ⟨rfl, kb⟩

theorem implLok_yes (a b c d : Int) (w : World) (h1 : okF a b = true) (h2 : okF c d = true) :
    Calls Try.prog 16 #[.agg #[.int .i64 a, .int .i64 b, .int .i64 c, .int .i64 d]] w (SaysB (decide (0 < c)) w) := by
  have hV := fun W => implFok_any a b W
  rw [h1] at hV
  have hW := fun W => implFok_any c d W
  rw [h2] at hW
  clear h1 h2
  obtain ⟨x, kb⟩ := bx_4 w a b c d 27
  obtain ⟨xc0, xc1, xc2, xc3⟩ := x.cells
  go_enter Try.func16, Try.ntmps16
  go_wp2_with fail
  refine (hV _).mono ?_
  rintro en w1 ⟨rfl, b⟩
  replace x := x.under b
  replace kb := below_more kb kb.size b
  clear b xc0 xc1 xc2 xc3 hV
  obtain ⟨xc0, xc1, xc2, xc3⟩ := x.cells
  go_wp2_with fail
  refine (hW _).mono ?_
  rintro en w2 ⟨rfl, b⟩
  replace x := x.under b
  replace kb := below_more kb kb.size b
  clear b xc0 xc1 xc2 xc3 hW
  obtain ⟨xc0, xc1, xc2, xc3⟩ := x.cells
  go_wp2_with fail
  go_ret
  exact ⟨rfl, kb⟩

theorem implLok_any (a b c d : Int) (w : World) :
    Calls Try.prog 16 #[.agg #[.int .i64 a, .int .i64 b, .int .i64 c, .int .i64 d]] w (SaysB (lnOk a b c d) w) := by
  unfold lnOk
  cases h1 : okF a b
  · exact implLok_no1 a b c d w h1
  · cases h2 : okF c d
    · exact implLok_no2 a b c d w h1 h2
    · exact implLok_yes a b c d w h1 h2

theorem dial_exact (a b c d : Int) (w : World) : Calls Try.prog 30 #[.agg #[.int .i64 a, .int .i64 b, .int .i64 c, .int .i64 d]] w fun e w' => e = .returned (.agg #[.int .i64 a, .int .i64 b, .int .i64 c, .int .i64 d]) ∧ w' = (w.alloc (.cells #[.int .i64 a, .int .i64 b, .int .i64 c, .int .i64 d] 27)).alloc (.cells #[.int .i64 a, .int .i64 b, .int .i64 c, .int .i64 d] 55) := by
  go_enter Try.func30, Try.ntmps30
  go_wp2_with fail
  (try simp only [Exit.inBlock, Exit.then])
  refine bodyPost_ret (v := .agg #[.int .i64 a, .int .i64 b, .int .i64 c, .int .i64 d]) ?_ rfl ⟨rfl, rfl⟩
  rw [results_cell_one rfl]
  go_simp

theorem implOver_mk (t b x y m1 m2 T B : Int) (O : Bool) (w : World) (e1 : t * y = m1) (e2 : b * x = m2) (l1 : -1000000000000 ≤ m1) (l2 : m1 ≤ 1000000000000) (l3 : -1000000000000 ≤ m2) (l4 : m2 ≤ 1000000000000)
    (hM : ∀ W : World, Calls Try.prog 49 #[.int .i64 m1, .int .i64 m2] W (SaysF T B O W)) :
    Calls Try.prog 47 #[.agg #[.int .i64 t, .int .i64 b], .agg #[.int .i64 x, .int .i64 y]] w (SaysF T B O w) := by
  obtain ⟨x1, y1, z, kb⟩ := bx_222 w t b 25 x y 25 0 0 25
  obtain ⟨x1c0, x1c1⟩ := x1.cells
  obtain ⟨y1c0, y1c1⟩ := y1.cells
  obtain ⟨zc0, zc1⟩ := z.cells
  go_enter Try.func47, Try.ntmps47
  go_wp2_with fail
  refine (hM _).mono ?_
  rintro en w1 ⟨rfl, b⟩
  replace x1 := x1.under b
  replace y1 := y1.under b
  replace z := z.under b
  replace kb := below_more kb kb.size b
  clear b x1c0 x1c1 y1c0 y1c1 zc0 zc1 hM
  clear x1 y1
  obtain ⟨zc0, zc1⟩ := z.cells
  obtain ⟨zf0, zf1⟩ := z.free
  go_wp2_with fail
  (try simp only [Exit.inBlock, Exit.then])
  refine bodyPost_ret (v := .tuple #[.agg #[.int .i64 T, .int .i64 B], .bool O]) ?_ rfl ⟨rfl, ?_⟩
  · rw [results_cell_tmp rfl]
    go_simp
  · repeat' (first | exact kb | refine Below.setCell ?_ (by simp <;> omega) _)

theorem implMinus_mk (t b x y T B : Int) (w : World) (O : Bool) (l0 : -1000000 ≤ x) (l1 : x ≤ 1000000)
    (hP : ∀ W : World, Calls Try.prog 34 #[.agg #[.int .i64 t, .int .i64 b], .agg #[.int .i64 (-x), .int .i64 y]] W (SaysF T B O W)) :
    Calls Try.prog 50 #[.agg #[.int .i64 t, .int .i64 b], .agg #[.int .i64 x, .int .i64 y]] w (SaysF T B O w) := by
  obtain ⟨x1, y1, z, kb⟩ := bx_222 w t b 25 x y 25 0 0 25
  obtain ⟨x1c0, x1c1⟩ := x1.cells
  obtain ⟨y1c0, y1c1⟩ := y1.cells
  obtain ⟨zc0, zc1⟩ := z.cells
  go_enter Try.func50, Try.ntmps50
  go_wp2_with fail
  refine (hP _).mono ?_
  rintro en w1 ⟨rfl, b⟩
  replace x1 := x1.under b
  replace y1 := y1.under b
  replace z := z.under b
  replace kb := below_more kb kb.size b
  clear b x1c0 x1c1 y1c0 y1c1 zc0 zc1 hP
  clear x1 y1
  obtain ⟨zc0, zc1⟩ := z.cells
  obtain ⟨zf0, zf1⟩ := z.free
  go_wp2_with fail
  (try simp only [Exit.inBlock, Exit.then])
  refine bodyPost_ret (v := .tuple #[.agg #[.int .i64 T, .int .i64 B], .bool O]) ?_ rfl ⟨rfl, ?_⟩
  · rw [results_cell_tmp rfl]
    go_simp
  · repeat' (first | exact kb | refine Below.setCell ?_ (by simp <;> omega) _)

theorem after_mk (a b t u T B : Int) (w : World) (O : Bool)
    (hP : ∀ W : World, Calls Try.prog 34 #[.agg #[.int .i64 a, .int .i64 b], .agg #[.int .i64 t, .int .i64 u]] W (SaysF T B O W)) :
    Calls Try.prog 45 #[.agg #[.int .i64 a, .int .i64 b], .agg #[.int .i64 t, .int .i64 u]] w (SaysF T B O w) := by
  obtain ⟨x1, y1, z, kb⟩ := bx_222 w a b 53 t u 25 0 0 25
  obtain ⟨x1c0, x1c1⟩ := x1.cells
  obtain ⟨y1c0, y1c1⟩ := y1.cells
  obtain ⟨zc0, zc1⟩ := z.cells
  go_enter Try.func45, Try.ntmps45
  go_wp2_with fail
  refine (hP _).mono ?_
  rintro en w1 ⟨rfl, b⟩
  replace x1 := x1.under b
  replace y1 := y1.under b
  replace z := z.under b
  replace kb := below_more kb kb.size b
  clear b x1c0 x1c1 y1c0 y1c1 zc0 zc1 hP
  clear x1 y1
  obtain ⟨zc0, zc1⟩ := z.cells
  obtain ⟨zf0, zf1⟩ := z.free
  go_wp2_with fail
  (try simp only [Exit.inBlock, Exit.then])
  refine bodyPost_ret (v := .tuple #[.agg #[.int .i64 T, .int .i64 B], .bool O]) ?_ rfl ⟨rfl, ?_⟩
  · rw [results_cell_tmp rfl]
    go_simp
  · repeat' (first | exact kb | refine Below.setCell ?_ (by simp <;> omega) _)

theorem dist_mk (a b t u T B : Int) (w : World) (O : Bool)
    (hP : ∀ W : World, Calls Try.prog 50 #[.agg #[.int .i64 t, .int .i64 u], .agg #[.int .i64 a, .int .i64 b]] W (SaysF T B O W)) :
    Calls Try.prog 46 #[.agg #[.int .i64 a, .int .i64 b], .agg #[.int .i64 t, .int .i64 u]] w (SaysF T B O w) := by
  obtain ⟨x1, y1, z, kb⟩ := bx_222 w a b 53 t u 25 0 0 25
  obtain ⟨x1c0, x1c1⟩ := x1.cells
  obtain ⟨y1c0, y1c1⟩ := y1.cells
  obtain ⟨zc0, zc1⟩ := z.cells
  go_enter Try.func46, Try.ntmps46
  go_wp2_with fail
  refine (hP _).mono ?_
  rintro en w1 ⟨rfl, b⟩
  replace x1 := x1.under b
  replace y1 := y1.under b
  replace z := z.under b
  replace kb := below_more kb kb.size b
  clear b x1c0 x1c1 y1c0 y1c1 zc0 zc1 hP
  clear x1 y1
  obtain ⟨zc0, zc1⟩ := z.cells
  obtain ⟨zf0, zf1⟩ := z.free
  go_wp2_with fail
  (try simp only [Exit.inBlock, Exit.then])
  refine bodyPost_ret (v := .tuple #[.agg #[.int .i64 T, .int .i64 B], .bool O]) ?_ rfl ⟨rfl, ?_⟩
  · rw [results_cell_tmp rfl]
    go_simp
  · repeat' (first | exact kb | refine Below.setCell ?_ (by simp <;> omega) _)

theorem dialShown_no (a b c d t u T B : Int) (w : World)
    (hM : ∀ W : World, Calls Try.prog 37 #[.agg #[.int .i64 c, .int .i64 d], .agg #[.int .i64 t, .int .i64 u]] W (SaysF T B false W)) :
    Calls Try.prog 31 #[.agg #[.int .i64 a, .int .i64 b, .int .i64 c, .int .i64 d], .agg #[.int .i64 t, .int .i64 u]] w (SaysF 0 0 false w) := by
  obtain ⟨x, y, z, kb⟩ := bx_422 w a b c d 55 t u 25 0 0 25
  obtain ⟨xc0, xc1, xc2, xc3⟩ := x.cells
  obtain ⟨yc0, yc1⟩ := y.cells
  obtain ⟨zc0, zc1⟩ := z.cells
  go_enter Try.func31, Try.ntmps31
  go_wp2_with fail
  refine (hM _).mono ?_
  rintro en w1 ⟨rfl, b⟩
  replace x := x.under (b.alloc b.size (.cells #[.int .i64 T, .int .i64 B] 25))
  replace y := y.under (b.alloc b.size (.cells #[.int .i64 T, .int .i64 B] 25))
  replace z := z.under (b.alloc b.size (.cells #[.int .i64 T, .int .i64 B] 25))
  have p := Box.new w1 T B 25
  replace kb := below_more kb kb.size (b.alloc b.size (.cells #[.int .i64 T, .int .i64 B] 25))
  clear b xc0 xc1 xc2 xc3 yc0 yc1 zc0 zc1 hM
  go_upto_region 2 with fail
  generalize w1.heap.size = q1 at p ⊢
  generalize w1.alloc (.cells #[.int .i64 T, .int .i64 B] 25) = w2 at p x y z kb ⊢
  obtain ⟨xc0, xc1, xc2, xc3⟩ := x.cells
  obtain ⟨yc0, yc1⟩ := y.cells
  obtain ⟨zc0, zc1⟩ := z.cells
  obtain ⟨pc0, pc1⟩ := p.cells
  obtain ⟨zf0, zf1⟩ := z.free
  go_wp2_with fail
  (try simp only [Exit.inBlock, Exit.then])
  refine bodyPost_ret (v := .tuple #[.agg #[.int .i64 0, .int .i64 0], .bool false]) ?_ rfl ⟨rfl, ?_⟩
  · rw [results_cell_tmp rfl]
    go_simp
  · repeat' (first | exact kb | refine Below.setCell ?_ (by simp <;> omega) _)

theorem dialShown_yes (a b c d t u T B X Y : Int) (w : World) (O : Bool)
    (hM : ∀ W : World, Calls Try.prog 37 #[.agg #[.int .i64 c, .int .i64 d], .agg #[.int .i64 t, .int .i64 u]] W (SaysF T B true W))
    (hA : ∀ W : World, Calls Try.prog 45 #[.agg #[.int .i64 a, .int .i64 b], .agg #[.int .i64 T, .int .i64 B]] W (SaysF X Y O W)) :
    Calls Try.prog 31 #[.agg #[.int .i64 a, .int .i64 b, .int .i64 c, .int .i64 d], .agg #[.int .i64 t, .int .i64 u]] w (SaysF X Y O w) := by
  obtain ⟨x, y, z, kb⟩ := bx_422 w a b c d 55 t u 25 0 0 25
  obtain ⟨xc0, xc1, xc2, xc3⟩ := x.cells
  obtain ⟨yc0, yc1⟩ := y.cells
  obtain ⟨zc0, zc1⟩ := z.cells
  go_enter Try.func31, Try.ntmps31
  go_wp2_with fail
  refine (hM _).mono ?_
  rintro en w1 ⟨rfl, b⟩
  replace x := x.under (b.alloc b.size (.cells #[.int .i64 T, .int .i64 B] 25))
  replace y := y.under (b.alloc b.size (.cells #[.int .i64 T, .int .i64 B] 25))
  replace z := z.under (b.alloc b.size (.cells #[.int .i64 T, .int .i64 B] 25))
  have p := Box.new w1 T B 25
  replace kb := below_more kb kb.size (b.alloc b.size (.cells #[.int .i64 T, .int .i64 B] 25))
  clear b xc0 xc1 xc2 xc3 yc0 yc1 zc0 zc1 hM
  go_upto_region 2 with fail
  generalize w1.heap.size = q1 at p ⊢
  generalize w1.alloc (.cells #[.int .i64 T, .int .i64 B] 25) = w2 at p x y z kb ⊢
  obtain ⟨xc0, xc1, xc2, xc3⟩ := x.cells
  obtain ⟨yc0, yc1⟩ := y.cells
  obtain ⟨zc0, zc1⟩ := z.cells
  obtain ⟨pc0, pc1⟩ := p.cells
  go_wp2_with fail
  refine (hA _).mono ?_
  rintro en w3 ⟨rfl, b⟩
  replace x := x.under b
  replace y := y.under b
  replace z := z.under b
  replace p := p.under b
  replace kb := below_more kb kb.size b
  clear b xc0 xc1 xc2 xc3 yc0 yc1 zc0 zc1 pc0 pc1 hA
  clear x y p
  obtain ⟨zc0, zc1⟩ := z.cells
  obtain ⟨zf0, zf1⟩ := z.free
  go_wp2_with fail
  (try simp only [Exit.inBlock, Exit.then])
  refine bodyPost_ret (v := .tuple #[.agg #[.int .i64 X, .int .i64 Y], .bool O]) ?_ rfl ⟨rfl, ?_⟩
  · rw [results_cell_tmp rfl]
    go_simp
  · repeat' (first | exact kb | refine Below.setCell ?_ (by simp <;> omega) _)

theorem dialCor_no (a b c d t u T B : Int) (w : World)
    (hM : ∀ W : World, Calls Try.prog 46 #[.agg #[.int .i64 a, .int .i64 b], .agg #[.int .i64 t, .int .i64 u]] W (SaysF T B false W)) :
    Calls Try.prog 32 #[.agg #[.int .i64 a, .int .i64 b, .int .i64 c, .int .i64 d], .agg #[.int .i64 t, .int .i64 u]] w (SaysF 0 0 false w) := by
  obtain ⟨x, y, z, kb⟩ := bx_422 w a b c d 55 t u 25 0 0 25
  obtain ⟨xc0, xc1, xc2, xc3⟩ := x.cells
  obtain ⟨yc0, yc1⟩ := y.cells
  obtain ⟨zc0, zc1⟩ := z.cells
  go_enter Try.func32, Try.ntmps32
  go_wp2_with fail
  refine (hM _).mono ?_
  rintro en w1 ⟨rfl, b⟩
  replace x := x.under (b.alloc b.size (.cells #[.int .i64 T, .int .i64 B] 25))
  replace y := y.under (b.alloc b.size (.cells #[.int .i64 T, .int .i64 B] 25))
  replace z := z.under (b.alloc b.size (.cells #[.int .i64 T, .int .i64 B] 25))
  have p := Box.new w1 T B 25
  replace kb := below_more kb kb.size (b.alloc b.size (.cells #[.int .i64 T, .int .i64 B] 25))
  clear b xc0 xc1 xc2 xc3 yc0 yc1 zc0 zc1 hM
  go_upto_region 2 with fail
  generalize w1.heap.size = q1 at p ⊢
  generalize w1.alloc (.cells #[.int .i64 T, .int .i64 B] 25) = w2 at p x y z kb ⊢
  obtain ⟨xc0, xc1, xc2, xc3⟩ := x.cells
  obtain ⟨yc0, yc1⟩ := y.cells
  obtain ⟨zc0, zc1⟩ := z.cells
  obtain ⟨pc0, pc1⟩ := p.cells
  obtain ⟨zf0, zf1⟩ := z.free
  go_wp2_with fail
  (try simp only [Exit.inBlock, Exit.then])
  refine bodyPost_ret (v := .tuple #[.agg #[.int .i64 0, .int .i64 0], .bool false]) ?_ rfl ⟨rfl, ?_⟩
  · rw [results_cell_tmp rfl]
    go_simp
  · repeat' (first | exact kb | refine Below.setCell ?_ (by simp <;> omega) _)

theorem dialCor_yes (a b c d t u T B X Y : Int) (w : World) (O : Bool)
    (hM : ∀ W : World, Calls Try.prog 46 #[.agg #[.int .i64 a, .int .i64 b], .agg #[.int .i64 t, .int .i64 u]] W (SaysF T B true W))
    (hA : ∀ W : World, Calls Try.prog 47 #[.agg #[.int .i64 T, .int .i64 B], .agg #[.int .i64 c, .int .i64 d]] W (SaysF X Y O W)) :
    Calls Try.prog 32 #[.agg #[.int .i64 a, .int .i64 b, .int .i64 c, .int .i64 d], .agg #[.int .i64 t, .int .i64 u]] w (SaysF X Y O w) := by
  obtain ⟨x, y, z, kb⟩ := bx_422 w a b c d 55 t u 25 0 0 25
  obtain ⟨xc0, xc1, xc2, xc3⟩ := x.cells
  obtain ⟨yc0, yc1⟩ := y.cells
  obtain ⟨zc0, zc1⟩ := z.cells
  go_enter Try.func32, Try.ntmps32
  go_wp2_with fail
  refine (hM _).mono ?_
  rintro en w1 ⟨rfl, b⟩
  replace x := x.under (b.alloc b.size (.cells #[.int .i64 T, .int .i64 B] 25))
  replace y := y.under (b.alloc b.size (.cells #[.int .i64 T, .int .i64 B] 25))
  replace z := z.under (b.alloc b.size (.cells #[.int .i64 T, .int .i64 B] 25))
  have p := Box.new w1 T B 25
  replace kb := below_more kb kb.size (b.alloc b.size (.cells #[.int .i64 T, .int .i64 B] 25))
  clear b xc0 xc1 xc2 xc3 yc0 yc1 zc0 zc1 hM
  go_upto_region 2 with fail
  generalize w1.heap.size = q1 at p ⊢
  generalize w1.alloc (.cells #[.int .i64 T, .int .i64 B] 25) = w2 at p x y z kb ⊢
  obtain ⟨xc0, xc1, xc2, xc3⟩ := x.cells
  obtain ⟨yc0, yc1⟩ := y.cells
  obtain ⟨zc0, zc1⟩ := z.cells
  obtain ⟨pc0, pc1⟩ := p.cells
  go_wp2_with fail
  refine (hA _).mono ?_
  rintro en w3 ⟨rfl, b⟩
  replace x := x.under b
  replace y := y.under b
  replace z := z.under b
  replace p := p.under b
  replace kb := below_more kb kb.size b
  clear b xc0 xc1 xc2 xc3 yc0 yc1 zc0 zc1 pc0 pc1 hA
  clear x y p
  obtain ⟨zc0, zc1⟩ := z.cells
  obtain ⟨zf0, zf1⟩ := z.free
  go_wp2_with fail
  (try simp only [Exit.inBlock, Exit.then])
  refine bodyPost_ret (v := .tuple #[.agg #[.int .i64 X, .int .i64 Y], .bool O]) ?_ rfl ⟨rfl, ?_⟩
  · rw [results_cell_tmp rfl]
    go_simp
  · repeat' (first | exact kb | refine Below.setCell ?_ (by simp <;> omega) _)

theorem implShown_no1 (a b c d t u : Int) (w : World) (h1 : lnOk a b c d = false) :
    Calls Try.prog 11 #[.agg #[.int .i64 a, .int .i64 b, .int .i64 c, .int .i64 d], .agg #[.int .i64 t, .int .i64 u]] w (SaysF 0 0 false w) := by
  have hL := fun W => implLok_any a b c d W
  rw [h1] at hL
  clear h1
  obtain ⟨x, y, z, kb⟩ := bx_422 w a b c d 27 t u 25 0 0 25
  obtain ⟨xc0, xc1, xc2, xc3⟩ := x.cells
  obtain ⟨yc0, yc1⟩ := y.cells
  obtain ⟨zc0, zc1⟩ := z.cells
  go_enter Try.func11, Try.ntmps11
  go_wp2_with fail
  refine (hL _).mono ?_
  rintro en w1 ⟨rfl, b⟩
  replace x := x.under b
  replace y := y.under b
  replace z := z.under b
  replace kb := below_more kb kb.size b
  clear b xc0 xc1 xc2 xc3 yc0 yc1 zc0 zc1 hL
  obtain ⟨xc0, xc1, xc2, xc3⟩ := x.cells
  obtain ⟨yc0, yc1⟩ := y.cells
  obtain ⟨zc0, zc1⟩ := z.cells
  obtain ⟨zf0, zf1⟩ := z.free
  go_wp2_with fail
  (try simp only [Exit.inBlock, Exit.then])
  refine bodyPost_ret (v := .tuple #[.agg #[.int .i64 0, .int .i64 0], .bool false]) ?_ rfl ⟨rfl, ?_⟩
  · rw [results_cell_tmp rfl]
    go_simp
  · repeat' (first | exact kb | refine Below.setCell ?_ (by simp <;> omega) _)

theorem implShown_no2 (a b c d t u : Int) (w : World) (h1 : lnOk a b c d = true) (h2 : okF t u = false) :
    Calls Try.prog 11 #[.agg #[.int .i64 a, .int .i64 b, .int .i64 c, .int .i64 d], .agg #[.int .i64 t, .int .i64 u]] w (SaysF 0 0 false w) := by
  have hL := fun W => implLok_any a b c d W
  rw [h1] at hL
  have hF := fun W => implFok_any t u W
  rw [h2] at hF
  clear h1 h2
  obtain ⟨x, y, z, kb⟩ := bx_422 w a b c d 27 t u 25 0 0 25
  obtain ⟨xc0, xc1, xc2, xc3⟩ := x.cells
  obtain ⟨yc0, yc1⟩ := y.cells
  obtain ⟨zc0, zc1⟩ := z.cells
  go_enter Try.func11, Try.ntmps11
  go_wp2_with fail
  refine (hL _).mono ?_
  rintro en w1 ⟨rfl, b⟩
  replace x := x.under b
  replace y := y.under b
  replace z := z.under b
  replace kb := below_more kb kb.size b
  clear b xc0 xc1 xc2 xc3 yc0 yc1 zc0 zc1 hL
  obtain ⟨xc0, xc1, xc2, xc3⟩ := x.cells
  obtain ⟨yc0, yc1⟩ := y.cells
  obtain ⟨zc0, zc1⟩ := z.cells
  go_wp2_with fail
  refine (hF _).mono ?_
  rintro en w2 ⟨rfl, b⟩
  replace x := x.under b
  replace y := y.under b
  replace z := z.under b
  replace kb := below_more kb kb.size b
  clear b xc0 xc1 xc2 xc3 yc0 yc1 zc0 zc1 hF
  obtain ⟨xc0, xc1, xc2, xc3⟩ := x.cells
  obtain ⟨yc0, yc1⟩ := y.cells
  obtain ⟨zc0, zc1⟩ := z.cells
  obtain ⟨zf0, zf1⟩ := z.free
  go_wp2_with fail
  (try simp only [Exit.inBlock, Exit.then])
  refine bodyPost_ret (v := .tuple #[.agg #[.int .i64 0, .int .i64 0], .bool false]) ?_ rfl ⟨rfl, ?_⟩
  · rw [results_cell_tmp rfl]
    go_simp
  · repeat' (first | exact kb | refine Below.setCell ?_ (by simp <;> omega) _)

set_option maxHeartbeats 1000000 in
theorem implShown_mk (a b c d t u X Y : Int) (w : World) (O : Bool) (h1 : lnOk a b c d = true) (h2 : okF t u = true)
    (hM : ∀ W : World, Calls Try.prog 31 #[.agg #[.int .i64 a, .int .i64 b, .int .i64 c, .int .i64 d], .agg #[.int .i64 t, .int .i64 u]] W (SaysF X Y O W)) :
    Calls Try.prog 11 #[.agg #[.int .i64 a, .int .i64 b, .int .i64 c, .int .i64 d], .agg #[.int .i64 t, .int .i64 u]] w (SaysF X Y O w) := by
  have hL := fun W => implLok_any a b c d W
  rw [h1] at hL
  have hF := fun W => implFok_any t u W
  rw [h2] at hF
  have hD := fun W => dial_exact a b c d W
  clear h1 h2
  obtain ⟨x, y, z, kb⟩ := bx_422 w a b c d 27 t u 25 0 0 25
  obtain ⟨xc0, xc1, xc2, xc3⟩ := x.cells
  obtain ⟨yc0, yc1⟩ := y.cells
  obtain ⟨zc0, zc1⟩ := z.cells
  go_enter Try.func11, Try.ntmps11
  go_wp2_with fail
  refine (hL _).mono ?_
  rintro en w1 ⟨rfl, b⟩
  replace x := x.under b
  replace y := y.under b
  replace z := z.under b
  replace kb := below_more kb kb.size b
  clear b xc0 xc1 xc2 xc3 yc0 yc1 zc0 zc1 hL
  generalize hp2 : w.heap.size + 1 + 1 = p2 at z ⊢
  generalize hp1 : w.heap.size + 1 = p1 at y ⊢
  have hz : w.heap.size < p1 ∧ p1 < p2 := by omega
  clear hp1 hp2
  obtain ⟨xc0, xc1, xc2, xc3⟩ := x.cells
  obtain ⟨yc0, yc1⟩ := y.cells
  obtain ⟨zc0, zc1⟩ := z.cells
  go_wp2_with fail
  refine (hF _).mono ?_
  rintro en w2 ⟨rfl, b⟩
  replace x := x.under b
  replace y := y.under b
  replace z := z.under b
  replace kb := below_more kb kb.size b
  clear b xc0 xc1 xc2 xc3 yc0 yc1 zc0 zc1 hF
  obtain ⟨xc0, xc1, xc2, xc3⟩ := x.cells
  obtain ⟨yc0, yc1⟩ := y.cells
  obtain ⟨zc0, zc1⟩ := z.cells
  go_wp2_with fail
  clear xc0 xc1 xc2 xc3 yc0 yc1 zc0 zc1
  have ltx := x.lt
  have lty := y.lt
  have ltz := z.lt
  go_region_held3 (fun W => (W.cell? ⟨w.heap.size, 0, none⟩ = some (.int .i64 a) ∧ W.cell? ⟨w.heap.size, 1, none⟩ = some (.int .i64 b) ∧ W.cell? ⟨w.heap.size, 2, none⟩ = some (.int .i64 c) ∧ W.cell? ⟨w.heap.size, 3, none⟩ = some (.int .i64 d)) ∧ (W.cell? ⟨p1, 0, none⟩ = some (.int .i64 t) ∧ W.cell? ⟨p1, 1, none⟩ = some (.int .i64 u))) (exact ⟨Quad.cells (t := 27) (by repeat' (first | with_reducible exact x | with_reducible exact y | with_reducible exact z | with_reducible refine Box.drew ?_ | with_reducible refine Quad.drew ?_ | with_reducible refine Box.alloc ?_ _ | with_reducible refine Quad.alloc ?_ _ | with_reducible refine Box.under ?_ k1 | with_reducible refine Quad.under ?_ k1 | with_reducible refine Box.other ?_ _ _ (by simp <;> omega) | with_reducible refine Quad.other ?_ _ _ (by simp <;> omega))), Box.cells (t := 25) (by repeat' (first | with_reducible exact x | with_reducible exact y | with_reducible exact z | with_reducible refine Box.drew ?_ | with_reducible refine Quad.drew ?_ | with_reducible refine Box.alloc ?_ _ | with_reducible refine Quad.alloc ?_ _ | with_reducible refine Box.under ?_ k1 | with_reducible refine Quad.under ?_ k1 | with_reducible refine Box.other ?_ _ _ (by simp <;> omega) | with_reducible refine Quad.other ?_ _ _ (by simp <;> omega)))⟩)
    (first | (go_at_call 30; with_reducible refine (hD _).mono ?_; rintro e w' ⟨rfl, rfl⟩) | (go_at_call 31; refine (hM _).mono ?_; rintro e w1 ⟨rfl, k1⟩; have hc := fun (b o : Nat) (h : b < _) => k1.cell (p := ⟨b, o, none⟩) h; have f0 : w1.frozen? ⟨p2, 0, none⟩ = false := Box.free0 (t := 0) (b := 0) (ty := 25) (by repeat' (first | with_reducible exact x | with_reducible exact y | with_reducible exact z | with_reducible refine Box.drew ?_ | with_reducible refine Quad.drew ?_ | with_reducible refine Box.alloc ?_ _ | with_reducible refine Quad.alloc ?_ _ | with_reducible refine Box.under ?_ k1 | with_reducible refine Quad.under ?_ k1 | with_reducible refine Box.other ?_ _ _ (by simp <;> omega) | with_reducible refine Quad.other ?_ _ _ (by simp <;> omega))); have f1 : w1.frozen? ⟨p2, 1, none⟩ = false := Box.free1 (t := 0) (b := 0) (ty := 25) (by repeat' (first | with_reducible exact x | with_reducible exact y | with_reducible exact z | with_reducible refine Box.drew ?_ | with_reducible refine Quad.drew ?_ | with_reducible refine Box.alloc ?_ _ | with_reducible refine Quad.alloc ?_ _ | with_reducible refine Box.under ?_ k1 | with_reducible refine Quad.under ?_ k1 | with_reducible refine Box.other ?_ _ _ (by simp <;> omega) | with_reducible refine Quad.other ?_ _ _ (by simp <;> omega))); have d0 : w1.cell? ⟨p2, 0, none⟩ = some (.int .i64 0) := Box.c0 (b := 0) (ty := 25) (by repeat' (first | with_reducible exact x | with_reducible exact y | with_reducible exact z | with_reducible refine Box.drew ?_ | with_reducible refine Quad.drew ?_ | with_reducible refine Box.alloc ?_ _ | with_reducible refine Quad.alloc ?_ _ | with_reducible refine Box.under ?_ k1 | with_reducible refine Quad.under ?_ k1 | with_reducible refine Box.other ?_ _ _ (by simp <;> omega) | with_reducible refine Quad.other ?_ _ _ (by simp <;> omega))); have d1 : w1.cell? ⟨p2, 1, none⟩ = some (.int .i64 0) := Box.c1 (t := 0) (ty := 25) (by repeat' (first | with_reducible exact x | with_reducible exact y | with_reducible exact z | with_reducible refine Box.drew ?_ | with_reducible refine Quad.drew ?_ | with_reducible refine Box.alloc ?_ _ | with_reducible refine Quad.alloc ?_ _ | with_reducible refine Box.under ?_ k1 | with_reducible refine Quad.under ?_ k1 | with_reducible refine Box.other ?_ _ _ (by simp <;> omega) | with_reducible refine Quad.other ?_ _ _ (by simp <;> omega)))))
  all_goals
    go_wp2_with fail
    (try simp only [Exit.inBlock, Exit.then])
    refine bodyPost_ret (v := .tuple #[.agg #[.int .i64 X, .int .i64 Y], .bool O]) ?_ rfl ⟨rfl, ?_⟩
    · rw [results_cell_tmp rfl]
      go_simp
    · have ks := kb.size
      repeat' (first | with_reducible exact kb | with_reducible refine Below.setCell ?_ ?_ _ | with_reducible refine below_more ?_ ?_ k1 | with_reducible refine Below.alloc ?_ ?_ _ | with_reducible refine Below.drew ?_)
      all_goals (first | omega | (simp <;> omega) | trace_state)

theorem implCor_no1 (a b c d t u : Int) (w : World) (h1 : lnOk a b c d = false) :
    Calls Try.prog 12 #[.agg #[.int .i64 a, .int .i64 b, .int .i64 c, .int .i64 d], .agg #[.int .i64 t, .int .i64 u]] w (SaysF 0 0 false w) := by
  have hL := fun W => implLok_any a b c d W
  rw [h1] at hL
  clear h1
  obtain ⟨x, y, z, kb⟩ := bx_422 w a b c d 27 t u 25 0 0 25
  obtain ⟨xc0, xc1, xc2, xc3⟩ := x.cells
  obtain ⟨yc0, yc1⟩ := y.cells
  obtain ⟨zc0, zc1⟩ := z.cells
  go_enter Try.func12, Try.ntmps12
  go_wp2_with fail
  refine (hL _).mono ?_
  rintro en w1 ⟨rfl, b⟩
  replace x := x.under b
  replace y := y.under b
  replace z := z.under b
  replace kb := below_more kb kb.size b
  clear b xc0 xc1 xc2 xc3 yc0 yc1 zc0 zc1 hL
  obtain ⟨xc0, xc1, xc2, xc3⟩ := x.cells
  obtain ⟨yc0, yc1⟩ := y.cells
  obtain ⟨zc0, zc1⟩ := z.cells
  obtain ⟨zf0, zf1⟩ := z.free
  go_wp2_with fail
  (try simp only [Exit.inBlock, Exit.then])
  refine bodyPost_ret (v := .tuple #[.agg #[.int .i64 0, .int .i64 0], .bool false]) ?_ rfl ⟨rfl, ?_⟩
  · rw [results_cell_tmp rfl]
    go_simp
  · repeat' (first | exact kb | refine Below.setCell ?_ (by simp <;> omega) _)

theorem implCor_no2 (a b c d t u : Int) (w : World) (h1 : lnOk a b c d = true) (h2 : okF t u = false) :
    Calls Try.prog 12 #[.agg #[.int .i64 a, .int .i64 b, .int .i64 c, .int .i64 d], .agg #[.int .i64 t, .int .i64 u]] w (SaysF 0 0 false w) := by
  have hL := fun W => implLok_any a b c d W
  rw [h1] at hL
  have hF := fun W => implFok_any t u W
  rw [h2] at hF
  clear h1 h2
  obtain ⟨x, y, z, kb⟩ := bx_422 w a b c d 27 t u 25 0 0 25
  obtain ⟨xc0, xc1, xc2, xc3⟩ := x.cells
  obtain ⟨yc0, yc1⟩ := y.cells
  obtain ⟨zc0, zc1⟩ := z.cells
  go_enter Try.func12, Try.ntmps12
  go_wp2_with fail
  refine (hL _).mono ?_
  rintro en w1 ⟨rfl, b⟩
  replace x := x.under b
  replace y := y.under b
  replace z := z.under b
  replace kb := below_more kb kb.size b
  clear b xc0 xc1 xc2 xc3 yc0 yc1 zc0 zc1 hL
  obtain ⟨xc0, xc1, xc2, xc3⟩ := x.cells
  obtain ⟨yc0, yc1⟩ := y.cells
  obtain ⟨zc0, zc1⟩ := z.cells
  go_wp2_with fail
  refine (hF _).mono ?_
  rintro en w2 ⟨rfl, b⟩
  replace x := x.under b
  replace y := y.under b
  replace z := z.under b
  replace kb := below_more kb kb.size b
  clear b xc0 xc1 xc2 xc3 yc0 yc1 zc0 zc1 hF
  obtain ⟨xc0, xc1, xc2, xc3⟩ := x.cells
  obtain ⟨yc0, yc1⟩ := y.cells
  obtain ⟨zc0, zc1⟩ := z.cells
  obtain ⟨zf0, zf1⟩ := z.free
  go_wp2_with fail
  (try simp only [Exit.inBlock, Exit.then])
  refine bodyPost_ret (v := .tuple #[.agg #[.int .i64 0, .int .i64 0], .bool false]) ?_ rfl ⟨rfl, ?_⟩
  · rw [results_cell_tmp rfl]
    go_simp
  · repeat' (first | exact kb | refine Below.setCell ?_ (by simp <;> omega) _)

set_option maxHeartbeats 1000000 in
theorem implCor_mk (a b c d t u X Y : Int) (w : World) (O : Bool) (h1 : lnOk a b c d = true) (h2 : okF t u = true)
    (hM : ∀ W : World, Calls Try.prog 32 #[.agg #[.int .i64 a, .int .i64 b, .int .i64 c, .int .i64 d], .agg #[.int .i64 t, .int .i64 u]] W (SaysF X Y O W)) :
    Calls Try.prog 12 #[.agg #[.int .i64 a, .int .i64 b, .int .i64 c, .int .i64 d], .agg #[.int .i64 t, .int .i64 u]] w (SaysF X Y O w) := by
  have hL := fun W => implLok_any a b c d W
  rw [h1] at hL
  have hF := fun W => implFok_any t u W
  rw [h2] at hF
  have hD := fun W => dial_exact a b c d W
  clear h1 h2
  obtain ⟨x, y, z, kb⟩ := bx_422 w a b c d 27 t u 25 0 0 25
  obtain ⟨xc0, xc1, xc2, xc3⟩ := x.cells
  obtain ⟨yc0, yc1⟩ := y.cells
  obtain ⟨zc0, zc1⟩ := z.cells
  go_enter Try.func12, Try.ntmps12
  go_wp2_with fail
  refine (hL _).mono ?_
  rintro en w1 ⟨rfl, b⟩
  replace x := x.under b
  replace y := y.under b
  replace z := z.under b
  replace kb := below_more kb kb.size b
  clear b xc0 xc1 xc2 xc3 yc0 yc1 zc0 zc1 hL
  generalize hp2 : w.heap.size + 1 + 1 = p2 at z ⊢
  generalize hp1 : w.heap.size + 1 = p1 at y ⊢
  have hz : w.heap.size < p1 ∧ p1 < p2 := by omega
  clear hp1 hp2
  obtain ⟨xc0, xc1, xc2, xc3⟩ := x.cells
  obtain ⟨yc0, yc1⟩ := y.cells
  obtain ⟨zc0, zc1⟩ := z.cells
  go_wp2_with fail
  refine (hF _).mono ?_
  rintro en w2 ⟨rfl, b⟩
  replace x := x.under b
  replace y := y.under b
  replace z := z.under b
  replace kb := below_more kb kb.size b
  clear b xc0 xc1 xc2 xc3 yc0 yc1 zc0 zc1 hF
  obtain ⟨xc0, xc1, xc2, xc3⟩ := x.cells
  obtain ⟨yc0, yc1⟩ := y.cells
  obtain ⟨zc0, zc1⟩ := z.cells
  go_wp2_with fail
  clear xc0 xc1 xc2 xc3 yc0 yc1 zc0 zc1
  have ltx := x.lt
  have lty := y.lt
  have ltz := z.lt
  go_region_held3 (fun W => (W.cell? ⟨w.heap.size, 0, none⟩ = some (.int .i64 a) ∧ W.cell? ⟨w.heap.size, 1, none⟩ = some (.int .i64 b) ∧ W.cell? ⟨w.heap.size, 2, none⟩ = some (.int .i64 c) ∧ W.cell? ⟨w.heap.size, 3, none⟩ = some (.int .i64 d)) ∧ (W.cell? ⟨p1, 0, none⟩ = some (.int .i64 t) ∧ W.cell? ⟨p1, 1, none⟩ = some (.int .i64 u))) (exact ⟨Quad.cells (t := 27) (by repeat' (first | with_reducible exact x | with_reducible exact y | with_reducible exact z | with_reducible refine Box.drew ?_ | with_reducible refine Quad.drew ?_ | with_reducible refine Box.alloc ?_ _ | with_reducible refine Quad.alloc ?_ _ | with_reducible refine Box.under ?_ k1 | with_reducible refine Quad.under ?_ k1 | with_reducible refine Box.other ?_ _ _ (by simp <;> omega) | with_reducible refine Quad.other ?_ _ _ (by simp <;> omega))), Box.cells (t := 25) (by repeat' (first | with_reducible exact x | with_reducible exact y | with_reducible exact z | with_reducible refine Box.drew ?_ | with_reducible refine Quad.drew ?_ | with_reducible refine Box.alloc ?_ _ | with_reducible refine Quad.alloc ?_ _ | with_reducible refine Box.under ?_ k1 | with_reducible refine Quad.under ?_ k1 | with_reducible refine Box.other ?_ _ _ (by simp <;> omega) | with_reducible refine Quad.other ?_ _ _ (by simp <;> omega)))⟩)
    (first | (go_at_call 30; with_reducible refine (hD _).mono ?_; rintro e w' ⟨rfl, rfl⟩) | (go_at_call 32; refine (hM _).mono ?_; rintro e w1 ⟨rfl, k1⟩; have hc := fun (b o : Nat) (h : b < _) => k1.cell (p := ⟨b, o, none⟩) h; have f0 : w1.frozen? ⟨p2, 0, none⟩ = false := Box.free0 (t := 0) (b := 0) (ty := 25) (by repeat' (first | with_reducible exact x | with_reducible exact y | with_reducible exact z | with_reducible refine Box.drew ?_ | with_reducible refine Quad.drew ?_ | with_reducible refine Box.alloc ?_ _ | with_reducible refine Quad.alloc ?_ _ | with_reducible refine Box.under ?_ k1 | with_reducible refine Quad.under ?_ k1 | with_reducible refine Box.other ?_ _ _ (by simp <;> omega) | with_reducible refine Quad.other ?_ _ _ (by simp <;> omega))); have f1 : w1.frozen? ⟨p2, 1, none⟩ = false := Box.free1 (t := 0) (b := 0) (ty := 25) (by repeat' (first | with_reducible exact x | with_reducible exact y | with_reducible exact z | with_reducible refine Box.drew ?_ | with_reducible refine Quad.drew ?_ | with_reducible refine Box.alloc ?_ _ | with_reducible refine Quad.alloc ?_ _ | with_reducible refine Box.under ?_ k1 | with_reducible refine Quad.under ?_ k1 | with_reducible refine Box.other ?_ _ _ (by simp <;> omega) | with_reducible refine Quad.other ?_ _ _ (by simp <;> omega))); have d0 : w1.cell? ⟨p2, 0, none⟩ = some (.int .i64 0) := Box.c0 (b := 0) (ty := 25) (by repeat' (first | with_reducible exact x | with_reducible exact y | with_reducible exact z | with_reducible refine Box.drew ?_ | with_reducible refine Quad.drew ?_ | with_reducible refine Box.alloc ?_ _ | with_reducible refine Quad.alloc ?_ _ | with_reducible refine Box.under ?_ k1 | with_reducible refine Quad.under ?_ k1 | with_reducible refine Box.other ?_ _ _ (by simp <;> omega) | with_reducible refine Quad.other ?_ _ _ (by simp <;> omega))); have d1 : w1.cell? ⟨p2, 1, none⟩ = some (.int .i64 0) := Box.c1 (t := 0) (ty := 25) (by repeat' (first | with_reducible exact x | with_reducible exact y | with_reducible exact z | with_reducible refine Box.drew ?_ | with_reducible refine Quad.drew ?_ | with_reducible refine Box.alloc ?_ _ | with_reducible refine Quad.alloc ?_ _ | with_reducible refine Box.under ?_ k1 | with_reducible refine Quad.under ?_ k1 | with_reducible refine Box.other ?_ _ _ (by simp <;> omega) | with_reducible refine Quad.other ?_ _ _ (by simp <;> omega)))))
  all_goals
    go_wp2_with fail
    (try simp only [Exit.inBlock, Exit.then])
    refine bodyPost_ret (v := .tuple #[.agg #[.int .i64 X, .int .i64 Y], .bool O]) ?_ rfl ⟨rfl, ?_⟩
    · rw [results_cell_tmp rfl]
      go_simp
    · have ks := kb.size
      repeat' (first | with_reducible exact kb | with_reducible refine Below.setCell ?_ ?_ _ | with_reducible refine below_more ?_ ?_ k1 | with_reducible refine Below.alloc ?_ ?_ _ | with_reducible refine Below.drew ?_)
      all_goals (first | omega | (simp <;> omega) | trace_state)

theorem implCh_no1 (a b c d e f g h : Int) (w : World) (h1 : lnOk a b c d = false) :
    Calls Try.prog 15 #[.agg #[.int .i64 a, .int .i64 b, .int .i64 c, .int .i64 d], .agg #[.int .i64 e, .int .i64 f, .int .i64 g, .int .i64 h]] w (SaysL 0 0 0 0 false w) := by
  have hL := fun W => implLok_any a b c d W
  rw [h1] at hL
  clear h1
  obtain ⟨x, y, z, kb⟩ := bx_444 w a b c d 27 e f g h 27 0 0 0 0 27
  obtain ⟨xc0, xc1, xc2, xc3⟩ := x.cells
  obtain ⟨yc0, yc1, yc2, yc3⟩ := y.cells
  obtain ⟨zc0, zc1, zc2, zc3⟩ := z.cells
  go_enter Try.func15, Try.ntmps15
  go_wp2_with fail
  refine (hL _).mono ?_
  rintro en w1 ⟨rfl, b⟩
  replace x := x.under b
  replace y := y.under b
  replace z := z.under b
  replace kb := below_more kb kb.size b
  clear b xc0 xc1 xc2 xc3 yc0 yc1 yc2 yc3 zc0 zc1 zc2 zc3 hL
  obtain ⟨xc0, xc1, xc2, xc3⟩ := x.cells
  obtain ⟨yc0, yc1, yc2, yc3⟩ := y.cells
  obtain ⟨zc0, zc1, zc2, zc3⟩ := z.cells
  obtain ⟨zf0, zf1, zf2, zf3⟩ := z.free
  go_wp2_with fail
  (try simp only [Exit.inBlock, Exit.then])
  refine bodyPost_ret (v := .tuple #[.agg #[.int .i64 0, .int .i64 0, .int .i64 0, .int .i64 0], .bool false]) ?_ rfl ⟨rfl, ?_⟩
  · rw [results_cell_tmp rfl]
    go_simp
  · repeat' (first | exact kb | refine Below.setCell ?_ (by simp <;> omega) _)

theorem implCh_no2 (a b c d e f g h : Int) (w : World) (h1 : lnOk a b c d = true) (h2 : lnOk e f g h = false) :
    Calls Try.prog 15 #[.agg #[.int .i64 a, .int .i64 b, .int .i64 c, .int .i64 d], .agg #[.int .i64 e, .int .i64 f, .int .i64 g, .int .i64 h]] w (SaysL 0 0 0 0 false w) := by
  have hL := fun W => implLok_any a b c d W
  rw [h1] at hL
  have hL2 := fun W => implLok_any e f g h W
  rw [h2] at hL2
  clear h1 h2
  obtain ⟨x, y, z, kb⟩ := bx_444 w a b c d 27 e f g h 27 0 0 0 0 27
  obtain ⟨xc0, xc1, xc2, xc3⟩ := x.cells
  obtain ⟨yc0, yc1, yc2, yc3⟩ := y.cells
  obtain ⟨zc0, zc1, zc2, zc3⟩ := z.cells
  go_enter Try.func15, Try.ntmps15
  go_wp2_with fail
  refine (hL _).mono ?_
  rintro en w1 ⟨rfl, b⟩
  replace x := x.under b
  replace y := y.under b
  replace z := z.under b
  replace kb := below_more kb kb.size b
  clear b xc0 xc1 xc2 xc3 yc0 yc1 yc2 yc3 zc0 zc1 zc2 zc3 hL
  obtain ⟨xc0, xc1, xc2, xc3⟩ := x.cells
  obtain ⟨yc0, yc1, yc2, yc3⟩ := y.cells
  obtain ⟨zc0, zc1, zc2, zc3⟩ := z.cells
  go_wp2_with fail
  refine (hL2 _).mono ?_
  rintro en w2 ⟨rfl, b⟩
  replace x := x.under b
  replace y := y.under b
  replace z := z.under b
  replace kb := below_more kb kb.size b
  clear b xc0 xc1 xc2 xc3 yc0 yc1 yc2 yc3 zc0 zc1 zc2 zc3 hL2
  obtain ⟨xc0, xc1, xc2, xc3⟩ := x.cells
  obtain ⟨yc0, yc1, yc2, yc3⟩ := y.cells
  obtain ⟨zc0, zc1, zc2, zc3⟩ := z.cells
  obtain ⟨zf0, zf1, zf2, zf3⟩ := z.free
  go_wp2_with fail
  (try simp only [Exit.inBlock, Exit.then])
  refine bodyPost_ret (v := .tuple #[.agg #[.int .i64 0, .int .i64 0, .int .i64 0, .int .i64 0], .bool false]) ?_ rfl ⟨rfl, ?_⟩
  · rw [results_cell_tmp rfl]
    go_simp
  · repeat' (first | exact kb | refine Below.setCell ?_ (by simp <;> omega) _)

theorem implCh_no3 (a b c d e f g h T B : Int) (w : World) (h1 : lnOk a b c d = true) (h2 : lnOk e f g h = true)
    (hM : ∀ W : World, Calls Try.prog 37 #[.agg #[.int .i64 c, .int .i64 d], .agg #[.int .i64 g, .int .i64 h]] W (SaysF T B false W)) :
    Calls Try.prog 15 #[.agg #[.int .i64 a, .int .i64 b, .int .i64 c, .int .i64 d], .agg #[.int .i64 e, .int .i64 f, .int .i64 g, .int .i64 h]] w (SaysL 0 0 0 0 false w) := by
  have hL := fun W => implLok_any a b c d W
  rw [h1] at hL
  have hL2 := fun W => implLok_any e f g h W
  rw [h2] at hL2
  clear h1 h2
  obtain ⟨x, y, z, kb⟩ := bx_444 w a b c d 27 e f g h 27 0 0 0 0 27
  obtain ⟨xc0, xc1, xc2, xc3⟩ := x.cells
  obtain ⟨yc0, yc1, yc2, yc3⟩ := y.cells
  obtain ⟨zc0, zc1, zc2, zc3⟩ := z.cells
  go_enter Try.func15, Try.ntmps15
  go_wp2_with fail
  refine (hL _).mono ?_
  rintro en w1 ⟨rfl, b⟩
  replace x := x.under b
  replace y := y.under b
  replace z := z.under b
  replace kb := below_more kb kb.size b
  clear b xc0 xc1 xc2 xc3 yc0 yc1 yc2 yc3 zc0 zc1 zc2 zc3 hL
  obtain ⟨xc0, xc1, xc2, xc3⟩ := x.cells
  obtain ⟨yc0, yc1, yc2, yc3⟩ := y.cells
  obtain ⟨zc0, zc1, zc2, zc3⟩ := z.cells
  go_wp2_with fail
  refine (hL2 _).mono ?_
  rintro en w2 ⟨rfl, b⟩
  replace x := x.under b
  replace y := y.under b
  replace z := z.under b
  replace kb := below_more kb kb.size b
  clear b xc0 xc1 xc2 xc3 yc0 yc1 yc2 yc3 zc0 zc1 zc2 zc3 hL2
  obtain ⟨xc0, xc1, xc2, xc3⟩ := x.cells
  obtain ⟨yc0, yc1, yc2, yc3⟩ := y.cells
  obtain ⟨zc0, zc1, zc2, zc3⟩ := z.cells
  go_wp2_with fail
  refine (hM _).mono ?_
  rintro en w3 ⟨rfl, b⟩
  replace x := x.under (b.alloc b.size (.cells #[.int .i64 T, .int .i64 B] 25))
  replace y := y.under (b.alloc b.size (.cells #[.int .i64 T, .int .i64 B] 25))
  replace z := z.under (b.alloc b.size (.cells #[.int .i64 T, .int .i64 B] 25))
  have p := Box.new w3 T B 25
  replace kb := below_more kb kb.size (b.alloc b.size (.cells #[.int .i64 T, .int .i64 B] 25))
  clear b xc0 xc1 xc2 xc3 yc0 yc1 yc2 yc3 zc0 zc1 zc2 zc3 hM
  go_upto_region 4 with fail
  generalize w3.heap.size = q1 at p ⊢
  generalize w3.alloc (.cells #[.int .i64 T, .int .i64 B] 25) = w4 at p x y z kb ⊢
  obtain ⟨xc0, xc1, xc2, xc3⟩ := x.cells
  obtain ⟨yc0, yc1, yc2, yc3⟩ := y.cells
  obtain ⟨zc0, zc1, zc2, zc3⟩ := z.cells
  obtain ⟨pc0, pc1⟩ := p.cells
  obtain ⟨zf0, zf1, zf2, zf3⟩ := z.free
  go_wp2_with fail
  (try simp only [Exit.inBlock, Exit.then])
  refine bodyPost_ret (v := .tuple #[.agg #[.int .i64 0, .int .i64 0, .int .i64 0, .int .i64 0], .bool false]) ?_ rfl ⟨rfl, ?_⟩
  · rw [results_cell_tmp rfl]
    go_simp
  · repeat' (first | exact kb | refine Below.setCell ?_ (by simp <;> omega) _)

theorem implCh_no4 (a b c d e f g h T B X Y : Int) (w : World) (h1 : lnOk a b c d = true) (h2 : lnOk e f g h = true)
    (hM : ∀ W : World, Calls Try.prog 37 #[.agg #[.int .i64 c, .int .i64 d], .agg #[.int .i64 g, .int .i64 h]] W (SaysF T B true W))
    (hS : ∀ W : World, Calls Try.prog 11 #[.agg #[.int .i64 e, .int .i64 f, .int .i64 g, .int .i64 h], .agg #[.int .i64 a, .int .i64 b]] W (SaysF X Y false W)) :
    Calls Try.prog 15 #[.agg #[.int .i64 a, .int .i64 b, .int .i64 c, .int .i64 d], .agg #[.int .i64 e, .int .i64 f, .int .i64 g, .int .i64 h]] w (SaysL 0 0 0 0 false w) := by
  have hL := fun W => implLok_any a b c d W
  rw [h1] at hL
  have hL2 := fun W => implLok_any e f g h W
  rw [h2] at hL2
  clear h1 h2
  obtain ⟨x, y, z, kb⟩ := bx_444 w a b c d 27 e f g h 27 0 0 0 0 27
  obtain ⟨xc0, xc1, xc2, xc3⟩ := x.cells
  obtain ⟨yc0, yc1, yc2, yc3⟩ := y.cells
  obtain ⟨zc0, zc1, zc2, zc3⟩ := z.cells
  go_enter Try.func15, Try.ntmps15
  go_wp2_with fail
  refine (hL _).mono ?_
  rintro en w1 ⟨rfl, b⟩
  replace x := x.under b
  replace y := y.under b
  replace z := z.under b
  replace kb := below_more kb kb.size b
  clear b xc0 xc1 xc2 xc3 yc0 yc1 yc2 yc3 zc0 zc1 zc2 zc3 hL
  obtain ⟨xc0, xc1, xc2, xc3⟩ := x.cells
  obtain ⟨yc0, yc1, yc2, yc3⟩ := y.cells
  obtain ⟨zc0, zc1, zc2, zc3⟩ := z.cells
  go_wp2_with fail
  refine (hL2 _).mono ?_
  rintro en w2 ⟨rfl, b⟩
  replace x := x.under b
  replace y := y.under b
  replace z := z.under b
  replace kb := below_more kb kb.size b
  clear b xc0 xc1 xc2 xc3 yc0 yc1 yc2 yc3 zc0 zc1 zc2 zc3 hL2
  obtain ⟨xc0, xc1, xc2, xc3⟩ := x.cells
  obtain ⟨yc0, yc1, yc2, yc3⟩ := y.cells
  obtain ⟨zc0, zc1, zc2, zc3⟩ := z.cells
  go_wp2_with fail
  refine (hM _).mono ?_
  rintro en w3 ⟨rfl, b⟩
  replace x := x.under (b.alloc b.size (.cells #[.int .i64 T, .int .i64 B] 25))
  replace y := y.under (b.alloc b.size (.cells #[.int .i64 T, .int .i64 B] 25))
  replace z := z.under (b.alloc b.size (.cells #[.int .i64 T, .int .i64 B] 25))
  have p := Box.new w3 T B 25
  replace kb := below_more kb kb.size (b.alloc b.size (.cells #[.int .i64 T, .int .i64 B] 25))
  clear b xc0 xc1 xc2 xc3 yc0 yc1 yc2 yc3 zc0 zc1 zc2 zc3 hM
  go_upto_region 4 with fail
  generalize w3.heap.size = q1 at p ⊢
  generalize w3.alloc (.cells #[.int .i64 T, .int .i64 B] 25) = w4 at p x y z kb ⊢
  obtain ⟨xc0, xc1, xc2, xc3⟩ := x.cells
  obtain ⟨yc0, yc1, yc2, yc3⟩ := y.cells
  obtain ⟨zc0, zc1, zc2, zc3⟩ := z.cells
  obtain ⟨pc0, pc1⟩ := p.cells
  go_wp2_with fail
  refine (hS _).mono ?_
  rintro en w5 ⟨rfl, b⟩
  replace x := x.under (b.alloc b.size (.cells #[.int .i64 X, .int .i64 Y] 25))
  replace y := y.under (b.alloc b.size (.cells #[.int .i64 X, .int .i64 Y] 25))
  replace z := z.under (b.alloc b.size (.cells #[.int .i64 X, .int .i64 Y] 25))
  replace p := p.under (b.alloc b.size (.cells #[.int .i64 X, .int .i64 Y] 25))
  have q := Box.new w5 X Y 25
  replace kb := below_more kb kb.size (b.alloc b.size (.cells #[.int .i64 X, .int .i64 Y] 25))
  clear b xc0 xc1 xc2 xc3 yc0 yc1 yc2 yc3 zc0 zc1 zc2 zc3 pc0 pc1 hS
  go_upto_region 7 with fail
  generalize w5.heap.size = q2 at q ⊢
  generalize w5.alloc (.cells #[.int .i64 X, .int .i64 Y] 25) = w6 at q x y z p kb ⊢
  obtain ⟨xc0, xc1, xc2, xc3⟩ := x.cells
  obtain ⟨yc0, yc1, yc2, yc3⟩ := y.cells
  obtain ⟨zc0, zc1, zc2, zc3⟩ := z.cells
  obtain ⟨pc0, pc1⟩ := p.cells
  obtain ⟨qc0, qc1⟩ := q.cells
  obtain ⟨zf0, zf1, zf2, zf3⟩ := z.free
  go_wp2_with fail
  (try simp only [Exit.inBlock, Exit.then])
  refine bodyPost_ret (v := .tuple #[.agg #[.int .i64 0, .int .i64 0, .int .i64 0, .int .i64 0], .bool false]) ?_ rfl ⟨rfl, ?_⟩
  · rw [results_cell_tmp rfl]
    go_simp
  · repeat' (first | exact kb | refine Below.setCell ?_ (by simp <;> omega) _)

theorem implCh_yes (a b c d e f g h T B X Y : Int) (w : World) (h1 : lnOk a b c d = true) (h2 : lnOk e f g h = true)
    (hM : ∀ W : World, Calls Try.prog 37 #[.agg #[.int .i64 c, .int .i64 d], .agg #[.int .i64 g, .int .i64 h]] W (SaysF T B true W))
    (hS : ∀ W : World, Calls Try.prog 11 #[.agg #[.int .i64 e, .int .i64 f, .int .i64 g, .int .i64 h], .agg #[.int .i64 a, .int .i64 b]] W (SaysF X Y true W)) :
    Calls Try.prog 15 #[.agg #[.int .i64 a, .int .i64 b, .int .i64 c, .int .i64 d], .agg #[.int .i64 e, .int .i64 f, .int .i64 g, .int .i64 h]] w (SaysL X Y T B true w) := by
  have hL := fun W => implLok_any a b c d W
  rw [h1] at hL
  have hL2 := fun W => implLok_any e f g h W
  rw [h2] at hL2
  clear h1 h2
  obtain ⟨x, y, z, kb⟩ := bx_444 w a b c d 27 e f g h 27 0 0 0 0 27
  obtain ⟨xc0, xc1, xc2, xc3⟩ := x.cells
  obtain ⟨yc0, yc1, yc2, yc3⟩ := y.cells
  obtain ⟨zc0, zc1, zc2, zc3⟩ := z.cells
  go_enter Try.func15, Try.ntmps15
  go_wp2_with fail
  refine (hL _).mono ?_
  rintro en w1 ⟨rfl, b⟩
  replace x := x.under b
  replace y := y.under b
  replace z := z.under b
  replace kb := below_more kb kb.size b
  clear b xc0 xc1 xc2 xc3 yc0 yc1 yc2 yc3 zc0 zc1 zc2 zc3 hL
  obtain ⟨xc0, xc1, xc2, xc3⟩ := x.cells
  obtain ⟨yc0, yc1, yc2, yc3⟩ := y.cells
  obtain ⟨zc0, zc1, zc2, zc3⟩ := z.cells
  go_wp2_with fail
  refine (hL2 _).mono ?_
  rintro en w2 ⟨rfl, b⟩
  replace x := x.under b
  replace y := y.under b
  replace z := z.under b
  replace kb := below_more kb kb.size b
  clear b xc0 xc1 xc2 xc3 yc0 yc1 yc2 yc3 zc0 zc1 zc2 zc3 hL2
  obtain ⟨xc0, xc1, xc2, xc3⟩ := x.cells
  obtain ⟨yc0, yc1, yc2, yc3⟩ := y.cells
  obtain ⟨zc0, zc1, zc2, zc3⟩ := z.cells
  go_wp2_with fail
  refine (hM _).mono ?_
  rintro en w3 ⟨rfl, b⟩
  replace x := x.under (b.alloc b.size (.cells #[.int .i64 T, .int .i64 B] 25))
  replace y := y.under (b.alloc b.size (.cells #[.int .i64 T, .int .i64 B] 25))
  replace z := z.under (b.alloc b.size (.cells #[.int .i64 T, .int .i64 B] 25))
  have p := Box.new w3 T B 25
  replace kb := below_more kb kb.size (b.alloc b.size (.cells #[.int .i64 T, .int .i64 B] 25))
  clear b xc0 xc1 xc2 xc3 yc0 yc1 yc2 yc3 zc0 zc1 zc2 zc3 hM
  go_upto_region 4 with fail
  generalize w3.heap.size = q1 at p ⊢
  generalize w3.alloc (.cells #[.int .i64 T, .int .i64 B] 25) = w4 at p x y z kb ⊢
  obtain ⟨xc0, xc1, xc2, xc3⟩ := x.cells
  obtain ⟨yc0, yc1, yc2, yc3⟩ := y.cells
  obtain ⟨zc0, zc1, zc2, zc3⟩ := z.cells
  obtain ⟨pc0, pc1⟩ := p.cells
  go_wp2_with fail
  refine (hS _).mono ?_
  rintro en w5 ⟨rfl, b⟩
  replace x := x.under (b.alloc b.size (.cells #[.int .i64 X, .int .i64 Y] 25))
  replace y := y.under (b.alloc b.size (.cells #[.int .i64 X, .int .i64 Y] 25))
  replace z := z.under (b.alloc b.size (.cells #[.int .i64 X, .int .i64 Y] 25))
  replace p := p.under (b.alloc b.size (.cells #[.int .i64 X, .int .i64 Y] 25))
  have q := Box.new w5 X Y 25
  replace kb := below_more kb kb.size (b.alloc b.size (.cells #[.int .i64 X, .int .i64 Y] 25))
  clear b xc0 xc1 xc2 xc3 yc0 yc1 yc2 yc3 zc0 zc1 zc2 zc3 pc0 pc1 hS
  go_upto_region 7 with fail
  generalize w5.heap.size = q2 at q ⊢
  generalize w5.alloc (.cells #[.int .i64 X, .int .i64 Y] 25) = w6 at q x y z p kb ⊢
  obtain ⟨xc0, xc1, xc2, xc3⟩ := x.cells
  obtain ⟨yc0, yc1, yc2, yc3⟩ := y.cells
  obtain ⟨zc0, zc1, zc2, zc3⟩ := z.cells
  obtain ⟨pc0, pc1⟩ := p.cells
  obtain ⟨qc0, qc1⟩ := q.cells
  obtain ⟨zf0, zf1, zf2, zf3⟩ := z.free
  go_wp2_with fail
  (try simp only [Exit.inBlock, Exit.then])
  refine bodyPost_ret (v := .tuple #[.agg #[.int .i64 X, .int .i64 Y, .int .i64 T, .int .i64 B], .bool true]) ?_ rfl ⟨rfl, ?_⟩
  · rw [results_cell_tmp rfl]
    go_simp
  · repeat' (first | exact kb | refine Below.setCell ?_ (by simp <;> omega) _)

end Go.Proofs.Ytploanbnbkhciaa
