/-
  The contracts of the model's functions on lines. Only new memory is written.
-/
import Derived.Test.YtploanbnbkhciaaLine
import Derived.Test.YtploanbnbkhciaaBxLine
import Derived.Test.YtploanbnbkhciaaTimesS
import Derived.Test.YtploanbnbkhciaaAddS
import Derived.Deep.RegionLaw
import Derived.Deep.DeepCutAuto
import Derived.Deep.RegionHeld3
namespace Go.Proofs.Ytploanbnbkhciaa
open Go.ChangeShapes Go.WideShapes Go.ChangeAt Go.RowKit Go.PlainAid

theorem specLok_no1 (a b c d : Int) (w : World) (h1 : okF a b = false) :
    Calls Try.prog 17 #[.agg #[.int .i64 a, .int .i64 b, .int .i64 c, .int .i64 d]] w (SaysB false w) := by
  have hV := fun W => specOk_any a b W
  rw [h1] at hV
  clear h1
  obtain ⟨x, kb⟩ := bx_4 w a b c d 27
  obtain ⟨xc0, xc1, xc2, xc3⟩ := x.cells
  go_enter Try.func17, Try.ntmps17
  go_wp2_with fail
  refine (hV _).mono ?_
  rintro en w1 ⟨rfl, b⟩
  replace x := x.under b
  replace kb := below_more kb kb.size b
  clear b xc0 xc1 xc2 xc3 hV
  obtain ⟨xc0, xc1, xc2, xc3⟩ := x.cells
  go_wp2_with fail
  go_ret
  exact ⟨rfl, kb⟩

theorem specLok_no2 (a b c d : Int) (w : World) (h1 : okF a b = true) (h2 : okF c d = false) :
    Calls Try.prog 17 #[.agg #[.int .i64 a, .int .i64 b, .int .i64 c, .int .i64 d]] w (SaysB false w) := by
  have hV := fun W => specOk_any a b W
  rw [h1] at hV
  have hW := fun W => specOk_any c d W
  rw [h2] at hW
  clear h1 h2
  obtain ⟨x, kb⟩ := bx_4 w a b c d 27
  obtain ⟨xc0, xc1, xc2, xc3⟩ := x.cells
  go_enter Try.func17, Try.ntmps17
  go_wp2_with fail
  refine (hV _).mono ?_
  rintro en w1 ⟨rfl, b⟩
  replace x := x.under b
  replace kb := below_more kb kb.size b
  clear b xc0 xc1 xc2 xc3 hV
  obtain ⟨xc0, xc1, xc2, xc3⟩ := x.cells
  go_wp2_with fail
  refine (hW _).mono ?_
  rintro en w2 ⟨rfl, b⟩
  replace x := x.under b
  replace kb := below_more kb kb.size b
  clear b xc0 xc1 xc2 xc3 hW
  obtain ⟨xc0, xc1, xc2, xc3⟩ := x.cells
  go_wp2_with fail
  go_ret
  exact ⟨rfl, kb⟩

theorem specLok_yes (a b c d : Int) (w : World) (h1 : okF a b = true) (h2 : okF c d = true) :
    Calls Try.prog 17 #[.agg #[.int .i64 a, .int .i64 b, .int .i64 c, .int .i64 d]] w (SaysB (decide (0 < c)) w) := by
  have hV := fun W => specOk_any a b W
  rw [h1] at hV
  have hW := fun W => specOk_any c d W
  rw [h2] at hW
  clear h1 h2
  obtain ⟨x, kb⟩ := bx_4 w a b c d 27
  obtain ⟨xc0, xc1, xc2, xc3⟩ := x.cells
  go_enter Try.func17, Try.ntmps17
  go_wp2_with fail
  refine (hV _).mono ?_
  rintro en w1 ⟨rfl, b⟩
  replace x := x.under b
  replace kb := below_more kb kb.size b
  clear b xc0 xc1 xc2 xc3 hV
  obtain ⟨xc0, xc1, xc2, xc3⟩ := x.cells
  go_wp2_with fail
  refine (hW _).mono ?_
  rintro en w2 ⟨rfl, b⟩
  replace x := x.under b
  replace kb := below_more kb kb.size b
  clear b xc0 xc1 xc2 xc3 hW
  obtain ⟨xc0, xc1, xc2, xc3⟩ := x.cells
  go_wp2_with fail
  go_ret
  exact ⟨rfl, kb⟩

theorem specLok_any (a b c d : Int) (w : World) :
    Calls Try.prog 17 #[.agg #[.int .i64 a, .int .i64 b, .int .i64 c, .int .i64 d]] w (SaysB (lnOk a b c d) w) := by
  unfold lnOk
  cases h1 : okF a b
  · exact specLok_no1 a b c d w h1
  · cases h2 : okF c d
    · exact specLok_no2 a b c d w h1 h2
    · exact specLok_yes a b c d w h1 h2

theorem minus_exact (t b : Int) (w : World) (h0 : -1000000 ≤ t) (h1 : t ≤ 1000000) : Calls Try.prog 41 #[.agg #[.int .i64 t, .int .i64 b]] w fun e w' => e = .returned (.agg #[.int .i64 (-t), .int .i64 b]) ∧ w' = (w.alloc (.cells #[.int .i64 t, .int .i64 b] 25)).alloc (.cells #[.int .i64 (-t), .int .i64 b] 25) := by
  go_enter Try.func41, Try.ntmps41
  go_wp2_with fail
  (try simp only [Exit.inBlock, Exit.then])
  refine bodyPost_ret (v := .agg #[.int .i64 (-t), .int .i64 b]) ?_ rfl ⟨rfl, rfl⟩
  rw [results_cell_one rfl]
  go_simp

theorem specOver_mk (t b x y m1 m2 T B : Int) (O : Bool) (w : World) (e1 : t * y = m1) (e2 : b * x = m2) (l1 : -1000000000000 ≤ m1) (l2 : m1 ≤ 1000000000000) (l3 : -1000000000000 ≤ m2) (l4 : m2 ≤ 1000000000000)
    (hM : ∀ W : World, Calls Try.prog 43 #[.int .i64 m1, .int .i64 m2] W (SaysF T B O W)) :
    Calls Try.prog 42 #[.agg #[.int .i64 t, .int .i64 b], .agg #[.int .i64 x, .int .i64 y]] w (SaysF T B O w) := by
  obtain ⟨x1, y1, z, kb⟩ := bx_222 w t b 25 x y 25 0 0 25
  obtain ⟨x1c0, x1c1⟩ := x1.cells
  obtain ⟨y1c0, y1c1⟩ := y1.cells
  obtain ⟨zc0, zc1⟩ := z.cells
  go_enter Try.func42, Try.ntmps42
  go_wp2_with fail
  refine (hM _).mono ?_
  rintro en w1 ⟨rfl, b⟩
  replace x1 := x1.under b
  replace y1 := y1.under b
  replace z := z.under b
  replace kb := below_more kb kb.size b
  clear b x1c0 x1c1 y1c0 y1c1 zc0 zc1 hM
  clear x1 y1
  obtain ⟨zc0, zc1⟩ := z.cells
  obtain ⟨zf0, zf1⟩ := z.free
  go_wp2_with fail
  (try simp only [Exit.inBlock, Exit.then])
  refine bodyPost_ret (v := .tuple #[.agg #[.int .i64 T, .int .i64 B], .bool O]) ?_ rfl ⟨rfl, ?_⟩
  · rw [results_cell_tmp rfl]
    go_simp
  · repeat' (first | exact kb | refine Below.setCell ?_ (by simp <;> omega) _)

theorem specShown_no1 (a b c d t u : Int) (w : World) (h1 : lnOk a b c d = false) :
    Calls Try.prog 19 #[.agg #[.int .i64 a, .int .i64 b, .int .i64 c, .int .i64 d], .agg #[.int .i64 t, .int .i64 u]] w (SaysF 0 0 false w) := by
  have hL := fun W => specLok_any a b c d W
  rw [h1] at hL
  clear h1
  obtain ⟨x, y, z, kb⟩ := bx_422 w a b c d 27 t u 25 0 0 25
  obtain ⟨xc0, xc1, xc2, xc3⟩ := x.cells
  obtain ⟨yc0, yc1⟩ := y.cells
  obtain ⟨zc0, zc1⟩ := z.cells
  go_enter Try.func19, Try.ntmps19
  go_wp2_with fail
  refine (hL _).mono ?_
  rintro en w1 ⟨rfl, b⟩
  replace x := x.under b
  replace y := y.under b
  replace z := z.under b
  replace kb := below_more kb kb.size b
  clear b xc0 xc1 xc2 xc3 yc0 yc1 zc0 zc1 hL
  obtain ⟨xc0, xc1, xc2, xc3⟩ := x.cells
  obtain ⟨yc0, yc1⟩ := y.cells
  obtain ⟨zc0, zc1⟩ := z.cells
  obtain ⟨zf0, zf1⟩ := z.free
  go_wp2_with fail
  (try simp only [Exit.inBlock, Exit.then])
  refine bodyPost_ret (v := .tuple #[.agg #[.int .i64 0, .int .i64 0], .bool false]) ?_ rfl ⟨rfl, ?_⟩
  · rw [results_cell_tmp rfl]
    go_simp
  · repeat' (first | exact kb | refine Below.setCell ?_ (by simp <;> omega) _)

theorem specShown_no2 (a b c d t u T B : Int) (w : World) (h1 : lnOk a b c d = true)
    (hM : ∀ W : World, Calls Try.prog 39 #[.agg #[.int .i64 c, .int .i64 d], .agg #[.int .i64 t, .int .i64 u]] W (SaysF T B false W)) :
    Calls Try.prog 19 #[.agg #[.int .i64 a, .int .i64 b, .int .i64 c, .int .i64 d], .agg #[.int .i64 t, .int .i64 u]] w (SaysF 0 0 false w) := by
  have hL := fun W => specLok_any a b c d W
  rw [h1] at hL
  clear h1
  obtain ⟨x, y, z, kb⟩ := bx_422 w a b c d 27 t u 25 0 0 25
  obtain ⟨xc0, xc1, xc2, xc3⟩ := x.cells
  obtain ⟨yc0, yc1⟩ := y.cells
  obtain ⟨zc0, zc1⟩ := z.cells
  go_enter Try.func19, Try.ntmps19
  go_wp2_with fail
  refine (hL _).mono ?_
  rintro en w1 ⟨rfl, b⟩
  replace x := x.under b
  replace y := y.under b
  replace z := z.under b
  replace kb := below_more kb kb.size b
  clear b xc0 xc1 xc2 xc3 yc0 yc1 zc0 zc1 hL
  obtain ⟨xc0, xc1, xc2, xc3⟩ := x.cells
  obtain ⟨yc0, yc1⟩ := y.cells
  obtain ⟨zc0, zc1⟩ := z.cells
  go_wp2_with fail
  refine (hM _).mono ?_
  rintro en w2 ⟨rfl, b⟩
  replace x := x.under (b.alloc b.size (.cells #[.int .i64 T, .int .i64 B] 25))
  replace y := y.under (b.alloc b.size (.cells #[.int .i64 T, .int .i64 B] 25))
  replace z := z.under (b.alloc b.size (.cells #[.int .i64 T, .int .i64 B] 25))
  have p := Box.new w2 T B 25
  replace kb := below_more kb kb.size (b.alloc b.size (.cells #[.int .i64 T, .int .i64 B] 25))
  clear b xc0 xc1 xc2 xc3 yc0 yc1 zc0 zc1 hM
  go_upto_region 4 with fail
  generalize w2.heap.size = q1 at p ⊢
  generalize w2.alloc (.cells #[.int .i64 T, .int .i64 B] 25) = w3 at p x y z kb ⊢
  obtain ⟨xc0, xc1, xc2, xc3⟩ := x.cells
  obtain ⟨yc0, yc1⟩ := y.cells
  obtain ⟨zc0, zc1⟩ := z.cells
  obtain ⟨pc0, pc1⟩ := p.cells
  obtain ⟨zf0, zf1⟩ := z.free
  go_wp2_with fail
  (try simp only [Exit.inBlock, Exit.then])
  refine bodyPost_ret (v := .tuple #[.agg #[.int .i64 0, .int .i64 0], .bool false]) ?_ rfl ⟨rfl, ?_⟩
  · rw [results_cell_tmp rfl]
    go_simp
  · repeat' (first | exact kb | refine Below.setCell ?_ (by simp <;> omega) _)

theorem specShown_yes (a b c d t u T B X Y : Int) (w : World) (O : Bool) (h1 : lnOk a b c d = true)
    (hM : ∀ W : World, Calls Try.prog 39 #[.agg #[.int .i64 c, .int .i64 d], .agg #[.int .i64 t, .int .i64 u]] W (SaysF T B true W))
    (hA : ∀ W : World, Calls Try.prog 40 #[.agg #[.int .i64 a, .int .i64 b], .agg #[.int .i64 T, .int .i64 B]] W (SaysF X Y O W)) :
    Calls Try.prog 19 #[.agg #[.int .i64 a, .int .i64 b, .int .i64 c, .int .i64 d], .agg #[.int .i64 t, .int .i64 u]] w (SaysF X Y O w) := by
  have hL := fun W => specLok_any a b c d W
  rw [h1] at hL
  clear h1
  obtain ⟨x, y, z, kb⟩ := bx_422 w a b c d 27 t u 25 0 0 25
  obtain ⟨xc0, xc1, xc2, xc3⟩ := x.cells
  obtain ⟨yc0, yc1⟩ := y.cells
  obtain ⟨zc0, zc1⟩ := z.cells
  go_enter Try.func19, Try.ntmps19
  go_wp2_with fail
  refine (hL _).mono ?_
  rintro en w1 ⟨rfl, b⟩
  replace x := x.under b
  replace y := y.under b
  replace z := z.under b
  replace kb := below_more kb kb.size b
  clear b xc0 xc1 xc2 xc3 yc0 yc1 zc0 zc1 hL
  obtain ⟨xc0, xc1, xc2, xc3⟩ := x.cells
  obtain ⟨yc0, yc1⟩ := y.cells
  obtain ⟨zc0, zc1⟩ := z.cells
  go_wp2_with fail
  refine (hM _).mono ?_
  rintro en w2 ⟨rfl, b⟩
  replace x := x.under (b.alloc b.size (.cells #[.int .i64 T, .int .i64 B] 25))
  replace y := y.under (b.alloc b.size (.cells #[.int .i64 T, .int .i64 B] 25))
  replace z := z.under (b.alloc b.size (.cells #[.int .i64 T, .int .i64 B] 25))
  have p := Box.new w2 T B 25
  replace kb := below_more kb kb.size (b.alloc b.size (.cells #[.int .i64 T, .int .i64 B] 25))
  clear b xc0 xc1 xc2 xc3 yc0 yc1 zc0 zc1 hM
  go_upto_region 4 with fail
  generalize w2.heap.size = q1 at p ⊢
  generalize w2.alloc (.cells #[.int .i64 T, .int .i64 B] 25) = w3 at p x y z kb ⊢
  obtain ⟨xc0, xc1, xc2, xc3⟩ := x.cells
  obtain ⟨yc0, yc1⟩ := y.cells
  obtain ⟨zc0, zc1⟩ := z.cells
  obtain ⟨pc0, pc1⟩ := p.cells
  go_wp2_with fail
  refine (hA _).mono ?_
  rintro en w4 ⟨rfl, b⟩
  replace x := x.under b
  replace y := y.under b
  replace z := z.under b
  replace p := p.under b
  replace kb := below_more kb kb.size b
  clear b xc0 xc1 xc2 xc3 yc0 yc1 zc0 zc1 pc0 pc1 hA
  clear x y p
  obtain ⟨zc0, zc1⟩ := z.cells
  obtain ⟨zf0, zf1⟩ := z.free
  go_wp2_with fail
  (try simp only [Exit.inBlock, Exit.then])
  refine bodyPost_ret (v := .tuple #[.agg #[.int .i64 X, .int .i64 Y], .bool O]) ?_ rfl ⟨rfl, ?_⟩
  · rw [results_cell_tmp rfl]
    go_simp
  · repeat' (first | exact kb | refine Below.setCell ?_ (by simp <;> omega) _)

theorem specCor_no1 (a b c d t u : Int) (w : World) (h1 : lnOk a b c d = false) :
    Calls Try.prog 22 #[.agg #[.int .i64 a, .int .i64 b, .int .i64 c, .int .i64 d], .agg #[.int .i64 t, .int .i64 u]] w (SaysF 0 0 false w) := by
  have hL := fun W => specLok_any a b c d W
  rw [h1] at hL
  clear h1
  obtain ⟨x, y, z, kb⟩ := bx_422 w a b c d 27 t u 25 0 0 25
  obtain ⟨xc0, xc1, xc2, xc3⟩ := x.cells
  obtain ⟨yc0, yc1⟩ := y.cells
  obtain ⟨zc0, zc1⟩ := z.cells
  go_enter Try.func22, Try.ntmps22
  go_wp2_with fail
  refine (hL _).mono ?_
  rintro en w1 ⟨rfl, b⟩
  replace x := x.under b
  replace y := y.under b
  replace z := z.under b
  replace kb := below_more kb kb.size b
  clear b xc0 xc1 xc2 xc3 yc0 yc1 zc0 zc1 hL
  obtain ⟨xc0, xc1, xc2, xc3⟩ := x.cells
  obtain ⟨yc0, yc1⟩ := y.cells
  obtain ⟨zc0, zc1⟩ := z.cells
  obtain ⟨zf0, zf1⟩ := z.free
  go_wp2_with fail
  (try simp only [Exit.inBlock, Exit.then])
  refine bodyPost_ret (v := .tuple #[.agg #[.int .i64 0, .int .i64 0], .bool false]) ?_ rfl ⟨rfl, ?_⟩
  · rw [results_cell_tmp rfl]
    go_simp
  · repeat' (first | exact kb | refine Below.setCell ?_ (by simp <;> omega) _)

theorem specCor_no2 (a b c d t u : Int) (w : World) (h1 : lnOk a b c d = true) (h2 : okF t u = false) :
    Calls Try.prog 22 #[.agg #[.int .i64 a, .int .i64 b, .int .i64 c, .int .i64 d], .agg #[.int .i64 t, .int .i64 u]] w (SaysF 0 0 false w) := by
  have hL := fun W => specLok_any a b c d W
  rw [h1] at hL
  have hF := fun W => specOk_any t u W
  rw [h2] at hF
  clear h1 h2
  obtain ⟨x, y, z, kb⟩ := bx_422 w a b c d 27 t u 25 0 0 25
  obtain ⟨xc0, xc1, xc2, xc3⟩ := x.cells
  obtain ⟨yc0, yc1⟩ := y.cells
  obtain ⟨zc0, zc1⟩ := z.cells
  go_enter Try.func22, Try.ntmps22
  go_wp2_with fail
  refine (hL _).mono ?_
  rintro en w1 ⟨rfl, b⟩
  replace x := x.under b
  replace y := y.under b
  replace z := z.under b
  replace kb := below_more kb kb.size b
  clear b xc0 xc1 xc2 xc3 yc0 yc1 zc0 zc1 hL
  obtain ⟨xc0, xc1, xc2, xc3⟩ := x.cells
  obtain ⟨yc0, yc1⟩ := y.cells
  obtain ⟨zc0, zc1⟩ := z.cells
  go_wp2_with fail
  refine (hF _).mono ?_
  rintro en w2 ⟨rfl, b⟩
  replace x := x.under b
  replace y := y.under b
  replace z := z.under b
  replace kb := below_more kb kb.size b
  clear b xc0 xc1 xc2 xc3 yc0 yc1 zc0 zc1 hF
  obtain ⟨xc0, xc1, xc2, xc3⟩ := x.cells
  obtain ⟨yc0, yc1⟩ := y.cells
  obtain ⟨zc0, zc1⟩ := z.cells
  obtain ⟨zf0, zf1⟩ := z.free
  go_wp2_with fail
  (try simp only [Exit.inBlock, Exit.then])
  refine bodyPost_ret (v := .tuple #[.agg #[.int .i64 0, .int .i64 0], .bool false]) ?_ rfl ⟨rfl, ?_⟩
  · rw [results_cell_tmp rfl]
    go_simp
  · repeat' (first | exact kb | refine Below.setCell ?_ (by simp <;> omega) _)

theorem specCor_no3 (a b c d t u T B : Int) (w : World) (h1 : lnOk a b c d = true) (h2 : okF t u = true) (l0 : -1000000 ≤ a) (l1 : a ≤ 1000000)
    (hA : ∀ W : World, Calls Try.prog 40 #[.agg #[.int .i64 t, .int .i64 u], .agg #[.int .i64 (-a), .int .i64 b]] W (SaysF T B false W)) :
    Calls Try.prog 22 #[.agg #[.int .i64 a, .int .i64 b, .int .i64 c, .int .i64 d], .agg #[.int .i64 t, .int .i64 u]] w (SaysF 0 0 false w) := by
  have hL := fun W => specLok_any a b c d W
  rw [h1] at hL
  have hF := fun W => specOk_any t u W
  rw [h2] at hF
  have hN := fun W => minus_exact a b W l0 l1
  clear h1 h2 l0 l1
  obtain ⟨x, y, z, kb⟩ := bx_422 w a b c d 27 t u 25 0 0 25
  obtain ⟨xc0, xc1, xc2, xc3⟩ := x.cells
  obtain ⟨yc0, yc1⟩ := y.cells
  obtain ⟨zc0, zc1⟩ := z.cells
  go_enter Try.func22, Try.ntmps22
  go_wp2_with fail
  refine (hL _).mono ?_
  rintro en w1 ⟨rfl, b⟩
  replace x := x.under b
  replace y := y.under b
  replace z := z.under b
  replace kb := below_more kb kb.size b
  clear b xc0 xc1 xc2 xc3 yc0 yc1 zc0 zc1 hL
  obtain ⟨xc0, xc1, xc2, xc3⟩ := x.cells
  obtain ⟨yc0, yc1⟩ := y.cells
  obtain ⟨zc0, zc1⟩ := z.cells
  go_wp2_with fail
  refine (hF _).mono ?_
  rintro en w2 ⟨rfl, b⟩
  replace x := x.under b
  replace y := y.under b
  replace z := z.under b
  replace kb := below_more kb kb.size b
  clear b xc0 xc1 xc2 xc3 yc0 yc1 zc0 zc1 hF
  obtain ⟨xc0, xc1, xc2, xc3⟩ := x.cells
  obtain ⟨yc0, yc1⟩ := y.cells
  obtain ⟨zc0, zc1⟩ := z.cells
  go_wp2_with fail
  clear xc0 xc1 xc2 xc3 yc0 yc1 zc0 zc1
  go_cut [6, 7] (fun s1 s2 wx => Boxed w2.heap.size w2 T B false s1 s2 wx)
  case first =>
    clear kb
    have ltx := x.lt
    have lty := y.lt
    go_region_held3 (fun W => (W.cell? ⟨w.heap.size, 0, none⟩ = some (.int .i64 a) ∧ W.cell? ⟨w.heap.size, 1, none⟩ = some (.int .i64 b) ∧ W.cell? ⟨w.heap.size, 2, none⟩ = some (.int .i64 c) ∧ W.cell? ⟨w.heap.size, 3, none⟩ = some (.int .i64 d)) ∧ (W.cell? ⟨w.heap.size + 1, 0, none⟩ = some (.int .i64 t) ∧ W.cell? ⟨w.heap.size + 1, 1, none⟩ = some (.int .i64 u))) (exact ⟨Quad.cells (t := 27) (by repeat' (first | with_reducible exact x | with_reducible exact y | with_reducible exact z | with_reducible refine Box.drew ?_ | with_reducible refine Quad.drew ?_ | with_reducible refine Box.alloc ?_ _ | with_reducible refine Quad.alloc ?_ _ | with_reducible refine Box.under ?_ k1 | with_reducible refine Quad.under ?_ k1 | with_reducible refine Box.other ?_ _ _ (by simp <;> omega) | with_reducible refine Quad.other ?_ _ _ (by simp <;> omega))), Box.cells (t := 25) (by repeat' (first | with_reducible exact x | with_reducible exact y | with_reducible exact z | with_reducible refine Box.drew ?_ | with_reducible refine Quad.drew ?_ | with_reducible refine Box.alloc ?_ _ | with_reducible refine Quad.alloc ?_ _ | with_reducible refine Box.under ?_ k1 | with_reducible refine Quad.under ?_ k1 | with_reducible refine Box.other ?_ _ _ (by simp <;> omega) | with_reducible refine Quad.other ?_ _ _ (by simp <;> omega)))⟩)
      (first | (go_at_call 41; (first | (with_reducible refine (hN _).mono ?_)); rintro e w' ⟨rfl, rfl⟩) | (go_at_call 40; refine (hA _).mono ?_; rintro e w1 ⟨rfl, k1⟩; have hc := fun (b o : Nat) (h : b < _) => k1.cell (p := ⟨b, o, none⟩) h; have hf := fun (b o : Nat) (h : b < _) => k1.frozen (p := ⟨b, o, none⟩) h))
    all_goals
      clear hc hf x y z
      go_wp2_with fail
      go_meet
      first | with_reducible refine boxed_new ?_ k1 ?_ | with_reducible refine boxed_set ?_ k1 ?_ ?_ ?_
    all_goals (repeat' (first | with_reducible exact Below.refl _ _ | with_reducible refine Below.drew ?_ | with_reducible refine Below.alloc ?_ ?_ _ | with_reducible refine Box.new_at ?_ | with_reducible refine Box.drew ?_ | with_reducible refine Box.alloc ?_ _))
    all_goals (first | omega | (simp <;> omega) | trace_state)
  case rest =>
    obtain ⟨q1, rfl, rfl, p, kx⟩ := hcut
    replace x := x.keep kx x.lt
    replace y := y.keep kx y.lt
    replace z := z.keep kx z.lt
    replace kb := kb.trans (kx.mono kb.size)
    clear kx hN hA
    go_upto_region 4 with fail
    obtain ⟨xc0, xc1, xc2, xc3⟩ := x.cells
    obtain ⟨yc0, yc1⟩ := y.cells
    obtain ⟨zc0, zc1⟩ := z.cells
    obtain ⟨pc0, pc1⟩ := p.cells
    obtain ⟨zf0, zf1⟩ := z.free
    go_wp2_with fail
    (try simp only [Exit.inBlock, Exit.then])
    refine bodyPost_ret (v := .tuple #[.agg #[.int .i64 0, .int .i64 0], .bool false]) ?_ rfl ⟨rfl, ?_⟩
    · rw [results_cell_tmp rfl]
      go_simp
    · repeat' (first | exact kb | refine Below.setCell ?_ (by simp <;> omega) _)

theorem specCor_yes (a b c d t u T B X Y : Int) (w : World) (O : Bool) (h1 : lnOk a b c d = true) (h2 : okF t u = true) (l0 : -1000000 ≤ a) (l1 : a ≤ 1000000)
    (hA : ∀ W : World, Calls Try.prog 40 #[.agg #[.int .i64 t, .int .i64 u], .agg #[.int .i64 (-a), .int .i64 b]] W (SaysF T B true W))
    (hO : ∀ W : World, Calls Try.prog 42 #[.agg #[.int .i64 T, .int .i64 B], .agg #[.int .i64 c, .int .i64 d]] W (SaysF X Y O W)) :
    Calls Try.prog 22 #[.agg #[.int .i64 a, .int .i64 b, .int .i64 c, .int .i64 d], .agg #[.int .i64 t, .int .i64 u]] w (SaysF X Y O w) := by
  have hL := fun W => specLok_any a b c d W
  rw [h1] at hL
  have hF := fun W => specOk_any t u W
  rw [h2] at hF
  have hN := fun W => minus_exact a b W l0 l1
  clear h1 h2 l0 l1
  obtain ⟨x, y, z, kb⟩ := bx_422 w a b c d 27 t u 25 0 0 25
  obtain ⟨xc0, xc1, xc2, xc3⟩ := x.cells
  obtain ⟨yc0, yc1⟩ := y.cells
  obtain ⟨zc0, zc1⟩ := z.cells
  go_enter Try.func22, Try.ntmps22
  go_wp2_with fail
  refine (hL _).mono ?_
  rintro en w1 ⟨rfl, b⟩
  replace x := x.under b
  replace y := y.under b
  replace z := z.under b
  replace kb := below_more kb kb.size b
  clear b xc0 xc1 xc2 xc3 yc0 yc1 zc0 zc1 hL
  obtain ⟨xc0, xc1, xc2, xc3⟩ := x.cells
  obtain ⟨yc0, yc1⟩ := y.cells
  obtain ⟨zc0, zc1⟩ := z.cells
  go_wp2_with fail
  refine (hF _).mono ?_
  rintro en w2 ⟨rfl, b⟩
  replace x := x.under b
  replace y := y.under b
  replace z := z.under b
  replace kb := below_more kb kb.size b
  clear b xc0 xc1 xc2 xc3 yc0 yc1 zc0 zc1 hF
  obtain ⟨xc0, xc1, xc2, xc3⟩ := x.cells
  obtain ⟨yc0, yc1⟩ := y.cells
  obtain ⟨zc0, zc1⟩ := z.cells
  go_wp2_with fail
  clear xc0 xc1 xc2 xc3 yc0 yc1 zc0 zc1
  go_cut [6, 7] (fun s1 s2 wx => Boxed w2.heap.size w2 T B true s1 s2 wx)
  case first =>
    clear kb
    have ltx := x.lt
    have lty := y.lt
    go_region_held3 (fun W => (W.cell? ⟨w.heap.size, 0, none⟩ = some (.int .i64 a) ∧ W.cell? ⟨w.heap.size, 1, none⟩ = some (.int .i64 b) ∧ W.cell? ⟨w.heap.size, 2, none⟩ = some (.int .i64 c) ∧ W.cell? ⟨w.heap.size, 3, none⟩ = some (.int .i64 d)) ∧ (W.cell? ⟨w.heap.size + 1, 0, none⟩ = some (.int .i64 t) ∧ W.cell? ⟨w.heap.size + 1, 1, none⟩ = some (.int .i64 u))) (exact ⟨Quad.cells (t := 27) (by repeat' (first | with_reducible exact x | with_reducible exact y | with_reducible exact z | with_reducible refine Box.drew ?_ | with_reducible refine Quad.drew ?_ | with_reducible refine Box.alloc ?_ _ | with_reducible refine Quad.alloc ?_ _ | with_reducible refine Box.under ?_ k1 | with_reducible refine Quad.under ?_ k1 | with_reducible refine Box.other ?_ _ _ (by simp <;> omega) | with_reducible refine Quad.other ?_ _ _ (by simp <;> omega))), Box.cells (t := 25) (by repeat' (first | with_reducible exact x | with_reducible exact y | with_reducible exact z | with_reducible refine Box.drew ?_ | with_reducible refine Quad.drew ?_ | with_reducible refine Box.alloc ?_ _ | with_reducible refine Quad.alloc ?_ _ | with_reducible refine Box.under ?_ k1 | with_reducible refine Quad.under ?_ k1 | with_reducible refine Box.other ?_ _ _ (by simp <;> omega) | with_reducible refine Quad.other ?_ _ _ (by simp <;> omega)))⟩)
      (first | (go_at_call 41; (first | (with_reducible refine (hN _).mono ?_)); rintro e w' ⟨rfl, rfl⟩) | (go_at_call 40; refine (hA _).mono ?_; rintro e w1 ⟨rfl, k1⟩; have hc := fun (b o : Nat) (h : b < _) => k1.cell (p := ⟨b, o, none⟩) h; have hf := fun (b o : Nat) (h : b < _) => k1.frozen (p := ⟨b, o, none⟩) h))
    all_goals
      clear hc hf x y z
      go_wp2_with fail
      go_meet
      first | with_reducible refine boxed_new ?_ k1 ?_ | with_reducible refine boxed_set ?_ k1 ?_ ?_ ?_
    all_goals (repeat' (first | with_reducible exact Below.refl _ _ | with_reducible refine Below.drew ?_ | with_reducible refine Below.alloc ?_ ?_ _ | with_reducible refine Box.new_at ?_ | with_reducible refine Box.drew ?_ | with_reducible refine Box.alloc ?_ _))
    all_goals (first | omega | (simp <;> omega) | trace_state)
  case rest =>
    obtain ⟨q1, rfl, rfl, p, kx⟩ := hcut
    replace x := x.keep kx x.lt
    replace y := y.keep kx y.lt
    replace z := z.keep kx z.lt
    replace kb := kb.trans (kx.mono kb.size)
    clear kx hN hA
    go_upto_region 4 with fail
    obtain ⟨xc0, xc1, xc2, xc3⟩ := x.cells
    obtain ⟨yc0, yc1⟩ := y.cells
    obtain ⟨zc0, zc1⟩ := z.cells
    obtain ⟨pc0, pc1⟩ := p.cells
    go_wp2_with fail
    refine (hO _).mono ?_
    rintro en w4 ⟨rfl, b⟩
    replace x := x.under b
    replace y := y.under b
    replace z := z.under b
    replace p := p.under b
    replace kb := below_more kb kb.size b
    clear b xc0 xc1 xc2 xc3 yc0 yc1 zc0 zc1 pc0 pc1 hO
    clear x y p
    obtain ⟨zc0, zc1⟩ := z.cells
    obtain ⟨zf0, zf1⟩ := z.free
    go_wp2_with fail
    (try simp only [Exit.inBlock, Exit.then])
    refine bodyPost_ret (v := .tuple #[.agg #[.int .i64 X, .int .i64 Y], .bool O]) ?_ rfl ⟨rfl, ?_⟩
    · rw [results_cell_tmp rfl]
      go_simp
    · repeat' (first | exact kb | refine Below.setCell ?_ (by simp <;> omega) _)

theorem specCh_no1 (a b c d e f g h : Int) (w : World) (h1 : lnOk a b c d = false) :
    Calls Try.prog 25 #[.agg #[.int .i64 a, .int .i64 b, .int .i64 c, .int .i64 d], .agg #[.int .i64 e, .int .i64 f, .int .i64 g, .int .i64 h]] w (SaysL 0 0 0 0 false w) := by
  have hL := fun W => specLok_any a b c d W
  rw [h1] at hL
  clear h1
  obtain ⟨x, y, z, kb⟩ := bx_444 w a b c d 27 e f g h 27 0 0 0 0 27
  obtain ⟨xc0, xc1, xc2, xc3⟩ := x.cells
  obtain ⟨yc0, yc1, yc2, yc3⟩ := y.cells
  obtain ⟨zc0, zc1, zc2, zc3⟩ := z.cells
  go_enter Try.func25, Try.ntmps25
  go_wp2_with fail
  refine (hL _).mono ?_
  rintro en w1 ⟨rfl, b⟩
  replace x := x.under b
  replace y := y.under b
  replace z := z.under b
  replace kb := below_more kb kb.size b
  clear b xc0 xc1 xc2 xc3 yc0 yc1 yc2 yc3 zc0 zc1 zc2 zc3 hL
  obtain ⟨xc0, xc1, xc2, xc3⟩ := x.cells
  obtain ⟨yc0, yc1, yc2, yc3⟩ := y.cells
  obtain ⟨zc0, zc1, zc2, zc3⟩ := z.cells
  obtain ⟨zf0, zf1, zf2, zf3⟩ := z.free
  go_wp2_with fail
  (try simp only [Exit.inBlock, Exit.then])
  refine bodyPost_ret (v := .tuple #[.agg #[.int .i64 0, .int .i64 0, .int .i64 0, .int .i64 0], .bool false]) ?_ rfl ⟨rfl, ?_⟩
  · rw [results_cell_tmp rfl]
    go_simp
  · repeat' (first | exact kb | refine Below.setCell ?_ (by simp <;> omega) _)

theorem specCh_no2 (a b c d e f g h : Int) (w : World) (h1 : lnOk a b c d = true) (h2 : lnOk e f g h = false) :
    Calls Try.prog 25 #[.agg #[.int .i64 a, .int .i64 b, .int .i64 c, .int .i64 d], .agg #[.int .i64 e, .int .i64 f, .int .i64 g, .int .i64 h]] w (SaysL 0 0 0 0 false w) := by
  have hL := fun W => specLok_any a b c d W
  rw [h1] at hL
  have hL2 := fun W => specLok_any e f g h W
  rw [h2] at hL2
  clear h1 h2
  obtain ⟨x, y, z, kb⟩ := bx_444 w a b c d 27 e f g h 27 0 0 0 0 27
  obtain ⟨xc0, xc1, xc2, xc3⟩ := x.cells
  obtain ⟨yc0, yc1, yc2, yc3⟩ := y.cells
  obtain ⟨zc0, zc1, zc2, zc3⟩ := z.cells
  go_enter Try.func25, Try.ntmps25
  go_wp2_with fail
  refine (hL _).mono ?_
  rintro en w1 ⟨rfl, b⟩
  replace x := x.under b
  replace y := y.under b
  replace z := z.under b
  replace kb := below_more kb kb.size b
  clear b xc0 xc1 xc2 xc3 yc0 yc1 yc2 yc3 zc0 zc1 zc2 zc3 hL
  obtain ⟨xc0, xc1, xc2, xc3⟩ := x.cells
  obtain ⟨yc0, yc1, yc2, yc3⟩ := y.cells
  obtain ⟨zc0, zc1, zc2, zc3⟩ := z.cells
  go_wp2_with fail
  refine (hL2 _).mono ?_
  rintro en w2 ⟨rfl, b⟩
  replace x := x.under b
  replace y := y.under b
  replace z := z.under b
  replace kb := below_more kb kb.size b
  clear b xc0 xc1 xc2 xc3 yc0 yc1 yc2 yc3 zc0 zc1 zc2 zc3 hL2
  obtain ⟨xc0, xc1, xc2, xc3⟩ := x.cells
  obtain ⟨yc0, yc1, yc2, yc3⟩ := y.cells
  obtain ⟨zc0, zc1, zc2, zc3⟩ := z.cells
  obtain ⟨zf0, zf1, zf2, zf3⟩ := z.free
  go_wp2_with fail
  (try simp only [Exit.inBlock, Exit.then])
  refine bodyPost_ret (v := .tuple #[.agg #[.int .i64 0, .int .i64 0, .int .i64 0, .int .i64 0], .bool false]) ?_ rfl ⟨rfl, ?_⟩
  · rw [results_cell_tmp rfl]
    go_simp
  · repeat' (first | exact kb | refine Below.setCell ?_ (by simp <;> omega) _)

theorem specCh_no3 (a b c d e f g h T B X Y : Int) (w : World) (O2 : Bool) (h1 : lnOk a b c d = true) (h2 : lnOk e f g h = true)
    (hM : ∀ W : World, Calls Try.prog 39 #[.agg #[.int .i64 g, .int .i64 h], .agg #[.int .i64 c, .int .i64 d]] W (SaysF T B false W))
    (hS : ∀ W : World, Calls Try.prog 19 #[.agg #[.int .i64 e, .int .i64 f, .int .i64 g, .int .i64 h], .agg #[.int .i64 a, .int .i64 b]] W (SaysF X Y O2 W)) :
    Calls Try.prog 25 #[.agg #[.int .i64 a, .int .i64 b, .int .i64 c, .int .i64 d], .agg #[.int .i64 e, .int .i64 f, .int .i64 g, .int .i64 h]] w (SaysL 0 0 0 0 false w) := by
  have hL := fun W => specLok_any a b c d W
  rw [h1] at hL
  have hL2 := fun W => specLok_any e f g h W
  rw [h2] at hL2
  clear h1 h2
  obtain ⟨x, y, z, kb⟩ := bx_444 w a b c d 27 e f g h 27 0 0 0 0 27
  obtain ⟨xc0, xc1, xc2, xc3⟩ := x.cells
  obtain ⟨yc0, yc1, yc2, yc3⟩ := y.cells
  obtain ⟨zc0, zc1, zc2, zc3⟩ := z.cells
  go_enter Try.func25, Try.ntmps25
  go_wp2_with fail
  refine (hL _).mono ?_
  rintro en w1 ⟨rfl, b⟩
  replace x := x.under b
  replace y := y.under b
  replace z := z.under b
  replace kb := below_more kb kb.size b
  clear b xc0 xc1 xc2 xc3 yc0 yc1 yc2 yc3 zc0 zc1 zc2 zc3 hL
  obtain ⟨xc0, xc1, xc2, xc3⟩ := x.cells
  obtain ⟨yc0, yc1, yc2, yc3⟩ := y.cells
  obtain ⟨zc0, zc1, zc2, zc3⟩ := z.cells
  go_wp2_with fail
  refine (hL2 _).mono ?_
  rintro en w2 ⟨rfl, b⟩
  replace x := x.under b
  replace y := y.under b
  replace z := z.under b
  replace kb := below_more kb kb.size b
  clear b xc0 xc1 xc2 xc3 yc0 yc1 yc2 yc3 zc0 zc1 zc2 zc3 hL2
  obtain ⟨xc0, xc1, xc2, xc3⟩ := x.cells
  obtain ⟨yc0, yc1, yc2, yc3⟩ := y.cells
  obtain ⟨zc0, zc1, zc2, zc3⟩ := z.cells
  go_wp2_with fail
  refine (hM _).mono ?_
  rintro en w3 ⟨rfl, b⟩
  replace x := x.under (b.alloc b.size (.cells #[.int .i64 T, .int .i64 B] 25))
  replace y := y.under (b.alloc b.size (.cells #[.int .i64 T, .int .i64 B] 25))
  replace z := z.under (b.alloc b.size (.cells #[.int .i64 T, .int .i64 B] 25))
  have p := Box.new w3 T B 25
  replace kb := below_more kb kb.size (b.alloc b.size (.cells #[.int .i64 T, .int .i64 B] 25))
  clear b xc0 xc1 xc2 xc3 yc0 yc1 yc2 yc3 zc0 zc1 zc2 zc3 hM
  go_upto_region 4 with fail
  generalize w3.heap.size = q1 at p ⊢
  generalize w3.alloc (.cells #[.int .i64 T, .int .i64 B] 25) = w4 at p x y z kb ⊢
  obtain ⟨xc0, xc1, xc2, xc3⟩ := x.cells
  obtain ⟨yc0, yc1, yc2, yc3⟩ := y.cells
  obtain ⟨zc0, zc1, zc2, zc3⟩ := z.cells
  obtain ⟨pc0, pc1⟩ := p.cells
  go_wp2_with fail
  refine (hS _).mono ?_
  rintro en w5 ⟨rfl, b⟩
  replace x := x.under (b.alloc b.size (.cells #[.int .i64 X, .int .i64 Y] 25))
  replace y := y.under (b.alloc b.size (.cells #[.int .i64 X, .int .i64 Y] 25))
  replace z := z.under (b.alloc b.size (.cells #[.int .i64 X, .int .i64 Y] 25))
  replace p := p.under (b.alloc b.size (.cells #[.int .i64 X, .int .i64 Y] 25))
  have q := Box.new w5 X Y 25
  replace kb := below_more kb kb.size (b.alloc b.size (.cells #[.int .i64 X, .int .i64 Y] 25))
  clear b xc0 xc1 xc2 xc3 yc0 yc1 yc2 yc3 zc0 zc1 zc2 zc3 pc0 pc1 hS
  go_upto_region 5 with fail
  generalize w5.heap.size = q2 at q ⊢
  generalize w5.alloc (.cells #[.int .i64 X, .int .i64 Y] 25) = w6 at q x y z p kb ⊢
  obtain ⟨xc0, xc1, xc2, xc3⟩ := x.cells
  obtain ⟨yc0, yc1, yc2, yc3⟩ := y.cells
  obtain ⟨zc0, zc1, zc2, zc3⟩ := z.cells
  obtain ⟨pc0, pc1⟩ := p.cells
  obtain ⟨qc0, qc1⟩ := q.cells
  obtain ⟨zf0, zf1, zf2, zf3⟩ := z.free
  go_wp2_with fail
  (try simp only [Exit.inBlock, Exit.then])
  refine bodyPost_ret (v := .tuple #[.agg #[.int .i64 0, .int .i64 0, .int .i64 0, .int .i64 0], .bool false]) ?_ rfl ⟨rfl, ?_⟩
  · rw [results_cell_tmp rfl]
    go_simp
  · repeat' (first | exact kb | refine Below.setCell ?_ (by simp <;> omega) _)

theorem specCh_no4 (a b c d e f g h T B X Y : Int) (w : World) (h1 : lnOk a b c d = true) (h2 : lnOk e f g h = true)
    (hM : ∀ W : World, Calls Try.prog 39 #[.agg #[.int .i64 g, .int .i64 h], .agg #[.int .i64 c, .int .i64 d]] W (SaysF T B true W))
    (hS : ∀ W : World, Calls Try.prog 19 #[.agg #[.int .i64 e, .int .i64 f, .int .i64 g, .int .i64 h], .agg #[.int .i64 a, .int .i64 b]] W (SaysF X Y false W)) :
    Calls Try.prog 25 #[.agg #[.int .i64 a, .int .i64 b, .int .i64 c, .int .i64 d], .agg #[.int .i64 e, .int .i64 f, .int .i64 g, .int .i64 h]] w (SaysL 0 0 0 0 false w) := by
  have hL := fun W => specLok_any a b c d W
  rw [h1] at hL
  have hL2 := fun W => specLok_any e f g h W
  rw [h2] at hL2
  clear h1 h2
  obtain ⟨x, y, z, kb⟩ := bx_444 w a b c d 27 e f g h 27 0 0 0 0 27
  obtain ⟨xc0, xc1, xc2, xc3⟩ := x.cells
  obtain ⟨yc0, yc1, yc2, yc3⟩ := y.cells
  obtain ⟨zc0, zc1, zc2, zc3⟩ := z.cells
  go_enter Try.func25, Try.ntmps25
  go_wp2_with fail
  refine (hL _).mono ?_
  rintro en w1 ⟨rfl, b⟩
  replace x := x.under b
  replace y := y.under b
  replace z := z.under b
  replace kb := below_more kb kb.size b
  clear b xc0 xc1 xc2 xc3 yc0 yc1 yc2 yc3 zc0 zc1 zc2 zc3 hL
  obtain ⟨xc0, xc1, xc2, xc3⟩ := x.cells
  obtain ⟨yc0, yc1, yc2, yc3⟩ := y.cells
  obtain ⟨zc0, zc1, zc2, zc3⟩ := z.cells
  go_wp2_with fail
  refine (hL2 _).mono ?_
  rintro en w2 ⟨rfl, b⟩
  replace x := x.under b
  replace y := y.under b
  replace z := z.under b
  replace kb := below_more kb kb.size b
  clear b xc0 xc1 xc2 xc3 yc0 yc1 yc2 yc3 zc0 zc1 zc2 zc3 hL2
  obtain ⟨xc0, xc1, xc2, xc3⟩ := x.cells
  obtain ⟨yc0, yc1, yc2, yc3⟩ := y.cells
  obtain ⟨zc0, zc1, zc2, zc3⟩ := z.cells
  go_wp2_with fail
  refine (hM _).mono ?_
  rintro en w3 ⟨rfl, b⟩
  replace x := x.under (b.alloc b.size (.cells #[.int .i64 T, .int .i64 B] 25))
  replace y := y.under (b.alloc b.size (.cells #[.int .i64 T, .int .i64 B] 25))
  replace z := z.under (b.alloc b.size (.cells #[.int .i64 T, .int .i64 B] 25))
  have p := Box.new w3 T B 25
  replace kb := below_more kb kb.size (b.alloc b.size (.cells #[.int .i64 T, .int .i64 B] 25))
  clear b xc0 xc1 xc2 xc3 yc0 yc1 yc2 yc3 zc0 zc1 zc2 zc3 hM
  go_upto_region 4 with fail
  generalize w3.heap.size = q1 at p ⊢
  generalize w3.alloc (.cells #[.int .i64 T, .int .i64 B] 25) = w4 at p x y z kb ⊢
  obtain ⟨xc0, xc1, xc2, xc3⟩ := x.cells
  obtain ⟨yc0, yc1, yc2, yc3⟩ := y.cells
  obtain ⟨zc0, zc1, zc2, zc3⟩ := z.cells
  obtain ⟨pc0, pc1⟩ := p.cells
  go_wp2_with fail
  refine (hS _).mono ?_
  rintro en w5 ⟨rfl, b⟩
  replace x := x.under (b.alloc b.size (.cells #[.int .i64 X, .int .i64 Y] 25))
  replace y := y.under (b.alloc b.size (.cells #[.int .i64 X, .int .i64 Y] 25))
  replace z := z.under (b.alloc b.size (.cells #[.int .i64 X, .int .i64 Y] 25))
  replace p := p.under (b.alloc b.size (.cells #[.int .i64 X, .int .i64 Y] 25))
  have q := Box.new w5 X Y 25
  replace kb := below_more kb kb.size (b.alloc b.size (.cells #[.int .i64 X, .int .i64 Y] 25))
  clear b xc0 xc1 xc2 xc3 yc0 yc1 yc2 yc3 zc0 zc1 zc2 zc3 pc0 pc1 hS
  go_upto_region 5 with fail
  generalize w5.heap.size = q2 at q ⊢
  generalize w5.alloc (.cells #[.int .i64 X, .int .i64 Y] 25) = w6 at q x y z p kb ⊢
  obtain ⟨xc0, xc1, xc2, xc3⟩ := x.cells
  obtain ⟨yc0, yc1, yc2, yc3⟩ := y.cells
  obtain ⟨zc0, zc1, zc2, zc3⟩ := z.cells
  obtain ⟨pc0, pc1⟩ := p.cells
  obtain ⟨qc0, qc1⟩ := q.cells
  obtain ⟨zf0, zf1, zf2, zf3⟩ := z.free
  go_wp2_with fail
  (try simp only [Exit.inBlock, Exit.then])
  refine bodyPost_ret (v := .tuple #[.agg #[.int .i64 0, .int .i64 0, .int .i64 0, .int .i64 0], .bool false]) ?_ rfl ⟨rfl, ?_⟩
  · rw [results_cell_tmp rfl]
    go_simp
  · repeat' (first | exact kb | refine Below.setCell ?_ (by simp <;> omega) _)

theorem specCh_yes (a b c d e f g h T B X Y : Int) (w : World) (h1 : lnOk a b c d = true) (h2 : lnOk e f g h = true)
    (hM : ∀ W : World, Calls Try.prog 39 #[.agg #[.int .i64 g, .int .i64 h], .agg #[.int .i64 c, .int .i64 d]] W (SaysF T B true W))
    (hS : ∀ W : World, Calls Try.prog 19 #[.agg #[.int .i64 e, .int .i64 f, .int .i64 g, .int .i64 h], .agg #[.int .i64 a, .int .i64 b]] W (SaysF X Y true W)) :
    Calls Try.prog 25 #[.agg #[.int .i64 a, .int .i64 b, .int .i64 c, .int .i64 d], .agg #[.int .i64 e, .int .i64 f, .int .i64 g, .int .i64 h]] w (SaysL X Y T B true w) := by
  have hL := fun W => specLok_any a b c d W
  rw [h1] at hL
  have hL2 := fun W => specLok_any e f g h W
  rw [h2] at hL2
  clear h1 h2
  obtain ⟨x, y, z, kb⟩ := bx_444 w a b c d 27 e f g h 27 0 0 0 0 27
  obtain ⟨xc0, xc1, xc2, xc3⟩ := x.cells
  obtain ⟨yc0, yc1, yc2, yc3⟩ := y.cells
  obtain ⟨zc0, zc1, zc2, zc3⟩ := z.cells
  go_enter Try.func25, Try.ntmps25
  go_wp2_with fail
  refine (hL _).mono ?_
  rintro en w1 ⟨rfl, b⟩
  replace x := x.under b
  replace y := y.under b
  replace z := z.under b
  replace kb := below_more kb kb.size b
  clear b xc0 xc1 xc2 xc3 yc0 yc1 yc2 yc3 zc0 zc1 zc2 zc3 hL
  obtain ⟨xc0, xc1, xc2, xc3⟩ := x.cells
  obtain ⟨yc0, yc1, yc2, yc3⟩ := y.cells
  obtain ⟨zc0, zc1, zc2, zc3⟩ := z.cells
  go_wp2_with fail
  refine (hL2 _).mono ?_
  rintro en w2 ⟨rfl, b⟩
  replace x := x.under b
  replace y := y.under b
  replace z := z.under b
  replace kb := below_more kb kb.size b
  clear b xc0 xc1 xc2 xc3 yc0 yc1 yc2 yc3 zc0 zc1 zc2 zc3 hL2
  obtain ⟨xc0, xc1, xc2, xc3⟩ := x.cells
  obtain ⟨yc0, yc1, yc2, yc3⟩ := y.cells
  obtain ⟨zc0, zc1, zc2, zc3⟩ := z.cells
  go_wp2_with fail
  refine (hM _).mono ?_
  rintro en w3 ⟨rfl, b⟩
  replace x := x.under (b.alloc b.size (.cells #[.int .i64 T, .int .i64 B] 25))
  replace y := y.under (b.alloc b.size (.cells #[.int .i64 T, .int .i64 B] 25))
  replace z := z.under (b.alloc b.size (.cells #[.int .i64 T, .int .i64 B] 25))
  have p := Box.new w3 T B 25
  replace kb := below_more kb kb.size (b.alloc b.size (.cells #[.int .i64 T, .int .i64 B] 25))
  clear b xc0 xc1 xc2 xc3 yc0 yc1 yc2 yc3 zc0 zc1 zc2 zc3 hM
  go_upto_region 4 with fail
  generalize w3.heap.size = q1 at p ⊢
  generalize w3.alloc (.cells #[.int .i64 T, .int .i64 B] 25) = w4 at p x y z kb ⊢
  obtain ⟨xc0, xc1, xc2, xc3⟩ := x.cells
  obtain ⟨yc0, yc1, yc2, yc3⟩ := y.cells
  obtain ⟨zc0, zc1, zc2, zc3⟩ := z.cells
  obtain ⟨pc0, pc1⟩ := p.cells
  go_wp2_with fail
  refine (hS _).mono ?_
  rintro en w5 ⟨rfl, b⟩
  replace x := x.under (b.alloc b.size (.cells #[.int .i64 X, .int .i64 Y] 25))
  replace y := y.under (b.alloc b.size (.cells #[.int .i64 X, .int .i64 Y] 25))
  replace z := z.under (b.alloc b.size (.cells #[.int .i64 X, .int .i64 Y] 25))
  replace p := p.under (b.alloc b.size (.cells #[.int .i64 X, .int .i64 Y] 25))
  have q := Box.new w5 X Y 25
  replace kb := below_more kb kb.size (b.alloc b.size (.cells #[.int .i64 X, .int .i64 Y] 25))
  clear b xc0 xc1 xc2 xc3 yc0 yc1 yc2 yc3 zc0 zc1 zc2 zc3 pc0 pc1 hS
  go_upto_region 5 with fail
  generalize w5.heap.size = q2 at q ⊢
  generalize w5.alloc (.cells #[.int .i64 X, .int .i64 Y] 25) = w6 at q x y z p kb ⊢
  obtain ⟨xc0, xc1, xc2, xc3⟩ := x.cells
  obtain ⟨yc0, yc1, yc2, yc3⟩ := y.cells
  obtain ⟨zc0, zc1, zc2, zc3⟩ := z.cells
  obtain ⟨pc0, pc1⟩ := p.cells
  obtain ⟨qc0, qc1⟩ := q.cells
  obtain ⟨zf0, zf1, zf2, zf3⟩ := z.free
  go_wp2_with fail
  (try simp only [Exit.inBlock, Exit.then])
  refine bodyPost_ret (v := .tuple #[.agg #[.int .i64 X, .int .i64 Y, .int .i64 T, .int .i64 B], .bool true]) ?_ rfl ⟨rfl, ?_⟩
  · rw [results_cell_tmp rfl]
    go_simp
  · repeat' (first | exact kb | refine Below.setCell ?_ (by simp <;> omega) _)

end Go.Proofs.Ytploanbnbkhciaa
