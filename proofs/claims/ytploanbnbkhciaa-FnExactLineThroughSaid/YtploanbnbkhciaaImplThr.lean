/-
  The contracts of the program's functions on lines. Only new memory is written.
-/
import Derived.Test.YtploanbnbkhciaaLine
import Derived.Test.YtploanbnbkhciaaBxLine
import Derived.Test.YtploanbnbkhciaaImplLine
import Derived.Test.YtploanbnbkhciaaTimesM
import Derived.Test.YtploanbnbkhciaaAddI
import Derived.Deep.RegionLaw
import Derived.Deep.DeepCutAuto
import Derived.Deep.RegionHeld3
namespace Go.Proofs.Ytploanbnbkhciaa
open Go.ChangeShapes Go.WideShapes Go.ChangeAt Go.RowKit Go.PlainAid

theorem unit_no1 (a b c d e f g h T1 B1 : Int) (w : World)
    (hA : ∀ W : World, Calls Try.prog 50 #[.agg #[.int .i64 e, .int .i64 f], .agg #[.int .i64 a, .int .i64 b]] W (SaysF T1 B1 false W)) :
    Calls Try.prog 35 #[.agg #[.int .i64 a, .int .i64 b], .agg #[.int .i64 c, .int .i64 d], .agg #[.int .i64 e, .int .i64 f], .agg #[.int .i64 g, .int .i64 h]] w (SaysF 0 0 false w) := by
  obtain ⟨x, y, u, v, z, kb⟩ := bx_22222 w a b 25 c d 25 e f 25 g h 25 0 0 25
  obtain ⟨xc0, xc1⟩ := x.cells
  obtain ⟨yc0, yc1⟩ := y.cells
  obtain ⟨uc0, uc1⟩ := u.cells
  obtain ⟨vc0, vc1⟩ := v.cells
  obtain ⟨zc0, zc1⟩ := z.cells
  go_enter Try.func35, Try.ntmps35
  go_wp2_with fail
  refine (hA _).mono ?_
  rintro en w1 ⟨rfl, b⟩
  replace x := x.under (b.alloc b.size (.cells #[.int .i64 T1, .int .i64 B1] 25))
  replace y := y.under (b.alloc b.size (.cells #[.int .i64 T1, .int .i64 B1] 25))
  replace u := u.under (b.alloc b.size (.cells #[.int .i64 T1, .int .i64 B1] 25))
  replace v := v.under (b.alloc b.size (.cells #[.int .i64 T1, .int .i64 B1] 25))
  replace z := z.under (b.alloc b.size (.cells #[.int .i64 T1, .int .i64 B1] 25))
  have p := Box.new w1 T1 B1 25
  replace kb := below_more kb kb.size (b.alloc b.size (.cells #[.int .i64 T1, .int .i64 B1] 25))
  clear b xc0 xc1 yc0 yc1 uc0 uc1 vc0 vc1 zc0 zc1 hA
  go_upto_region 2 with fail
  generalize hp4 : w.heap.size + 1 + 1 + 1 + 1 = p4 at z ⊢
  generalize hp3 : w.heap.size + 1 + 1 + 1 = p3 at v ⊢
  generalize hp2 : w.heap.size + 1 + 1 = p2 at u ⊢
  generalize hp1 : w.heap.size + 1 = p1 at y ⊢
  have hz : w.heap.size < p1 ∧ p1 < p2 ∧ p2 < p3 ∧ p3 < p4 := by omega
  clear hp1 hp2 hp3 hp4
  generalize w1.heap.size = q1 at p ⊢
  generalize w1.alloc (.cells #[.int .i64 T1, .int .i64 B1] 25) = w2 at p x y u v z kb ⊢
  obtain ⟨xc0, xc1⟩ := x.cells
  obtain ⟨yc0, yc1⟩ := y.cells
  obtain ⟨uc0, uc1⟩ := u.cells
  obtain ⟨vc0, vc1⟩ := v.cells
  obtain ⟨zc0, zc1⟩ := z.cells
  obtain ⟨pc0, pc1⟩ := p.cells
  obtain ⟨zf0, zf1⟩ := z.free
  go_wp2_with fail
  (try simp only [Exit.inBlock, Exit.then])
  refine bodyPost_ret (v := .tuple #[.agg #[.int .i64 0, .int .i64 0], .bool false]) ?_ rfl ⟨rfl, ?_⟩
  · rw [results_cell_tmp rfl]
    go_simp
  · repeat' (first | exact kb | refine Below.setCell ?_ (by simp <;> omega) _)

theorem unit_no2 (a b c d e f g h T1 B1 T2 B2 : Int) (w : World)
    (hA : ∀ W : World, Calls Try.prog 50 #[.agg #[.int .i64 e, .int .i64 f], .agg #[.int .i64 a, .int .i64 b]] W (SaysF T1 B1 true W))
    (hB : ∀ W : World, Calls Try.prog 50 #[.agg #[.int .i64 g, .int .i64 h], .agg #[.int .i64 c, .int .i64 d]] W (SaysF T2 B2 false W)) :
    Calls Try.prog 35 #[.agg #[.int .i64 a, .int .i64 b], .agg #[.int .i64 c, .int .i64 d], .agg #[.int .i64 e, .int .i64 f], .agg #[.int .i64 g, .int .i64 h]] w (SaysF 0 0 false w) := by
  obtain ⟨x, y, u, v, z, kb⟩ := bx_22222 w a b 25 c d 25 e f 25 g h 25 0 0 25
  obtain ⟨xc0, xc1⟩ := x.cells
  obtain ⟨yc0, yc1⟩ := y.cells
  obtain ⟨uc0, uc1⟩ := u.cells
  obtain ⟨vc0, vc1⟩ := v.cells
  obtain ⟨zc0, zc1⟩ := z.cells
  go_enter Try.func35, Try.ntmps35
  go_wp2_with fail
  refine (hA _).mono ?_
  rintro en w1 ⟨rfl, b⟩
  replace x := x.under (b.alloc b.size (.cells #[.int .i64 T1, .int .i64 B1] 25))
  replace y := y.under (b.alloc b.size (.cells #[.int .i64 T1, .int .i64 B1] 25))
  replace u := u.under (b.alloc b.size (.cells #[.int .i64 T1, .int .i64 B1] 25))
  replace v := v.under (b.alloc b.size (.cells #[.int .i64 T1, .int .i64 B1] 25))
  replace z := z.under (b.alloc b.size (.cells #[.int .i64 T1, .int .i64 B1] 25))
  have p := Box.new w1 T1 B1 25
  replace kb := below_more kb kb.size (b.alloc b.size (.cells #[.int .i64 T1, .int .i64 B1] 25))
  clear b xc0 xc1 yc0 yc1 uc0 uc1 vc0 vc1 zc0 zc1 hA
  go_upto_region 2 with fail
  generalize hp4 : w.heap.size + 1 + 1 + 1 + 1 = p4 at z ⊢
  generalize hp3 : w.heap.size + 1 + 1 + 1 = p3 at v ⊢
  generalize hp2 : w.heap.size + 1 + 1 = p2 at u ⊢
  generalize hp1 : w.heap.size + 1 = p1 at y ⊢
  have hz : w.heap.size < p1 ∧ p1 < p2 ∧ p2 < p3 ∧ p3 < p4 := by omega
  clear hp1 hp2 hp3 hp4
  generalize w1.heap.size = q1 at p ⊢
  generalize w1.alloc (.cells #[.int .i64 T1, .int .i64 B1] 25) = w2 at p x y u v z kb ⊢
  obtain ⟨xc0, xc1⟩ := x.cells
  obtain ⟨yc0, yc1⟩ := y.cells
  obtain ⟨uc0, uc1⟩ := u.cells
  obtain ⟨vc0, vc1⟩ := v.cells
  obtain ⟨zc0, zc1⟩ := z.cells
  obtain ⟨pc0, pc1⟩ := p.cells
  go_wp2_with fail
  refine (hB _).mono ?_
  rintro en w3 ⟨rfl, b⟩
  replace x := x.under (b.alloc b.size (.cells #[.int .i64 T2, .int .i64 B2] 25))
  replace y := y.under (b.alloc b.size (.cells #[.int .i64 T2, .int .i64 B2] 25))
  replace u := u.under (b.alloc b.size (.cells #[.int .i64 T2, .int .i64 B2] 25))
  replace v := v.under (b.alloc b.size (.cells #[.int .i64 T2, .int .i64 B2] 25))
  replace z := z.under (b.alloc b.size (.cells #[.int .i64 T2, .int .i64 B2] 25))
  replace p := p.under (b.alloc b.size (.cells #[.int .i64 T2, .int .i64 B2] 25))
  have q := Box.new w3 T2 B2 25
  replace kb := below_more kb kb.size (b.alloc b.size (.cells #[.int .i64 T2, .int .i64 B2] 25))
  clear b xc0 xc1 yc0 yc1 uc0 uc1 vc0 vc1 zc0 zc1 pc0 pc1 hB
  go_upto_region 5 with fail
  generalize w3.heap.size = q2 at q ⊢
  generalize w3.alloc (.cells #[.int .i64 T2, .int .i64 B2] 25) = w4 at q x y u v z p kb ⊢
  obtain ⟨xc0, xc1⟩ := x.cells
  obtain ⟨yc0, yc1⟩ := y.cells
  obtain ⟨uc0, uc1⟩ := u.cells
  obtain ⟨vc0, vc1⟩ := v.cells
  obtain ⟨zc0, zc1⟩ := z.cells
  obtain ⟨pc0, pc1⟩ := p.cells
  obtain ⟨qc0, qc1⟩ := q.cells
  obtain ⟨zf0, zf1⟩ := z.free
  go_wp2_with fail
  (try simp only [Exit.inBlock, Exit.then])
  refine bodyPost_ret (v := .tuple #[.agg #[.int .i64 0, .int .i64 0], .bool false]) ?_ rfl ⟨rfl, ?_⟩
  · rw [results_cell_tmp rfl]
    go_simp
  · repeat' (first | exact kb | refine Below.setCell ?_ (by simp <;> omega) _)

theorem unit_yes (a b c d e f g h T1 B1 T2 B2 X Y : Int) (w : World) (O : Bool)
    (hA : ∀ W : World, Calls Try.prog 50 #[.agg #[.int .i64 e, .int .i64 f], .agg #[.int .i64 a, .int .i64 b]] W (SaysF T1 B1 true W))
    (hB : ∀ W : World, Calls Try.prog 50 #[.agg #[.int .i64 g, .int .i64 h], .agg #[.int .i64 c, .int .i64 d]] W (SaysF T2 B2 true W))
    (hO : ∀ W : World, Calls Try.prog 47 #[.agg #[.int .i64 T2, .int .i64 B2], .agg #[.int .i64 T1, .int .i64 B1]] W (SaysF X Y O W)) :
    Calls Try.prog 35 #[.agg #[.int .i64 a, .int .i64 b], .agg #[.int .i64 c, .int .i64 d], .agg #[.int .i64 e, .int .i64 f], .agg #[.int .i64 g, .int .i64 h]] w (SaysF X Y O w) := by
  obtain ⟨x, y, u, v, z, kb⟩ := bx_22222 w a b 25 c d 25 e f 25 g h 25 0 0 25
  obtain ⟨xc0, xc1⟩ := x.cells
  obtain ⟨yc0, yc1⟩ := y.cells
  obtain ⟨uc0, uc1⟩ := u.cells
  obtain ⟨vc0, vc1⟩ := v.cells
  obtain ⟨zc0, zc1⟩ := z.cells
  go_enter Try.func35, Try.ntmps35
  go_wp2_with fail
  refine (hA _).mono ?_
  rintro en w1 ⟨rfl, b⟩
  replace x := x.under (b.alloc b.size (.cells #[.int .i64 T1, .int .i64 B1] 25))
  replace y := y.under (b.alloc b.size (.cells #[.int .i64 T1, .int .i64 B1] 25))
  replace u := u.under (b.alloc b.size (.cells #[.int .i64 T1, .int .i64 B1] 25))
  replace v := v.under (b.alloc b.size (.cells #[.int .i64 T1, .int .i64 B1] 25))
  replace z := z.under (b.alloc b.size (.cells #[.int .i64 T1, .int .i64 B1] 25))
  have p := Box.new w1 T1 B1 25
  replace kb := below_more kb kb.size (b.alloc b.size (.cells #[.int .i64 T1, .int .i64 B1] 25))
  clear b xc0 xc1 yc0 yc1 uc0 uc1 vc0 vc1 zc0 zc1 hA
  go_upto_region 2 with fail
  generalize hp4 : w.heap.size + 1 + 1 + 1 + 1 = p4 at z ⊢
  generalize hp3 : w.heap.size + 1 + 1 + 1 = p3 at v ⊢
  generalize hp2 : w.heap.size + 1 + 1 = p2 at u ⊢
  generalize hp1 : w.heap.size + 1 = p1 at y ⊢
  have hz : w.heap.size < p1 ∧ p1 < p2 ∧ p2 < p3 ∧ p3 < p4 := by omega
  clear hp1 hp2 hp3 hp4
  generalize w1.heap.size = q1 at p ⊢
  generalize w1.alloc (.cells #[.int .i64 T1, .int .i64 B1] 25) = w2 at p x y u v z kb ⊢
  obtain ⟨xc0, xc1⟩ := x.cells
  obtain ⟨yc0, yc1⟩ := y.cells
  obtain ⟨uc0, uc1⟩ := u.cells
  obtain ⟨vc0, vc1⟩ := v.cells
  obtain ⟨zc0, zc1⟩ := z.cells
  obtain ⟨pc0, pc1⟩ := p.cells
  go_wp2_with fail
  refine (hB _).mono ?_
  rintro en w3 ⟨rfl, b⟩
  replace x := x.under (b.alloc b.size (.cells #[.int .i64 T2, .int .i64 B2] 25))
  replace y := y.under (b.alloc b.size (.cells #[.int .i64 T2, .int .i64 B2] 25))
  replace u := u.under (b.alloc b.size (.cells #[.int .i64 T2, .int .i64 B2] 25))
  replace v := v.under (b.alloc b.size (.cells #[.int .i64 T2, .int .i64 B2] 25))
  replace z := z.under (b.alloc b.size (.cells #[.int .i64 T2, .int .i64 B2] 25))
  replace p := p.under (b.alloc b.size (.cells #[.int .i64 T2, .int .i64 B2] 25))
  have q := Box.new w3 T2 B2 25
  replace kb := below_more kb kb.size (b.alloc b.size (.cells #[.int .i64 T2, .int .i64 B2] 25))
  clear b xc0 xc1 yc0 yc1 uc0 uc1 vc0 vc1 zc0 zc1 pc0 pc1 hB
  go_upto_region 5 with fail
  generalize w3.heap.size = q2 at q ⊢
  generalize w3.alloc (.cells #[.int .i64 T2, .int .i64 B2] 25) = w4 at q x y u v z p kb ⊢
  obtain ⟨xc0, xc1⟩ := x.cells
  obtain ⟨yc0, yc1⟩ := y.cells
  obtain ⟨uc0, uc1⟩ := u.cells
  obtain ⟨vc0, vc1⟩ := v.cells
  obtain ⟨zc0, zc1⟩ := z.cells
  obtain ⟨pc0, pc1⟩ := p.cells
  obtain ⟨qc0, qc1⟩ := q.cells
  go_wp2_with fail
  refine (hO _).mono ?_
  rintro en w5 ⟨rfl, b⟩
  replace x := x.under b
  replace y := y.under b
  replace u := u.under b
  replace v := v.under b
  replace z := z.under b
  replace p := p.under b
  replace q := q.under b
  replace kb := below_more kb kb.size b
  clear b xc0 xc1 yc0 yc1 uc0 uc1 vc0 vc1 zc0 zc1 pc0 pc1 qc0 qc1 hO
  clear x y u v p q
  obtain ⟨zc0, zc1⟩ := z.cells
  obtain ⟨zf0, zf1⟩ := z.free
  go_wp2_with fail
  (try simp only [Exit.inBlock, Exit.then])
  refine bodyPost_ret (v := .tuple #[.agg #[.int .i64 X, .int .i64 Y], .bool O]) ?_ rfl ⟨rfl, ?_⟩
  · rw [results_cell_tmp rfl]
    go_simp
  · repeat' (first | exact kb | refine Below.setCell ?_ (by simp <;> omega) _)

theorem start_no (a b c d t u T B : Int) (w : World)
    (hM : ∀ W : World, Calls Try.prog 37 #[.agg #[.int .i64 t, .int .i64 u], .agg #[.int .i64 a, .int .i64 b]] W (SaysF T B false W)) :
    Calls Try.prog 36 #[.agg #[.int .i64 a, .int .i64 b], .agg #[.int .i64 c, .int .i64 d], .agg #[.int .i64 t, .int .i64 u]] w (SaysF 0 0 false w) := by
  obtain ⟨x, y, u1, z, kb⟩ := bx_2222 w a b 25 c d 25 t u 25 0 0 25
  obtain ⟨xc0, xc1⟩ := x.cells
  obtain ⟨yc0, yc1⟩ := y.cells
  obtain ⟨u1c0, u1c1⟩ := u1.cells
  obtain ⟨zc0, zc1⟩ := z.cells
  go_enter Try.func36, Try.ntmps36
  go_wp2_with fail
  refine (hM _).mono ?_
  rintro en w1 ⟨rfl, b⟩
  replace x := x.under (b.alloc b.size (.cells #[.int .i64 T, .int .i64 B] 25))
  replace y := y.under (b.alloc b.size (.cells #[.int .i64 T, .int .i64 B] 25))
  replace u1 := u1.under (b.alloc b.size (.cells #[.int .i64 T, .int .i64 B] 25))
  replace z := z.under (b.alloc b.size (.cells #[.int .i64 T, .int .i64 B] 25))
  have p := Box.new w1 T B 25
  replace kb := below_more kb kb.size (b.alloc b.size (.cells #[.int .i64 T, .int .i64 B] 25))
  clear b xc0 xc1 yc0 yc1 u1c0 u1c1 zc0 zc1 hM
  go_upto_region 2 with fail
  generalize hp3 : w.heap.size + 1 + 1 + 1 = p3 at z ⊢
  generalize hp2 : w.heap.size + 1 + 1 = p2 at u1 ⊢
  generalize hp1 : w.heap.size + 1 = p1 at y ⊢
  have hz : w.heap.size < p1 ∧ p1 < p2 ∧ p2 < p3 := by omega
  clear hp1 hp2 hp3
  generalize w1.heap.size = q1 at p ⊢
  generalize w1.alloc (.cells #[.int .i64 T, .int .i64 B] 25) = w2 at p x y u1 z kb ⊢
  obtain ⟨xc0, xc1⟩ := x.cells
  obtain ⟨yc0, yc1⟩ := y.cells
  obtain ⟨u1c0, u1c1⟩ := u1.cells
  obtain ⟨zc0, zc1⟩ := z.cells
  obtain ⟨pc0, pc1⟩ := p.cells
  obtain ⟨zf0, zf1⟩ := z.free
  go_wp2_with fail
  (try simp only [Exit.inBlock, Exit.then])
  refine bodyPost_ret (v := .tuple #[.agg #[.int .i64 0, .int .i64 0], .bool false]) ?_ rfl ⟨rfl, ?_⟩
  · rw [results_cell_tmp rfl]
    go_simp
  · repeat' (first | exact kb | refine Below.setCell ?_ (by simp <;> omega) _)

theorem start_yes (a b c d t u T B X Y : Int) (w : World) (O : Bool)
    (hM : ∀ W : World, Calls Try.prog 37 #[.agg #[.int .i64 t, .int .i64 u], .agg #[.int .i64 a, .int .i64 b]] W (SaysF T B true W))
    (hP : ∀ W : World, Calls Try.prog 50 #[.agg #[.int .i64 c, .int .i64 d], .agg #[.int .i64 T, .int .i64 B]] W (SaysF X Y O W)) :
    Calls Try.prog 36 #[.agg #[.int .i64 a, .int .i64 b], .agg #[.int .i64 c, .int .i64 d], .agg #[.int .i64 t, .int .i64 u]] w (SaysF X Y O w) := by
  obtain ⟨x, y, u1, z, kb⟩ := bx_2222 w a b 25 c d 25 t u 25 0 0 25
  obtain ⟨xc0, xc1⟩ := x.cells
  obtain ⟨yc0, yc1⟩ := y.cells
  obtain ⟨u1c0, u1c1⟩ := u1.cells
  obtain ⟨zc0, zc1⟩ := z.cells
  go_enter Try.func36, Try.ntmps36
  go_wp2_with fail
  refine (hM _).mono ?_
  rintro en w1 ⟨rfl, b⟩
  replace x := x.under (b.alloc b.size (.cells #[.int .i64 T, .int .i64 B] 25))
  replace y := y.under (b.alloc b.size (.cells #[.int .i64 T, .int .i64 B] 25))
  replace u1 := u1.under (b.alloc b.size (.cells #[.int .i64 T, .int .i64 B] 25))
  replace z := z.under (b.alloc b.size (.cells #[.int .i64 T, .int .i64 B] 25))
  have p := Box.new w1 T B 25
  replace kb := below_more kb kb.size (b.alloc b.size (.cells #[.int .i64 T, .int .i64 B] 25))
  clear b xc0 xc1 yc0 yc1 u1c0 u1c1 zc0 zc1 hM
  go_upto_region 2 with fail
  generalize hp3 : w.heap.size + 1 + 1 + 1 = p3 at z ⊢
  generalize hp2 : w.heap.size + 1 + 1 = p2 at u1 ⊢
  generalize hp1 : w.heap.size + 1 = p1 at y ⊢
  have hz : w.heap.size < p1 ∧ p1 < p2 ∧ p2 < p3 := by omega
  clear hp1 hp2 hp3
  generalize w1.heap.size = q1 at p ⊢
  generalize w1.alloc (.cells #[.int .i64 T, .int .i64 B] 25) = w2 at p x y u1 z kb ⊢
  obtain ⟨xc0, xc1⟩ := x.cells
  obtain ⟨yc0, yc1⟩ := y.cells
  obtain ⟨u1c0, u1c1⟩ := u1.cells
  obtain ⟨zc0, zc1⟩ := z.cells
  obtain ⟨pc0, pc1⟩ := p.cells
  go_wp2_with fail
  refine (hP _).mono ?_
  rintro en w3 ⟨rfl, b⟩
  replace x := x.under b
  replace y := y.under b
  replace u1 := u1.under b
  replace z := z.under b
  replace p := p.under b
  replace kb := below_more kb kb.size b
  clear b xc0 xc1 yc0 yc1 u1c0 u1c1 zc0 zc1 pc0 pc1 hP
  clear x y u1 p
  obtain ⟨zc0, zc1⟩ := z.cells
  obtain ⟨zf0, zf1⟩ := z.free
  go_wp2_with fail
  (try simp only [Exit.inBlock, Exit.then])
  refine bodyPost_ret (v := .tuple #[.agg #[.int .i64 X, .int .i64 Y], .bool O]) ?_ rfl ⟨rfl, ?_⟩
  · rw [results_cell_tmp rfl]
    go_simp
  · repeat' (first | exact kb | refine Below.setCell ?_ (by simp <;> omega) _)

theorem implThr_no1 (a b c d e f g h : Int) (w : World) (k1 : okF a b = false) :
    Calls Try.prog 14 #[.agg #[.int .i64 a, .int .i64 b], .agg #[.int .i64 c, .int .i64 d], .agg #[.int .i64 e, .int .i64 f], .agg #[.int .i64 g, .int .i64 h]] w (SaysL 0 0 0 0 false w) := by
  have hV1 := fun W => implFok_any a b W
  rw [k1] at hV1
  clear k1
  obtain ⟨x, y, u, v, z, kb⟩ := bx_22224 w a b 25 c d 25 e f 25 g h 25 0 0 0 0 27
  obtain ⟨xc0, xc1⟩ := x.cells
  obtain ⟨yc0, yc1⟩ := y.cells
  obtain ⟨uc0, uc1⟩ := u.cells
  obtain ⟨vc0, vc1⟩ := v.cells
  obtain ⟨zc0, zc1, zc2, zc3⟩ := z.cells
  go_enter Try.func14, Try.ntmps14
  go_wp2_with fail
  refine (hV1 _).mono ?_
  rintro en w1 ⟨rfl, b⟩
  replace x := x.under b
  replace y := y.under b
  replace u := u.under b
  replace v := v.under b
  replace z := z.under b
  replace kb := below_more kb kb.size b
  clear b xc0 xc1 yc0 yc1 uc0 uc1 vc0 vc1 zc0 zc1 zc2 zc3 hV1
  generalize hp4 : w.heap.size + 1 + 1 + 1 + 1 = p4 at z ⊢
  generalize hp3 : w.heap.size + 1 + 1 + 1 = p3 at v ⊢
  generalize hp2 : w.heap.size + 1 + 1 = p2 at u ⊢
  generalize hp1 : w.heap.size + 1 = p1 at y ⊢
  have hz : w.heap.size < p1 ∧ p1 < p2 ∧ p2 < p3 ∧ p3 < p4 := by omega
  clear hp1 hp2 hp3 hp4
  obtain ⟨xc0, xc1⟩ := x.cells
  obtain ⟨yc0, yc1⟩ := y.cells
  obtain ⟨uc0, uc1⟩ := u.cells
  obtain ⟨vc0, vc1⟩ := v.cells
  obtain ⟨zc0, zc1, zc2, zc3⟩ := z.cells
  obtain ⟨zf0, zf1, zf2, zf3⟩ := z.free
  go_wp2_with fail
  (try simp only [Exit.inBlock, Exit.then])
  refine bodyPost_ret (v := .tuple #[.agg #[.int .i64 0, .int .i64 0, .int .i64 0, .int .i64 0], .bool false]) ?_ rfl ⟨rfl, ?_⟩
  · rw [results_cell_tmp rfl]
    go_simp
  · repeat' (first | exact kb | refine Below.setCell ?_ (by simp <;> omega) _)

theorem implThr_no2 (a b c d e f g h : Int) (w : World) (k1 : okF a b = true) (k2 : okF c d = false) :
    Calls Try.prog 14 #[.agg #[.int .i64 a, .int .i64 b], .agg #[.int .i64 c, .int .i64 d], .agg #[.int .i64 e, .int .i64 f], .agg #[.int .i64 g, .int .i64 h]] w (SaysL 0 0 0 0 false w) := by
  have hV1 := fun W => implFok_any a b W
  rw [k1] at hV1
  have hV2 := fun W => implFok_any c d W
  rw [k2] at hV2
  clear k1 k2
  obtain ⟨x, y, u, v, z, kb⟩ := bx_22224 w a b 25 c d 25 e f 25 g h 25 0 0 0 0 27
  obtain ⟨xc0, xc1⟩ := x.cells
  obtain ⟨yc0, yc1⟩ := y.cells
  obtain ⟨uc0, uc1⟩ := u.cells
  obtain ⟨vc0, vc1⟩ := v.cells
  obtain ⟨zc0, zc1, zc2, zc3⟩ := z.cells
  go_enter Try.func14, Try.ntmps14
  go_wp2_with fail
  refine (hV1 _).mono ?_
  rintro en w1 ⟨rfl, b⟩
  replace x := x.under b
  replace y := y.under b
  replace u := u.under b
  replace v := v.under b
  replace z := z.under b
  replace kb := below_more kb kb.size b
  clear b xc0 xc1 yc0 yc1 uc0 uc1 vc0 vc1 zc0 zc1 zc2 zc3 hV1
  generalize hp4 : w.heap.size + 1 + 1 + 1 + 1 = p4 at z ⊢
  generalize hp3 : w.heap.size + 1 + 1 + 1 = p3 at v ⊢
  generalize hp2 : w.heap.size + 1 + 1 = p2 at u ⊢
  generalize hp1 : w.heap.size + 1 = p1 at y ⊢
  have hz : w.heap.size < p1 ∧ p1 < p2 ∧ p2 < p3 ∧ p3 < p4 := by omega
  clear hp1 hp2 hp3 hp4
  obtain ⟨xc0, xc1⟩ := x.cells
  obtain ⟨yc0, yc1⟩ := y.cells
  obtain ⟨uc0, uc1⟩ := u.cells
  obtain ⟨vc0, vc1⟩ := v.cells
  obtain ⟨zc0, zc1, zc2, zc3⟩ := z.cells
  go_wp2_with fail
  refine (hV2 _).mono ?_
  rintro en w2 ⟨rfl, b⟩
  replace x := x.under b
  replace y := y.under b
  replace u := u.under b
  replace v := v.under b
  replace z := z.under b
  replace kb := below_more kb kb.size b
  clear b xc0 xc1 yc0 yc1 uc0 uc1 vc0 vc1 zc0 zc1 zc2 zc3 hV2
  obtain ⟨xc0, xc1⟩ := x.cells
  obtain ⟨yc0, yc1⟩ := y.cells
  obtain ⟨uc0, uc1⟩ := u.cells
  obtain ⟨vc0, vc1⟩ := v.cells
  obtain ⟨zc0, zc1, zc2, zc3⟩ := z.cells
  obtain ⟨zf0, zf1, zf2, zf3⟩ := z.free
  go_wp2_with fail
  (try simp only [Exit.inBlock, Exit.then])
  refine bodyPost_ret (v := .tuple #[.agg #[.int .i64 0, .int .i64 0, .int .i64 0, .int .i64 0], .bool false]) ?_ rfl ⟨rfl, ?_⟩
  · rw [results_cell_tmp rfl]
    go_simp
  · repeat' (first | exact kb | refine Below.setCell ?_ (by simp <;> omega) _)

theorem implThr_no3 (a b c d e f g h : Int) (w : World) (k1 : okF a b = true) (k2 : okF c d = true) (k3 : okF e f = false) :
    Calls Try.prog 14 #[.agg #[.int .i64 a, .int .i64 b], .agg #[.int .i64 c, .int .i64 d], .agg #[.int .i64 e, .int .i64 f], .agg #[.int .i64 g, .int .i64 h]] w (SaysL 0 0 0 0 false w) := by
  have hV1 := fun W => implFok_any a b W
  rw [k1] at hV1
  have hV2 := fun W => implFok_any c d W
  rw [k2] at hV2
  have hV3 := fun W => implFok_any e f W
  rw [k3] at hV3
  clear k1 k2 k3
  obtain ⟨x, y, u, v, z, kb⟩ := bx_22224 w a b 25 c d 25 e f 25 g h 25 0 0 0 0 27
  obtain ⟨xc0, xc1⟩ := x.cells
  obtain ⟨yc0, yc1⟩ := y.cells
  obtain ⟨uc0, uc1⟩ := u.cells
  obtain ⟨vc0, vc1⟩ := v.cells
  obtain ⟨zc0, zc1, zc2, zc3⟩ := z.cells
  go_enter Try.func14, Try.ntmps14
  go_wp2_with fail
  refine (hV1 _).mono ?_
  rintro en w1 ⟨rfl, b⟩
  replace x := x.under b
  replace y := y.under b
  replace u := u.under b
  replace v := v.under b
  replace z := z.under b
  replace kb := below_more kb kb.size b
  clear b xc0 xc1 yc0 yc1 uc0 uc1 vc0 vc1 zc0 zc1 zc2 zc3 hV1
  generalize hp4 : w.heap.size + 1 + 1 + 1 + 1 = p4 at z ⊢
  generalize hp3 : w.heap.size + 1 + 1 + 1 = p3 at v ⊢
  generalize hp2 : w.heap.size + 1 + 1 = p2 at u ⊢
  generalize hp1 : w.heap.size + 1 = p1 at y ⊢
  have hz : w.heap.size < p1 ∧ p1 < p2 ∧ p2 < p3 ∧ p3 < p4 := by omega
  clear hp1 hp2 hp3 hp4
  obtain ⟨xc0, xc1⟩ := x.cells
  obtain ⟨yc0, yc1⟩ := y.cells
  obtain ⟨uc0, uc1⟩ := u.cells
  obtain ⟨vc0, vc1⟩ := v.cells
  obtain ⟨zc0, zc1, zc2, zc3⟩ := z.cells
  go_wp2_with fail
  refine (hV2 _).mono ?_
  rintro en w2 ⟨rfl, b⟩
  replace x := x.under b
  replace y := y.under b
  replace u := u.under b
  replace v := v.under b
  replace z := z.under b
  replace kb := below_more kb kb.size b
  clear b xc0 xc1 yc0 yc1 uc0 uc1 vc0 vc1 zc0 zc1 zc2 zc3 hV2
  obtain ⟨xc0, xc1⟩ := x.cells
  obtain ⟨yc0, yc1⟩ := y.cells
  obtain ⟨uc0, uc1⟩ := u.cells
  obtain ⟨vc0, vc1⟩ := v.cells
  obtain ⟨zc0, zc1, zc2, zc3⟩ := z.cells
  go_wp2_with fail
  refine (hV3 _).mono ?_
  rintro en w3 ⟨rfl, b⟩
  replace x := x.under b
  replace y := y.under b
  replace u := u.under b
  replace v := v.under b
  replace z := z.under b
  replace kb := below_more kb kb.size b
  clear b xc0 xc1 yc0 yc1 uc0 uc1 vc0 vc1 zc0 zc1 zc2 zc3 hV3
  obtain ⟨xc0, xc1⟩ := x.cells
  obtain ⟨yc0, yc1⟩ := y.cells
  obtain ⟨uc0, uc1⟩ := u.cells
  obtain ⟨vc0, vc1⟩ := v.cells
  obtain ⟨zc0, zc1, zc2, zc3⟩ := z.cells
  obtain ⟨zf0, zf1, zf2, zf3⟩ := z.free
  go_wp2_with fail
  (try simp only [Exit.inBlock, Exit.then])
  refine bodyPost_ret (v := .tuple #[.agg #[.int .i64 0, .int .i64 0, .int .i64 0, .int .i64 0], .bool false]) ?_ rfl ⟨rfl, ?_⟩
  · rw [results_cell_tmp rfl]
    go_simp
  · repeat' (first | exact kb | refine Below.setCell ?_ (by simp <;> omega) _)

theorem implThr_no4 (a b c d e f g h : Int) (w : World) (k1 : okF a b = true) (k2 : okF c d = true) (k3 : okF e f = true) (k4 : okF g h = false) :
    Calls Try.prog 14 #[.agg #[.int .i64 a, .int .i64 b], .agg #[.int .i64 c, .int .i64 d], .agg #[.int .i64 e, .int .i64 f], .agg #[.int .i64 g, .int .i64 h]] w (SaysL 0 0 0 0 false w) := by
  have hV1 := fun W => implFok_any a b W
  rw [k1] at hV1
  have hV2 := fun W => implFok_any c d W
  rw [k2] at hV2
  have hV3 := fun W => implFok_any e f W
  rw [k3] at hV3
  have hV4 := fun W => implFok_any g h W
  rw [k4] at hV4
  clear k1 k2 k3 k4
  obtain ⟨x, y, u, v, z, kb⟩ := bx_22224 w a b 25 c d 25 e f 25 g h 25 0 0 0 0 27
  obtain ⟨xc0, xc1⟩ := x.cells
  obtain ⟨yc0, yc1⟩ := y.cells
  obtain ⟨uc0, uc1⟩ := u.cells
  obtain ⟨vc0, vc1⟩ := v.cells
  obtain ⟨zc0, zc1, zc2, zc3⟩ := z.cells
  go_enter Try.func14, Try.ntmps14
  go_wp2_with fail
  refine (hV1 _).mono ?_
  rintro en w1 ⟨rfl, b⟩
  replace x := x.under b
  replace y := y.under b
  replace u := u.under b
  replace v := v.under b
  replace z := z.under b
  replace kb := below_more kb kb.size b
  clear b xc0 xc1 yc0 yc1 uc0 uc1 vc0 vc1 zc0 zc1 zc2 zc3 hV1
  generalize hp4 : w.heap.size + 1 + 1 + 1 + 1 = p4 at z ⊢
  generalize hp3 : w.heap.size + 1 + 1 + 1 = p3 at v ⊢
  generalize hp2 : w.heap.size + 1 + 1 = p2 at u ⊢
  generalize hp1 : w.heap.size + 1 = p1 at y ⊢
  have hz : w.heap.size < p1 ∧ p1 < p2 ∧ p2 < p3 ∧ p3 < p4 := by omega
  clear hp1 hp2 hp3 hp4
  obtain ⟨xc0, xc1⟩ := x.cells
  obtain ⟨yc0, yc1⟩ := y.cells
  obtain ⟨uc0, uc1⟩ := u.cells
  obtain ⟨vc0, vc1⟩ := v.cells
  obtain ⟨zc0, zc1, zc2, zc3⟩ := z.cells
  go_wp2_with fail
  refine (hV2 _).mono ?_
  rintro en w2 ⟨rfl, b⟩
  replace x := x.under b
  replace y := y.under b
  replace u := u.under b
  replace v := v.under b
  replace z := z.under b
  replace kb := below_more kb kb.size b
  clear b xc0 xc1 yc0 yc1 uc0 uc1 vc0 vc1 zc0 zc1 zc2 zc3 hV2
  obtain ⟨xc0, xc1⟩ := x.cells
  obtain ⟨yc0, yc1⟩ := y.cells
  obtain ⟨uc0, uc1⟩ := u.cells
  obtain ⟨vc0, vc1⟩ := v.cells
  obtain ⟨zc0, zc1, zc2, zc3⟩ := z.cells
  go_wp2_with fail
  refine (hV3 _).mono ?_
  rintro en w3 ⟨rfl, b⟩
  replace x := x.under b
  replace y := y.under b
  replace u := u.under b
  replace v := v.under b
  replace z := z.under b
  replace kb := below_more kb kb.size b
  clear b xc0 xc1 yc0 yc1 uc0 uc1 vc0 vc1 zc0 zc1 zc2 zc3 hV3
  obtain ⟨xc0, xc1⟩ := x.cells
  obtain ⟨yc0, yc1⟩ := y.cells
  obtain ⟨uc0, uc1⟩ := u.cells
  obtain ⟨vc0, vc1⟩ := v.cells
  obtain ⟨zc0, zc1, zc2, zc3⟩ := z.cells
  go_wp2_with fail
  refine (hV4 _).mono ?_
  rintro en w4 ⟨rfl, b⟩
  replace x := x.under b
  replace y := y.under b
  replace u := u.under b
  replace v := v.under b
  replace z := z.under b
  replace kb := below_more kb kb.size b
  clear b xc0 xc1 yc0 yc1 uc0 uc1 vc0 vc1 zc0 zc1 zc2 zc3 hV4
  obtain ⟨xc0, xc1⟩ := x.cells
  obtain ⟨yc0, yc1⟩ := y.cells
  obtain ⟨uc0, uc1⟩ := u.cells
  obtain ⟨vc0, vc1⟩ := v.cells
  obtain ⟨zc0, zc1, zc2, zc3⟩ := z.cells
  obtain ⟨zf0, zf1, zf2, zf3⟩ := z.free
  go_wp2_with fail
  (try simp only [Exit.inBlock, Exit.then])
  refine bodyPost_ret (v := .tuple #[.agg #[.int .i64 0, .int .i64 0, .int .i64 0, .int .i64 0], .bool false]) ?_ rfl ⟨rfl, ?_⟩
  · rw [results_cell_tmp rfl]
    go_simp
  · repeat' (first | exact kb | refine Below.setCell ?_ (by simp <;> omega) _)

theorem implThr_no5 (a b c d g h : Int) (w : World) (k1 : okF a b = true) (k2 : okF c d = true) (k3 : okF a b = true) (k4 : okF g h = true) :
    Calls Try.prog 14 #[.agg #[.int .i64 a, .int .i64 b], .agg #[.int .i64 c, .int .i64 d], .agg #[.int .i64 a, .int .i64 b], .agg #[.int .i64 g, .int .i64 h]] w (SaysL 0 0 0 0 false w) := by
  have hV1 := fun W => implFok_any a b W
  rw [k1] at hV1
  have hV2 := fun W => implFok_any c d W
  rw [k2] at hV2
  have hV3 := fun W => implFok_any a b W
  rw [k3] at hV3
  have hV4 := fun W => implFok_any g h W
  rw [k4] at hV4
  clear k1 k2 k3 k4
  obtain ⟨x, y, u, v, z, kb⟩ := bx_22224 w a b 25 c d 25 a b 25 g h 25 0 0 0 0 27
  obtain ⟨xc0, xc1⟩ := x.cells
  obtain ⟨yc0, yc1⟩ := y.cells
  obtain ⟨uc0, uc1⟩ := u.cells
  obtain ⟨vc0, vc1⟩ := v.cells
  obtain ⟨zc0, zc1, zc2, zc3⟩ := z.cells
  go_enter Try.func14, Try.ntmps14
  go_wp2_with fail
  refine (hV1 _).mono ?_
  rintro en w1 ⟨rfl, b⟩
  replace x := x.under b
  replace y := y.under b
  replace u := u.under b
  replace v := v.under b
  replace z := z.under b
  replace kb := below_more kb kb.size b
  clear b xc0 xc1 yc0 yc1 uc0 uc1 vc0 vc1 zc0 zc1 zc2 zc3 hV1
  generalize hp4 : w.heap.size + 1 + 1 + 1 + 1 = p4 at z ⊢
  generalize hp3 : w.heap.size + 1 + 1 + 1 = p3 at v ⊢
  generalize hp2 : w.heap.size + 1 + 1 = p2 at u ⊢
  generalize hp1 : w.heap.size + 1 = p1 at y ⊢
  have hz : w.heap.size < p1 ∧ p1 < p2 ∧ p2 < p3 ∧ p3 < p4 := by omega
  clear hp1 hp2 hp3 hp4
  obtain ⟨xc0, xc1⟩ := x.cells
  obtain ⟨yc0, yc1⟩ := y.cells
  obtain ⟨uc0, uc1⟩ := u.cells
  obtain ⟨vc0, vc1⟩ := v.cells
  obtain ⟨zc0, zc1, zc2, zc3⟩ := z.cells
  go_wp2_with fail
  refine (hV2 _).mono ?_
  rintro en w2 ⟨rfl, b⟩
  replace x := x.under b
  replace y := y.under b
  replace u := u.under b
  replace v := v.under b
  replace z := z.under b
  replace kb := below_more kb kb.size b
  clear b xc0 xc1 yc0 yc1 uc0 uc1 vc0 vc1 zc0 zc1 zc2 zc3 hV2
  obtain ⟨xc0, xc1⟩ := x.cells
  obtain ⟨yc0, yc1⟩ := y.cells
  obtain ⟨uc0, uc1⟩ := u.cells
  obtain ⟨vc0, vc1⟩ := v.cells
  obtain ⟨zc0, zc1, zc2, zc3⟩ := z.cells
  go_wp2_with fail
  refine (hV3 _).mono ?_
  rintro en w3 ⟨rfl, b⟩
  replace x := x.under b
  replace y := y.under b
  replace u := u.under b
  replace v := v.under b
  replace z := z.under b
  replace kb := below_more kb kb.size b
  clear b xc0 xc1 yc0 yc1 uc0 uc1 vc0 vc1 zc0 zc1 zc2 zc3 hV3
  obtain ⟨xc0, xc1⟩ := x.cells
  obtain ⟨yc0, yc1⟩ := y.cells
  obtain ⟨uc0, uc1⟩ := u.cells
  obtain ⟨vc0, vc1⟩ := v.cells
  obtain ⟨zc0, zc1, zc2, zc3⟩ := z.cells
  go_wp2_with fail
  refine (hV4 _).mono ?_
  rintro en w4 ⟨rfl, b⟩
  replace x := x.under b
  replace y := y.under b
  replace u := u.under b
  replace v := v.under b
  replace z := z.under b
  replace kb := below_more kb kb.size b
  clear b xc0 xc1 yc0 yc1 uc0 uc1 vc0 vc1 zc0 zc1 zc2 zc3 hV4
  obtain ⟨xc0, xc1⟩ := x.cells
  obtain ⟨yc0, yc1⟩ := y.cells
  obtain ⟨uc0, uc1⟩ := u.cells
  obtain ⟨vc0, vc1⟩ := v.cells
  obtain ⟨zc0, zc1, zc2, zc3⟩ := z.cells
  obtain ⟨zf0, zf1, zf2, zf3⟩ := z.free
  go_wp2_with fail
  (try simp only [Exit.inBlock, Exit.then])
  refine bodyPost_ret (v := .tuple #[.agg #[.int .i64 0, .int .i64 0, .int .i64 0, .int .i64 0], .bool false]) ?_ rfl ⟨rfl, ?_⟩
  · rw [results_cell_tmp rfl]
    go_simp
  · repeat' (first | exact kb | refine Below.setCell ?_ (by simp <;> omega) _)

theorem implThr_no6_1 (a b c d e f g h T B : Int) (w : World) (k1 : okF a b = true) (k2 : okF c d = true) (k3 : okF e f = true) (k4 : okF g h = true) (hd : ¬ a = e)
    (hU : ∀ W : World, Calls Try.prog 35 #[.agg #[.int .i64 a, .int .i64 b], .agg #[.int .i64 c, .int .i64 d], .agg #[.int .i64 e, .int .i64 f], .agg #[.int .i64 g, .int .i64 h]] W (SaysF T B false W)) :
    Calls Try.prog 14 #[.agg #[.int .i64 a, .int .i64 b], .agg #[.int .i64 c, .int .i64 d], .agg #[.int .i64 e, .int .i64 f], .agg #[.int .i64 g, .int .i64 h]] w (SaysL 0 0 0 0 false w) := by
  have hV1 := fun W => implFok_any a b W
  rw [k1] at hV1
  have hV2 := fun W => implFok_any c d W
  rw [k2] at hV2
  have hV3 := fun W => implFok_any e f W
  rw [k3] at hV3
  have hV4 := fun W => implFok_any g h W
  rw [k4] at hV4
  clear k1 k2 k3 k4
  obtain ⟨x, y, u, v, z, kb⟩ := bx_22224 w a b 25 c d 25 e f 25 g h 25 0 0 0 0 27
  obtain ⟨xc0, xc1⟩ := x.cells
  obtain ⟨yc0, yc1⟩ := y.cells
  obtain ⟨uc0, uc1⟩ := u.cells
  obtain ⟨vc0, vc1⟩ := v.cells
  obtain ⟨zc0, zc1, zc2, zc3⟩ := z.cells
  go_enter Try.func14, Try.ntmps14
  go_wp2_with fail
  refine (hV1 _).mono ?_
  rintro en w1 ⟨rfl, b⟩
  replace x := x.under b
  replace y := y.under b
  replace u := u.under b
  replace v := v.under b
  replace z := z.under b
  replace kb := below_more kb kb.size b
  clear b xc0 xc1 yc0 yc1 uc0 uc1 vc0 vc1 zc0 zc1 zc2 zc3 hV1
  generalize hp4 : w.heap.size + 1 + 1 + 1 + 1 = p4 at z ⊢
  generalize hp3 : w.heap.size + 1 + 1 + 1 = p3 at v ⊢
  generalize hp2 : w.heap.size + 1 + 1 = p2 at u ⊢
  generalize hp1 : w.heap.size + 1 = p1 at y ⊢
  have hz : w.heap.size < p1 ∧ p1 < p2 ∧ p2 < p3 ∧ p3 < p4 := by omega
  clear hp1 hp2 hp3 hp4
  obtain ⟨xc0, xc1⟩ := x.cells
  obtain ⟨yc0, yc1⟩ := y.cells
  obtain ⟨uc0, uc1⟩ := u.cells
  obtain ⟨vc0, vc1⟩ := v.cells
  obtain ⟨zc0, zc1, zc2, zc3⟩ := z.cells
  go_wp2_with fail
  refine (hV2 _).mono ?_
  rintro en w2 ⟨rfl, b⟩
  replace x := x.under b
  replace y := y.under b
  replace u := u.under b
  replace v := v.under b
  replace z := z.under b
  replace kb := below_more kb kb.size b
  clear b xc0 xc1 yc0 yc1 uc0 uc1 vc0 vc1 zc0 zc1 zc2 zc3 hV2
  obtain ⟨xc0, xc1⟩ := x.cells
  obtain ⟨yc0, yc1⟩ := y.cells
  obtain ⟨uc0, uc1⟩ := u.cells
  obtain ⟨vc0, vc1⟩ := v.cells
  obtain ⟨zc0, zc1, zc2, zc3⟩ := z.cells
  go_wp2_with fail
  refine (hV3 _).mono ?_
  rintro en w3 ⟨rfl, b⟩
  replace x := x.under b
  replace y := y.under b
  replace u := u.under b
  replace v := v.under b
  replace z := z.under b
  replace kb := below_more kb kb.size b
  clear b xc0 xc1 yc0 yc1 uc0 uc1 vc0 vc1 zc0 zc1 zc2 zc3 hV3
  obtain ⟨xc0, xc1⟩ := x.cells
  obtain ⟨yc0, yc1⟩ := y.cells
  obtain ⟨uc0, uc1⟩ := u.cells
  obtain ⟨vc0, vc1⟩ := v.cells
  obtain ⟨zc0, zc1, zc2, zc3⟩ := z.cells
  go_wp2_with fail
  refine (hV4 _).mono ?_
  rintro en w4 ⟨rfl, b⟩
  replace x := x.under b
  replace y := y.under b
  replace u := u.under b
  replace v := v.under b
  replace z := z.under b
  replace kb := below_more kb kb.size b
  clear b xc0 xc1 yc0 yc1 uc0 uc1 vc0 vc1 zc0 zc1 zc2 zc3 hV4
  obtain ⟨xc0, xc1⟩ := x.cells
  obtain ⟨yc0, yc1⟩ := y.cells
  obtain ⟨uc0, uc1⟩ := u.cells
  obtain ⟨vc0, vc1⟩ := v.cells
  obtain ⟨zc0, zc1, zc2, zc3⟩ := z.cells
  go_wp2_with fail
  refine (hU _).mono ?_
  rintro en w5 ⟨rfl, b⟩
  replace x := x.under (b.alloc b.size (.cells #[.int .i64 T, .int .i64 B] 25))
  replace y := y.under (b.alloc b.size (.cells #[.int .i64 T, .int .i64 B] 25))
  replace u := u.under (b.alloc b.size (.cells #[.int .i64 T, .int .i64 B] 25))
  replace v := v.under (b.alloc b.size (.cells #[.int .i64 T, .int .i64 B] 25))
  replace z := z.under (b.alloc b.size (.cells #[.int .i64 T, .int .i64 B] 25))
  have p := Box.new w5 T B 25
  replace kb := below_more kb kb.size (b.alloc b.size (.cells #[.int .i64 T, .int .i64 B] 25))
  clear b xc0 xc1 yc0 yc1 uc0 uc1 vc0 vc1 zc0 zc1 zc2 zc3 hU
  go_upto_region 4 with fail
  generalize w5.heap.size = q1 at p ⊢
  generalize w5.alloc (.cells #[.int .i64 T, .int .i64 B] 25) = w6 at p x y u v z kb ⊢
  obtain ⟨xc0, xc1⟩ := x.cells
  obtain ⟨yc0, yc1⟩ := y.cells
  obtain ⟨uc0, uc1⟩ := u.cells
  obtain ⟨vc0, vc1⟩ := v.cells
  obtain ⟨zc0, zc1, zc2, zc3⟩ := z.cells
  obtain ⟨pc0, pc1⟩ := p.cells
  obtain ⟨zf0, zf1, zf2, zf3⟩ := z.free
  go_wp2_with fail
  (try simp only [Exit.inBlock, Exit.then])
  refine bodyPost_ret (v := .tuple #[.agg #[.int .i64 0, .int .i64 0, .int .i64 0, .int .i64 0], .bool false]) ?_ rfl ⟨rfl, ?_⟩
  · rw [results_cell_tmp rfl]
    go_simp
  · repeat' (first | exact kb | refine Below.setCell ?_ (by simp <;> omega) _)

theorem implThr_no7_1 (a b c d e f g h T B : Int) (w : World) (k1 : okF a b = true) (k2 : okF c d = true) (k3 : okF e f = true) (k4 : okF g h = true) (hd : ¬ a = e) (ht : T ≤ 0)
    (hU : ∀ W : World, Calls Try.prog 35 #[.agg #[.int .i64 a, .int .i64 b], .agg #[.int .i64 c, .int .i64 d], .agg #[.int .i64 e, .int .i64 f], .agg #[.int .i64 g, .int .i64 h]] W (SaysF T B true W)) :
    Calls Try.prog 14 #[.agg #[.int .i64 a, .int .i64 b], .agg #[.int .i64 c, .int .i64 d], .agg #[.int .i64 e, .int .i64 f], .agg #[.int .i64 g, .int .i64 h]] w (SaysL 0 0 0 0 false w) := by
  have hV1 := fun W => implFok_any a b W
  rw [k1] at hV1
  have hV2 := fun W => implFok_any c d W
  rw [k2] at hV2
  have hV3 := fun W => implFok_any e f W
  rw [k3] at hV3
  have hV4 := fun W => implFok_any g h W
  rw [k4] at hV4
  clear k1 k2 k3 k4
  obtain ⟨x, y, u, v, z, kb⟩ := bx_22224 w a b 25 c d 25 e f 25 g h 25 0 0 0 0 27
  obtain ⟨xc0, xc1⟩ := x.cells
  obtain ⟨yc0, yc1⟩ := y.cells
  obtain ⟨uc0, uc1⟩ := u.cells
  obtain ⟨vc0, vc1⟩ := v.cells
  obtain ⟨zc0, zc1, zc2, zc3⟩ := z.cells
  go_enter Try.func14, Try.ntmps14
  go_wp2_with fail
  refine (hV1 _).mono ?_
  rintro en w1 ⟨rfl, b⟩
  replace x := x.under b
  replace y := y.under b
  replace u := u.under b
  replace v := v.under b
  replace z := z.under b
  replace kb := below_more kb kb.size b
  clear b xc0 xc1 yc0 yc1 uc0 uc1 vc0 vc1 zc0 zc1 zc2 zc3 hV1
  generalize hp4 : w.heap.size + 1 + 1 + 1 + 1 = p4 at z ⊢
  generalize hp3 : w.heap.size + 1 + 1 + 1 = p3 at v ⊢
  generalize hp2 : w.heap.size + 1 + 1 = p2 at u ⊢
  generalize hp1 : w.heap.size + 1 = p1 at y ⊢
  have hz : w.heap.size < p1 ∧ p1 < p2 ∧ p2 < p3 ∧ p3 < p4 := by omega
  clear hp1 hp2 hp3 hp4
  obtain ⟨xc0, xc1⟩ := x.cells
  obtain ⟨yc0, yc1⟩ := y.cells
  obtain ⟨uc0, uc1⟩ := u.cells
  obtain ⟨vc0, vc1⟩ := v.cells
  obtain ⟨zc0, zc1, zc2, zc3⟩ := z.cells
  go_wp2_with fail
  refine (hV2 _).mono ?_
  rintro en w2 ⟨rfl, b⟩
  replace x := x.under b
  replace y := y.under b
  replace u := u.under b
  replace v := v.under b
  replace z := z.under b
  replace kb := below_more kb kb.size b
  clear b xc0 xc1 yc0 yc1 uc0 uc1 vc0 vc1 zc0 zc1 zc2 zc3 hV2
  obtain ⟨xc0, xc1⟩ := x.cells
  obtain ⟨yc0, yc1⟩ := y.cells
  obtain ⟨uc0, uc1⟩ := u.cells
  obtain ⟨vc0, vc1⟩ := v.cells
  obtain ⟨zc0, zc1, zc2, zc3⟩ := z.cells
  go_wp2_with fail
  refine (hV3 _).mono ?_
  rintro en w3 ⟨rfl, b⟩
  replace x := x.under b
  replace y := y.under b
  replace u := u.under b
  replace v := v.under b
  replace z := z.under b
  replace kb := below_more kb kb.size b
  clear b xc0 xc1 yc0 yc1 uc0 uc1 vc0 vc1 zc0 zc1 zc2 zc3 hV3
  obtain ⟨xc0, xc1⟩ := x.cells
  obtain ⟨yc0, yc1⟩ := y.cells
  obtain ⟨uc0, uc1⟩ := u.cells
  obtain ⟨vc0, vc1⟩ := v.cells
  obtain ⟨zc0, zc1, zc2, zc3⟩ := z.cells
  go_wp2_with fail
  refine (hV4 _).mono ?_
  rintro en w4 ⟨rfl, b⟩
  replace x := x.under b
  replace y := y.under b
  replace u := u.under b
  replace v := v.under b
  replace z := z.under b
  replace kb := below_more kb kb.size b
  clear b xc0 xc1 yc0 yc1 uc0 uc1 vc0 vc1 zc0 zc1 zc2 zc3 hV4
  obtain ⟨xc0, xc1⟩ := x.cells
  obtain ⟨yc0, yc1⟩ := y.cells
  obtain ⟨uc0, uc1⟩ := u.cells
  obtain ⟨vc0, vc1⟩ := v.cells
  obtain ⟨zc0, zc1, zc2, zc3⟩ := z.cells
  go_wp2_with fail
  refine (hU _).mono ?_
  rintro en w5 ⟨rfl, b⟩
  replace x := x.under (b.alloc b.size (.cells #[.int .i64 T, .int .i64 B] 25))
  replace y := y.under (b.alloc b.size (.cells #[.int .i64 T, .int .i64 B] 25))
  replace u := u.under (b.alloc b.size (.cells #[.int .i64 T, .int .i64 B] 25))
  replace v := v.under (b.alloc b.size (.cells #[.int .i64 T, .int .i64 B] 25))
  replace z := z.under (b.alloc b.size (.cells #[.int .i64 T, .int .i64 B] 25))
  have p := Box.new w5 T B 25
  replace kb := below_more kb kb.size (b.alloc b.size (.cells #[.int .i64 T, .int .i64 B] 25))
  clear b xc0 xc1 yc0 yc1 uc0 uc1 vc0 vc1 zc0 zc1 zc2 zc3 hU
  go_upto_region 4 with fail
  generalize w5.heap.size = q1 at p ⊢
  generalize w5.alloc (.cells #[.int .i64 T, .int .i64 B] 25) = w6 at p x y u v z kb ⊢
  obtain ⟨xc0, xc1⟩ := x.cells
  obtain ⟨yc0, yc1⟩ := y.cells
  obtain ⟨uc0, uc1⟩ := u.cells
  obtain ⟨vc0, vc1⟩ := v.cells
  obtain ⟨zc0, zc1, zc2, zc3⟩ := z.cells
  obtain ⟨pc0, pc1⟩ := p.cells
  obtain ⟨zf0, zf1, zf2, zf3⟩ := z.free
  go_wp2_with fail
  (try simp only [Exit.inBlock, Exit.then])
  refine bodyPost_ret (v := .tuple #[.agg #[.int .i64 0, .int .i64 0, .int .i64 0, .int .i64 0], .bool false]) ?_ rfl ⟨rfl, ?_⟩
  · rw [results_cell_tmp rfl]
    go_simp
  · repeat' (first | exact kb | refine Below.setCell ?_ (by simp <;> omega) _)

theorem implThr_no8_1 (a b c d e f g h T B X Y : Int) (w : World) (k1 : okF a b = true) (k2 : okF c d = true) (k3 : okF e f = true) (k4 : okF g h = true) (hd : ¬ a = e) (ht : ¬ T ≤ 0)
    (hU : ∀ W : World, Calls Try.prog 35 #[.agg #[.int .i64 a, .int .i64 b], .agg #[.int .i64 c, .int .i64 d], .agg #[.int .i64 e, .int .i64 f], .agg #[.int .i64 g, .int .i64 h]] W (SaysF T B true W))
    (hS : ∀ W : World, Calls Try.prog 36 #[.agg #[.int .i64 a, .int .i64 b], .agg #[.int .i64 c, .int .i64 d], .agg #[.int .i64 T, .int .i64 B]] W (SaysF X Y false W)) :
    Calls Try.prog 14 #[.agg #[.int .i64 a, .int .i64 b], .agg #[.int .i64 c, .int .i64 d], .agg #[.int .i64 e, .int .i64 f], .agg #[.int .i64 g, .int .i64 h]] w (SaysL 0 0 0 0 false w) := by
  have hV1 := fun W => implFok_any a b W
  rw [k1] at hV1
  have hV2 := fun W => implFok_any c d W
  rw [k2] at hV2
  have hV3 := fun W => implFok_any e f W
  rw [k3] at hV3
  have hV4 := fun W => implFok_any g h W
  rw [k4] at hV4
  clear k1 k2 k3 k4
  obtain ⟨x, y, u, v, z, kb⟩ := bx_22224 w a b 25 c d 25 e f 25 g h 25 0 0 0 0 27
  obtain ⟨xc0, xc1⟩ := x.cells
  obtain ⟨yc0, yc1⟩ := y.cells
  obtain ⟨uc0, uc1⟩ := u.cells
  obtain ⟨vc0, vc1⟩ := v.cells
  obtain ⟨zc0, zc1, zc2, zc3⟩ := z.cells
  go_enter Try.func14, Try.ntmps14
  go_wp2_with fail
  refine (hV1 _).mono ?_
  rintro en w1 ⟨rfl, b⟩
  replace x := x.under b
  replace y := y.under b
  replace u := u.under b
  replace v := v.under b
  replace z := z.under b
  replace kb := below_more kb kb.size b
  clear b xc0 xc1 yc0 yc1 uc0 uc1 vc0 vc1 zc0 zc1 zc2 zc3 hV1
  generalize hp4 : w.heap.size + 1 + 1 + 1 + 1 = p4 at z ⊢
  generalize hp3 : w.heap.size + 1 + 1 + 1 = p3 at v ⊢
  generalize hp2 : w.heap.size + 1 + 1 = p2 at u ⊢
  generalize hp1 : w.heap.size + 1 = p1 at y ⊢
  have hz : w.heap.size < p1 ∧ p1 < p2 ∧ p2 < p3 ∧ p3 < p4 := by omega
  clear hp1 hp2 hp3 hp4
  obtain ⟨xc0, xc1⟩ := x.cells
  obtain ⟨yc0, yc1⟩ := y.cells
  obtain ⟨uc0, uc1⟩ := u.cells
  obtain ⟨vc0, vc1⟩ := v.cells
  obtain ⟨zc0, zc1, zc2, zc3⟩ := z.cells
  go_wp2_with fail
  refine (hV2 _).mono ?_
  rintro en w2 ⟨rfl, b⟩
  replace x := x.under b
  replace y := y.under b
  replace u := u.under b
  replace v := v.under b
  replace z := z.under b
  replace kb := below_more kb kb.size b
  clear b xc0 xc1 yc0 yc1 uc0 uc1 vc0 vc1 zc0 zc1 zc2 zc3 hV2
  obtain ⟨xc0, xc1⟩ := x.cells
  obtain ⟨yc0, yc1⟩ := y.cells
  obtain ⟨uc0, uc1⟩ := u.cells
  obtain ⟨vc0, vc1⟩ := v.cells
  obtain ⟨zc0, zc1, zc2, zc3⟩ := z.cells
  go_wp2_with fail
  refine (hV3 _).mono ?_
  rintro en w3 ⟨rfl, b⟩
  replace x := x.under b
  replace y := y.under b
  replace u := u.under b
  replace v := v.under b
  replace z := z.under b
  replace kb := below_more kb kb.size b
  clear b xc0 xc1 yc0 yc1 uc0 uc1 vc0 vc1 zc0 zc1 zc2 zc3 hV3
  obtain ⟨xc0, xc1⟩ := x.cells
  obtain ⟨yc0, yc1⟩ := y.cells
  obtain ⟨uc0, uc1⟩ := u.cells
  obtain ⟨vc0, vc1⟩ := v.cells
  obtain ⟨zc0, zc1, zc2, zc3⟩ := z.cells
  go_wp2_with fail
  refine (hV4 _).mono ?_
  rintro en w4 ⟨rfl, b⟩
  replace x := x.under b
  replace y := y.under b
  replace u := u.under b
  replace v := v.under b
  replace z := z.under b
  replace kb := below_more kb kb.size b
  clear b xc0 xc1 yc0 yc1 uc0 uc1 vc0 vc1 zc0 zc1 zc2 zc3 hV4
  obtain ⟨xc0, xc1⟩ := x.cells
  obtain ⟨yc0, yc1⟩ := y.cells
  obtain ⟨uc0, uc1⟩ := u.cells
  obtain ⟨vc0, vc1⟩ := v.cells
  obtain ⟨zc0, zc1, zc2, zc3⟩ := z.cells
  go_wp2_with fail
  refine (hU _).mono ?_
  rintro en w5 ⟨rfl, b⟩
  replace x := x.under (b.alloc b.size (.cells #[.int .i64 T, .int .i64 B] 25))
  replace y := y.under (b.alloc b.size (.cells #[.int .i64 T, .int .i64 B] 25))
  replace u := u.under (b.alloc b.size (.cells #[.int .i64 T, .int .i64 B] 25))
  replace v := v.under (b.alloc b.size (.cells #[.int .i64 T, .int .i64 B] 25))
  replace z := z.under (b.alloc b.size (.cells #[.int .i64 T, .int .i64 B] 25))
  have p := Box.new w5 T B 25
  replace kb := below_more kb kb.size (b.alloc b.size (.cells #[.int .i64 T, .int .i64 B] 25))
  clear b xc0 xc1 yc0 yc1 uc0 uc1 vc0 vc1 zc0 zc1 zc2 zc3 hU
  go_upto_region 4 with fail
  generalize w5.heap.size = q1 at p ⊢
  generalize w5.alloc (.cells #[.int .i64 T, .int .i64 B] 25) = w6 at p x y u v z kb ⊢
  obtain ⟨xc0, xc1⟩ := x.cells
  obtain ⟨yc0, yc1⟩ := y.cells
  obtain ⟨uc0, uc1⟩ := u.cells
  obtain ⟨vc0, vc1⟩ := v.cells
  obtain ⟨zc0, zc1, zc2, zc3⟩ := z.cells
  obtain ⟨pc0, pc1⟩ := p.cells
  go_wp2_with fail
  refine (hS _).mono ?_
  rintro en w7 ⟨rfl, b⟩
  replace x := x.under (b.alloc b.size (.cells #[.int .i64 X, .int .i64 Y] 25))
  replace y := y.under (b.alloc b.size (.cells #[.int .i64 X, .int .i64 Y] 25))
  replace u := u.under (b.alloc b.size (.cells #[.int .i64 X, .int .i64 Y] 25))
  replace v := v.under (b.alloc b.size (.cells #[.int .i64 X, .int .i64 Y] 25))
  replace z := z.under (b.alloc b.size (.cells #[.int .i64 X, .int .i64 Y] 25))
  replace p := p.under (b.alloc b.size (.cells #[.int .i64 X, .int .i64 Y] 25))
  have q := Box.new w7 X Y 25
  replace kb := below_more kb kb.size (b.alloc b.size (.cells #[.int .i64 X, .int .i64 Y] 25))
  clear b xc0 xc1 yc0 yc1 uc0 uc1 vc0 vc1 zc0 zc1 zc2 zc3 pc0 pc1 hS
  go_upto_region 7 with fail
  generalize w7.heap.size = q2 at q ⊢
  generalize w7.alloc (.cells #[.int .i64 X, .int .i64 Y] 25) = w8 at q x y u v z p kb ⊢
  obtain ⟨xc0, xc1⟩ := x.cells
  obtain ⟨yc0, yc1⟩ := y.cells
  obtain ⟨uc0, uc1⟩ := u.cells
  obtain ⟨vc0, vc1⟩ := v.cells
  obtain ⟨zc0, zc1, zc2, zc3⟩ := z.cells
  obtain ⟨pc0, pc1⟩ := p.cells
  obtain ⟨qc0, qc1⟩ := q.cells
  obtain ⟨zf0, zf1, zf2, zf3⟩ := z.free
  go_wp2_with fail
  (try simp only [Exit.inBlock, Exit.then])
  refine bodyPost_ret (v := .tuple #[.agg #[.int .i64 0, .int .i64 0, .int .i64 0, .int .i64 0], .bool false]) ?_ rfl ⟨rfl, ?_⟩
  · rw [results_cell_tmp rfl]
    go_simp
  · repeat' (first | exact kb | refine Below.setCell ?_ (by simp <;> omega) _)

theorem implThr_yes_1 (a b c d e f g h T B X Y : Int) (w : World) (k1 : okF a b = true) (k2 : okF c d = true) (k3 : okF e f = true) (k4 : okF g h = true) (hd : ¬ a = e) (ht : ¬ T ≤ 0)
    (hU : ∀ W : World, Calls Try.prog 35 #[.agg #[.int .i64 a, .int .i64 b], .agg #[.int .i64 c, .int .i64 d], .agg #[.int .i64 e, .int .i64 f], .agg #[.int .i64 g, .int .i64 h]] W (SaysF T B true W))
    (hS : ∀ W : World, Calls Try.prog 36 #[.agg #[.int .i64 a, .int .i64 b], .agg #[.int .i64 c, .int .i64 d], .agg #[.int .i64 T, .int .i64 B]] W (SaysF X Y true W)) :
    Calls Try.prog 14 #[.agg #[.int .i64 a, .int .i64 b], .agg #[.int .i64 c, .int .i64 d], .agg #[.int .i64 e, .int .i64 f], .agg #[.int .i64 g, .int .i64 h]] w (SaysL X Y T B true w) := by
  have hV1 := fun W => implFok_any a b W
  rw [k1] at hV1
  have hV2 := fun W => implFok_any c d W
  rw [k2] at hV2
  have hV3 := fun W => implFok_any e f W
  rw [k3] at hV3
  have hV4 := fun W => implFok_any g h W
  rw [k4] at hV4
  clear k1 k2 k3 k4
  obtain ⟨x, y, u, v, z, kb⟩ := bx_22224 w a b 25 c d 25 e f 25 g h 25 0 0 0 0 27
  obtain ⟨xc0, xc1⟩ := x.cells
  obtain ⟨yc0, yc1⟩ := y.cells
  obtain ⟨uc0, uc1⟩ := u.cells
  obtain ⟨vc0, vc1⟩ := v.cells
  obtain ⟨zc0, zc1, zc2, zc3⟩ := z.cells
  go_enter Try.func14, Try.ntmps14
  go_wp2_with fail
  refine (hV1 _).mono ?_
  rintro en w1 ⟨rfl, b⟩
  replace x := x.under b
  replace y := y.under b
  replace u := u.under b
  replace v := v.under b
  replace z := z.under b
  replace kb := below_more kb kb.size b
  clear b xc0 xc1 yc0 yc1 uc0 uc1 vc0 vc1 zc0 zc1 zc2 zc3 hV1
  generalize hp4 : w.heap.size + 1 + 1 + 1 + 1 = p4 at z ⊢
  generalize hp3 : w.heap.size + 1 + 1 + 1 = p3 at v ⊢
  generalize hp2 : w.heap.size + 1 + 1 = p2 at u ⊢
  generalize hp1 : w.heap.size + 1 = p1 at y ⊢
  have hz : w.heap.size < p1 ∧ p1 < p2 ∧ p2 < p3 ∧ p3 < p4 := by omega
  clear hp1 hp2 hp3 hp4
  obtain ⟨xc0, xc1⟩ := x.cells
  obtain ⟨yc0, yc1⟩ := y.cells
  obtain ⟨uc0, uc1⟩ := u.cells
  obtain ⟨vc0, vc1⟩ := v.cells
  obtain ⟨zc0, zc1, zc2, zc3⟩ := z.cells
  go_wp2_with fail
  refine (hV2 _).mono ?_
  rintro en w2 ⟨rfl, b⟩
  replace x := x.under b
  replace y := y.under b
  replace u := u.under b
  replace v := v.under b
  replace z := z.under b
  replace kb := below_more kb kb.size b
  clear b xc0 xc1 yc0 yc1 uc0 uc1 vc0 vc1 zc0 zc1 zc2 zc3 hV2
  obtain ⟨xc0, xc1⟩ := x.cells
  obtain ⟨yc0, yc1⟩ := y.cells
  obtain ⟨uc0, uc1⟩ := u.cells
  obtain ⟨vc0, vc1⟩ := v.cells
  obtain ⟨zc0, zc1, zc2, zc3⟩ := z.cells
  go_wp2_with fail
  refine (hV3 _).mono ?_
  rintro en w3 ⟨rfl, b⟩
  replace x := x.under b
  replace y := y.under b
  replace u := u.under b
  replace v := v.under b
  replace z := z.under b
  replace kb := below_more kb kb.size b
  clear b xc0 xc1 yc0 yc1 uc0 uc1 vc0 vc1 zc0 zc1 zc2 zc3 hV3
  obtain ⟨xc0, xc1⟩ := x.cells
  obtain ⟨yc0, yc1⟩ := y.cells
  obtain ⟨uc0, uc1⟩ := u.cells
  obtain ⟨vc0, vc1⟩ := v.cells
  obtain ⟨zc0, zc1, zc2, zc3⟩ := z.cells
  go_wp2_with fail
  refine (hV4 _).mono ?_
  rintro en w4 ⟨rfl, b⟩
  replace x := x.under b
  replace y := y.under b
  replace u := u.under b
  replace v := v.under b
  replace z := z.under b
  replace kb := below_more kb kb.size b
  clear b xc0 xc1 yc0 yc1 uc0 uc1 vc0 vc1 zc0 zc1 zc2 zc3 hV4
  obtain ⟨xc0, xc1⟩ := x.cells
  obtain ⟨yc0, yc1⟩ := y.cells
  obtain ⟨uc0, uc1⟩ := u.cells
  obtain ⟨vc0, vc1⟩ := v.cells
  obtain ⟨zc0, zc1, zc2, zc3⟩ := z.cells
  go_wp2_with fail
  refine (hU _).mono ?_
  rintro en w5 ⟨rfl, b⟩
  replace x := x.under (b.alloc b.size (.cells #[.int .i64 T, .int .i64 B] 25))
  replace y := y.under (b.alloc b.size (.cells #[.int .i64 T, .int .i64 B] 25))
  replace u := u.under (b.alloc b.size (.cells #[.int .i64 T, .int .i64 B] 25))
  replace v := v.under (b.alloc b.size (.cells #[.int .i64 T, .int .i64 B] 25))
  replace z := z.under (b.alloc b.size (.cells #[.int .i64 T, .int .i64 B] 25))
  have p := Box.new w5 T B 25
  replace kb := below_more kb kb.size (b.alloc b.size (.cells #[.int .i64 T, .int .i64 B] 25))
  clear b xc0 xc1 yc0 yc1 uc0 uc1 vc0 vc1 zc0 zc1 zc2 zc3 hU
  go_upto_region 4 with fail
  generalize w5.heap.size = q1 at p ⊢
  generalize w5.alloc (.cells #[.int .i64 T, .int .i64 B] 25) = w6 at p x y u v z kb ⊢
  obtain ⟨xc0, xc1⟩ := x.cells
  obtain ⟨yc0, yc1⟩ := y.cells
  obtain ⟨uc0, uc1⟩ := u.cells
  obtain ⟨vc0, vc1⟩ := v.cells
  obtain ⟨zc0, zc1, zc2, zc3⟩ := z.cells
  obtain ⟨pc0, pc1⟩ := p.cells
  go_wp2_with fail
  refine (hS _).mono ?_
  rintro en w7 ⟨rfl, b⟩
  replace x := x.under (b.alloc b.size (.cells #[.int .i64 X, .int .i64 Y] 25))
  replace y := y.under (b.alloc b.size (.cells #[.int .i64 X, .int .i64 Y] 25))
  replace u := u.under (b.alloc b.size (.cells #[.int .i64 X, .int .i64 Y] 25))
  replace v := v.under (b.alloc b.size (.cells #[.int .i64 X, .int .i64 Y] 25))
  replace z := z.under (b.alloc b.size (.cells #[.int .i64 X, .int .i64 Y] 25))
  replace p := p.under (b.alloc b.size (.cells #[.int .i64 X, .int .i64 Y] 25))
  have q := Box.new w7 X Y 25
  replace kb := below_more kb kb.size (b.alloc b.size (.cells #[.int .i64 X, .int .i64 Y] 25))
  clear b xc0 xc1 yc0 yc1 uc0 uc1 vc0 vc1 zc0 zc1 zc2 zc3 pc0 pc1 hS
  go_upto_region 7 with fail
  generalize w7.heap.size = q2 at q ⊢
  generalize w7.alloc (.cells #[.int .i64 X, .int .i64 Y] 25) = w8 at q x y u v z p kb ⊢
  clear x y u v
  obtain ⟨zc0, zc1, zc2, zc3⟩ := z.cells
  obtain ⟨pc0, pc1⟩ := p.cells
  obtain ⟨qc0, qc1⟩ := q.cells
  obtain ⟨zf0, zf1, zf2, zf3⟩ := z.free
  go_wp2_with fail
  (try simp only [Exit.inBlock, Exit.then])
  refine bodyPost_ret (v := .tuple #[.agg #[.int .i64 X, .int .i64 Y, .int .i64 T, .int .i64 B], .bool true]) ?_ rfl ⟨rfl, ?_⟩
  · rw [results_cell_tmp rfl]
    go_simp
  · repeat' (first | exact kb | refine Below.setCell ?_ (by simp <;> omega) _)

theorem implThr_no6_2 (a b c d f g h T B : Int) (w : World) (k1 : okF a b = true) (k2 : okF c d = true) (k3 : okF a f = true) (k4 : okF g h = true) (hd : ¬ b = f)
    (hU : ∀ W : World, Calls Try.prog 35 #[.agg #[.int .i64 a, .int .i64 b], .agg #[.int .i64 c, .int .i64 d], .agg #[.int .i64 a, .int .i64 f], .agg #[.int .i64 g, .int .i64 h]] W (SaysF T B false W)) :
    Calls Try.prog 14 #[.agg #[.int .i64 a, .int .i64 b], .agg #[.int .i64 c, .int .i64 d], .agg #[.int .i64 a, .int .i64 f], .agg #[.int .i64 g, .int .i64 h]] w (SaysL 0 0 0 0 false w) := by
  have hV1 := fun W => implFok_any a b W
  rw [k1] at hV1
  have hV2 := fun W => implFok_any c d W
  rw [k2] at hV2
  have hV3 := fun W => implFok_any a f W
  rw [k3] at hV3
  have hV4 := fun W => implFok_any g h W
  rw [k4] at hV4
  clear k1 k2 k3 k4
  obtain ⟨x, y, u, v, z, kb⟩ := bx_22224 w a b 25 c d 25 a f 25 g h 25 0 0 0 0 27
  obtain ⟨xc0, xc1⟩ := x.cells
  obtain ⟨yc0, yc1⟩ := y.cells
  obtain ⟨uc0, uc1⟩ := u.cells
  obtain ⟨vc0, vc1⟩ := v.cells
  obtain ⟨zc0, zc1, zc2, zc3⟩ := z.cells
  go_enter Try.func14, Try.ntmps14
  go_wp2_with fail
  refine (hV1 _).mono ?_
  rintro en w1 ⟨rfl, b⟩
  replace x := x.under b
  replace y := y.under b
  replace u := u.under b
  replace v := v.under b
  replace z := z.under b
  replace kb := below_more kb kb.size b
  clear b xc0 xc1 yc0 yc1 uc0 uc1 vc0 vc1 zc0 zc1 zc2 zc3 hV1
  generalize hp4 : w.heap.size + 1 + 1 + 1 + 1 = p4 at z ⊢
  generalize hp3 : w.heap.size + 1 + 1 + 1 = p3 at v ⊢
  generalize hp2 : w.heap.size + 1 + 1 = p2 at u ⊢
  generalize hp1 : w.heap.size + 1 = p1 at y ⊢
  have hz : w.heap.size < p1 ∧ p1 < p2 ∧ p2 < p3 ∧ p3 < p4 := by omega
  clear hp1 hp2 hp3 hp4
  obtain ⟨xc0, xc1⟩ := x.cells
  obtain ⟨yc0, yc1⟩ := y.cells
  obtain ⟨uc0, uc1⟩ := u.cells
  obtain ⟨vc0, vc1⟩ := v.cells
  obtain ⟨zc0, zc1, zc2, zc3⟩ := z.cells
  go_wp2_with fail
  refine (hV2 _).mono ?_
  rintro en w2 ⟨rfl, b⟩
  replace x := x.under b
  replace y := y.under b
  replace u := u.under b
  replace v := v.under b
  replace z := z.under b
  replace kb := below_more kb kb.size b
  clear b xc0 xc1 yc0 yc1 uc0 uc1 vc0 vc1 zc0 zc1 zc2 zc3 hV2
  obtain ⟨xc0, xc1⟩ := x.cells
  obtain ⟨yc0, yc1⟩ := y.cells
  obtain ⟨uc0, uc1⟩ := u.cells
  obtain ⟨vc0, vc1⟩ := v.cells
  obtain ⟨zc0, zc1, zc2, zc3⟩ := z.cells
  go_wp2_with fail
  refine (hV3 _).mono ?_
  rintro en w3 ⟨rfl, b⟩
  replace x := x.under b
  replace y := y.under b
  replace u := u.under b
  replace v := v.under b
  replace z := z.under b
  replace kb := below_more kb kb.size b
  clear b xc0 xc1 yc0 yc1 uc0 uc1 vc0 vc1 zc0 zc1 zc2 zc3 hV3
  obtain ⟨xc0, xc1⟩ := x.cells
  obtain ⟨yc0, yc1⟩ := y.cells
  obtain ⟨uc0, uc1⟩ := u.cells
  obtain ⟨vc0, vc1⟩ := v.cells
  obtain ⟨zc0, zc1, zc2, zc3⟩ := z.cells
  go_wp2_with fail
  refine (hV4 _).mono ?_
  rintro en w4 ⟨rfl, b⟩
  replace x := x.under b
  replace y := y.under b
  replace u := u.under b
  replace v := v.under b
  replace z := z.under b
  replace kb := below_more kb kb.size b
  clear b xc0 xc1 yc0 yc1 uc0 uc1 vc0 vc1 zc0 zc1 zc2 zc3 hV4
  obtain ⟨xc0, xc1⟩ := x.cells
  obtain ⟨yc0, yc1⟩ := y.cells
  obtain ⟨uc0, uc1⟩ := u.cells
  obtain ⟨vc0, vc1⟩ := v.cells
  obtain ⟨zc0, zc1, zc2, zc3⟩ := z.cells
  go_wp2_with fail
  refine (hU _).mono ?_
  rintro en w5 ⟨rfl, b⟩
  replace x := x.under (b.alloc b.size (.cells #[.int .i64 T, .int .i64 B] 25))
  replace y := y.under (b.alloc b.size (.cells #[.int .i64 T, .int .i64 B] 25))
  replace u := u.under (b.alloc b.size (.cells #[.int .i64 T, .int .i64 B] 25))
  replace v := v.under (b.alloc b.size (.cells #[.int .i64 T, .int .i64 B] 25))
  replace z := z.under (b.alloc b.size (.cells #[.int .i64 T, .int .i64 B] 25))
  have p := Box.new w5 T B 25
  replace kb := below_more kb kb.size (b.alloc b.size (.cells #[.int .i64 T, .int .i64 B] 25))
  clear b xc0 xc1 yc0 yc1 uc0 uc1 vc0 vc1 zc0 zc1 zc2 zc3 hU
  go_upto_region 4 with fail
  generalize w5.heap.size = q1 at p ⊢
  generalize w5.alloc (.cells #[.int .i64 T, .int .i64 B] 25) = w6 at p x y u v z kb ⊢
  obtain ⟨xc0, xc1⟩ := x.cells
  obtain ⟨yc0, yc1⟩ := y.cells
  obtain ⟨uc0, uc1⟩ := u.cells
  obtain ⟨vc0, vc1⟩ := v.cells
  obtain ⟨zc0, zc1, zc2, zc3⟩ := z.cells
  obtain ⟨pc0, pc1⟩ := p.cells
  obtain ⟨zf0, zf1, zf2, zf3⟩ := z.free
  go_wp2_with fail
  (try simp only [Exit.inBlock, Exit.then])
  refine bodyPost_ret (v := .tuple #[.agg #[.int .i64 0, .int .i64 0, .int .i64 0, .int .i64 0], .bool false]) ?_ rfl ⟨rfl, ?_⟩
  · rw [results_cell_tmp rfl]
    go_simp
  · repeat' (first | exact kb | refine Below.setCell ?_ (by simp <;> omega) _)

theorem implThr_no7_2 (a b c d f g h T B : Int) (w : World) (k1 : okF a b = true) (k2 : okF c d = true) (k3 : okF a f = true) (k4 : okF g h = true) (hd : ¬ b = f) (ht : T ≤ 0)
    (hU : ∀ W : World, Calls Try.prog 35 #[.agg #[.int .i64 a, .int .i64 b], .agg #[.int .i64 c, .int .i64 d], .agg #[.int .i64 a, .int .i64 f], .agg #[.int .i64 g, .int .i64 h]] W (SaysF T B true W)) :
    Calls Try.prog 14 #[.agg #[.int .i64 a, .int .i64 b], .agg #[.int .i64 c, .int .i64 d], .agg #[.int .i64 a, .int .i64 f], .agg #[.int .i64 g, .int .i64 h]] w (SaysL 0 0 0 0 false w) := by
  have hV1 := fun W => implFok_any a b W
  rw [k1] at hV1
  have hV2 := fun W => implFok_any c d W
  rw [k2] at hV2
  have hV3 := fun W => implFok_any a f W
  rw [k3] at hV3
  have hV4 := fun W => implFok_any g h W
  rw [k4] at hV4
  clear k1 k2 k3 k4
  obtain ⟨x, y, u, v, z, kb⟩ := bx_22224 w a b 25 c d 25 a f 25 g h 25 0 0 0 0 27
  obtain ⟨xc0, xc1⟩ := x.cells
  obtain ⟨yc0, yc1⟩ := y.cells
  obtain ⟨uc0, uc1⟩ := u.cells
  obtain ⟨vc0, vc1⟩ := v.cells
  obtain ⟨zc0, zc1, zc2, zc3⟩ := z.cells
  go_enter Try.func14, Try.ntmps14
  go_wp2_with fail
  refine (hV1 _).mono ?_
  rintro en w1 ⟨rfl, b⟩
  replace x := x.under b
  replace y := y.under b
  replace u := u.under b
  replace v := v.under b
  replace z := z.under b
  replace kb := below_more kb kb.size b
  clear b xc0 xc1 yc0 yc1 uc0 uc1 vc0 vc1 zc0 zc1 zc2 zc3 hV1
  generalize hp4 : w.heap.size + 1 + 1 + 1 + 1 = p4 at z ⊢
  generalize hp3 : w.heap.size + 1 + 1 + 1 = p3 at v ⊢
  generalize hp2 : w.heap.size + 1 + 1 = p2 at u ⊢
  generalize hp1 : w.heap.size + 1 = p1 at y ⊢
  have hz : w.heap.size < p1 ∧ p1 < p2 ∧ p2 < p3 ∧ p3 < p4 := by omega
  clear hp1 hp2 hp3 hp4
  obtain ⟨xc0, xc1⟩ := x.cells
  obtain ⟨yc0, yc1⟩ := y.cells
  obtain ⟨uc0, uc1⟩ := u.cells
  obtain ⟨vc0, vc1⟩ := v.cells
  obtain ⟨zc0, zc1, zc2, zc3⟩ := z.cells
  go_wp2_with fail
  refine (hV2 _).mono ?_
  rintro en w2 ⟨rfl, b⟩
  replace x := x.under b
  replace y := y.under b
  replace u := u.under b
  replace v := v.under b
  replace z := z.under b
  replace kb := below_more kb kb.size b
  clear b xc0 xc1 yc0 yc1 uc0 uc1 vc0 vc1 zc0 zc1 zc2 zc3 hV2
  obtain ⟨xc0, xc1⟩ := x.cells
  obtain ⟨yc0, yc1⟩ := y.cells
  obtain ⟨uc0, uc1⟩ := u.cells
  obtain ⟨vc0, vc1⟩ := v.cells
  obtain ⟨zc0, zc1, zc2, zc3⟩ := z.cells
  go_wp2_with fail
  refine (hV3 _).mono ?_
  rintro en w3 ⟨rfl, b⟩
  replace x := x.under b
  replace y := y.under b
  replace u := u.under b
  replace v := v.under b
  replace z := z.under b
  replace kb := below_more kb kb.size b
  clear b xc0 xc1 yc0 yc1 uc0 uc1 vc0 vc1 zc0 zc1 zc2 zc3 hV3
  obtain ⟨xc0, xc1⟩ := x.cells
  obtain ⟨yc0, yc1⟩ := y.cells
  obtain ⟨uc0, uc1⟩ := u.cells
  obtain ⟨vc0, vc1⟩ := v.cells
  obtain ⟨zc0, zc1, zc2, zc3⟩ := z.cells
  go_wp2_with fail
  refine (hV4 _).mono ?_
  rintro en w4 ⟨rfl, b⟩
  replace x := x.under b
  replace y := y.under b
  replace u := u.under b
  replace v := v.under b
  replace z := z.under b
  replace kb := below_more kb kb.size b
  clear b xc0 xc1 yc0 yc1 uc0 uc1 vc0 vc1 zc0 zc1 zc2 zc3 hV4
  obtain ⟨xc0, xc1⟩ := x.cells
  obtain ⟨yc0, yc1⟩ := y.cells
  obtain ⟨uc0, uc1⟩ := u.cells
  obtain ⟨vc0, vc1⟩ := v.cells
  obtain ⟨zc0, zc1, zc2, zc3⟩ := z.cells
  go_wp2_with fail
  refine (hU _).mono ?_
  rintro en w5 ⟨rfl, b⟩
  replace x := x.under (b.alloc b.size (.cells #[.int .i64 T, .int .i64 B] 25))
  replace y := y.under (b.alloc b.size (.cells #[.int .i64 T, .int .i64 B] 25))
  replace u := u.under (b.alloc b.size (.cells #[.int .i64 T, .int .i64 B] 25))
  replace v := v.under (b.alloc b.size (.cells #[.int .i64 T, .int .i64 B] 25))
  replace z := z.under (b.alloc b.size (.cells #[.int .i64 T, .int .i64 B] 25))
  have p := Box.new w5 T B 25
  replace kb := below_more kb kb.size (b.alloc b.size (.cells #[.int .i64 T, .int .i64 B] 25))
  clear b xc0 xc1 yc0 yc1 uc0 uc1 vc0 vc1 zc0 zc1 zc2 zc3 hU
  go_upto_region 4 with fail
  generalize w5.heap.size = q1 at p ⊢
  generalize w5.alloc (.cells #[.int .i64 T, .int .i64 B] 25) = w6 at p x y u v z kb ⊢
  obtain ⟨xc0, xc1⟩ := x.cells
  obtain ⟨yc0, yc1⟩ := y.cells
  obtain ⟨uc0, uc1⟩ := u.cells
  obtain ⟨vc0, vc1⟩ := v.cells
  obtain ⟨zc0, zc1, zc2, zc3⟩ := z.cells
  obtain ⟨pc0, pc1⟩ := p.cells
  obtain ⟨zf0, zf1, zf2, zf3⟩ := z.free
  go_wp2_with fail
  (try simp only [Exit.inBlock, Exit.then])
  refine bodyPost_ret (v := .tuple #[.agg #[.int .i64 0, .int .i64 0, .int .i64 0, .int .i64 0], .bool false]) ?_ rfl ⟨rfl, ?_⟩
  · rw [results_cell_tmp rfl]
    go_simp
  · repeat' (first | exact kb | refine Below.setCell ?_ (by simp <;> omega) _)

theorem implThr_no8_2 (a b c d f g h T B X Y : Int) (w : World) (k1 : okF a b = true) (k2 : okF c d = true) (k3 : okF a f = true) (k4 : okF g h = true) (hd : ¬ b = f) (ht : ¬ T ≤ 0)
    (hU : ∀ W : World, Calls Try.prog 35 #[.agg #[.int .i64 a, .int .i64 b], .agg #[.int .i64 c, .int .i64 d], .agg #[.int .i64 a, .int .i64 f], .agg #[.int .i64 g, .int .i64 h]] W (SaysF T B true W))
    (hS : ∀ W : World, Calls Try.prog 36 #[.agg #[.int .i64 a, .int .i64 b], .agg #[.int .i64 c, .int .i64 d], .agg #[.int .i64 T, .int .i64 B]] W (SaysF X Y false W)) :
    Calls Try.prog 14 #[.agg #[.int .i64 a, .int .i64 b], .agg #[.int .i64 c, .int .i64 d], .agg #[.int .i64 a, .int .i64 f], .agg #[.int .i64 g, .int .i64 h]] w (SaysL 0 0 0 0 false w) := by
  have hV1 := fun W => implFok_any a b W
  rw [k1] at hV1
  have hV2 := fun W => implFok_any c d W
  rw [k2] at hV2
  have hV3 := fun W => implFok_any a f W
  rw [k3] at hV3
  have hV4 := fun W => implFok_any g h W
  rw [k4] at hV4
  clear k1 k2 k3 k4
  obtain ⟨x, y, u, v, z, kb⟩ := bx_22224 w a b 25 c d 25 a f 25 g h 25 0 0 0 0 27
  obtain ⟨xc0, xc1⟩ := x.cells
  obtain ⟨yc0, yc1⟩ := y.cells
  obtain ⟨uc0, uc1⟩ := u.cells
  obtain ⟨vc0, vc1⟩ := v.cells
  obtain ⟨zc0, zc1, zc2, zc3⟩ := z.cells
  go_enter Try.func14, Try.ntmps14
  go_wp2_with fail
  refine (hV1 _).mono ?_
  rintro en w1 ⟨rfl, b⟩
  replace x := x.under b
  replace y := y.under b
  replace u := u.under b
  replace v := v.under b
  replace z := z.under b
  replace kb := below_more kb kb.size b
  clear b xc0 xc1 yc0 yc1 uc0 uc1 vc0 vc1 zc0 zc1 zc2 zc3 hV1
  generalize hp4 : w.heap.size + 1 + 1 + 1 + 1 = p4 at z ⊢
  generalize hp3 : w.heap.size + 1 + 1 + 1 = p3 at v ⊢
  generalize hp2 : w.heap.size + 1 + 1 = p2 at u ⊢
  generalize hp1 : w.heap.size + 1 = p1 at y ⊢
  have hz : w.heap.size < p1 ∧ p1 < p2 ∧ p2 < p3 ∧ p3 < p4 := by omega
  clear hp1 hp2 hp3 hp4
  obtain ⟨xc0, xc1⟩ := x.cells
  obtain ⟨yc0, yc1⟩ := y.cells
  obtain ⟨uc0, uc1⟩ := u.cells
  obtain ⟨vc0, vc1⟩ := v.cells
  obtain ⟨zc0, zc1, zc2, zc3⟩ := z.cells
  go_wp2_with fail
  refine (hV2 _).mono ?_
  rintro en w2 ⟨rfl, b⟩
  replace x := x.under b
  replace y := y.under b
  replace u := u.under b
  replace v := v.under b
  replace z := z.under b
  replace kb := below_more kb kb.size b
  clear b xc0 xc1 yc0 yc1 uc0 uc1 vc0 vc1 zc0 zc1 zc2 zc3 hV2
  obtain ⟨xc0, xc1⟩ := x.cells
  obtain ⟨yc0, yc1⟩ := y.cells
  obtain ⟨uc0, uc1⟩ := u.cells
  obtain ⟨vc0, vc1⟩ := v.cells
  obtain ⟨zc0, zc1, zc2, zc3⟩ := z.cells
  go_wp2_with fail
  refine (hV3 _).mono ?_
  rintro en w3 ⟨rfl, b⟩
  replace x := x.under b
  replace y := y.under b
  replace u := u.under b
  replace v := v.under b
  replace z := z.under b
  replace kb := below_more kb kb.size b
  clear b xc0 xc1 yc0 yc1 uc0 uc1 vc0 vc1 zc0 zc1 zc2 zc3 hV3
  obtain ⟨xc0, xc1⟩ := x.cells
  obtain ⟨yc0, yc1⟩ := y.cells
  obtain ⟨uc0, uc1⟩ := u.cells
  obtain ⟨vc0, vc1⟩ := v.cells
  obtain ⟨zc0, zc1, zc2, zc3⟩ := z.cells
  go_wp2_with fail
  refine (hV4 _).mono ?_
  rintro en w4 ⟨rfl, b⟩
  replace x := x.under b
  replace y := y.under b
  replace u := u.under b
  replace v := v.under b
  replace z := z.under b
  replace kb := below_more kb kb.size b
  clear b xc0 xc1 yc0 yc1 uc0 uc1 vc0 vc1 zc0 zc1 zc2 zc3 hV4
  obtain ⟨xc0, xc1⟩ := x.cells
  obtain ⟨yc0, yc1⟩ := y.cells
  obtain ⟨uc0, uc1⟩ := u.cells
  obtain ⟨vc0, vc1⟩ := v.cells
  obtain ⟨zc0, zc1, zc2, zc3⟩ := z.cells
  go_wp2_with fail
  refine (hU _).mono ?_
  rintro en w5 ⟨rfl, b⟩
  replace x := x.under (b.alloc b.size (.cells #[.int .i64 T, .int .i64 B] 25))
  replace y := y.under (b.alloc b.size (.cells #[.int .i64 T, .int .i64 B] 25))
  replace u := u.under (b.alloc b.size (.cells #[.int .i64 T, .int .i64 B] 25))
  replace v := v.under (b.alloc b.size (.cells #[.int .i64 T, .int .i64 B] 25))
  replace z := z.under (b.alloc b.size (.cells #[.int .i64 T, .int .i64 B] 25))
  have p := Box.new w5 T B 25
  replace kb := below_more kb kb.size (b.alloc b.size (.cells #[.int .i64 T, .int .i64 B] 25))
  clear b xc0 xc1 yc0 yc1 uc0 uc1 vc0 vc1 zc0 zc1 zc2 zc3 hU
  go_upto_region 4 with fail
  generalize w5.heap.size = q1 at p ⊢
  generalize w5.alloc (.cells #[.int .i64 T, .int .i64 B] 25) = w6 at p x y u v z kb ⊢
  obtain ⟨xc0, xc1⟩ := x.cells
  obtain ⟨yc0, yc1⟩ := y.cells
  obtain ⟨uc0, uc1⟩ := u.cells
  obtain ⟨vc0, vc1⟩ := v.cells
  obtain ⟨zc0, zc1, zc2, zc3⟩ := z.cells
  obtain ⟨pc0, pc1⟩ := p.cells
  go_wp2_with fail
  refine (hS _).mono ?_
  rintro en w7 ⟨rfl, b⟩
  replace x := x.under (b.alloc b.size (.cells #[.int .i64 X, .int .i64 Y] 25))
  replace y := y.under (b.alloc b.size (.cells #[.int .i64 X, .int .i64 Y] 25))
  replace u := u.under (b.alloc b.size (.cells #[.int .i64 X, .int .i64 Y] 25))
  replace v := v.under (b.alloc b.size (.cells #[.int .i64 X, .int .i64 Y] 25))
  replace z := z.under (b.alloc b.size (.cells #[.int .i64 X, .int .i64 Y] 25))
  replace p := p.under (b.alloc b.size (.cells #[.int .i64 X, .int .i64 Y] 25))
  have q := Box.new w7 X Y 25
  replace kb := below_more kb kb.size (b.alloc b.size (.cells #[.int .i64 X, .int .i64 Y] 25))
  clear b xc0 xc1 yc0 yc1 uc0 uc1 vc0 vc1 zc0 zc1 zc2 zc3 pc0 pc1 hS
  go_upto_region 7 with fail
  generalize w7.heap.size = q2 at q ⊢
  generalize w7.alloc (.cells #[.int .i64 X, .int .i64 Y] 25) = w8 at q x y u v z p kb ⊢
  obtain ⟨xc0, xc1⟩ := x.cells
  obtain ⟨yc0, yc1⟩ := y.cells
  obtain ⟨uc0, uc1⟩ := u.cells
  obtain ⟨vc0, vc1⟩ := v.cells
  obtain ⟨zc0, zc1, zc2, zc3⟩ := z.cells
  obtain ⟨pc0, pc1⟩ := p.cells
  obtain ⟨qc0, qc1⟩ := q.cells
  obtain ⟨zf0, zf1, zf2, zf3⟩ := z.free
  go_wp2_with fail
  (try simp only [Exit.inBlock, Exit.then])
  refine bodyPost_ret (v := .tuple #[.agg #[.int .i64 0, .int .i64 0, .int .i64 0, .int .i64 0], .bool false]) ?_ rfl ⟨rfl, ?_⟩
  · rw [results_cell_tmp rfl]
    go_simp
  · repeat' (first | exact kb | refine Below.setCell ?_ (by simp <;> omega) _)

theorem implThr_yes_2 (a b c d f g h T B X Y : Int) (w : World) (k1 : okF a b = true) (k2 : okF c d = true) (k3 : okF a f = true) (k4 : okF g h = true) (hd : ¬ b = f) (ht : ¬ T ≤ 0)
    (hU : ∀ W : World, Calls Try.prog 35 #[.agg #[.int .i64 a, .int .i64 b], .agg #[.int .i64 c, .int .i64 d], .agg #[.int .i64 a, .int .i64 f], .agg #[.int .i64 g, .int .i64 h]] W (SaysF T B true W))
    (hS : ∀ W : World, Calls Try.prog 36 #[.agg #[.int .i64 a, .int .i64 b], .agg #[.int .i64 c, .int .i64 d], .agg #[.int .i64 T, .int .i64 B]] W (SaysF X Y true W)) :
    Calls Try.prog 14 #[.agg #[.int .i64 a, .int .i64 b], .agg #[.int .i64 c, .int .i64 d], .agg #[.int .i64 a, .int .i64 f], .agg #[.int .i64 g, .int .i64 h]] w (SaysL X Y T B true w) := by
  have hV1 := fun W => implFok_any a b W
  rw [k1] at hV1
  have hV2 := fun W => implFok_any c d W
  rw [k2] at hV2
  have hV3 := fun W => implFok_any a f W
  rw [k3] at hV3
  have hV4 := fun W => implFok_any g h W
  rw [k4] at hV4
  clear k1 k2 k3 k4
  obtain ⟨x, y, u, v, z, kb⟩ := bx_22224 w a b 25 c d 25 a f 25 g h 25 0 0 0 0 27
  obtain ⟨xc0, xc1⟩ := x.cells
  obtain ⟨yc0, yc1⟩ := y.cells
  obtain ⟨uc0, uc1⟩ := u.cells
  obtain ⟨vc0, vc1⟩ := v.cells
  obtain ⟨zc0, zc1, zc2, zc3⟩ := z.cells
  go_enter Try.func14, Try.ntmps14
  go_wp2_with fail
  refine (hV1 _).mono ?_
  rintro en w1 ⟨rfl, b⟩
  replace x := x.under b
  replace y := y.under b
  replace u := u.under b
  replace v := v.under b
  replace z := z.under b
  replace kb := below_more kb kb.size b
  clear b xc0 xc1 yc0 yc1 uc0 uc1 vc0 vc1 zc0 zc1 zc2 zc3 hV1
  generalize hp4 : w.heap.size + 1 + 1 + 1 + 1 = p4 at z ⊢
  generalize hp3 : w.heap.size + 1 + 1 + 1 = p3 at v ⊢
  generalize hp2 : w.heap.size + 1 + 1 = p2 at u ⊢
  generalize hp1 : w.heap.size + 1 = p1 at y ⊢
  have hz : w.heap.size < p1 ∧ p1 < p2 ∧ p2 < p3 ∧ p3 < p4 := by omega
  clear hp1 hp2 hp3 hp4
  obtain ⟨xc0, xc1⟩ := x.cells
  obtain ⟨yc0, yc1⟩ := y.cells
  obtain ⟨uc0, uc1⟩ := u.cells
  obtain ⟨vc0, vc1⟩ := v.cells
  obtain ⟨zc0, zc1, zc2, zc3⟩ := z.cells
  go_wp2_with fail
  refine (hV2 _).mono ?_
  rintro en w2 ⟨rfl, b⟩
  replace x := x.under b
  replace y := y.under b
  replace u := u.under b
  replace v := v.under b
  replace z := z.under b
  replace kb := below_more kb kb.size b
  clear b xc0 xc1 yc0 yc1 uc0 uc1 vc0 vc1 zc0 zc1 zc2 zc3 hV2
  obtain ⟨xc0, xc1⟩ := x.cells
  obtain ⟨yc0, yc1⟩ := y.cells
  obtain ⟨uc0, uc1⟩ := u.cells
  obtain ⟨vc0, vc1⟩ := v.cells
  obtain ⟨zc0, zc1, zc2, zc3⟩ := z.cells
  go_wp2_with fail
  refine (hV3 _).mono ?_
  rintro en w3 ⟨rfl, b⟩
  replace x := x.under b
  replace y := y.under b
  replace u := u.under b
  replace v := v.under b
  replace z := z.under b
  replace kb := below_more kb kb.size b
  clear b xc0 xc1 yc0 yc1 uc0 uc1 vc0 vc1 zc0 zc1 zc2 zc3 hV3
  obtain ⟨xc0, xc1⟩ := x.cells
  obtain ⟨yc0, yc1⟩ := y.cells
  obtain ⟨uc0, uc1⟩ := u.cells
  obtain ⟨vc0, vc1⟩ := v.cells
  obtain ⟨zc0, zc1, zc2, zc3⟩ := z.cells
  go_wp2_with fail
  refine (hV4 _).mono ?_
  rintro en w4 ⟨rfl, b⟩
  replace x := x.under b
  replace y := y.under b
  replace u := u.under b
  replace v := v.under b
  replace z := z.under b
  replace kb := below_more kb kb.size b
  clear b xc0 xc1 yc0 yc1 uc0 uc1 vc0 vc1 zc0 zc1 zc2 zc3 hV4
  obtain ⟨xc0, xc1⟩ := x.cells
  obtain ⟨yc0, yc1⟩ := y.cells
  obtain ⟨uc0, uc1⟩ := u.cells
  obtain ⟨vc0, vc1⟩ := v.cells
  obtain ⟨zc0, zc1, zc2, zc3⟩ := z.cells
  go_wp2_with fail
  refine (hU _).mono ?_
  rintro en w5 ⟨rfl, b⟩
  replace x := x.under (b.alloc b.size (.cells #[.int .i64 T, .int .i64 B] 25))
  replace y := y.under (b.alloc b.size (.cells #[.int .i64 T, .int .i64 B] 25))
  replace u := u.under (b.alloc b.size (.cells #[.int .i64 T, .int .i64 B] 25))
  replace v := v.under (b.alloc b.size (.cells #[.int .i64 T, .int .i64 B] 25))
  replace z := z.under (b.alloc b.size (.cells #[.int .i64 T, .int .i64 B] 25))
  have p := Box.new w5 T B 25
  replace kb := below_more kb kb.size (b.alloc b.size (.cells #[.int .i64 T, .int .i64 B] 25))
  clear b xc0 xc1 yc0 yc1 uc0 uc1 vc0 vc1 zc0 zc1 zc2 zc3 hU
  go_upto_region 4 with fail
  generalize w5.heap.size = q1 at p ⊢
  generalize w5.alloc (.cells #[.int .i64 T, .int .i64 B] 25) = w6 at p x y u v z kb ⊢
  obtain ⟨xc0, xc1⟩ := x.cells
  obtain ⟨yc0, yc1⟩ := y.cells
  obtain ⟨uc0, uc1⟩ := u.cells
  obtain ⟨vc0, vc1⟩ := v.cells
  obtain ⟨zc0, zc1, zc2, zc3⟩ := z.cells
  obtain ⟨pc0, pc1⟩ := p.cells
  go_wp2_with fail
  refine (hS _).mono ?_
  rintro en w7 ⟨rfl, b⟩
  replace x := x.under (b.alloc b.size (.cells #[.int .i64 X, .int .i64 Y] 25))
  replace y := y.under (b.alloc b.size (.cells #[.int .i64 X, .int .i64 Y] 25))
  replace u := u.under (b.alloc b.size (.cells #[.int .i64 X, .int .i64 Y] 25))
  replace v := v.under (b.alloc b.size (.cells #[.int .i64 X, .int .i64 Y] 25))
  replace z := z.under (b.alloc b.size (.cells #[.int .i64 X, .int .i64 Y] 25))
  replace p := p.under (b.alloc b.size (.cells #[.int .i64 X, .int .i64 Y] 25))
  have q := Box.new w7 X Y 25
  replace kb := below_more kb kb.size (b.alloc b.size (.cells #[.int .i64 X, .int .i64 Y] 25))
  clear b xc0 xc1 yc0 yc1 uc0 uc1 vc0 vc1 zc0 zc1 zc2 zc3 pc0 pc1 hS
  go_upto_region 7 with fail
  generalize w7.heap.size = q2 at q ⊢
  generalize w7.alloc (.cells #[.int .i64 X, .int .i64 Y] 25) = w8 at q x y u v z p kb ⊢
  clear x y u v
  obtain ⟨zc0, zc1, zc2, zc3⟩ := z.cells
  obtain ⟨pc0, pc1⟩ := p.cells
  obtain ⟨qc0, qc1⟩ := q.cells
  obtain ⟨zf0, zf1, zf2, zf3⟩ := z.free
  go_wp2_with fail
  (try simp only [Exit.inBlock, Exit.then])
  refine bodyPost_ret (v := .tuple #[.agg #[.int .i64 X, .int .i64 Y, .int .i64 T, .int .i64 B], .bool true]) ?_ rfl ⟨rfl, ?_⟩
  · rw [results_cell_tmp rfl]
    go_simp
  · repeat' (first | exact kb | refine Below.setCell ?_ (by simp <;> omega) _)

end Go.Proofs.Ytploanbnbkhciaa
