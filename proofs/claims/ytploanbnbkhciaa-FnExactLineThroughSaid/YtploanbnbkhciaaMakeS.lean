/-
  The contract of the model's making of a fraction: the shortened terms and whether they are valid, or zeros and false. Only new memory is written.
-/
import Derived.Test.YtploanbnbkhciaaShortF
namespace Go.Proofs.Ytploanbnbkhciaa
open Go.ChangeShapes Go.WideShapes Go.ChangeAt Go.RowKit Go.PlainAid

/-- What a making takes. -/
def Given (t b : Int) : Prop := b ≠ 0 ∧ (-1000000000000 ≤ t ∧ t ≤ 1000000000000) ∧ -1000000000000 ≤ b ∧ b ≤ 1000000000000

theorem specMake_no (t b : Int) (w : World) (h : ¬ Given t b) : Calls Try.prog 43 #[.int .i64 t, .int .i64 b] w (SaysF 0 0 false w) := by
  unfold Given at h
  by_cases hb : b = 0
  · subst hb
    clear h
    go_enter Try.func43, Try.ntmps43
    go_wp2_with fail
    (try simp only [Exit.inBlock, Exit.then])
    refine bodyPost_ret (v := .tuple #[.agg #[.int .i64 0, .int .i64 0], .bool false]) ?_ rfl ⟨rfl, ?_⟩
    · rw [results_cell_tmp rfl]
      go_simp
    · repeat' (first | exact Below.refl _ _ | refine Below.setCell ?_ (by simp <;> omega) _ | refine Below.alloc ?_ (by simp <;> omega) _)
  · by_cases ht : -1000000000000 ≤ t ∧ t ≤ 1000000000000
    · have hT := in_to true t (-1000000000000) 1000000000000 (w.alloc (.cells #[.int .i64 0, .int .i64 0] 25)) (decide_eq_true ht)
      have hB := in_to false b (-1000000000000) 1000000000000 (w.alloc (.cells #[.int .i64 0, .int .i64 0] 25)) (decide_eq_false (fun h2 => h ⟨hb, ht, h2⟩))
      clear h ht
      go_enter Try.func43, Try.ntmps43
      go_wp2_with fail
      refine hT.mono ?_
      rintro e w2 ⟨rfl, rfl⟩
      go_wp2_with fail
      refine hB.mono ?_
      rintro e w2 ⟨rfl, rfl⟩
      go_wp2_with fail
      (try simp only [Exit.inBlock, Exit.then])
      refine bodyPost_ret (v := .tuple #[.agg #[.int .i64 0, .int .i64 0], .bool false]) ?_ rfl ⟨rfl, ?_⟩
      · rw [results_cell_tmp rfl]
        go_simp
      · repeat' (first | exact Below.refl _ _ | refine Below.setCell ?_ (by simp <;> omega) _ | refine Below.alloc ?_ (by simp <;> omega) _)
    · have hT := in_to false t (-1000000000000) 1000000000000 (w.alloc (.cells #[.int .i64 0, .int .i64 0] 25)) (decide_eq_false ht)
      clear h ht
      go_enter Try.func43, Try.ntmps43
      go_wp2_with fail
      refine hT.mono ?_
      rintro e w2 ⟨rfl, rfl⟩
      go_wp2_with fail
      (try simp only [Exit.inBlock, Exit.then])
      refine bodyPost_ret (v := .tuple #[.agg #[.int .i64 0, .int .i64 0], .bool false]) ?_ rfl ⟨rfl, ?_⟩
      · rw [results_cell_tmp rfl]
        go_simp
      · repeat' (first | exact Below.refl _ _ | refine Below.setCell ?_ (by simp <;> omega) _ | refine Below.alloc ?_ (by simp <;> omega) _)

theorem specMake_neg (t b g d q r : Int) (o : Bool) (w : World) (hneg : b < 0) (h : Given t b) (hG : ∀ W : World, Calls Try.prog 52 #[.int .i64 t, .int .i64 b] W fun e w' => e = .returned (.int .i64 g) ∧ Below W.heap.size W w')
    (hV : ∀ W : World, Calls Try.prog 38 #[.agg #[.int .i64 q, .int .i64 r]] W (SaysB o W))
    (g0 : 0 < g) (g1 : g ≤ 4611686018427387904) (hd : -g = d) (hz : d ≠ 0) (hq : t.tdiv d = q) (hr : b.tdiv d = r) (q0 : -4611686018427387904 ≤ q) (q1 : q ≤ 4611686018427387904) (r0 : -4611686018427387904 ≤ r) (r1 : r ≤ 4611686018427387904) :
    Calls Try.prog 43 #[.int .i64 t, .int .i64 b] w (SaysS q r o w) := by
  obtain ⟨hb, ht, hb2⟩ := h
  have hT := in_to true t (-1000000000000) 1000000000000 (w.alloc (.cells #[.int .i64 0, .int .i64 0] 25)) (decide_eq_true ht)
  have hB := in_to true b (-1000000000000) 1000000000000 (w.alloc (.cells #[.int .i64 0, .int .i64 0] 25)) (decide_eq_true hb2)
  have b0 : Below w.heap.size w (w.alloc (.cells #[.int .i64 0, .int .i64 0] 25)) := (Below.refl _ _).alloc (Nat.le_refl _) _
  have x0 := Box.new w 0 0 25
  go_enter Try.func43, Try.ntmps43
  go_wp2_with fail
  refine hT.mono ?_
  rintro e w2 ⟨rfl, rfl⟩
  go_wp2_with fail
  refine hB.mono ?_
  rintro e w2 ⟨rfl, rfl⟩
  go_wp2_with fail
  refine (hG _).mono ?_
  rintro e w1 ⟨rfl, b1⟩
  have x1 := x0.keep b1 x0.lt
  replace b1 := below_more b0 (by simp) b1
  clear b0 x0 hG hT hB
  go_wp2_with fail
  go_region
  have x2 : Box (w1.alloc (.cells #[.int .i64 q, .int .i64 r] 25)).drew w.heap.size 0 0 25 := x1.alloc _
  have y2 : Box (w1.alloc (.cells #[.int .i64 q, .int .i64 r] 25)).drew w1.heap.size q r 25 := Box.new w1 q r _
  have b2 : Below w.heap.size w (w1.alloc (.cells #[.int .i64 q, .int .i64 r] 25)).drew := (b1.alloc b1.size _).drew
  clear b1
  go_wp2_with fail
  refine (hV _).mono ?_
  rintro e w3 ⟨rfl, b3⟩
  have x3 : Box w3 w.heap.size 0 0 25 := x2.keep b3 x2.lt
  have y3 : Box w3 w1.heap.size q r 25 := y2.keep b3 y2.lt
  replace b3 := below_more b2 b2.size b3
  have c0 := x3.c0
  have c1 := x3.c1
  have f0 := x3.free0
  have f1 := x3.free1
  have d0 := y3.c0
  have d1 := y3.c1
  clear x1 x2 y2 b2 hV
  cases o
  · go_wp2_with fail
    (try simp only [Exit.inBlock, Exit.then])
    refine bodyPost_ret (v := .tuple #[.agg #[.int .i64 0, .int .i64 0], .bool false]) ?_ rfl ⟨rfl, ?_⟩
    · rw [results_cell_tmp rfl]
      go_simp
    · repeat' (first | exact b3 | refine Below.setCell ?_ (by simp <;> omega) _)
  · go_wp2_with fail
    (try simp only [Exit.inBlock, Exit.then])
    refine bodyPost_ret (v := .tuple #[.agg #[.int .i64 q, .int .i64 r], .bool true]) ?_ rfl ⟨rfl, ?_⟩
    · rw [results_cell_tmp rfl]
      go_simp
    · repeat' (first | exact b3 | refine Below.setCell ?_ (by simp <;> omega) _)
theorem specMake_pos (t b d q r : Int) (o : Bool) (w : World) (hneg : ¬ b < 0) (h : Given t b) (hG : ∀ W : World, Calls Try.prog 52 #[.int .i64 t, .int .i64 b] W fun e w' => e = .returned (.int .i64 d) ∧ Below W.heap.size W w')
    (hV : ∀ W : World, Calls Try.prog 38 #[.agg #[.int .i64 q, .int .i64 r]] W (SaysB o W))
    (g0 : 0 < d) (g1 : d ≤ 4611686018427387904) (hq : t.tdiv d = q) (hr : b.tdiv d = r) (q0 : -4611686018427387904 ≤ q) (q1 : q ≤ 4611686018427387904) (r0 : -4611686018427387904 ≤ r) (r1 : r ≤ 4611686018427387904) :
    Calls Try.prog 43 #[.int .i64 t, .int .i64 b] w (SaysS q r o w) := by
  have hz : d ≠ 0 := by omega
  obtain ⟨hb, ht, hb2⟩ := h
  have hT := in_to true t (-1000000000000) 1000000000000 (w.alloc (.cells #[.int .i64 0, .int .i64 0] 25)) (decide_eq_true ht)
  have hB := in_to true b (-1000000000000) 1000000000000 (w.alloc (.cells #[.int .i64 0, .int .i64 0] 25)) (decide_eq_true hb2)
  have b0 : Below w.heap.size w (w.alloc (.cells #[.int .i64 0, .int .i64 0] 25)) := (Below.refl _ _).alloc (Nat.le_refl _) _
  have x0 := Box.new w 0 0 25
  go_enter Try.func43, Try.ntmps43
  go_wp2_with fail
  refine hT.mono ?_
  rintro e w2 ⟨rfl, rfl⟩
  go_wp2_with fail
  refine hB.mono ?_
  rintro e w2 ⟨rfl, rfl⟩
  go_wp2_with fail
  refine (hG _).mono ?_
  rintro e w1 ⟨rfl, b1⟩
  have x1 := x0.keep b1 x0.lt
  replace b1 := below_more b0 (by simp) b1
  clear b0 x0 hG hT hB
  go_wp2_with fail
  go_region
  have x2 : Box (w1.alloc (.cells #[.int .i64 q, .int .i64 r] 25)).drew w.heap.size 0 0 25 := x1.alloc _
  have y2 : Box (w1.alloc (.cells #[.int .i64 q, .int .i64 r] 25)).drew w1.heap.size q r 25 := Box.new w1 q r _
  have b2 : Below w.heap.size w (w1.alloc (.cells #[.int .i64 q, .int .i64 r] 25)).drew := (b1.alloc b1.size _).drew
  clear b1
  go_wp2_with fail
  refine (hV _).mono ?_
  rintro e w3 ⟨rfl, b3⟩
  have x3 : Box w3 w.heap.size 0 0 25 := x2.keep b3 x2.lt
  have y3 : Box w3 w1.heap.size q r 25 := y2.keep b3 y2.lt
  replace b3 := below_more b2 b2.size b3
  have c0 := x3.c0
  have c1 := x3.c1
  have f0 := x3.free0
  have f1 := x3.free1
  have d0 := y3.c0
  have d1 := y3.c1
  clear x1 x2 y2 b2 hV
  cases o
  · go_wp2_with fail
    (try simp only [Exit.inBlock, Exit.then])
    refine bodyPost_ret (v := .tuple #[.agg #[.int .i64 0, .int .i64 0], .bool false]) ?_ rfl ⟨rfl, ?_⟩
    · rw [results_cell_tmp rfl]
      go_simp
    · repeat' (first | exact b3 | refine Below.setCell ?_ (by simp <;> omega) _)
  · go_wp2_with fail
    (try simp only [Exit.inBlock, Exit.then])
    refine bodyPost_ret (v := .tuple #[.agg #[.int .i64 q, .int .i64 r], .bool true]) ?_ rfl ⟨rfl, ?_⟩
    · rw [results_cell_tmp rfl]
      go_simp
    · repeat' (first | exact b3 | refine Below.setCell ?_ (by simp <;> omega) _)

theorem specMake_yes (t b : Int) (w : World) (h : Given t b) : Calls Try.prog 43 #[.int .i64 t, .int .i64 b] w (SaysF (shT t b) (shB t b) (shO t b) w) := by
  have h' := h
  obtain ⟨hb, ht, hb2⟩ := h'
  have g0 := gcd_pos t b hb
  have g1 := gcd_le t b hb
  have hq := tdiv_le t (dvs t b) (by omega) (by omega)
  have hr := tdiv_le b (dvs t b) (by omega) (by omega)
  have hG := fun W => specGcd_any t b W (by omega) (by omega) (by omega) (by omega)
  by_cases hneg : b < 0
  · have hd : -(Int.gcd t b : Int) = dvs t b := by unfold dvs; rw [if_pos hneg]
    exact specMake_neg t b _ _ _ _ _ w hneg h hG (fun W => specOk_any _ _ W) g0 (by omega) hd (by omega) rfl rfl hq.1 hq.2 hr.1 hr.2
  · have hd : (Int.gcd t b : Int) = dvs t b := by unfold dvs; rw [if_neg hneg]
    rw [hd] at g0 g1
    exact specMake_pos t b _ _ _ _ w hneg h (fun W => hd ▸ hG W) (fun W => specOk_any _ _ W) g0 (by omega) rfl rfl hq.1 hq.2 hr.1 hr.2
end Go.Proofs.Ytploanbnbkhciaa
