/-
  The contracts of the two makings of a fraction out of two ints, the program's and the model's: for a bottom that is not 0 and terms up to 10^12 the shortened terms and whether they are valid; else zeros and false. Only new memory is written.
-/
import Derived.Test.YtngegifiekjfbaaShortF
namespace Go.Proofs.Ytngegifiekjfbaa
open Go.ChangeShapes Go.WideShapes Go.ChangeAt Go.RowKit Go.PlainAid

/-- What a making takes. -/
def Given (t b : Int) : Prop := b ≠ 0 ∧ (-1000000000000 ≤ t ∧ t ≤ 1000000000000) ∧ -1000000000000 ≤ b ∧ b ≤ 1000000000000

theorem given_any (n : Int) (w : World) : Calls Try.prog 42 #[.int .i64 n] w fun e w' => e = .returned (.bool (decide (-1000000000000 ≤ n ∧ n ≤ 1000000000000))) ∧ w = w' := by
  by_cases h1 : -1000000000000 ≤ n
  · by_cases h2 : n ≤ 1000000000000
    · rw [decide_eq_true ⟨h1, h2⟩]
      go_enter Try.func42, Try.ntmps42
      go_wp2_with fail
      go_ret
      exact ⟨rfl, rfl⟩
    · rw [decide_eq_false (fun h => h2 h.2)]
      go_enter Try.func42, Try.ntmps42
      go_wp2_with fail
      go_ret
      exact ⟨rfl, rfl⟩
  · rw [decide_eq_false (fun h => h1 h.1)]
    go_enter Try.func42, Try.ntmps42
    go_wp2_with fail
    go_ret
    exact ⟨rfl, rfl⟩
theorem given_to (x : Bool) (n : Int) (w : World) (h : decide (-1000000000000 ≤ n ∧ n ≤ 1000000000000) = x) : Calls Try.prog 42 #[.int .i64 n] w fun e w' => e = .returned (.bool x) ∧ w = w' := h ▸ given_any n w

theorem implMake_no (t b : Int) (w : World) (h : ¬ Given t b) : Calls Try.prog 34 #[.int .i64 t, .int .i64 b] w (SaysF 0 0 false w) := by
  unfold Given at h
  by_cases hb : b = 0
  · subst hb
    clear h
    go_enter Try.func34, Try.ntmps34
    go_wp2_with fail
    (try simp only [Exit.inBlock, Exit.then])
    refine bodyPost_ret (v := .tuple #[.agg #[.int .i64 0, .int .i64 0], .bool false]) ?_ rfl ⟨rfl, ?_⟩
    · rw [results_cell_tmp rfl]
      go_simp
    · repeat' (first | exact Below.refl _ _ | refine Below.setCell ?_ (by simp <;> omega) _ | refine Below.alloc ?_ (by simp <;> omega) _)
  · by_cases ht : -1000000000000 ≤ t ∧ t ≤ 1000000000000
    · have hT := given_to true t (w.alloc (.cells #[.int .i64 0, .int .i64 0] 27)) (decide_eq_true ht)
      have hB := given_to false b (w.alloc (.cells #[.int .i64 0, .int .i64 0] 27)) (decide_eq_false (fun h2 => h ⟨hb, ht, h2⟩))
      clear h ht
      go_enter Try.func34, Try.ntmps34
      go_wp2_with fail
      refine hT.mono ?_
      rintro e w2 ⟨rfl, rfl⟩
      go_wp2_with fail
      refine hB.mono ?_
      rintro e w2 ⟨rfl, rfl⟩
      go_wp2_with fail
      (try simp only [Exit.inBlock, Exit.then])
      refine bodyPost_ret (v := .tuple #[.agg #[.int .i64 0, .int .i64 0], .bool false]) ?_ rfl ⟨rfl, ?_⟩
      · rw [results_cell_tmp rfl]
        go_simp
      · repeat' (first | exact Below.refl _ _ | refine Below.setCell ?_ (by simp <;> omega) _ | refine Below.alloc ?_ (by simp <;> omega) _)
    · have hT := given_to false t (w.alloc (.cells #[.int .i64 0, .int .i64 0] 27)) (decide_eq_false ht)
      clear h ht
      go_enter Try.func34, Try.ntmps34
      go_wp2_with fail
      refine hT.mono ?_
      rintro e w2 ⟨rfl, rfl⟩
      go_wp2_with fail
      (try simp only [Exit.inBlock, Exit.then])
      refine bodyPost_ret (v := .tuple #[.agg #[.int .i64 0, .int .i64 0], .bool false]) ?_ rfl ⟨rfl, ?_⟩
      · rw [results_cell_tmp rfl]
        go_simp
      · repeat' (first | exact Below.refl _ _ | refine Below.setCell ?_ (by simp <;> omega) _ | refine Below.alloc ?_ (by simp <;> omega) _)

theorem implMake_yes (t b : Int) (w : World) (h : Given t b) : Calls Try.prog 34 #[.int .i64 t, .int .i64 b] w (SaysF (shT t b) (shB t b) (shO t b) w) := by
  obtain ⟨hb, ht, hb2⟩ := h
  have hT := given_to true t (w.alloc (.cells #[.int .i64 0, .int .i64 0] 27)) (decide_eq_true ht)
  have hB := given_to true b (w.alloc (.cells #[.int .i64 0, .int .i64 0] 27)) (decide_eq_true hb2)
  have hS := fun W => short_any t b W (by omega) (by omega) hb (by omega) (by omega)
  have b0 : Below w.heap.size w (w.alloc (.cells #[.int .i64 0, .int .i64 0] 27)) := (Below.refl _ _).alloc (Nat.le_refl _) _
  have x0 := Box.new w 0 0 27
  clear ht hb2
  generalize shT t b = q at hS ⊢
  generalize shB t b = r at hS ⊢
  generalize shO t b = o at hS ⊢
  go_enter Try.func34, Try.ntmps34
  go_wp2_with fail
  refine hT.mono ?_
  rintro e w2 ⟨rfl, rfl⟩
  go_wp2_with fail
  refine hB.mono ?_
  rintro e w2 ⟨rfl, rfl⟩
  go_wp2_with fail
  refine (hS _).mono ?_
  rintro e w2 ⟨rfl, b2⟩
  have x2 := x0.keep b2 x0.lt
  replace b2 := below_more b0 b0.size b2
  have c0 := x2.c0
  have c1 := x2.c1
  have f0 := x2.free0
  have f1 := x2.free1
  clear x0 b0 hS hT hB
  go_wp2_with fail
  (try simp only [Exit.inBlock, Exit.then])
  refine bodyPost_ret (v := .tuple #[.agg #[.int .i64 q, .int .i64 r], .bool o]) ?_ rfl ⟨rfl, ?_⟩
  · rw [results_cell_tmp rfl]
    go_simp
  · repeat' (first | exact b2 | refine Below.setCell ?_ (by simp <;> omega) _)
theorem specMake_no (t b : Int) (w : World) (h : ¬ Given t b) : Calls Try.prog 36 #[.int .i64 t, .int .i64 b] w (SaysF 0 0 false w) := by
  unfold Given at h
  by_cases hb : b = 0
  · subst hb
    clear h
    go_enter Try.func36, Try.ntmps36
    go_wp2_with fail
    (try simp only [Exit.inBlock, Exit.then])
    refine bodyPost_ret (v := .tuple #[.agg #[.int .i64 0, .int .i64 0], .bool false]) ?_ rfl ⟨rfl, ?_⟩
    · rw [results_cell_tmp rfl]
      go_simp
    · repeat' (first | exact Below.refl _ _ | refine Below.setCell ?_ (by simp <;> omega) _ | refine Below.alloc ?_ (by simp <;> omega) _)
  · by_cases ht : -1000000000000 ≤ t ∧ t ≤ 1000000000000
    · have hT := in_to true t (-1000000000000) 1000000000000 (w.alloc (.cells #[.int .i64 0, .int .i64 0] 27)) (decide_eq_true ht)
      have hB := in_to false b (-1000000000000) 1000000000000 (w.alloc (.cells #[.int .i64 0, .int .i64 0] 27)) (decide_eq_false (fun h2 => h ⟨hb, ht, h2⟩))
      clear h ht
      go_enter Try.func36, Try.ntmps36
      go_wp2_with fail
      refine hT.mono ?_
      rintro e w2 ⟨rfl, rfl⟩
      go_wp2_with fail
      refine hB.mono ?_
      rintro e w2 ⟨rfl, rfl⟩
      go_wp2_with fail
      (try simp only [Exit.inBlock, Exit.then])
      refine bodyPost_ret (v := .tuple #[.agg #[.int .i64 0, .int .i64 0], .bool false]) ?_ rfl ⟨rfl, ?_⟩
      · rw [results_cell_tmp rfl]
        go_simp
      · repeat' (first | exact Below.refl _ _ | refine Below.setCell ?_ (by simp <;> omega) _ | refine Below.alloc ?_ (by simp <;> omega) _)
    · have hT := in_to false t (-1000000000000) 1000000000000 (w.alloc (.cells #[.int .i64 0, .int .i64 0] 27)) (decide_eq_false ht)
      clear h ht
      go_enter Try.func36, Try.ntmps36
      go_wp2_with fail
      refine hT.mono ?_
      rintro e w2 ⟨rfl, rfl⟩
      go_wp2_with fail
      (try simp only [Exit.inBlock, Exit.then])
      refine bodyPost_ret (v := .tuple #[.agg #[.int .i64 0, .int .i64 0], .bool false]) ?_ rfl ⟨rfl, ?_⟩
      · rw [results_cell_tmp rfl]
        go_simp
      · repeat' (first | exact Below.refl _ _ | refine Below.setCell ?_ (by simp <;> omega) _ | refine Below.alloc ?_ (by simp <;> omega) _)

theorem specMake_neg (t b g d q r : Int) (o : Bool) (w : World) (hneg : b < 0) (h : Given t b) (hG : ∀ W : World, Calls Try.prog 44 #[.int .i64 t, .int .i64 b] W fun e w' => e = .returned (.int .i64 g) ∧ Below W.heap.size W w')
    (hV : ∀ W : World, Calls Try.prog 38 #[.agg #[.int .i64 q, .int .i64 r]] W (SaysB o W))
    (g0 : 0 < g) (g1 : g ≤ 4611686018427387904) (hd : -g = d) (hz : d ≠ 0) (hq : t.tdiv d = q) (hr : b.tdiv d = r) (q0 : -4611686018427387904 ≤ q) (q1 : q ≤ 4611686018427387904) (r0 : -4611686018427387904 ≤ r) (r1 : r ≤ 4611686018427387904) :
    Calls Try.prog 36 #[.int .i64 t, .int .i64 b] w (SaysS q r o w) := by
  obtain ⟨hb, ht, hb2⟩ := h
  have hT := in_to true t (-1000000000000) 1000000000000 (w.alloc (.cells #[.int .i64 0, .int .i64 0] 27)) (decide_eq_true ht)
  have hB := in_to true b (-1000000000000) 1000000000000 (w.alloc (.cells #[.int .i64 0, .int .i64 0] 27)) (decide_eq_true hb2)
  have b0 : Below w.heap.size w (w.alloc (.cells #[.int .i64 0, .int .i64 0] 27)) := (Below.refl _ _).alloc (Nat.le_refl _) _
  have x0 := Box.new w 0 0 27
  go_enter Try.func36, Try.ntmps36
  go_wp2_with fail
  refine hT.mono ?_
  rintro e w2 ⟨rfl, rfl⟩
  go_wp2_with fail
  refine hB.mono ?_
  rintro e w2 ⟨rfl, rfl⟩
  go_wp2_with fail
  refine (hG _).mono ?_
  rintro e w1 ⟨rfl, b1⟩
  have x1 := x0.keep b1 x0.lt
  replace b1 := below_more b0 (by simp) b1
  clear b0 x0 hG hT hB
  go_wp2_with fail
  go_region
  have x2 : Box (w1.alloc (.cells #[.int .i64 q, .int .i64 r] 27)).drew w.heap.size 0 0 27 := x1.alloc _
  have y2 : Box (w1.alloc (.cells #[.int .i64 q, .int .i64 r] 27)).drew w1.heap.size q r 27 := Box.new w1 q r _
  have b2 : Below w.heap.size w (w1.alloc (.cells #[.int .i64 q, .int .i64 r] 27)).drew := (b1.alloc b1.size _).drew
  clear b1
  go_wp2_with fail
  refine (hV _).mono ?_
  rintro e w3 ⟨rfl, b3⟩
  have x3 : Box w3 w.heap.size 0 0 27 := x2.keep b3 x2.lt
  have y3 : Box w3 w1.heap.size q r 27 := y2.keep b3 y2.lt
  replace b3 := below_more b2 b2.size b3
  have c0 := x3.c0
  have c1 := x3.c1
  have f0 := x3.free0
  have f1 := x3.free1
  have d0 := y3.c0
  have d1 := y3.c1
  clear x1 x2 y2 b2 hV
  cases o
  · go_wp2_with fail
    (try simp only [Exit.inBlock, Exit.then])
    refine bodyPost_ret (v := .tuple #[.agg #[.int .i64 0, .int .i64 0], .bool false]) ?_ rfl ⟨rfl, ?_⟩
    · rw [results_cell_tmp rfl]
      go_simp
    · repeat' (first | exact b3 | refine Below.setCell ?_ (by simp <;> omega) _)
  · go_wp2_with fail
    (try simp only [Exit.inBlock, Exit.then])
    refine bodyPost_ret (v := .tuple #[.agg #[.int .i64 q, .int .i64 r], .bool true]) ?_ rfl ⟨rfl, ?_⟩
    · rw [results_cell_tmp rfl]
      go_simp
    · repeat' (first | exact b3 | refine Below.setCell ?_ (by simp <;> omega) _)
theorem specMake_pos (t b d q r : Int) (o : Bool) (w : World) (hneg : ¬ b < 0) (h : Given t b) (hG : ∀ W : World, Calls Try.prog 44 #[.int .i64 t, .int .i64 b] W fun e w' => e = .returned (.int .i64 d) ∧ Below W.heap.size W w')
    (hV : ∀ W : World, Calls Try.prog 38 #[.agg #[.int .i64 q, .int .i64 r]] W (SaysB o W))
    (g0 : 0 < d) (g1 : d ≤ 4611686018427387904) (hq : t.tdiv d = q) (hr : b.tdiv d = r) (q0 : -4611686018427387904 ≤ q) (q1 : q ≤ 4611686018427387904) (r0 : -4611686018427387904 ≤ r) (r1 : r ≤ 4611686018427387904) :
    Calls Try.prog 36 #[.int .i64 t, .int .i64 b] w (SaysS q r o w) := by
  have hz : d ≠ 0 := by omega
  obtain ⟨hb, ht, hb2⟩ := h
  have hT := in_to true t (-1000000000000) 1000000000000 (w.alloc (.cells #[.int .i64 0, .int .i64 0] 27)) (decide_eq_true ht)
  have hB := in_to true b (-1000000000000) 1000000000000 (w.alloc (.cells #[.int .i64 0, .int .i64 0] 27)) (decide_eq_true hb2)
  have b0 : Below w.heap.size w (w.alloc (.cells #[.int .i64 0, .int .i64 0] 27)) := (Below.refl _ _).alloc (Nat.le_refl _) _
  have x0 := Box.new w 0 0 27
  go_enter Try.func36, Try.ntmps36
  go_wp2_with fail
  refine hT.mono ?_
  rintro e w2 ⟨rfl, rfl⟩
  go_wp2_with fail
  refine hB.mono ?_
  rintro e w2 ⟨rfl, rfl⟩
  go_wp2_with fail
  refine (hG _).mono ?_
  rintro e w1 ⟨rfl, b1⟩
  have x1 := x0.keep b1 x0.lt
  replace b1 := below_more b0 (by simp) b1
  clear b0 x0 hG hT hB
  go_wp2_with fail
  go_region
  have x2 : Box (w1.alloc (.cells #[.int .i64 q, .int .i64 r] 27)).drew w.heap.size 0 0 27 := x1.alloc _
  have y2 : Box (w1.alloc (.cells #[.int .i64 q, .int .i64 r] 27)).drew w1.heap.size q r 27 := Box.new w1 q r _
  have b2 : Below w.heap.size w (w1.alloc (.cells #[.int .i64 q, .int .i64 r] 27)).drew := (b1.alloc b1.size _).drew
  clear b1
  go_wp2_with fail
  refine (hV _).mono ?_
  rintro e w3 ⟨rfl, b3⟩
  have x3 : Box w3 w.heap.size 0 0 27 := x2.keep b3 x2.lt
  have y3 : Box w3 w1.heap.size q r 27 := y2.keep b3 y2.lt
  replace b3 := below_more b2 b2.size b3
  have c0 := x3.c0
  have c1 := x3.c1
  have f0 := x3.free0
  have f1 := x3.free1
  have d0 := y3.c0
  have d1 := y3.c1
  clear x1 x2 y2 b2 hV
  cases o
  · go_wp2_with fail
    (try simp only [Exit.inBlock, Exit.then])
    refine bodyPost_ret (v := .tuple #[.agg #[.int .i64 0, .int .i64 0], .bool false]) ?_ rfl ⟨rfl, ?_⟩
    · rw [results_cell_tmp rfl]
      go_simp
    · repeat' (first | exact b3 | refine Below.setCell ?_ (by simp <;> omega) _)
  · go_wp2_with fail
    (try simp only [Exit.inBlock, Exit.then])
    refine bodyPost_ret (v := .tuple #[.agg #[.int .i64 q, .int .i64 r], .bool true]) ?_ rfl ⟨rfl, ?_⟩
    · rw [results_cell_tmp rfl]
      go_simp
    · repeat' (first | exact b3 | refine Below.setCell ?_ (by simp <;> omega) _)

theorem specMake_yes (t b : Int) (w : World) (h : Given t b) : Calls Try.prog 36 #[.int .i64 t, .int .i64 b] w (SaysF (shT t b) (shB t b) (shO t b) w) := by
  have h' := h
  obtain ⟨hb, ht, hb2⟩ := h'
  have g0 := gcd_pos t b hb
  have g1 := gcd_le t b hb
  have hq := tdiv_le t (dvs t b) (by omega) (by omega)
  have hr := tdiv_le b (dvs t b) (by omega) (by omega)
  have hG := fun W => specGcd_any t b W (by omega) (by omega) (by omega) (by omega)
  by_cases hneg : b < 0
  · have hd : -(Int.gcd t b : Int) = dvs t b := by unfold dvs; rw [if_pos hneg]
    exact specMake_neg t b _ _ _ _ _ w hneg h hG (fun W => specOk_any _ _ W) g0 (by omega) hd (by omega) rfl rfl hq.1 hq.2 hr.1 hr.2
  · have hd : (Int.gcd t b : Int) = dvs t b := by unfold dvs; rw [if_neg hneg]
    rw [hd] at g0 g1
    exact specMake_pos t b _ _ _ _ w hneg h (fun W => hd ▸ hG W) (fun W => specOk_any _ _ W) g0 (by omega) rfl rfl hq.1 hq.2 hr.1 hr.2
end Go.Proofs.Ytngegifiekjfbaa
