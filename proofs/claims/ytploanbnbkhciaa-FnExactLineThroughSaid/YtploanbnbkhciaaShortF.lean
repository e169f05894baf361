/-
  The contract of the program's shortening: for a bottom other than 0 it answers the shortened terms and whether they are valid, or zeros and false. Only new memory is written.
-/
import Derived.Test.YtploanbnbkhciaaFracOk
namespace Go.Proofs.Ytploanbnbkhciaa
open Go.ChangeShapes Go.WideShapes Go.ChangeAt Go.RowKit Go.PlainAid

/-- A fraction and a bool are answered, only new memory is written. -/
def SaysF (T B : Int) (O : Bool) (w : World) (e : Ending) (w' : World) : Prop := e = .returned (.tuple #[.agg #[.int .i64 T, .int .i64 B], .bool O]) ∧ Below w.heap.size w w'
/-- The two terms and true, or zeros and false. -/
def SaysS (q r : Int) (o : Bool) (w : World) (e : Ending) (w' : World) : Prop := SaysF (if o then q else 0) (if o then r else 0) o w e w'

theorem short_neg (t b g d q r : Int) (o : Bool) (w : World) (hneg : b < 0) (hG : ∀ W : World, Calls Try.prog 48 #[.int .i64 t, .int .i64 b] W fun e w' => e = .returned (.int .i64 g) ∧ Below W.heap.size W w')
    (hV : ∀ W : World, Calls Try.prog 33 #[.agg #[.int .i64 q, .int .i64 r]] W (SaysB o W))
    (g0 : 0 < g) (g1 : g ≤ 4611686018427387904) (hd : -g = d) (hz : d ≠ 0) (hq : t.tdiv d = q) (hr : b.tdiv d = r) (q0 : -4611686018427387904 ≤ q) (q1 : q ≤ 4611686018427387904) (r0 : -4611686018427387904 ≤ r) (r1 : r ≤ 4611686018427387904) :
    Calls Try.prog 49 #[.int .i64 t, .int .i64 b] w (SaysS q r o w) := by
  have b0 : Below w.heap.size w (w.alloc (.cells #[.int .i64 0, .int .i64 0] 25)) := (Below.refl _ _).alloc (Nat.le_refl _) _
  have x0 := Box.new w 0 0 25
  go_enter Try.func49, Try.ntmps49
  go_wp2_with fail
  refine (hG _).mono ?_
  rintro e w1 ⟨rfl, b1⟩
  have x1 := x0.keep b1 x0.lt
  replace b1 := below_more b0 (by simp) b1
  clear b0 x0 hG
  go_wp2_with fail
  go_region
  have x2 : Box (w1.alloc (.cells #[.int .i64 q, .int .i64 r] 25)).drew w.heap.size 0 0 25 := x1.alloc _
  have y2 : Box (w1.alloc (.cells #[.int .i64 q, .int .i64 r] 25)).drew w1.heap.size q r 25 := Box.new w1 q r _
  have b2 : Below w.heap.size w (w1.alloc (.cells #[.int .i64 q, .int .i64 r] 25)).drew := (b1.alloc b1.size _).drew
  clear b1
  go_wp2_with fail
  refine (hV _).mono ?_
  rintro e w3 ⟨rfl, b3⟩
  have x3 : Box w3 w.heap.size 0 0 25 := x2.keep b3 x2.lt
  have y3 : Box w3 w1.heap.size q r 25 := y2.keep b3 y2.lt
  replace b3 := below_more b2 b2.size b3
  have c0 := x3.c0
  have c1 := x3.c1
  have f0 := x3.free0
  have f1 := x3.free1
  have d0 := y3.c0
  have d1 := y3.c1
  clear x1 x2 y2 b2 hV
  cases o
  · go_wp2_with fail
    (try simp only [Exit.inBlock, Exit.then])
    refine bodyPost_ret (v := .tuple #[.agg #[.int .i64 0, .int .i64 0], .bool false]) ?_ rfl ⟨rfl, ?_⟩
    · rw [results_cell_tmp rfl]
      go_simp
    · repeat' (first | exact b3 | refine Below.setCell ?_ (by simp <;> omega) _)
  · go_wp2_with fail
    (try simp only [Exit.inBlock, Exit.then])
    refine bodyPost_ret (v := .tuple #[.agg #[.int .i64 q, .int .i64 r], .bool true]) ?_ rfl ⟨rfl, ?_⟩
    · rw [results_cell_tmp rfl]
      go_simp
    · repeat' (first | exact b3 | refine Below.setCell ?_ (by simp <;> omega) _)
theorem short_pos (t b d q r : Int) (o : Bool) (w : World) (hneg : ¬ b < 0) (hG : ∀ W : World, Calls Try.prog 48 #[.int .i64 t, .int .i64 b] W fun e w' => e = .returned (.int .i64 d) ∧ Below W.heap.size W w')
    (hV : ∀ W : World, Calls Try.prog 33 #[.agg #[.int .i64 q, .int .i64 r]] W (SaysB o W))
    (g0 : 0 < d) (g1 : d ≤ 4611686018427387904) (hq : t.tdiv d = q) (hr : b.tdiv d = r) (q0 : -4611686018427387904 ≤ q) (q1 : q ≤ 4611686018427387904) (r0 : -4611686018427387904 ≤ r) (r1 : r ≤ 4611686018427387904) :
    Calls Try.prog 49 #[.int .i64 t, .int .i64 b] w (SaysS q r o w) := by
  have hz : d ≠ 0 := by omega
  have b0 : Below w.heap.size w (w.alloc (.cells #[.int .i64 0, .int .i64 0] 25)) := (Below.refl _ _).alloc (Nat.le_refl _) _
  have x0 := Box.new w 0 0 25
  go_enter Try.func49, Try.ntmps49
  go_wp2_with fail
  refine (hG _).mono ?_
  rintro e w1 ⟨rfl, b1⟩
  have x1 := x0.keep b1 x0.lt
  replace b1 := below_more b0 (by simp) b1
  clear b0 x0 hG
  go_wp2_with fail
  go_region
  have x2 : Box (w1.alloc (.cells #[.int .i64 q, .int .i64 r] 25)).drew w.heap.size 0 0 25 := x1.alloc _
  have y2 : Box (w1.alloc (.cells #[.int .i64 q, .int .i64 r] 25)).drew w1.heap.size q r 25 := Box.new w1 q r _
  have b2 : Below w.heap.size w (w1.alloc (.cells #[.int .i64 q, .int .i64 r] 25)).drew := (b1.alloc b1.size _).drew
  clear b1
  go_wp2_with fail
  refine (hV _).mono ?_
  rintro e w3 ⟨rfl, b3⟩
  have x3 : Box w3 w.heap.size 0 0 25 := x2.keep b3 x2.lt
  have y3 : Box w3 w1.heap.size q r 25 := y2.keep b3 y2.lt
  replace b3 := below_more b2 b2.size b3
  have c0 := x3.c0
  have c1 := x3.c1
  have f0 := x3.free0
  have f1 := x3.free1
  have d0 := y3.c0
  have d1 := y3.c1
  clear x1 x2 y2 b2 hV
  cases o
  · go_wp2_with fail
    (try simp only [Exit.inBlock, Exit.then])
    refine bodyPost_ret (v := .tuple #[.agg #[.int .i64 0, .int .i64 0], .bool false]) ?_ rfl ⟨rfl, ?_⟩
    · rw [results_cell_tmp rfl]
      go_simp
    · repeat' (first | exact b3 | refine Below.setCell ?_ (by simp <;> omega) _)
  · go_wp2_with fail
    (try simp only [Exit.inBlock, Exit.then])
    refine bodyPost_ret (v := .tuple #[.agg #[.int .i64 q, .int .i64 r], .bool true]) ?_ rfl ⟨rfl, ?_⟩
    · rw [results_cell_tmp rfl]
      go_simp
    · repeat' (first | exact b3 | refine Below.setCell ?_ (by simp <;> omega) _)

theorem tdiv_le (t d : Int) (h0 : -4611686018427387904 ≤ t) (h1 : t ≤ 4611686018427387904) : -4611686018427387904 ≤ t.tdiv d ∧ t.tdiv d ≤ 4611686018427387904 := by
  have h : (t.tdiv d).natAbs = t.natAbs / d.natAbs := Int.natAbs_tdiv t d
  have h2 := Nat.div_le_self t.natAbs d.natAbs
  omega

theorem short_any (t b : Int) (w : World) (ht0 : -4611686018427387904 ≤ t) (ht1 : t ≤ 4611686018427387904) (hb : b ≠ 0) (hb0 : -4611686018427387904 ≤ b) (hb1 : b ≤ 4611686018427387904) :
    Calls Try.prog 49 #[.int .i64 t, .int .i64 b] w (SaysF (shT t b) (shB t b) (shO t b) w) := by
  have g0 := gcd_pos t b hb
  have g1 := gcd_le t b hb
  have hq := tdiv_le t (dvs t b) ht0 ht1
  have hr := tdiv_le b (dvs t b) hb0 hb1
  have hG := fun W => implGcd_any t b W (by omega) (by omega) (by omega) (by omega)
  by_cases hneg : b < 0
  · have hd : -(Int.gcd t b : Int) = dvs t b := by unfold dvs; rw [if_pos hneg]
    exact short_neg t b _ _ _ _ _ w hneg hG (fun W => valid_any _ _ W) g0 (by omega) hd (by omega) rfl rfl hq.1 hq.2 hr.1 hr.2
  · have hd : (Int.gcd t b : Int) = dvs t b := by unfold dvs; rw [if_neg hneg]
    rw [hd] at g0 g1
    exact short_pos t b _ _ _ _ w hneg (fun W => hd ▸ hG W) (fun W => valid_any _ _ W) g0 (by omega) rfl rfl hq.1 hq.2 hr.1 hr.2
end Go.Proofs.Ytploanbnbkhciaa
