/-
  ChainLines answers as the model's does, every field. No condition.
-/
import Derived.Test.YtploanbnbkhciaaBxLine
import Derived.Test.YtploanbnbkhciaaSameF
import Derived.Test.YtploanbnbkhciaaLineS
import Derived.Test.YtploanbnbkhciaaLineI
import Derived.Test.YtploanbnbkhciaaToLine
import Derived.Deep.RegionLaw
import Derived.Deep.DeepCutAuto
import Derived.Deep.RegionHeld3
namespace Go.Proofs.Ytploanbnbkhciaa
open Go.ChangeShapes Go.WideShapes Go.ChangeAt Go.RowKit Go.PlainAid

set_option maxHeartbeats 4000000 in
theorem exactCh_any (a b c d e f g h : Int) (w : World) : Calls Try.prog 8 #[.agg #[.int .i64 a, .int .i64 b, .int .i64 c, .int .i64 d], .agg #[.int .i64 e, .int .i64 f, .int .i64 g, .int .i64 h]] w fun e w' => e = .returned (.bool true) ∧ Below w.heap.size w w' := by
  have hT1 := fun W => toLine_below a b c d W
  have hT2 := fun W => toLine_below e f g h W
  have hS := fun W => specCh_any a b c d e f g h W
  have hI := fun W => implCh_any a b c d e f g h W
  generalize chT a b c d e f g h = T at hS hI
  generalize chB a b c d e f g h = B at hS hI
  generalize chU a b c d e f g h = U at hS hI
  generalize chV a b c d e f g h = V at hS hI
  generalize chO a b c d e f g h = O at hS hI
  have hE := fun W => sameL_any T B U V W
  obtain ⟨x, y, kb⟩ := bx_44 w a b c d 39 e f g h 39
  obtain ⟨xc0, xc1, xc2, xc3⟩ := x.cells
  obtain ⟨yc0, yc1, yc2, yc3⟩ := y.cells
  go_enter Try.func8, Try.ntmps8
  go_wp2_with fail
  clear xc0 xc1 xc2 xc3 yc0 yc1 yc2 yc3
  generalize ((w.alloc (.cells #[.int .i64 a, .int .i64 b, .int .i64 c, .int .i64 d] 39)).alloc (.cells #[.int .i64 e, .int .i64 f, .int .i64 g, .int .i64 h] 39)) = w0 at x y kb ⊢
  generalize hp1 : w.heap.size + 1 = p1 at y ⊢
  have hz : w.heap.size < p1 := by omega
  clear hp1
  go_cut [5, 6] (fun s1 s2 wx => BoxedL w0.heap.size w0 T B U V O s1 s2 wx)
  case first =>
    clear kb
    have ltx := x.lt
    have lty := y.lt
    go_region_held3 (fun W => (W.cell? ⟨w.heap.size, 0, none⟩ = some (.int .i64 a) ∧ W.cell? ⟨w.heap.size, 1, none⟩ = some (.int .i64 b) ∧ W.cell? ⟨w.heap.size, 2, none⟩ = some (.int .i64 c) ∧ W.cell? ⟨w.heap.size, 3, none⟩ = some (.int .i64 d)) ∧ (W.cell? ⟨p1, 0, none⟩ = some (.int .i64 e) ∧ W.cell? ⟨p1, 1, none⟩ = some (.int .i64 f) ∧ W.cell? ⟨p1, 2, none⟩ = some (.int .i64 g) ∧ W.cell? ⟨p1, 3, none⟩ = some (.int .i64 h))) (exact ⟨Quad.cells (t := 39) (by repeat' (first | with_reducible exact x | with_reducible exact y | with_reducible refine Box.drew ?_ | with_reducible refine Quad.drew ?_ | with_reducible refine Box.alloc ?_ _ | with_reducible refine Quad.alloc ?_ _ | with_reducible refine Box.under ?_ k1 | with_reducible refine Quad.under ?_ k1 | with_reducible refine Box.by (by assumption) ?_ | with_reducible refine Quad.by (by assumption) ?_ | with_reducible refine Box.other ?_ _ _ (by simp <;> omega) | with_reducible refine Quad.other ?_ _ _ (by simp <;> omega))), Quad.cells (t := 39) (by repeat' (first | with_reducible exact x | with_reducible exact y | with_reducible refine Box.drew ?_ | with_reducible refine Quad.drew ?_ | with_reducible refine Box.alloc ?_ _ | with_reducible refine Quad.alloc ?_ _ | with_reducible refine Box.under ?_ k1 | with_reducible refine Quad.under ?_ k1 | with_reducible refine Box.by (by assumption) ?_ | with_reducible refine Quad.by (by assumption) ?_ | with_reducible refine Box.other ?_ _ _ (by simp <;> omega) | with_reducible refine Quad.other ?_ _ _ (by simp <;> omega)))⟩)
      (first | (go_at_call 18; (first | (with_reducible refine (hT1 _).mono ?_) | (with_reducible refine (hT2 _).mono ?_)); rintro e w' ⟨rfl, kt⟩; have st := kt.size; (try simp only [size_drew] at st); (try simp only [size_alloc] at st); (first | have zb := Quad.under zb kt | have zb := Quad.under (Quad.new _ 0 0 0 0 27) kt | have zb := Quad.under (Quad.drew (Quad.new _ 0 0 0 0 27)) kt | skip)) | (go_at_call 25; refine (hS _).mono ?_; rintro e w1 ⟨rfl, k1⟩; have s1 := k1.size; (try simp only [size_drew] at s1); (try simp only [size_alloc] at s1); (first | have zb := Quad.under zb k1 | have zb := Quad.under (Quad.new _ 0 0 0 0 27) k1 | have zb := Quad.under (Quad.drew (Quad.new _ 0 0 0 0 27)) k1 | skip); (try (have d0 := zb.c0; have d1 := zb.c1; have d2 := zb.c2; have d3 := zb.c3; have fz := zb.free; obtain ⟨f0, f1, f2, f3⟩ := fz))))
    all_goals
      clear x y
      go_wp2_with fail
      go_meet
      first | with_reducible refine boxedL_at (by assumption) ?_ ?_ | with_reducible refine boxedL_in ?_ ?_
    all_goals (repeat' (first | with_reducible exact Below.refl _ _ | with_reducible refine Below.drew ?_ | with_reducible refine Below.alloc ?_ ?_ _ | with_reducible refine below_by (by assumption) ?_ ?_))
    all_goals (first | omega | (simp only [size_drew, size_alloc] <;> omega) | (simp <;> omega) | (simp at * <;> omega))
  case rest =>
    obtain ⟨q1, rfl, rfl, r1, kx⟩ := hcut
    replace x := x.keep kx x.lt
    replace y := y.keep kx y.lt
    replace kb := kb.trans (kx.mono kb.size)
    clear kx hS
    go_upto_region 2 with fail
    go_cut [7, 8] (fun s1 s2 wx => BoxedL wc.heap.size wc T B U V O s1 s2 wx)
    case first =>
      clear kb
      have ltx := x.lt
      have lty := y.lt
      go_region_held3 (fun W => (W.cell? ⟨w.heap.size, 0, none⟩ = some (.int .i64 a) ∧ W.cell? ⟨w.heap.size, 1, none⟩ = some (.int .i64 b) ∧ W.cell? ⟨w.heap.size, 2, none⟩ = some (.int .i64 c) ∧ W.cell? ⟨w.heap.size, 3, none⟩ = some (.int .i64 d)) ∧ (W.cell? ⟨p1, 0, none⟩ = some (.int .i64 e) ∧ W.cell? ⟨p1, 1, none⟩ = some (.int .i64 f) ∧ W.cell? ⟨p1, 2, none⟩ = some (.int .i64 g) ∧ W.cell? ⟨p1, 3, none⟩ = some (.int .i64 h))) (exact ⟨Quad.cells (t := 39) (by repeat' (first | with_reducible exact x | with_reducible exact y | with_reducible exact r1 | with_reducible refine Box.drew ?_ | with_reducible refine Quad.drew ?_ | with_reducible refine Box.alloc ?_ _ | with_reducible refine Quad.alloc ?_ _ | with_reducible refine Box.under ?_ k1 | with_reducible refine Quad.under ?_ k1 | with_reducible refine Box.by (by assumption) ?_ | with_reducible refine Quad.by (by assumption) ?_ | with_reducible refine Box.other ?_ _ _ (by simp <;> omega) | with_reducible refine Quad.other ?_ _ _ (by simp <;> omega))), Quad.cells (t := 39) (by repeat' (first | with_reducible exact x | with_reducible exact y | with_reducible exact r1 | with_reducible refine Box.drew ?_ | with_reducible refine Quad.drew ?_ | with_reducible refine Box.alloc ?_ _ | with_reducible refine Quad.alloc ?_ _ | with_reducible refine Box.under ?_ k1 | with_reducible refine Quad.under ?_ k1 | with_reducible refine Box.by (by assumption) ?_ | with_reducible refine Quad.by (by assumption) ?_ | with_reducible refine Box.other ?_ _ _ (by simp <;> omega) | with_reducible refine Quad.other ?_ _ _ (by simp <;> omega)))⟩)
        (first | (go_at_call 18; (first | (with_reducible refine (hT1 _).mono ?_) | (with_reducible refine (hT2 _).mono ?_)); rintro e w' ⟨rfl, kt⟩; have st := kt.size; (try simp only [size_drew] at st); (try simp only [size_alloc] at st); (first | have zb := Quad.under zb kt | have zb := Quad.under (Quad.new _ 0 0 0 0 27) kt | have zb := Quad.under (Quad.drew (Quad.new _ 0 0 0 0 27)) kt | skip)) | (go_at_call 15; refine (hI _).mono ?_; rintro e w1 ⟨rfl, k1⟩; have s1 := k1.size; (try simp only [size_drew] at s1); (try simp only [size_alloc] at s1); (first | have zb := Quad.under zb k1 | have zb := Quad.under (Quad.new _ 0 0 0 0 27) k1 | have zb := Quad.under (Quad.drew (Quad.new _ 0 0 0 0 27)) k1 | skip); (try (have d0 := zb.c0; have d1 := zb.c1; have d2 := zb.c2; have d3 := zb.c3; have fz := zb.free; obtain ⟨f0, f1, f2, f3⟩ := fz))))
      all_goals
        clear x y r1
        go_wp2_with fail
        go_meet
        first | with_reducible refine boxedL_at (by assumption) ?_ ?_ | with_reducible refine boxedL_in ?_ ?_
      all_goals (repeat' (first | with_reducible exact Below.refl _ _ | with_reducible refine Below.drew ?_ | with_reducible refine Below.alloc ?_ ?_ _ | with_reducible refine below_by (by assumption) ?_ ?_))
      all_goals (first | omega | (simp only [size_drew, size_alloc] <;> omega) | (simp <;> omega) | (simp at * <;> omega))
    case rest =>
      obtain ⟨q2, rfl, rfl, r2, kx⟩ := hcut
      replace x := x.keep kx x.lt
      replace y := y.keep kx y.lt
      replace r1 := r1.keep kx r1.lt
      replace kb := kb.trans (kx.mono kb.size)
      clear kx hI hT1 hT2
      go_upto_region 3 with fail
      clear x y
      obtain ⟨r1c0, r1c1, r1c2, r1c3⟩ := r1.cells
      obtain ⟨r2c0, r2c1, r2c2, r2c3⟩ := r2.cells
      go_wp2_with fail
      refine (hE _).mono ?_
      rintro en w9 ⟨rfl, b⟩
      replace kb := below_more kb kb.size b
      clear b r1 r2 hE r1c0 r1c1 r1c2 r1c3 r2c0 r2c1 r2c2 r2c3
      go_wp2_with fail
      go_ret
      exact ⟨rfl, kb⟩

end Go.Proofs.Ytploanbnbkhciaa
