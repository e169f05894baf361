/-
  LineThrough answers as the model's does, every field. No condition.
-/
import Derived.Test.YtploanbnbkhciaaBxLine
import Derived.Test.YtploanbnbkhciaaSameF
import Derived.Test.YtploanbnbkhciaaLineThr
import Derived.Test.YtploanbnbkhciaaToLine
import Derived.Deep.RegionLaw
import Derived.Deep.DeepCutAuto
import Derived.Deep.RegionHeld3
namespace Go.Proofs.Ytploanbnbkhciaa
open Go.ChangeShapes Go.WideShapes Go.ChangeAt Go.RowKit Go.PlainAid

set_option maxHeartbeats 4000000 in
theorem exactThr_any (a b c d e f g h : Int) (w : World) : Calls Try.prog 7 #[.agg #[.int .i64 a, .int .i64 b], .agg #[.int .i64 c, .int .i64 d], .agg #[.int .i64 e, .int .i64 f], .agg #[.int .i64 g, .int .i64 h]] w fun e w' => e = .returned (.bool true) ∧ Below w.heap.size w w' := by
  have hT1 := fun W => to_below a b W
  have hT2 := fun W => to_below c d W
  have hT3 := fun W => to_below e f W
  have hT4 := fun W => to_below g h W
  have hS := fun W => specThr_any a b c d e f g h W
  have hI := fun W => implThr_any a b c d e f g h W
  generalize thT a b c d e f g h = T at hS hI
  generalize thB a b c d e f g h = B at hS hI
  generalize thU a b c d e f g h = U at hS hI
  generalize thV a b c d e f g h = V at hS hI
  generalize thO a b c d e f g h = O at hS hI
  have hE := fun W => sameL_any T B U V W
  obtain ⟨x, y, u, v, kb⟩ := bx_2222 w a b 37 c d 37 e f 37 g h 37
  obtain ⟨xc0, xc1⟩ := x.cells
  obtain ⟨yc0, yc1⟩ := y.cells
  obtain ⟨uc0, uc1⟩ := u.cells
  obtain ⟨vc0, vc1⟩ := v.cells
  go_enter Try.func7, Try.ntmps7
  go_wp2_with fail
  clear xc0 xc1 yc0 yc1 uc0 uc1 vc0 vc1
  generalize ((((w.alloc (.cells #[.int .i64 a, .int .i64 b] 37)).alloc (.cells #[.int .i64 c, .int .i64 d] 37)).alloc (.cells #[.int .i64 e, .int .i64 f] 37)).alloc (.cells #[.int .i64 g, .int .i64 h] 37)) = w0 at x y u v kb ⊢
  generalize hp3 : w.heap.size + 1 + 1 + 1 = p3 at v ⊢
  generalize hp2 : w.heap.size + 1 + 1 = p2 at u ⊢
  generalize hp1 : w.heap.size + 1 = p1 at y ⊢
  have hz : w.heap.size < p1 ∧ p1 < p2 ∧ p2 < p3 := by omega
  clear hp1 hp2 hp3
  go_cut [9, 10] (fun s1 s2 wx => BoxedL w0.heap.size w0 T B U V O s1 s2 wx)
  case first =>
    clear kb
    have ltx := x.lt
    have lty := y.lt
    have ltu := u.lt
    have ltv := v.lt
    go_region_held3 (fun W => (W.cell? ⟨w.heap.size, 0, none⟩ = some (.int .i64 a) ∧ W.cell? ⟨w.heap.size, 1, none⟩ = some (.int .i64 b)) ∧ (W.cell? ⟨p1, 0, none⟩ = some (.int .i64 c) ∧ W.cell? ⟨p1, 1, none⟩ = some (.int .i64 d)) ∧ (W.cell? ⟨p2, 0, none⟩ = some (.int .i64 e) ∧ W.cell? ⟨p2, 1, none⟩ = some (.int .i64 f)) ∧ (W.cell? ⟨p3, 0, none⟩ = some (.int .i64 g) ∧ W.cell? ⟨p3, 1, none⟩ = some (.int .i64 h))) (exact ⟨Box.cells (t := 37) (by repeat' (first | with_reducible exact x | with_reducible exact y | with_reducible exact u | with_reducible exact v | with_reducible refine Box.drew ?_ | with_reducible refine Quad.drew ?_ | with_reducible refine Box.alloc ?_ _ | with_reducible refine Quad.alloc ?_ _ | with_reducible refine Box.under ?_ k1 | with_reducible refine Quad.under ?_ k1 | with_reducible refine Box.by (by assumption) ?_ | with_reducible refine Quad.by (by assumption) ?_ | with_reducible refine Box.other ?_ _ _ (by simp <;> omega) | with_reducible refine Quad.other ?_ _ _ (by simp <;> omega))), Box.cells (t := 37) (by repeat' (first | with_reducible exact x | with_reducible exact y | with_reducible exact u | with_reducible exact v | with_reducible refine Box.drew ?_ | with_reducible refine Quad.drew ?_ | with_reducible refine Box.alloc ?_ _ | with_reducible refine Quad.alloc ?_ _ | with_reducible refine Box.under ?_ k1 | with_reducible refine Quad.under ?_ k1 | with_reducible refine Box.by (by assumption) ?_ | with_reducible refine Quad.by (by assumption) ?_ | with_reducible refine Box.other ?_ _ _ (by simp <;> omega) | with_reducible refine Quad.other ?_ _ _ (by simp <;> omega))), Box.cells (t := 37) (by repeat' (first | with_reducible exact x | with_reducible exact y | with_reducible exact u | with_reducible exact v | with_reducible refine Box.drew ?_ | with_reducible refine Quad.drew ?_ | with_reducible refine Box.alloc ?_ _ | with_reducible refine Quad.alloc ?_ _ | with_reducible refine Box.under ?_ k1 | with_reducible refine Quad.under ?_ k1 | with_reducible refine Box.by (by assumption) ?_ | with_reducible refine Quad.by (by assumption) ?_ | with_reducible refine Box.other ?_ _ _ (by simp <;> omega) | with_reducible refine Quad.other ?_ _ _ (by simp <;> omega))), Box.cells (t := 37) (by repeat' (first | with_reducible exact x | with_reducible exact y | with_reducible exact u | with_reducible exact v | with_reducible refine Box.drew ?_ | with_reducible refine Quad.drew ?_ | with_reducible refine Box.alloc ?_ _ | with_reducible refine Quad.alloc ?_ _ | with_reducible refine Box.under ?_ k1 | with_reducible refine Quad.under ?_ k1 | with_reducible refine Box.by (by assumption) ?_ | with_reducible refine Quad.by (by assumption) ?_ | with_reducible refine Box.other ?_ _ _ (by simp <;> omega) | with_reducible refine Quad.other ?_ _ _ (by simp <;> omega)))⟩)
      (first | (go_at_call 20; (first | (with_reducible refine (hT1 _).mono ?_) | (with_reducible refine (hT2 _).mono ?_) | (with_reducible refine (hT3 _).mono ?_) | (with_reducible refine (hT4 _).mono ?_)); rintro e w' ⟨rfl, kt⟩; have st := kt.size; (try simp only [size_drew] at st); (try simp only [size_alloc] at st); (first | have zb := Quad.under zb kt | have zb := Quad.under (Quad.new _ 0 0 0 0 27) kt | have zb := Quad.under (Quad.drew (Quad.new _ 0 0 0 0 27)) kt | skip)) | (go_at_call 23; refine (hS _).mono ?_; rintro e w1 ⟨rfl, k1⟩; have s1 := k1.size; (try simp only [size_drew] at s1); (try simp only [size_alloc] at s1); (first | have zb := Quad.under zb k1 | have zb := Quad.under (Quad.new _ 0 0 0 0 27) k1 | have zb := Quad.under (Quad.drew (Quad.new _ 0 0 0 0 27)) k1 | skip); (try (have d0 := zb.c0; have d1 := zb.c1; have d2 := zb.c2; have d3 := zb.c3; have fz := zb.free; obtain ⟨f0, f1, f2, f3⟩ := fz))))
    all_goals
      clear x y u v
      go_wp2_with fail
      go_meet
      first | with_reducible refine boxedL_at (by assumption) ?_ ?_ | with_reducible refine boxedL_in ?_ ?_
    all_goals (repeat' (first | with_reducible exact Below.refl _ _ | with_reducible refine Below.drew ?_ | with_reducible refine Below.alloc ?_ ?_ _ | with_reducible refine below_by (by assumption) ?_ ?_))
    all_goals (first | omega | (simp only [size_drew, size_alloc] <;> omega) | (simp <;> omega) | (simp at * <;> omega))
  case rest =>
    obtain ⟨q1, rfl, rfl, r1, kx⟩ := hcut
    replace x := x.keep kx x.lt
    replace y := y.keep kx y.lt
    replace u := u.keep kx u.lt
    replace v := v.keep kx v.lt
    replace kb := kb.trans (kx.mono kb.size)
    clear kx hS
    go_upto_region 2 with fail
    go_cut [11, 12] (fun s1 s2 wx => BoxedL wc.heap.size wc T B U V O s1 s2 wx)
    case first =>
      clear kb
      have ltx := x.lt
      have lty := y.lt
      have ltu := u.lt
      have ltv := v.lt
      go_region_held3 (fun W => (W.cell? ⟨w.heap.size, 0, none⟩ = some (.int .i64 a) ∧ W.cell? ⟨w.heap.size, 1, none⟩ = some (.int .i64 b)) ∧ (W.cell? ⟨p1, 0, none⟩ = some (.int .i64 c) ∧ W.cell? ⟨p1, 1, none⟩ = some (.int .i64 d)) ∧ (W.cell? ⟨p2, 0, none⟩ = some (.int .i64 e) ∧ W.cell? ⟨p2, 1, none⟩ = some (.int .i64 f)) ∧ (W.cell? ⟨p3, 0, none⟩ = some (.int .i64 g) ∧ W.cell? ⟨p3, 1, none⟩ = some (.int .i64 h))) (exact ⟨Box.cells (t := 37) (by repeat' (first | with_reducible exact x | with_reducible exact y | with_reducible exact u | with_reducible exact v | with_reducible exact r1 | with_reducible refine Box.drew ?_ | with_reducible refine Quad.drew ?_ | with_reducible refine Box.alloc ?_ _ | with_reducible refine Quad.alloc ?_ _ | with_reducible refine Box.under ?_ k1 | with_reducible refine Quad.under ?_ k1 | with_reducible refine Box.by (by assumption) ?_ | with_reducible refine Quad.by (by assumption) ?_ | with_reducible refine Box.other ?_ _ _ (by simp <;> omega) | with_reducible refine Quad.other ?_ _ _ (by simp <;> omega))), Box.cells (t := 37) (by repeat' (first | with_reducible exact x | with_reducible exact y | with_reducible exact u | with_reducible exact v | with_reducible exact r1 | with_reducible refine Box.drew ?_ | with_reducible refine Quad.drew ?_ | with_reducible refine Box.alloc ?_ _ | with_reducible refine Quad.alloc ?_ _ | with_reducible refine Box.under ?_ k1 | with_reducible refine Quad.under ?_ k1 | with_reducible refine Box.by (by assumption) ?_ | with_reducible refine Quad.by (by assumption) ?_ | with_reducible refine Box.other ?_ _ _ (by simp <;> omega) | with_reducible refine Quad.other ?_ _ _ (by simp <;> omega))), Box.cells (t := 37) (by repeat' (first | with_reducible exact x | with_reducible exact y | with_reducible exact u | with_reducible exact v | with_reducible exact r1 | with_reducible refine Box.drew ?_ | with_reducible refine Quad.drew ?_ | with_reducible refine Box.alloc ?_ _ | with_reducible refine Quad.alloc ?_ _ | with_reducible refine Box.under ?_ k1 | with_reducible refine Quad.under ?_ k1 | with_reducible refine Box.by (by assumption) ?_ | with_reducible refine Quad.by (by assumption) ?_ | with_reducible refine Box.other ?_ _ _ (by simp <;> omega) | with_reducible refine Quad.other ?_ _ _ (by simp <;> omega))), Box.cells (t := 37) (by repeat' (first | with_reducible exact x | with_reducible exact y | with_reducible exact u | with_reducible exact v | with_reducible exact r1 | with_reducible refine Box.drew ?_ | with_reducible refine Quad.drew ?_ | with_reducible refine Box.alloc ?_ _ | with_reducible refine Quad.alloc ?_ _ | with_reducible refine Box.under ?_ k1 | with_reducible refine Quad.under ?_ k1 | with_reducible refine Box.by (by assumption) ?_ | with_reducible refine Quad.by (by assumption) ?_ | with_reducible refine Box.other ?_ _ _ (by simp <;> omega) | with_reducible refine Quad.other ?_ _ _ (by simp <;> omega)))⟩)
        (first | (go_at_call 20; (first | (with_reducible refine (hT1 _).mono ?_) | (with_reducible refine (hT2 _).mono ?_) | (with_reducible refine (hT3 _).mono ?_) | (with_reducible refine (hT4 _).mono ?_)); rintro e w' ⟨rfl, kt⟩; have st := kt.size; (try simp only [size_drew] at st); (try simp only [size_alloc] at st); (first | have zb := Quad.under zb kt | have zb := Quad.under (Quad.new _ 0 0 0 0 27) kt | have zb := Quad.under (Quad.drew (Quad.new _ 0 0 0 0 27)) kt | skip)) | (go_at_call 14; refine (hI _).mono ?_; rintro e w1 ⟨rfl, k1⟩; have s1 := k1.size; (try simp only [size_drew] at s1); (try simp only [size_alloc] at s1); (first | have zb := Quad.under zb k1 | have zb := Quad.under (Quad.new _ 0 0 0 0 27) k1 | have zb := Quad.under (Quad.drew (Quad.new _ 0 0 0 0 27)) k1 | skip); (try (have d0 := zb.c0; have d1 := zb.c1; have d2 := zb.c2; have d3 := zb.c3; have fz := zb.free; obtain ⟨f0, f1, f2, f3⟩ := fz))))
      all_goals
        clear x y u v r1
        go_wp2_with fail
        go_meet
        first | with_reducible refine boxedL_at (by assumption) ?_ ?_ | with_reducible refine boxedL_in ?_ ?_
      all_goals (repeat' (first | with_reducible exact Below.refl _ _ | with_reducible refine Below.drew ?_ | with_reducible refine Below.alloc ?_ ?_ _ | with_reducible refine below_by (by assumption) ?_ ?_))
      all_goals (first | omega | (simp only [size_drew, size_alloc] <;> omega) | (simp <;> omega) | (simp at * <;> omega))
    case rest =>
      obtain ⟨q2, rfl, rfl, r2, kx⟩ := hcut
      replace x := x.keep kx x.lt
      replace y := y.keep kx y.lt
      replace u := u.keep kx u.lt
      replace v := v.keep kx v.lt
      replace r1 := r1.keep kx r1.lt
      replace kb := kb.trans (kx.mono kb.size)
      clear kx hI hT1 hT2 hT3 hT4
      go_upto_region 3 with fail
      clear x y u v
      obtain ⟨r1c0, r1c1, r1c2, r1c3⟩ := r1.cells
      obtain ⟨r2c0, r2c1, r2c2, r2c3⟩ := r2.cells
      go_wp2_with fail
      refine (hE _).mono ?_
      rintro en w9 ⟨rfl, b⟩
      replace kb := below_more kb kb.size b
      clear b r1 r2 hE r1c0 r1c1 r1c2 r1c3 r2c0 r2c1 r2c2 r2c3
      go_wp2_with fail
      go_ret
      exact ⟨rfl, kb⟩

end Go.Proofs.Ytploanbnbkhciaa
