/-
  The law that the program compares fractions as the model does: for all structs of two ints. No condition.
-/
import Derived.Test.YtdjlohhpgdegfaaCmp
import Derived.Test.YtdjlohhpgdegfaaExactSum
namespace Go.Proofs.Ytdjlohhpgdegfaa
open Go.ChangeShapes Go.WideShapes Go.ChangeAt Go.RowKit Go.PlainAid

/-- What is left of a call whose answer goes into a slot; below the block number n nothing has turned. -/
def Sayd (n : Nat) (W0 : World) (R : Int) (s5 : Value) (wx : World) : Prop := s5 = .int .i64 R ∧ Below n W0 wx
theorem sayd {W0 W w1 : World} {n : Nat} {R : Int} (h : Below n W0 W) (k : Below W.heap.size W w1) (hn : n ≤ W.heap.size) : Sayd n W0 R (.int .i64 R) w1 := ⟨rfl, h.trans (k.mono hn)⟩

set_option maxHeartbeats 4000000 in
theorem exactCompare_walk (t1 b1 t2 b2 R : Int) (w : World)
    (hS : ∀ W : World, Calls Try.prog 22 #[.agg #[.int .i64 t1, .int .i64 b1], .agg #[.int .i64 t2, .int .i64 b2]] W (SaysI R W))
    (hI : ∀ W : World, Calls Try.prog 14 #[.agg #[.int .i64 t1, .int .i64 b1], .agg #[.int .i64 t2, .int .i64 b2]] W (SaysI R W)) :
    Calls Try.prog 8 #[.agg #[.int .i64 t1, .int .i64 b1], .agg #[.int .i64 t2, .int .i64 b2]] w fun e w' => e = .returned (.bool true) ∧ Below w.heap.size w w' := by
  have hT1 := fun W => to_exact t1 b1 W
  have hT2 := fun W => to_exact t2 b2 W
  unfold Three at hT1 hT2
  obtain ⟨x0, y0, k0⟩ := two_boxes w t1 b1 t2 b2 33
  go_enter Try.func8, Try.ntmps8
  go_upto_region 1 with fail
  go_cut [5] (fun s5 wx => Sayd (w.heap.size + 2) ((w.alloc (.cells #[.int .i64 t1, .int .i64 b1] 33)).alloc (.cells #[.int .i64 t2, .int .i64 b2] 33)) R s5 wx)
  case first =>
    go_region_held3 (fun W => W.cell? ⟨w.heap.size, 0, none⟩ = some (.int .i64 t1) ∧ W.cell? ⟨w.heap.size, 1, none⟩ = some (.int .i64 b1) ∧ W.cell? ⟨w.heap.size + 1, 0, none⟩ = some (.int .i64 t2) ∧ W.cell? ⟨w.heap.size + 1, 1, none⟩ = some (.int .i64 b2)) (exact ⟨Box.c0 (b := b1) (ty := 33) (by repeat' (first | with_reducible exact x0 | with_reducible exact y0 | with_reducible refine Box.drew ?_ | with_reducible refine Box.alloc ?_ _ | with_reducible refine Box.under ?_ k1 | with_reducible refine Box.other ?_ _ _ (by simp <;> omega))), Box.c1 (t := t1) (ty := 33) (by repeat' (first | with_reducible exact x0 | with_reducible exact y0 | with_reducible refine Box.drew ?_ | with_reducible refine Box.alloc ?_ _ | with_reducible refine Box.under ?_ k1 | with_reducible refine Box.other ?_ _ _ (by simp <;> omega))), Box.c0 (b := b2) (ty := 33) (by repeat' (first | with_reducible exact x0 | with_reducible exact y0 | with_reducible refine Box.drew ?_ | with_reducible refine Box.alloc ?_ _ | with_reducible refine Box.under ?_ k1 | with_reducible refine Box.other ?_ _ _ (by simp <;> omega))), Box.c1 (t := t2) (ty := 33) (by repeat' (first | with_reducible exact x0 | with_reducible exact y0 | with_reducible refine Box.drew ?_ | with_reducible refine Box.alloc ?_ _ | with_reducible refine Box.under ?_ k1 | with_reducible refine Box.other ?_ _ _ (by simp <;> omega)))⟩)
      (first | (go_at_call 17; (first | (with_reducible refine (hT1 _).mono ?_) | (with_reducible refine (hT2 _).mono ?_)); rintro e w' ⟨rfl, rfl⟩) | (go_at_call 22; refine (hS _).mono ?_; rintro e w1 ⟨rfl, k1⟩; have hc := fun (b o : Nat) (h : b < _) => k1.cell (p := ⟨b, o, none⟩) h; have hf := fun (b o : Nat) (h : b < _) => k1.frozen (p := ⟨b, o, none⟩) h))
    all_goals
      clear hc hf
      go_wp2_with fail
      go_meet
      with_reducible refine sayd ?_ k1 ?_
    all_goals (repeat' (first | with_reducible exact Below.refl _ _ | with_reducible refine Below.drew ?_ | with_reducible refine Below.alloc ?_ ?_ _))
    all_goals (first | omega | (simp <;> omega))
  case rest =>
    obtain ⟨rfl, kx⟩ := hcut
    have x1 := x0.keep kx (by omega)
    have y1 := y0.keep kx (by omega)
    replace k0 := k0.trans (kx.mono (by omega))
    have hz : w.heap.size + 2 ≤ wc.heap.size := by
      have := kx.size
      simp at this
      omega
    clear x0 y0 hS kx
    go_upto_region 2 with fail
    go_cut [6] (fun s6 wx => Sayd wc.heap.size wc R s6 wx)
    case first =>
      go_region_held3 (fun W => W.cell? ⟨w.heap.size, 0, none⟩ = some (.int .i64 t1) ∧ W.cell? ⟨w.heap.size, 1, none⟩ = some (.int .i64 b1) ∧ W.cell? ⟨w.heap.size + 1, 0, none⟩ = some (.int .i64 t2) ∧ W.cell? ⟨w.heap.size + 1, 1, none⟩ = some (.int .i64 b2)) (exact ⟨Box.c0 (b := b1) (ty := 33) (by repeat' (first | with_reducible exact x1 | with_reducible exact y1 | with_reducible refine Box.drew ?_ | with_reducible refine Box.alloc ?_ _ | with_reducible refine Box.under ?_ k1 | with_reducible refine Box.other ?_ _ _ (by simp <;> omega))), Box.c1 (t := t1) (ty := 33) (by repeat' (first | with_reducible exact x1 | with_reducible exact y1 | with_reducible refine Box.drew ?_ | with_reducible refine Box.alloc ?_ _ | with_reducible refine Box.under ?_ k1 | with_reducible refine Box.other ?_ _ _ (by simp <;> omega))), Box.c0 (b := b2) (ty := 33) (by repeat' (first | with_reducible exact x1 | with_reducible exact y1 | with_reducible refine Box.drew ?_ | with_reducible refine Box.alloc ?_ _ | with_reducible refine Box.under ?_ k1 | with_reducible refine Box.other ?_ _ _ (by simp <;> omega))), Box.c1 (t := t2) (ty := 33) (by repeat' (first | with_reducible exact x1 | with_reducible exact y1 | with_reducible refine Box.drew ?_ | with_reducible refine Box.alloc ?_ _ | with_reducible refine Box.under ?_ k1 | with_reducible refine Box.other ?_ _ _ (by simp <;> omega)))⟩)
        (first | (go_at_call 17; (first | (with_reducible refine (hT1 _).mono ?_) | (with_reducible refine (hT2 _).mono ?_)); rintro e w' ⟨rfl, rfl⟩) | (go_at_call 14; refine (hI _).mono ?_; rintro e w1 ⟨rfl, k1⟩; have hc := fun (b o : Nat) (h : b < _) => k1.cell (p := ⟨b, o, none⟩) h; have hf := fun (b o : Nat) (h : b < _) => k1.frozen (p := ⟨b, o, none⟩) h))
      all_goals
        clear hc hf
        go_wp2_with fail
        go_meet
        with_reducible refine sayd ?_ k1 ?_
      all_goals (repeat' (first | with_reducible exact Below.refl _ _ | with_reducible refine Below.drew ?_ | with_reducible refine Below.alloc ?_ ?_ _))
      all_goals (first | omega | (simp <;> omega))
    case rest =>
      obtain ⟨rfl, kq⟩ := hcut
      replace k0 := k0.trans (kq.mono k0.size)
      clear x1 y1 kq hI hT1 hT2
      go_wp2_with fail
      go_ret
      exact ⟨rfl, k0⟩

theorem exactCompare_any (t1 b1 t2 b2 : Int) (w : World) : Calls Try.prog 8 #[.agg #[.int .i64 t1, .int .i64 b1], .agg #[.int .i64 t2, .int .i64 b2]] w fun e w' => e = .returned (.bool true) ∧ Below w.heap.size w w' := by
  obtain ⟨R, hS, hI⟩ := compare_both t1 b1 t2 b2
  exact exactCompare_walk t1 b1 t2 b2 R w hS hI
end Go.Proofs.Ytdjlohhpgdegfaa
