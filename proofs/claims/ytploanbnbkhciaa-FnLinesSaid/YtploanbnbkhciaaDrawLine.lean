/-
  The draw of two lines and a value: they are valid and small. Nothing that was there before is written.
-/
import Derived.Test.YtploanbnbkhciaaDrawF
import Derived.Test.YtploanbnbkhciaaQuad
import Derived.Deep.DeepCutAuto
import Derived.Deep.RegionHeld3
import Derived.Lib.Hide
namespace Go.Proofs.Ytploanbnbkhciaa
open Go.ChangeShapes Go.WideShapes Go.ChangeAt Go.RowKit Go.PlainAid

theorem bx_442 (w : World) (a0 b0 c0 d0 : Int) (ty0 : TypeId) (a1 b1 c1 d1 : Int) (ty1 : TypeId) (a2 b2 : Int) (ty2 : TypeId) :
    Quad (((w.alloc (.cells #[.int .i64 a0, .int .i64 b0, .int .i64 c0, .int .i64 d0] ty0)).alloc (.cells #[.int .i64 a1, .int .i64 b1, .int .i64 c1, .int .i64 d1] ty1)).alloc (.cells #[.int .i64 a2, .int .i64 b2] ty2)) w.heap.size a0 b0 c0 d0 ty0 ∧
    Quad (((w.alloc (.cells #[.int .i64 a0, .int .i64 b0, .int .i64 c0, .int .i64 d0] ty0)).alloc (.cells #[.int .i64 a1, .int .i64 b1, .int .i64 c1, .int .i64 d1] ty1)).alloc (.cells #[.int .i64 a2, .int .i64 b2] ty2)) (w.heap.size + 1) a1 b1 c1 d1 ty1 ∧
    Box (((w.alloc (.cells #[.int .i64 a0, .int .i64 b0, .int .i64 c0, .int .i64 d0] ty0)).alloc (.cells #[.int .i64 a1, .int .i64 b1, .int .i64 c1, .int .i64 d1] ty1)).alloc (.cells #[.int .i64 a2, .int .i64 b2] ty2)) (w.heap.size + 1 + 1) a2 b2 ty2 ∧
    Below w.heap.size w (((w.alloc (.cells #[.int .i64 a0, .int .i64 b0, .int .i64 c0, .int .i64 d0] ty0)).alloc (.cells #[.int .i64 a1, .int .i64 b1, .int .i64 c1, .int .i64 d1] ty1)).alloc (.cells #[.int .i64 a2, .int .i64 b2] ty2)) := by
  have h0 := Quad.new w a0 b0 c0 d0 ty0
  have h1 := Quad.new (w.alloc (.cells #[.int .i64 a0, .int .i64 b0, .int .i64 c0, .int .i64 d0] ty0)) a1 b1 c1 d1 ty1
  rw [show (w.alloc (.cells #[.int .i64 a0, .int .i64 b0, .int .i64 c0, .int .i64 d0] ty0)).heap.size = (w.heap.size + 1) by simp] at h1
  have h2 := Box.new ((w.alloc (.cells #[.int .i64 a0, .int .i64 b0, .int .i64 c0, .int .i64 d0] ty0)).alloc (.cells #[.int .i64 a1, .int .i64 b1, .int .i64 c1, .int .i64 d1] ty1)) a2 b2 ty2
  rw [show ((w.alloc (.cells #[.int .i64 a0, .int .i64 b0, .int .i64 c0, .int .i64 d0] ty0)).alloc (.cells #[.int .i64 a1, .int .i64 b1, .int .i64 c1, .int .i64 d1] ty1)).heap.size = (w.heap.size + 1 + 1) by simp] at h2
  exact ⟨((h0.alloc _).alloc _), (h1.alloc _), h2, ((((Below.refl _ _).alloc (by simp <;> omega) _).alloc (by simp <;> omega) _).alloc (by simp <;> omega) _)⟩

theorem Cur.drew {w : World} {p : Nat} {a : Option Addr} {len cap : Nat} (h : Cur w p a len cap) : Cur w.drew p a len cap := ⟨h.hl, h.blk, h.row⟩
/-- What the draw of a line does. -/
def DrawnLn (w : World) (p : Nat) (a : Option Addr) (len cap : Nat) (en : Ending) (w' : World) : Prop :=
  ∃ zt zb ut ub : Int, Small zt zb ∧ SmallU ut ub ∧ en = .returned (agg4 zt zb ut ub) ∧ GSt w p a len cap w'

set_option maxHeartbeats 1000000 in
theorem lineDraw_any (p len cap : Nat) (a : Option Addr) (w : World) (C : Cur w p a len cap) :
    Calls Try.prog 27 #[.pointer (some ⟨p, 0, none⟩)] w (DrawnLn w p a len cap) := by
  have S := (GSt.start C).alloc (obj4 0 0 0 0 27)
  have z := Quad.new w 0 0 0 0 27
  have hp := C.lt
  have hpz : w.heap.size ≠ p := by omega
  clear C
  go_enter Try.func27, Try.ntmps27
  go_wp2_with fail
  refine (frac_any p len cap a _ S.cur).mono ?_
  rintro e w1 ⟨zt, zb, hz, rfl, C1, g1⟩
  replace S := (S.drawn C1 g1).alloc (obj2 zt zb 25)
  replace z := (z.grown g1 hpz).alloc (obj2 zt zb 25)
  have x := Box.new w1 zt zb 25
  have hs1 : w.heap.size < w1.heap.size := by
    have := g1.size
    simp at this
    omega
  clear C1 g1
  go_upto_region 2 with fail
  generalize w1.heap.size = q1 at x hs1 ⊢
  generalize w1.alloc (.cells #[.int .i64 zt, .int .i64 zb] 25) = w2 at x z S ⊢
  have hpx : q1 ≠ p := by omega
  go_wp2_with fail
  refine (below_any 20 p len cap a _ S.cur).mono ?_
  rintro e w3 ⟨u, ⟨-, hu⟩, rfl, C1, g1⟩
  obtain ⟨u0, u1⟩ := hu (by omega)
  replace S := S.drawn C1 g1
  replace z := z.grown g1 hpz
  replace x := x.grown g1 hpx
  clear hu C1 g1
  go_wp2_with fail
  refine (below_any 12 p len cap a _ S.cur).mono ?_
  rintro e w4 ⟨v, ⟨-, hv⟩, rfl, C1, g1⟩
  obtain ⟨v0, v1⟩ := hv (by omega)
  replace S := S.drawn C1 g1
  replace z := z.grown g1 hpz
  replace x := x.grown g1 hpx
  clear hv C1 g1
  have hM := fun W => specMake_yes (1 + u) (1 + v) W ⟨by omega, by omega, by omega⟩
  obtain ⟨hU, e1, e2⟩ := small_pos (n := 1 + u) (d := 1 + v) (by omega) (by omega) (by omega) (by omega)
  rw [e1, e2] at hM
  clear e1 e2
  generalize shO (1 + u) (1 + v) = o at hM
  generalize redT (1 + u) (1 + v) = ut at hM hU
  generalize redB (1 + u) (1 + v) = ub at hM hU
  go_wp2_with fail
  refine (hM _).mono ?_
  rintro e w5 ⟨rfl, k⟩
  replace S := (S.below k).alloc (obj2 ut ub 25)
  replace z := (z.under k).alloc (obj2 ut ub 25)
  replace x := (x.under k).alloc (obj2 ut ub 25)
  have y := Box.new w5 ut ub 25
  clear hM k
  go_upto_region 3 with fail
  generalize w5.heap.size = q2 at y ⊢
  generalize w5.alloc (.cells #[.int .i64 ut, .int .i64 ub] 25) = w6 at x y z S ⊢
  obtain ⟨xc0, xc1⟩ := x.cells
  obtain ⟨yc0, yc1⟩ := y.cells
  obtain ⟨zc0, zc1, zc2, zc3⟩ := z.cells
  obtain ⟨zf0, zf1, zf2, zf3⟩ := z.free
  have hend := (((S.set (Nat.le_refl w.heap.size) 0 (.int .i64 zt)).set (Nat.le_refl w.heap.size) 1 (.int .i64 zb)).set (Nat.le_refl w.heap.size) 2 (.int .i64 ut)).set (Nat.le_refl w.heap.size) 3 (.int .i64 ub)
  clear S x y z
  go_wp2_with fail
  (try simp only [Exit.inBlock, Exit.then])
  refine bodyPost_ret (v := agg4 zt zb ut ub) ?_ rfl ⟨zt, zb, ut, ub, hz, hU, rfl, hend⟩
  rw [results_cell_one rfl]
  go_simp

/-- What the law's draw answers. -/
def DrawnLL (w : World) (en : Ending) (w' : World) : Prop :=
  ∃ p q r s t u x y m n : Int, (Small p q ∧ SmallU r s) ∧ (Small t u ∧ SmallU x y) ∧ Small m n ∧ en = .returned (.tuple #[agg4 p q r s, agg4 t u x y, .agg #[.int .i64 m, .int .i64 n]]) ∧ Below w.heap.size w w'

set_option maxHeartbeats 1000000 in
theorem drawLines_any (a : Option Addr) (len cap : Nat) (w : World) (hl : len ≤ 1048576) (hr : Bytes w w.heap.size a len) :
    Calls Try.prog 10 #[.slice a len cap] w (DrawnLL w) := by
  obtain ⟨z0, z1, z2, k0⟩ := bx_442 w 0 0 0 0 27 0 0 0 0 27 0 0 25
  have hr3 : Bytes (((w.alloc (obj4 0 0 0 0 27)).alloc (obj4 0 0 0 0 27)).alloc (obj2 0 0 25)) (((w.alloc (obj4 0 0 0 0 27)).alloc (obj4 0 0 0 0 27)).alloc (obj2 0 0 25)).heap.size a len :=
    (hr.keep (fun k hk => k0.block k hk)).more (by simp; omega)
  have hN := new_any a len cap _ hl hr3
  clear hr hr3 hl
  go_enter Try.func10, Try.ntmps10
  go_wp2_with fail
  refine hN.mono ?_
  rintro e w0 ⟨rfl, C0, b0, -⟩
  have hsz : (((w.alloc (obj4 0 0 0 0 27)).alloc (obj4 0 0 0 0 27)).alloc (obj2 0 0 25)).heap.size = w.heap.size + 1 + 1 + 1 := by simp
  replace z0 := z0.under b0
  replace z1 := z1.under b0
  replace z2 := z2.under b0
  replace k0 := below_more k0 k0.size b0
  rw [hsz] at C0
  clear hN b0 hsz
  go_wp2_with fail
  generalize hp3 : w.heap.size + 1 + 1 + 1 = p at C0 ⊢
  generalize hp2 : w.heap.size + 1 + 1 = p2 at z2 ⊢
  generalize hp1 : w.heap.size + 1 = p1 at z1 ⊢
  have hz : w.heap.size < p1 ∧ p1 < p2 ∧ p2 < p := by omega
  clear hp1 hp2 hp3
  have n0 : w.heap.size ≠ p := by omega
  have n1 : p1 ≠ p := by omega
  have n2 : p2 ≠ p := by omega
  refine (lineDraw_any p len cap a _ C0).mono ?_
  rintro e w1 ⟨lp, lq, lr, ls, h1, h2, rfl, S⟩
  have hpw : p < w0.heap.size := S.lt
  replace k0 := (k0.trans (below_of_grown (B := w.heap.size) S.grown (by omega) (by omega))).alloc (Nat.le_trans k0.size S.grown.size) (obj4 lp lq lr ls 27)
  replace z0 := (z0.grown S.grown n0).alloc (obj4 lp lq lr ls 27)
  replace z1 := (z1.grown S.grown n1).alloc (obj4 lp lq lr ls 27)
  replace z2 := (z2.grown S.grown n2).alloc (obj4 lp lq lr ls 27)
  have C1 := S.cur.alloc (obj4 lp lq lr ls 27)
  have x := Quad.new w1 lp lq lr ls 27
  have hq1 : p < w1.heap.size := S.cur.lt
  clear S C0 hpw
  go_upto_region 3 with fail
  generalize w1.heap.size = q1 at x hq1 ⊢
  generalize w1.alloc (obj4 lp lq lr ls 27) = w2 at x z0 z1 z2 k0 C1 ⊢
  have m1 : q1 ≠ p := by omega
  go_wp2_with fail
  refine (lineDraw_any p len cap a _ C1).mono ?_
  rintro e w3 ⟨lt, lu, lx, ly, h3, h4, rfl, S⟩
  have hpw : p < w2.heap.size := S.lt
  replace k0 := (k0.trans (below_of_grown (B := w.heap.size) S.grown (by omega) (by omega))).alloc (Nat.le_trans k0.size S.grown.size) (obj4 lt lu lx ly 27)
  replace z0 := (z0.grown S.grown n0).alloc (obj4 lt lu lx ly 27)
  replace z1 := (z1.grown S.grown n1).alloc (obj4 lt lu lx ly 27)
  replace z2 := (z2.grown S.grown n2).alloc (obj4 lt lu lx ly 27)
  replace x := (x.grown S.grown m1).alloc (obj4 lt lu lx ly 27)
  have C2 := S.cur.alloc (obj4 lt lu lx ly 27)
  have y := Quad.new w3 lt lu lx ly 27
  have hq2 : p < w3.heap.size := S.cur.lt
  clear S C1 hpw
  go_upto_region 4 with fail
  generalize w3.heap.size = q2 at y hq2 ⊢
  generalize w3.alloc (obj4 lt lu lx ly 27) = w4 at x y z0 z1 z2 k0 C2 ⊢
  have m2 : q2 ≠ p := by omega
  have lx0 : w.heap.size < q1 ∧ p1 < q1 ∧ p2 < q1 ∧ w.heap.size < q2 ∧ p1 < q2 ∧ p2 < q2 := by omega
  go_region_held3 (fun W => (W.cell? ⟨q1, 0, none⟩ = some (.int .i64 lp) ∧ W.cell? ⟨q1, 1, none⟩ = some (.int .i64 lq) ∧ W.cell? ⟨q1, 2, none⟩ = some (.int .i64 lr) ∧ W.cell? ⟨q1, 3, none⟩ = some (.int .i64 ls)) ∧ (W.cell? ⟨q2, 0, none⟩ = some (.int .i64 lt) ∧ W.cell? ⟨q2, 1, none⟩ = some (.int .i64 lu) ∧ W.cell? ⟨q2, 2, none⟩ = some (.int .i64 lx) ∧ W.cell? ⟨q2, 3, none⟩ = some (.int .i64 ly)))
    (exact ⟨Quad.cells (t := 27) (by repeat' (first | with_reducible exact x | with_reducible exact y | with_reducible refine Quad.drew ?_ | with_reducible refine Quad.other ?_ _ _ ?_ | with_reducible refine Quad.grown ?_ g3 ?_ | with_reducible exact m1 | with_reducible exact m2 | (with_reducible (show ¬ _ = _); omega))), Quad.cells (t := 27) (by repeat' (first | with_reducible exact x | with_reducible exact y | with_reducible refine Quad.drew ?_ | with_reducible refine Quad.other ?_ _ _ ?_ | with_reducible refine Quad.grown ?_ g3 ?_ | with_reducible exact m1 | with_reducible exact m2 | (with_reducible (show ¬ _ = _); omega)))⟩)
    (first | (go_at_call 28; refine (frac_any _ len cap a _ C2.drew).mono ?_; rintro e w5 ⟨vm, vn, h5, rfl, C3, g3⟩; obtain ⟨zc0, zc1, zc2, zc3⟩ := (z0.drew.grown g3 n0).cells; obtain ⟨yc0, yc1, yc2, yc3⟩ := (z1.drew.grown g3 n1).cells; obtain ⟨xc0, xc1⟩ := (z2.drew.grown g3 n2).cells; obtain ⟨zf0, zf1, zf2, zf3⟩ := (z0.drew.grown g3 n0).free; obtain ⟨yf0, yf1, yf2, yf3⟩ := (z1.drew.grown g3 n1).free; obtain ⟨xf0, xf1⟩ := (z2.drew.grown g3 n2).free))
  have k3 : Below w.heap.size w w5 := k0.drew.trans (below_of_grown g3 (by omega) k0.size)
  go_wp2_with fail
  (try simp only [Exit.inBlock, Exit.then])
  refine bodyPost_ret (v := .tuple #[agg4 lp lq lr ls, agg4 lt lu lx ly, .agg #[.int .i64 vm, .int .i64 vn]]) ?_ rfl ⟨lp, lq, lr, ls, lt, lu, lx, ly, vm, vn, ⟨h1, h2⟩, ⟨h3, h4⟩, h5, rfl, ?_⟩
  · rw [results_cell_three rfl]
    go_simp
  · repeat' (first | with_reducible exact k3 | with_reducible refine Below.setCell ?_ ?_ _)
    all_goals (first | omega | (show w.heap.size ≤ _; omega) | (simp <;> omega))
end Go.Proofs.Ytploanbnbkhciaa
