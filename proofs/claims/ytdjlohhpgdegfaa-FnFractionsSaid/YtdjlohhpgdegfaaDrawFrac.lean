/-
  The draw of three fractions: each is valid and small. Nothing that was there before is written.
-/
import Derived.Test.YtdjlohhpgdegfaaFracB
import Derived.Test.YtdjlohhpgdegfaaSumC
import Derived.Test.YtdjlohhpgdegfaaExactSum
import Derived.Test.YtdjlohhpgdegfaaBelow
namespace Go.Proofs.Ytdjlohhpgdegfaa
open Go.ChangeShapes Go.WideShapes Go.ChangeAt Go.RowKit Go.PlainAid

theorem grown_of_below {a w : World} {row : Option Nat} (h : Below a.heap.size a w) : a.grownBy w row := ⟨h.os, h.tape, h.output, h.size, fun k hk _ => h.block k hk⟩
theorem Box.grown {w w' : World} {t b : Int} {ty : TypeId} {q p : Nat} (h : Box w q t b ty) (g : w.grownBy w' (some p)) (hne : q ≠ p) : Box w' q t b ty :=
  (g.block q h.lt (fun e => hne (by injection e))).trans h

theorem grown_above {a w : World} {row : Option Nat} {q : Nat} (h : a.grownBy w row) (hq : a.heap.size ≤ q) (i : Nat) (u : Value) : a.grownBy (w.setCell ⟨q, i, none⟩ u) row :=
  ⟨h.os, h.tape, h.output, by simpa [World.setCell] using h.size, fun k hk hne => (Below.heap_setCell w _ u k (by show k ≠ q; omega)).trans (h.block k hk hne)⟩
theorem Cur.set {w : World} {p q : Nat} {a : Option Addr} {len cap : Nat} (h : Cur w p a len cap) (hq : p < q) (i : Nat) (u : Value) : Cur (w.setCell ⟨q, i, none⟩ u) p a len cap :=
  h.below ((Below.refl q w).setCell (Nat.le_refl _) _) hq

/-- What the draw of a fraction does: a valid, small one; the cursor stands; nothing else has turned. -/
def DrawnF (w : World) (p : Nat) (a : Option Addr) (len cap : Nat) (e : Ending) (w' : World) : Prop :=
  ∃ t b : Int, Small t b ∧ e = .returned (.agg #[.int .i64 t, .int .i64 b]) ∧ Cur w' p a len cap ∧ w.grownBy w' (some p)

theorem frac_any (p len cap : Nat) (a : Option Addr) (w : World) (C : Cur w p a len cap) :
    Calls Try.prog 24 #[.pointer (some ⟨p, 0, none⟩)] w (DrawnF w p a len cap) := by
  have x0 := Box.new w 0 0 25
  have hp := C.lt
  have C0 := C.alloc (.cells #[.int .i64 0, .int .i64 0] 25)
  have g0 : w.grownBy (w.alloc (.cells #[.int .i64 0, .int .i64 0] 25)) (some p) := World.grownBy_alloc w _ _
  have hne : w.heap.size ≠ p := by omega
  clear C
  go_enter Try.func24, Try.ntmps24
  go_wp2_with fail
  refine (below_any 41 p len cap a _ C0).mono ?_
  rintro e w1 ⟨u, ⟨-, hu⟩, rfl, C1, g1⟩
  obtain ⟨u0, u1⟩ := hu (by omega)
  have x1 := x0.grown g1 hne
  replace g1 := grown_trans g0 g1
  clear hu x0 C0 g0
  go_wp2_with fail
  refine (below_any 12 p len cap a _ C1).mono ?_
  rintro e w2 ⟨v, ⟨-, hv⟩, rfl, C2, g2⟩
  obtain ⟨v0, v1⟩ := hv (by omega)
  have x2 := x1.grown g2 hne
  replace g2 := grown_trans g1 g2
  clear hv x1 C1 g1
  have hM := fun W => specMake_yes (u - 20) (1 + v) W ⟨by omega, by omega, by omega⟩
  obtain ⟨hs, e1, e2⟩ := small_red (n := u - 20) (d := 1 + v) (by omega) (by omega) (by omega) (by omega)
  rw [e1, e2] at hM
  clear e1 e2
  generalize shO (u - 20) (1 + v) = o at hM
  generalize redT (u - 20) (1 + v) = t at hM hs
  generalize redB (u - 20) (1 + v) = b at hM hs
  go_wp2_with fail
  refine (hM _).mono ?_
  rintro e w3 ⟨rfl, k3⟩
  have x3 := x2.under k3
  have C3 := ((C2.below k3 C2.lt).set (q := w.heap.size) hp 0 (.int .i64 t)).set (q := w.heap.size) hp 1 (.int .i64 b)
  have g3 := grown_above (q := w.heap.size) (grown_above (q := w.heap.size) (grown_trans g2 (grown_of_below k3)) (Nat.le_refl _) 0 (.int .i64 t)) (Nat.le_refl _) 1 (.int .i64 b)
  have c0 := x3.c0
  have c1 := x3.c1
  have f0 := x3.free0
  have f1 := x3.free1
  have hz : w.heap.size < w3.heap.size := (x2.under k3).lt
  have hne2 : w.heap.size ≠ w3.heap.size := by omega
  have hne3 : w3.heap.size ≠ w.heap.size := by omega
  clear x2 C2 g2 hM k3
  go_wp2_with fail
  (try simp only [Exit.inBlock, Exit.then])
  refine bodyPost_ret (v := .agg #[.int .i64 t, .int .i64 b]) ?_ rfl ⟨t, b, hs, rfl, ?_, ?_⟩
  · rw [results_cell_one rfl]
    go_simp
  · exact C3.alloc _
  · exact grown_trans g3 (World.grownBy_alloc _ _ _)

theorem results_cell_three {fn : Func} {p q r : Tmp} {t1 t2 t3 : TypeId} (h : fn.results = #[.cell p t1, .cell q t2, .cell r t3]) (tmps : Array Value) (P : Program) (w : World) :
    (results fn tmps).run P w = ((asAddr (tmps.getD p undef)).run P w).andThen fun a w₁ => ((loadVar t1 a).run P w₁).andThen fun u w₁ => ((asAddr (tmps.getD q undef)).run P w₁).andThen fun a w₁ => ((loadVar t2 a).run P w₁).andThen fun v w₁ => ((asAddr (tmps.getD r undef)).run P w₁).andThen fun a w₁ => ((loadVar t3 a).run P w₁).andThen fun x w₁ => .ok (.tuple #[u, v, x]) w₁ := by
  simp only [results, h]
  simp [Sem.run_bind, Result.andThen]

/-- What the draw of three fractions does: three valid, small ones; below the block number B nothing has turned. -/
def DrawnFF (B : Nat) (w : World) (e : Ending) (w' : World) : Prop :=
  ∃ a1 a2 b1 b2 c1 c2 : Int, Small a1 a2 ∧ Small b1 b2 ∧ Small c1 c2 ∧ e = .returned (.tuple #[.agg #[.int .i64 a1, .int .i64 a2], .agg #[.int .i64 b1, .int .i64 b2], .agg #[.int .i64 c1, .int .i64 c2]]) ∧ Below B w w'

theorem grown_cell {w w' : World} {p : Nat} (g : w.grownBy w' (some p)) (b o : Nat) (h : b < w.heap.size) (hne : b ≠ p) : w'.cell? ⟨b, o, none⟩ = w.cell? ⟨b, o, none⟩ :=
  World.cell?_of_block (g.block b h (fun e => hne (by injection e)))
theorem grown_frozen {w w' : World} {p : Nat} (g : w.grownBy w' (some p)) (b o : Nat) (h : b < w.heap.size) (hne : b ≠ p) : w'.frozen? ⟨b, o, none⟩ = w.frozen? ⟨b, o, none⟩ :=
  World.frozen?_of_block (g.block b h (fun e => hne (by injection e)))
theorem Cur.drew {w : World} {p : Nat} {a : Option Addr} {len cap : Nat} (h : Cur w p a len cap) : Cur w.drew p a len cap := ⟨h.hl, h.blk, h.row⟩

set_option maxHeartbeats 4000000 in
theorem drawFractions_any (B : Nat) (a : Option Addr) (len cap : Nat) (w : World) (hB : B = w.heap.size) (hl : len ≤ 1048576) (hr : Bytes w w.heap.size a len) :
    Calls Try.prog 10 #[.slice a len cap] w (DrawnFF B w) := by
  obtain ⟨z0, z1, z2, k0⟩ := three_boxes w 0 0 0 0 25 25
  have ep : (((w.alloc (.cells #[.int .i64 0, .int .i64 0] 25)).alloc (.cells #[.int .i64 0, .int .i64 0] 25)).alloc (.cells #[.int .i64 0, .int .i64 0] 25)).heap.size = w.heap.size + 1 + 1 + 1 := by simp
  have hr3 := (hr.keep (fun k hk => k0.block k hk)).more (q := w.heap.size + 1 + 1 + 1) (by omega)
  rw [← ep] at hr3
  have hN := new_any a len cap _ hl hr3
  clear hr hr3 hl
  go_enter Try.func10, Try.ntmps10
  go_wp2_with fail
  refine hN.mono ?_
  rintro e w0 ⟨rfl, C0, b0, s0⟩
  replace z0 := z0.under b0
  replace z1 := z1.under b0
  replace z2 := z2.under b0
  replace k0 := k0.trans (b0.mono (by rw [ep]; omega))
  rw [ep] at C0 s0
  clear hN b0
  go_wp2_with fail
  refine (frac_any _ len cap a _ C0).mono ?_
  rintro e w1 ⟨a1, a2, ha, rfl, C1, g1⟩
  replace z0 := z0.grown g1 (by omega)
  replace z1 := z1.grown g1 (by omega)
  replace z2 := z2.grown g1 (by omega)
  replace k0 := k0.trans (below_of_grown (B := w.heap.size) g1 (by omega) (by omega))
  clear C0 g1
  have x1 := Box.new w1 a1 a2 25
  have hs1 : w.heap.size + 1 + 1 + 1 < w1.heap.size := C1.lt
  go_wp2_with fail
  refine (frac_any _ len cap a _ (C1.alloc _)).mono ?_
  rintro e w2 ⟨b1, b2, hb, rfl, C2, g2⟩
  replace z0 := (z0.alloc _).grown g2 (by omega)
  replace z1 := (z1.alloc _).grown g2 (by omega)
  replace z2 := (z2.alloc _).grown g2 (by omega)
  replace x1 := x1.grown g2 (by omega)
  replace k0 := (k0.alloc k0.size _).trans (below_of_grown (B := w.heap.size) g2 (by omega) (by simp; omega))
  have hs2 : w1.heap.size < w2.heap.size := x1.lt
  clear C1 g2
  replace z0 := z0.alloc (.cells #[.int .i64 b1, .int .i64 b2] 25)
  replace z1 := z1.alloc (.cells #[.int .i64 b1, .int .i64 b2] 25)
  replace z2 := z2.alloc (.cells #[.int .i64 b1, .int .i64 b2] 25)
  replace x1 := x1.alloc (.cells #[.int .i64 b1, .int .i64 b2] 25)
  replace C2 := C2.alloc (.cells #[.int .i64 b1, .int .i64 b2] 25)
  replace k0 := k0.alloc k0.size (.cells #[.int .i64 b1, .int .i64 b2] 25)
  have y2 := Box.new w2 b1 b2 25
  generalize hw : w2.heap.size = q at y2 hs2 ⊢
  go_upto_region 4 with fail
  have hn1 : w1.heap.size ≠ w.heap.size + 1 + 1 + 1 := by omega
  have hn2 : q ≠ w.heap.size + 1 + 1 + 1 := by omega
  have hz0 := z0.lt
  generalize w2.alloc (.cells #[.int .i64 b1, .int .i64 b2] 25) = v2 at *
  go_region_held3 (fun W => W.cell? ⟨w1.heap.size, 0, none⟩ = some (.int .i64 a1) ∧ W.cell? ⟨w1.heap.size, 1, none⟩ = some (.int .i64 a2) ∧ W.cell? ⟨q, 0, none⟩ = some (.int .i64 b1) ∧ W.cell? ⟨q, 1, none⟩ = some (.int .i64 b2))
    (exact ⟨Box.c0 (b := a2) (ty := 25) (by repeat' (first | with_reducible exact x1 | with_reducible exact y2 | with_reducible refine Box.drew ?_ | with_reducible refine Box.other ?_ _ _ ?_ | with_reducible refine Box.grown ?_ g3 ?_ | with_reducible exact hn1 | with_reducible exact hn2 | (with_reducible (show ¬ _ = _); omega))), Box.c1 (t := a1) (ty := 25) (by repeat' (first | with_reducible exact x1 | with_reducible exact y2 | with_reducible refine Box.drew ?_ | with_reducible refine Box.other ?_ _ _ ?_ | with_reducible refine Box.grown ?_ g3 ?_ | with_reducible exact hn1 | with_reducible exact hn2 | (with_reducible (show ¬ _ = _); omega))), Box.c0 (b := b2) (ty := 25) (by repeat' (first | with_reducible exact x1 | with_reducible exact y2 | with_reducible refine Box.drew ?_ | with_reducible refine Box.other ?_ _ _ ?_ | with_reducible refine Box.grown ?_ g3 ?_ | with_reducible exact hn1 | with_reducible exact hn2 | (with_reducible (show ¬ _ = _); omega))), Box.c1 (t := b1) (ty := 25) (by repeat' (first | with_reducible exact x1 | with_reducible exact y2 | with_reducible refine Box.drew ?_ | with_reducible refine Box.other ?_ _ _ ?_ | with_reducible refine Box.grown ?_ g3 ?_ | with_reducible exact hn1 | with_reducible exact hn2 | (with_reducible (show ¬ _ = _); omega)))⟩)
    (first | (go_at_call 24; refine (frac_any _ len cap a _ C2.drew).mono ?_; rintro e w3 ⟨c1, c2, hc, rfl, C3, g3⟩; have d0 := (z0.drew.grown g3 (by omega)).c0; have d1 := (z0.drew.grown g3 (by omega)).c1; have d2 := (z1.drew.grown g3 (by omega)).c0; have d3 := (z1.drew.grown g3 (by omega)).c1; have d4 := (z2.drew.grown g3 (by omega)).c0; have d5 := (z2.drew.grown g3 (by omega)).c1; have f0 := (z0.drew.grown g3 (by omega)).free0; have f1 := (z0.drew.grown g3 (by omega)).free1; have f2 := (z1.drew.grown g3 (by omega)).free0; have f3 := (z1.drew.grown g3 (by omega)).free1; have f4 := (z2.drew.grown g3 (by omega)).free0; have f5 := (z2.drew.grown g3 (by omega)).free1))
  have k3 : Below w.heap.size w w3 := k0.drew.trans (below_of_grown g3 (by omega) k0.size)
  go_wp2_with fail
  (try simp only [Exit.inBlock, Exit.then])
  refine bodyPost_ret (v := .tuple #[.agg #[.int .i64 a1, .int .i64 a2], .agg #[.int .i64 b1, .int .i64 b2], .agg #[.int .i64 c1, .int .i64 c2]]) ?_ rfl ⟨a1, a2, b1, b2, c1, c2, ha, hb, hc, rfl, ?_⟩
  · rw [results_cell_three rfl]
    go_simp
  · rw [hB]
    repeat' (first | with_reducible exact k3 | with_reducible refine Below.setCell ?_ ?_ _)
    all_goals (simp <;> omega)
end Go.Proofs.Ytdjlohhpgdegfaa
