/-
  The draw of a fraction: it is valid and small; the cursor stands, nothing that was there before is written otherwise.
-/
import Derived.Test.YtploanbnbkhciaaSmallF
import Derived.Test.YtploanbnbkhciaaMakeS
import Derived.Test.YtploanbnbkhciaaToThree
import Derived.Test.YtploanbnbkhciaaBelow
namespace Go.Proofs.Ytploanbnbkhciaa
open Go.ChangeShapes Go.WideShapes Go.ChangeAt Go.RowKit Go.PlainAid

theorem grown_of_below {a w : World} {row : Option Nat} (h : Below a.heap.size a w) : a.grownBy w row := ⟨h.os, h.tape, h.output, h.size, fun k hk _ => h.block k hk⟩
theorem Box.grown {w w' : World} {t b : Int} {ty : TypeId} {q p : Nat} (h : Box w q t b ty) (g : w.grownBy w' (some p)) (hne : q ≠ p) : Box w' q t b ty :=
  (g.block q h.lt (fun e => hne (by injection e))).trans h

theorem grown_above {a w : World} {row : Option Nat} {q : Nat} (h : a.grownBy w row) (hq : a.heap.size ≤ q) (i : Nat) (u : Value) : a.grownBy (w.setCell ⟨q, i, none⟩ u) row :=
  ⟨h.os, h.tape, h.output, by simpa [World.setCell] using h.size, fun k hk hne => (Below.heap_setCell w _ u k (by show k ≠ q; omega)).trans (h.block k hk hne)⟩
theorem Cur.set {w : World} {p q : Nat} {a : Option Addr} {len cap : Nat} (h : Cur w p a len cap) (hq : p < q) (i : Nat) (u : Value) : Cur (w.setCell ⟨q, i, none⟩ u) p a len cap :=
  h.below ((Below.refl q w).setCell (Nat.le_refl _) _) hq

/-- What the draw of a fraction does: a valid, small one; the cursor stands; nothing else has turned. -/
def DrawnF (w : World) (p : Nat) (a : Option Addr) (len cap : Nat) (e : Ending) (w' : World) : Prop :=
  ∃ t b : Int, Small t b ∧ e = .returned (.agg #[.int .i64 t, .int .i64 b]) ∧ Cur w' p a len cap ∧ w.grownBy w' (some p)

theorem frac_any (p len cap : Nat) (a : Option Addr) (w : World) (C : Cur w p a len cap) :
    Calls Try.prog 28 #[.pointer (some ⟨p, 0, none⟩)] w (DrawnF w p a len cap) := by
  have x0 := Box.new w 0 0 25
  have hp := C.lt
  have C0 := C.alloc (.cells #[.int .i64 0, .int .i64 0] 25)
  have g0 : w.grownBy (w.alloc (.cells #[.int .i64 0, .int .i64 0] 25)) (some p) := World.grownBy_alloc w _ _
  have hne : w.heap.size ≠ p := by omega
  clear C
  go_enter Try.func28, Try.ntmps28
  go_wp2_with fail
  refine (below_any 41 p len cap a _ C0).mono ?_
  rintro e w1 ⟨u, ⟨-, hu⟩, rfl, C1, g1⟩
  obtain ⟨u0, u1⟩ := hu (by omega)
  have x1 := x0.grown g1 hne
  replace g1 := grown_trans g0 g1
  clear hu x0 C0 g0
  go_wp2_with fail
  refine (below_any 12 p len cap a _ C1).mono ?_
  rintro e w2 ⟨v, ⟨-, hv⟩, rfl, C2, g2⟩
  obtain ⟨v0, v1⟩ := hv (by omega)
  have x2 := x1.grown g2 hne
  replace g2 := grown_trans g1 g2
  clear hv x1 C1 g1
  have hM := fun W => specMake_yes (u - 20) (1 + v) W ⟨by omega, by omega, by omega⟩
  obtain ⟨hs, e1, e2⟩ := small_red (n := u - 20) (d := 1 + v) (by omega) (by omega) (by omega) (by omega)
  rw [e1, e2] at hM
  clear e1 e2
  generalize shO (u - 20) (1 + v) = o at hM
  generalize redT (u - 20) (1 + v) = t at hM hs
  generalize redB (u - 20) (1 + v) = b at hM hs
  go_wp2_with fail
  refine (hM _).mono ?_
  rintro e w3 ⟨rfl, k3⟩
  have x3 := x2.under k3
  have C3 := ((C2.below k3 C2.lt).set (q := w.heap.size) hp 0 (.int .i64 t)).set (q := w.heap.size) hp 1 (.int .i64 b)
  have g3 := grown_above (q := w.heap.size) (grown_above (q := w.heap.size) (grown_trans g2 (grown_of_below k3)) (Nat.le_refl _) 0 (.int .i64 t)) (Nat.le_refl _) 1 (.int .i64 b)
  have c0 := x3.c0
  have c1 := x3.c1
  have f0 := x3.free0
  have f1 := x3.free1
  have hz : w.heap.size < w3.heap.size := (x2.under k3).lt
  have hne2 : w.heap.size ≠ w3.heap.size := by omega
  have hne3 : w3.heap.size ≠ w.heap.size := by omega
  clear x2 C2 g2 hM k3
  go_wp2_with fail
  (try simp only [Exit.inBlock, Exit.then])
  refine bodyPost_ret (v := .agg #[.int .i64 t, .int .i64 b]) ?_ rfl ⟨t, b, hs, rfl, ?_, ?_⟩
  · rw [results_cell_one rfl]
    go_simp
  · exact C3.alloc _
  · exact grown_trans g3 (World.grownBy_alloc _ _ _)

theorem results_cell_three {fn : Func} {p q r : Tmp} {t1 t2 t3 : TypeId} (h : fn.results = #[.cell p t1, .cell q t2, .cell r t3]) (tmps : Array Value) (P : Program) (w : World) :
    (results fn tmps).run P w = ((asAddr (tmps.getD p undef)).run P w).andThen fun a w₁ => ((loadVar t1 a).run P w₁).andThen fun u w₁ => ((asAddr (tmps.getD q undef)).run P w₁).andThen fun a w₁ => ((loadVar t2 a).run P w₁).andThen fun v w₁ => ((asAddr (tmps.getD r undef)).run P w₁).andThen fun a w₁ => ((loadVar t3 a).run P w₁).andThen fun x w₁ => .ok (.tuple #[u, v, x]) w₁ := by
  simp only [results, h]
  simp [Sem.run_bind, Result.andThen]

/-- The cursor stands, and nothing else that was there has turned. -/
structure GSt (w : World) (p : Nat) (a : Option Addr) (len cap : Nat) (wr : World) : Prop where
  lt : p < w.heap.size
  cur : Cur wr p a len cap
  grown : w.grownBy wr (some p)
section
variable {w wr w1 : World} {p q len cap : Nat} {a : Option Addr}
theorem GSt.start (C : Cur w p a len cap) : GSt w p a len cap w := ⟨C.lt, C, World.grownBy.refl w _⟩
theorem GSt.drawn (h : GSt w p a len cap wr) (C : Cur w1 p a len cap) (g : wr.grownBy w1 (some p)) : GSt w p a len cap w1 := ⟨h.lt, C, grown_trans h.grown g⟩
theorem GSt.alloc (h : GSt w p a len cap wr) (o : Obj) : GSt w p a len cap (wr.alloc o) := ⟨h.lt, h.cur.alloc o, grown_trans h.grown (World.grownBy_alloc wr o _)⟩
theorem GSt.set (h : GSt w p a len cap wr) (hq : w.heap.size ≤ q) (i : Nat) (u : Value) : GSt w p a len cap (wr.setCell ⟨q, i, none⟩ u) :=
  ⟨h.lt, h.cur.below ((Below.refl q wr).setCell (Nat.le_refl _) _) (Nat.lt_of_lt_of_le h.lt hq), grown_above h.grown hq i u⟩
theorem GSt.below (h : GSt w p a len cap wr) (k : Below wr.heap.size wr w1) : GSt w p a len cap w1 := ⟨h.lt, h.cur.below k h.cur.lt, grown_trans h.grown (grown_of_below k)⟩
end

end Go.Proofs.Ytploanbnbkhciaa
