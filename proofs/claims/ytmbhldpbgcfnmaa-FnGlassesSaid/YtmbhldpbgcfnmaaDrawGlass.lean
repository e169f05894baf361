/-
  The draw of two glasses: they are valid. Nothing that was there before is written.
-/
import Derived.Test.YtmbhldpbgcfnmaaGlassBox
import Derived.Test.YtmbhldpbgcfnmaaBelow
import Derived.Lib.Hide
import Derived.Deep.DeepCutAuto
namespace Go.Proofs.Ytmbhldpbgcfnmaa
open Go.ChangeShapes Go.WideShapes Go.ChangeAt Go.RowKit Go.PlainAid

theorem grown_above {a w : World} {row : Option Nat} {q : Nat} (h : a.grownBy w row) (hq : a.heap.size ≤ q) (i : Nat) (u : Value) : a.grownBy (w.setCell ⟨q, i, none⟩ u) row :=
  ⟨h.os, h.tape, h.output, by simpa [World.setCell] using h.size, fun k hk hne => (Below.heap_setCell w _ u k (by show k ≠ q; omega)).trans (h.block k hk hne)⟩
theorem JBox.grown {w w' : World} {a b x y : Int} {q p : Nat} (h : JBox w q a b x y) (g : w.grownBy w' (some p)) (hne : q ≠ p) : JBox w' q a b x y :=
  (g.block q h.lt (fun e => hne (by injection e))).trans h
/-- The cursor stands, and nothing else that was there has turned. -/
structure GSt (w : World) (p : Nat) (a : Option Addr) (len cap : Nat) (wr : World) : Prop where
  lt : p < w.heap.size
  cur : Cur wr p a len cap
  grown : w.grownBy wr (some p)
section
variable {w wr w1 : World} {p q len cap : Nat} {a : Option Addr}
theorem GSt.start (C : Cur w p a len cap) : GSt w p a len cap w := ⟨C.lt, C, World.grownBy.refl w _⟩
theorem GSt.drawn (h : GSt w p a len cap wr) (C : Cur w1 p a len cap) (g : wr.grownBy w1 (some p)) : GSt w p a len cap w1 := ⟨h.lt, C, grown_trans h.grown g⟩
theorem GSt.alloc (h : GSt w p a len cap wr) (o : Obj) : GSt w p a len cap (wr.alloc o) := ⟨h.lt, h.cur.alloc o, grown_trans h.grown (World.grownBy_alloc wr o _)⟩
theorem GSt.set (h : GSt w p a len cap wr) (hq : w.heap.size ≤ q) (i : Nat) (u : Value) : GSt w p a len cap (wr.setCell ⟨q, i, none⟩ u) :=
  ⟨h.lt, h.cur.below ((Below.refl q wr).setCell (Nat.le_refl _) _) (Nat.lt_of_lt_of_le h.lt hq), grown_above h.grown hq i u⟩
theorem GSt.jset (h : GSt w p a len cap wr) (hq : w.heap.size ≤ q) (x y z u : Int) : GSt w p a len cap (jset wr q x y z u) := (((h.set hq _ _).set hq _ _).set hq _ _).set hq _ _
end

/-- What the draw of two glasses does. -/
def DrawnG (w : World) (p : Nat) (a : Option Addr) (len cap : Nat) (e : Ending) (w' : World) : Prop :=
  ∃ A B x y : Int, okG A B x y = true ∧ e = .returned (jagg A B x y) ∧ GSt w p a len cap w'

set_option maxHeartbeats 1000000 in
theorem glassDraw_any (p len cap : Nat) (a : Option Addr) (w : World) (C : Cur w p a len cap) :
    Calls Try.prog 28 #[.pointer (some ⟨p, 0, none⟩)] w (DrawnG w p a len cap) := by
  have S := (GSt.start C).alloc (jobj 0 0 0 0 25)
  have q0 := JBox.new w 0 0 0 0
  have hpq : w.heap.size ≠ p := by have := C.lt; omega
  clear C
  go_enter Try.func28, Try.ntmps28
  go_wp2_with fail
  refine (below_any 12 p len cap a _ S.cur).mono ?_
  rintro e w1 ⟨u, ⟨-, hu⟩, rfl, C1, g1⟩
  obtain ⟨u0, u1⟩ := hu (by omega)
  replace S := S.drawn C1 g1
  replace q0 := q0.grown g1 hpq
  clear hu C1 g1
  go_wp2_with fail
  refine (below_any 12 p len cap a _ S.cur).mono ?_
  rintro e w2 ⟨v, ⟨-, hv⟩, rfl, C1, g1⟩
  obtain ⟨v0, v1⟩ := hv (by omega)
  replace S := S.drawn C1 g1
  replace q0 := q0.grown g1 hpq
  clear hv C1 g1
  obtain ⟨A, hA⟩ : ∃ A, 1 + u = A := ⟨_, rfl⟩
  obtain ⟨B, hB⟩ : ∃ B, 1 + v = B := ⟨_, rfl⟩
  have hA1 : 1 ≤ A ∧ A ≤ 12 := by omega
  have hB1 : 1 ≤ B ∧ B ≤ 12 := by omega
  replace S := S.alloc (jobj A B 0 0 25)
  have r0 := JBox.new w2 A B 0 0
  have hws := S.grown.size
  have hqr : w.heap.size ≤ w2.heap.size := Nat.le_of_lt q0.lt
  have hpr : w2.heap.size ≠ p := by have := S.lt; omega
  have hne : w.heap.size ≠ w2.heap.size := by have := q0.lt; omega
  replace q0 := q0.alloc (jobj A B 0 0 25)
  clear u0 u1 v0 v1
  go_upto_region 2 with fail
  clear hA hB
  generalize w2.alloc (jobj A B 0 0 25) = w3 at S q0 r0 hws ⊢
  generalize w2.heap.size = r at r0 hqr hpr hne ⊢
  obtain ⟨c0, c1, c2, c3⟩ := r0.cells
  go_wp2_with fail
  refine (below_any (A + 1) p len cap a _ S.cur).mono ?_
  clear c0 c1 c2 c3
  rintro e w4 ⟨x, ⟨-, hx⟩, rfl, C1, g1⟩
  obtain ⟨x0, x1⟩ := hx (by omega)
  replace S := (S.drawn C1 g1).set hqr 2 (.int .i64 x)
  replace q0 := q0.grown g1 hpq
  have r1 := r0.grown g1 hpr
  obtain ⟨f0, f1, f2, f3⟩ := r1.free
  obtain ⟨c0, c1, c2, c3⟩ := r1.cells
  replace r1 := r1.set2 x
  replace q0 : JBox (w4.setCell ⟨r, 2, none⟩ (.int .i64 x)) w.heap.size 0 0 0 0 := (Below.heap_setCell w4 _ _ _ hne).trans q0
  clear hx C1 g1 r0
  go_upto_region 3 with fail
  clear f0 f1 f2 f3 c0 c1 c2 c3
  generalize w4.setCell ⟨r, 2, none⟩ (.int .i64 x) = w5 at S q0 r1 ⊢
  obtain ⟨c0, c1, c2, c3⟩ := r1.cells
  go_wp2_with fail
  refine (below_any (B + 1) p len cap a _ S.cur).mono ?_
  clear c0 c1 c2 c3
  rintro e w6 ⟨y, ⟨-, hy⟩, rfl, C1, g1⟩
  obtain ⟨y0, y1⟩ := hy (by omega)
  replace S := (S.drawn C1 g1).set hqr 3 (.int .i64 y)
  replace q0 := q0.grown g1 hpq
  replace r1 := r1.grown g1 hpr
  obtain ⟨f0, f1, f2, f3⟩ := r1.free
  obtain ⟨c0, c1, c2, c3⟩ := r1.cells
  replace r1 := r1.set3 y
  replace q0 : JBox (w6.setCell ⟨r, 3, none⟩ (.int .i64 y)) w.heap.size 0 0 0 0 := (Below.heap_setCell w6 _ _ _ hne).trans q0
  clear hy C1 g1
  go_upto_region 4 with fail
  clear f0 f1 f2 f3 c0 c1 c2 c3
  generalize w6.setCell ⟨r, 3, none⟩ (.int .i64 y) = w7 at S q0 r1 ⊢
  obtain ⟨c0, c1, c2, c3⟩ := r1.cells
  obtain ⟨d0, d1, d2, d3⟩ := q0.cells
  obtain ⟨f0, f1, f2, f3⟩ := q0.free
  have k2 := JBox.set q0 A B x y
  have hend := S.jset (Nat.le_refl w.heap.size) A B x y
  have hok : okG A B x y = true := okG_iff.2 (by omega)
  clear S q0 r1
  go_wp2_with fail
  (try simp only [Exit.inBlock, Exit.then])
  refine bodyPost_ret (v := jagg A B x y) (w := jset w7 w.heap.size A B x y) ?_ rfl ⟨A, B, x, y, hok, rfl, hend⟩
  obtain ⟨c30, c31, c32, c33⟩ := k2.cells
  rw [results_cell_one rfl]
  go_simp

/-- What the law's draw answers. -/
def DrawnGL (B : Nat) (w : World) (e : Ending) (w' : World) : Prop := ∃ A C x y : Int, okG A C x y = true ∧ e = .returned (jagg A C x y) ∧ Below B w w'

theorem drawGlasses_any (B : Nat) (a : Option Addr) (len cap : Nat) (w : World) (hB : B = w.heap.size) (hl : len ≤ 1048576) (hr : Bytes w w.heap.size a len) :
    Calls Try.prog 10 #[.slice a len cap] w (DrawnGL B w) := by
  have q0 := JBox.new w 0 0 0 0
  have b0 : Below w.heap.size w (w.alloc (jobj 0 0 0 0 25)) := (Below.refl _ _).alloc (Nat.le_refl _) _
  have hr2 : Bytes (w.alloc (jobj 0 0 0 0 25)) (w.alloc (jobj 0 0 0 0 25)).heap.size a len := (hr.keep b0.block).more (by simp)
  clear hr
  go_enter Try.func10, Try.ntmps10
  go_wp2_with fail
  refine (new_any a len cap _ hl hr2).mono ?_
  clear hr2
  rintro e w1 ⟨rfl, C1, b1, s1⟩
  replace q0 := q0.keep b1 q0.lt
  replace b0 := below_more b0 b0.size b1
  have hp : w.heap.size < (w.alloc (jobj 0 0 0 0 25)).heap.size := by simp
  generalize (w.alloc (jobj 0 0 0 0 25)).heap.size = p at C1 b1 s1 hp ⊢
  clear b1 s1
  go_wp2_with fail
  refine (glassDraw_any p len cap a _ C1).mono ?_
  clear C1
  rintro e w2 ⟨A, C, x, y, hok, rfl, S⟩
  have q1 := q0.grown S.grown (by omega)
  have b1 : Below w.heap.size w w2 := b0.trans (below_of_grown S.grown (by omega) (by have := b0.size; omega))
  obtain ⟨d0, d1, d2, d3⟩ := q1.cells
  obtain ⟨f0, f1, f2, f3⟩ := q1.free
  have k2 := JBox.set q1 A C x y
  have k3 := below_jset b1 (Nat.le_refl w.heap.size) A C x y
  subst hB
  clear S q0 q1 b0 b1
  go_wp2_with fail
  (try simp only [Exit.inBlock, Exit.then])
  refine bodyPost_ret (v := jagg A C x y) (w := jset w2 w.heap.size A C x y) ?_ rfl ⟨A, C, x, y, hok, rfl, k3⟩
  obtain ⟨c30, c31, c32, c33⟩ := k2.cells
  rw [results_cell_one rfl]
  go_simp
end Go.Proofs.Ytmbhldpbgcfnmaa
