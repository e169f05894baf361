/-
  The draw of a steelyard: it is valid. Nothing that was there before is written.
-/
import Derived.Test.YtjgonmabmannaaaToYard
import Derived.Test.YtjgonmabmannaaaBelow
import Derived.Deep.DeepCutAuto
namespace Go.Proofs.Ytjgonmabmannaaa
open Go.ChangeShapes Go.WideShapes Go.ChangeAt Go.RowKit Go.PlainAid

theorem grown_above {a w : World} {row : Option Nat} {q : Nat} (h : a.grownBy w row) (hq : a.heap.size ≤ q) (i : Nat) (u : Value) : a.grownBy (w.setCell ⟨q, i, none⟩ u) row :=
  ⟨h.os, h.tape, h.output, by simpa [World.setCell] using h.size, fun k hk hne => (Below.heap_setCell w _ u k (by show k ≠ q; omega)).trans (h.block k hk hne)⟩
theorem Tri.grown {w w' : World} {a b c : Int} {t : TypeId} {q p : Nat} (h : Tri w q a b c t) (g : w.grownBy w' (some p)) (hne : q ≠ p) : Tri w' q a b c t :=
  (g.block q h.lt (fun e => hne (by injection e))).trans h
theorem heap_set {w : World} {p : Nat} {xs : Array Value} {t : TypeId} {fz : Nat × Nat} (h : w.heap[p]? = some (.cells xs t fz)) (i : Nat) (v : Value) : (w.setCell ⟨p, i, none⟩ v).heap[p]? = some (.cells (xs.setIfInBounds i v) t fz) := by
  simp [World.setCell, Array.getElem?_modify, h]
/-- All three are written. -/
abbrev tset (w : World) (p : Nat) (a b c : Int) : World := ((w.setCell ⟨p, 0, none⟩ (.int .i64 a)).setCell ⟨p, 1, none⟩ (.int .i64 b)).setCell ⟨p, 2, none⟩ (.int .i64 c)
theorem Tri.set {w : World} {p : Nat} {a b c : Int} {t : TypeId} (h : Tri w p a b c t) (a' b' c' : Int) : Tri (tset w p a' b' c') p a' b' c' t := heap_set (heap_set (heap_set h 0 _) 1 _) 2 _
theorem below_tset {B : Nat} {w wr : World} (h : Below B w wr) {p : Nat} (hp : B ≤ p) (a b c : Int) : Below B w (tset wr p a b c) := ((h.setCell hp _).setCell hp _).setCell hp _
/-- The cursor stands, and nothing else that was there has turned. -/
structure GSt (w : World) (p : Nat) (a : Option Addr) (len cap : Nat) (wr : World) : Prop where
  lt : p < w.heap.size
  cur : Cur wr p a len cap
  grown : w.grownBy wr (some p)
section
variable {w wr w1 : World} {p q len cap : Nat} {a : Option Addr}
theorem GSt.start (C : Cur w p a len cap) : GSt w p a len cap w := ⟨C.lt, C, World.grownBy.refl w _⟩
theorem GSt.drawn (h : GSt w p a len cap wr) (C : Cur w1 p a len cap) (g : wr.grownBy w1 (some p)) : GSt w p a len cap w1 := ⟨h.lt, C, grown_trans h.grown g⟩
theorem GSt.alloc (h : GSt w p a len cap wr) (o : Obj) : GSt w p a len cap (wr.alloc o) := ⟨h.lt, h.cur.alloc o, grown_trans h.grown (World.grownBy_alloc wr o _)⟩
theorem GSt.set (h : GSt w p a len cap wr) (hq : w.heap.size ≤ q) (i : Nat) (u : Value) : GSt w p a len cap (wr.setCell ⟨q, i, none⟩ u) :=
  ⟨h.lt, h.cur.below ((Below.refl q wr).setCell (Nat.le_refl _) _) (Nat.lt_of_lt_of_le h.lt hq), grown_above h.grown hq i u⟩
theorem GSt.tset (h : GSt w p a len cap wr) (hq : w.heap.size ≤ q) (x y z : Int) : GSt w p a len cap (tset wr q x y z) := ((h.set hq _ _).set hq _ _).set hq _ _
end

/-- A small steelyard. -/
def SmallY (p s e : Int) : Prop := (1 ≤ p ∧ p ≤ 12) ∧ (1 ≤ s ∧ s ≤ 20) ∧ (-10 ≤ e ∧ e ≤ 10)
def DrawnY (w : World) (p : Nat) (a : Option Addr) (len cap : Nat) (en : Ending) (w' : World) : Prop :=
  ∃ x s e : Int, SmallY x s e ∧ en = .returned (agg3 x s e) ∧ GSt w p a len cap w'

set_option maxHeartbeats 1000000 in
theorem yardDraw_any (p len cap : Nat) (a : Option Addr) (w : World) (C : Cur w p a len cap) :
    Calls Try.prog 29 #[.pointer (some ⟨p, 0, none⟩)] w (DrawnY w p a len cap) := by
  have S := (GSt.start C).alloc (obj3 0 0 0 25)
  have q0 := Tri.new w 0 0 0 25
  have hpq : w.heap.size ≠ p := by have := C.lt; omega
  clear C
  go_enter Try.func29, Try.ntmps29
  go_wp2_with fail
  refine (below_any 12 p len cap a _ S.cur).mono ?_
  rintro e w1 ⟨u, ⟨-, hu⟩, rfl, C1, g1⟩
  obtain ⟨u0, u1⟩ := hu (by omega)
  replace S := S.drawn C1 g1
  replace q0 := q0.grown g1 hpq
  clear hu C1 g1
  go_wp2_with fail
  refine (below_any 20 p len cap a _ S.cur).mono ?_
  rintro e w2 ⟨v, ⟨-, hv⟩, rfl, C1, g1⟩
  obtain ⟨v0, v1⟩ := hv (by omega)
  replace S := S.drawn C1 g1
  replace q0 := q0.grown g1 hpq
  clear hv C1 g1
  go_wp2_with fail
  refine (below_any 21 p len cap a _ S.cur).mono ?_
  rintro e w3 ⟨x, ⟨-, hx⟩, rfl, C1, g1⟩
  obtain ⟨x0, x1⟩ := hx (by omega)
  replace S := S.drawn C1 g1
  replace q0 := q0.grown g1 hpq
  clear hx C1 g1
  obtain ⟨d0, d1, d2⟩ := q0.cells
  obtain ⟨f0, f1, f2⟩ := q0.free
  have k2 := q0.set (1 + u) (1 + v) (x - 10)
  have hend := S.tset (Nat.le_refl w.heap.size) (1 + u) (1 + v) (x - 10)
  have hok : SmallY (1 + u) (1 + v) (x - 10) := ⟨by omega, by omega, by omega⟩
  clear S q0
  go_wp2_with fail
  (try simp only [Exit.inBlock, Exit.then])
  refine bodyPost_ret (v := agg3 (1 + u) (1 + v) (x - 10)) (w := tset w3 w.heap.size (1 + u) (1 + v) (x - 10)) ?_ rfl ⟨_, _, _, hok, rfl, hend⟩
  obtain ⟨c30, c31, c32⟩ := k2.cells
  rw [results_cell_one rfl]
  go_simp

/-- What the law's draw answers. -/
def DrawnYL (B : Nat) (w : World) (en : Ending) (w' : World) : Prop := ∃ x s e : Int, SmallY x s e ∧ en = .returned (agg3 x s e) ∧ Below B w w'

theorem drawYard_any (B : Nat) (a : Option Addr) (len cap : Nat) (w : World) (hB : B = w.heap.size) (hl : len ≤ 1048576) (hr : Bytes w w.heap.size a len) :
    Calls Try.prog 10 #[.slice a len cap] w (DrawnYL B w) := by
  have q0 := Tri.new w 0 0 0 25
  have b0 : Below w.heap.size w (w.alloc (obj3 0 0 0 25)) := (Below.refl _ _).alloc (Nat.le_refl _) _
  have hr2 : Bytes (w.alloc (obj3 0 0 0 25)) (w.alloc (obj3 0 0 0 25)).heap.size a len := (hr.keep b0.block).more (by simp)
  clear hr
  go_enter Try.func10, Try.ntmps10
  go_wp2_with fail
  refine (new_any a len cap _ hl hr2).mono ?_
  clear hr2
  rintro e w1 ⟨rfl, C1, b1, s1⟩
  replace q0 := q0.keep b1 q0.lt
  replace b0 := below_more b0 b0.size b1
  have hp : w.heap.size < (w.alloc (obj3 0 0 0 25)).heap.size := by simp
  generalize (w.alloc (obj3 0 0 0 25)).heap.size = p at C1 b1 s1 hp ⊢
  clear b1 s1
  go_wp2_with fail
  refine (yardDraw_any p len cap a _ C1).mono ?_
  rintro en w2 ⟨x, s, e, hok, rfl, S⟩
  have hne : w.heap.size ≠ p := by omega
  replace q0 := q0.grown S.grown hne
  replace b0 := b0.trans (below_of_grown (B := w.heap.size) S.grown (by omega) b0.size)
  obtain ⟨d0, d1, d2⟩ := q0.cells
  obtain ⟨f0, f1, f2⟩ := q0.free
  have k2 := q0.set x s e
  have hend := below_tset b0 (Nat.le_refl w.heap.size) x s e
  subst hB
  clear S C1 q0 b0
  go_wp2_with fail
  (try simp only [Exit.inBlock, Exit.then])
  refine bodyPost_ret (v := agg3 x s e) (w := tset w2 w.heap.size x s e) ?_ rfl ⟨_, _, _, hok, rfl, hend⟩
  obtain ⟨c30, c31, c32⟩ := k2.cells
  rw [results_cell_one rfl]
  go_simp
end Go.Proofs.Ytjgonmabmannaaa
