/-
  The law's own type of steelyards into the program's; a law's blocks of three ints. No condition.
-/
import Derived.Test.YtjgonmabmannaaaTri
namespace Go.Proofs.Ytjgonmabmannaaa
open Go.ChangeShapes Go.WideShapes Go.ChangeAt Go.RowKit Go.PlainAid

/-- The law's own type into the program's: three new blocks. -/
def ThreeY (a b c : Int) (w : World) : World := ((w.alloc (obj3 a b c 37)).alloc (obj3 a b c 25)).alloc (obj3 a b c 25)
theorem toYard_exact (a b c : Int) (w : World) : Calls Try.prog 18 #[agg3 a b c] w fun e w' => e = .returned (agg3 a b c) ∧ w' = ThreeY a b c w := by
  go_enter Try.func18, Try.ntmps18
  go_wp2_with fail
  (try simp only [Exit.inBlock, Exit.then])
  refine bodyPost_ret (v := agg3 a b c) ?_ rfl ⟨rfl, rfl⟩
  rw [results_cell_one rfl]
  go_simp
theorem ThreeY.below {a b c : Int} {n : Nat} {v w : World} (h : Below n v w) (hn : n ≤ w.heap.size) : Below n v (ThreeY a b c w) :=
  ((h.alloc hn _).alloc (by simp; omega) _).alloc (by simp; omega) _
theorem toYard_any (a b c : Int) (w : World) : Calls Try.prog 18 #[agg3 a b c] w fun e w' => e = .returned (agg3 a b c) ∧ Below w.heap.size w w' :=
  (toYard_exact a b c w).mono fun _ _ ⟨h, k⟩ => ⟨h, k ▸ ThreeY.below (Below.refl _ _) (Nat.le_refl _)⟩
theorem Tri.c0 {w : World} {p : Nat} {a b c : Int} {t : TypeId} (h : Tri w p a b c t) : w.cell? ⟨p, 0, none⟩ = some (.int .i64 a) := h.cells.1
theorem Tri.c1 {w : World} {p : Nat} {a b c : Int} {t : TypeId} (h : Tri w p a b c t) : w.cell? ⟨p, 1, none⟩ = some (.int .i64 b) := h.cells.2.1
theorem Tri.c2 {w : World} {p : Nat} {a b c : Int} {t : TypeId} (h : Tri w p a b c t) : w.cell? ⟨p, 2, none⟩ = some (.int .i64 c) := h.cells.2.2
theorem Tri.drew {w : World} {p : Nat} {a b c : Int} {t : TypeId} (h : Tri w p a b c t) : Tri w.drew p a b c t := h
theorem Tri.other {w : World} {p q : Nat} {a b c : Int} {t : TypeId} (h : Tri w p a b c t) (o : Nat) (v : Value) (hne : p ≠ q) : Tri (w.setCell ⟨q, o, none⟩ v) p a b c t := (Below.heap_setCell w _ v p hne).trans h
theorem Box.new_at {w : World} {t b : Int} {ty : TypeId} {p : Nat} (h : p = w.heap.size) : Box (w.alloc (.cells #[.int .i64 t, .int .i64 b] ty)) p t b ty := h ▸ Box.new w t b ty
theorem Box.drew {w : World} {t b : Int} {ty : TypeId} {p : Nat} (h : Box w p t b ty) : Box w.drew p t b ty := h
theorem Box.set {w : World} {t b T B : Int} {ty : TypeId} {p : Nat} (h : Box w p t b ty) : Box ((w.setCell ⟨p, 0, none⟩ (.int .i64 T)).setCell ⟨p, 1, none⟩ (.int .i64 B)) p T B ty := by
  have h' : w.heap[p]? = _ := h
  unfold Box
  simp [World.setCell, Array.getElem?_modify, h']
theorem Box.other {w : World} {t b : Int} {ty : TypeId} {p q : Nat} (h : Box w p t b ty) (o : Nat) (v : Value) (hne : p ≠ q) : Box (w.setCell ⟨q, o, none⟩ v) p t b ty := (Below.heap_setCell w _ v p hne).trans h
end Go.Proofs.Ytjgonmabmannaaa
