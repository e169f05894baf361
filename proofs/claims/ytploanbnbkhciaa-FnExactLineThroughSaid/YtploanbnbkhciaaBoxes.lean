/-
  Two and three boxes of two ints, one behind the other. No program's walk.
-/
import Derived.Test.YtploanbnbkhciaaFracOk
namespace Go.Proofs.Ytploanbnbkhciaa
open Go.ChangeShapes Go.WideShapes Go.ChangeAt Go.RowKit Go.PlainAid

theorem Box.drewN {w : World} {p : Nat} {t b : Int} {ty : TypeId} (h : Box w p t b ty) (n : Nat) : Box (w.drewN n) p t b ty := h

/-- Three boxes, one behind the other: the two arguments and a fraction of zeros. -/
theorem three_boxes (w : World) (t1 b1 t2 b2 : Int) (ty ty' : TypeId) :
    Box (((w.alloc (.cells #[.int .i64 t1, .int .i64 b1] ty)).alloc (.cells #[.int .i64 t2, .int .i64 b2] ty)).alloc (.cells #[.int .i64 0, .int .i64 0] ty')) w.heap.size t1 b1 ty ∧
    Box (((w.alloc (.cells #[.int .i64 t1, .int .i64 b1] ty)).alloc (.cells #[.int .i64 t2, .int .i64 b2] ty)).alloc (.cells #[.int .i64 0, .int .i64 0] ty')) (w.heap.size + 1) t2 b2 ty ∧
    Box (((w.alloc (.cells #[.int .i64 t1, .int .i64 b1] ty)).alloc (.cells #[.int .i64 t2, .int .i64 b2] ty)).alloc (.cells #[.int .i64 0, .int .i64 0] ty')) (w.heap.size + 1 + 1) 0 0 ty' ∧
    Below w.heap.size w (((w.alloc (.cells #[.int .i64 t1, .int .i64 b1] ty)).alloc (.cells #[.int .i64 t2, .int .i64 b2] ty)).alloc (.cells #[.int .i64 0, .int .i64 0] ty')) := by
  have h1 := Box.new (w.alloc (.cells #[.int .i64 t1, .int .i64 b1] ty)) t2 b2 ty
  have h2 := Box.new ((w.alloc (.cells #[.int .i64 t1, .int .i64 b1] ty)).alloc (.cells #[.int .i64 t2, .int .i64 b2] ty)) 0 0 ty'
  have e1 : (w.alloc (.cells #[.int .i64 t1, .int .i64 b1] ty)).heap.size = w.heap.size + 1 := by simp
  have e2 : ((w.alloc (.cells #[.int .i64 t1, .int .i64 b1] ty)).alloc (.cells #[.int .i64 t2, .int .i64 b2] ty)).heap.size = w.heap.size + 1 + 1 := by simp
  rw [e1] at h1
  rw [e2] at h2
  exact ⟨((Box.new w t1 b1 ty).alloc _).alloc _, h1.alloc _, h2, (((Below.refl _ _).alloc (Nat.le_refl _) _).alloc (by simp) _).alloc (by simp <;> omega) _⟩

theorem two_boxes (w : World) (t1 b1 t2 b2 : Int) (ty : TypeId) :
    Box ((w.alloc (.cells #[.int .i64 t1, .int .i64 b1] ty)).alloc (.cells #[.int .i64 t2, .int .i64 b2] ty)) w.heap.size t1 b1 ty ∧
    Box ((w.alloc (.cells #[.int .i64 t1, .int .i64 b1] ty)).alloc (.cells #[.int .i64 t2, .int .i64 b2] ty)) (w.heap.size + 1) t2 b2 ty ∧
    Below w.heap.size w ((w.alloc (.cells #[.int .i64 t1, .int .i64 b1] ty)).alloc (.cells #[.int .i64 t2, .int .i64 b2] ty)) := by
  have h1 := Box.new (w.alloc (.cells #[.int .i64 t1, .int .i64 b1] ty)) t2 b2 ty
  have e1 : (w.alloc (.cells #[.int .i64 t1, .int .i64 b1] ty)).heap.size = w.heap.size + 1 := by simp
  rw [e1] at h1
  exact ⟨(Box.new w t1 b1 ty).alloc _, h1, ((Below.refl _ _).alloc (Nat.le_refl _) _).alloc (by simp) _⟩

theorem mul_in (x y : Int) (h0 : -1000000 ≤ x) (h1 : x ≤ 1000000) (h2 : -1000000 ≤ y) (h3 : y ≤ 1000000) : -1000000000000 ≤ x * y ∧ x * y ≤ 1000000000000 := by
  have : (x * y).natAbs ≤ 1000000 * 1000000 := by
    rw [Int.natAbs_mul]
    exact Nat.mul_le_mul (by omega) (by omega)
  omega

theorem tdiv_in (x d : Int) (h0 : -1000000 ≤ x) (h1 : x ≤ 1000000) : -1000000 ≤ x.tdiv d ∧ x.tdiv d ≤ 1000000 := by
  have h : (x.tdiv d).natAbs = x.natAbs / d.natAbs := Int.natAbs_tdiv x d
  have h2 := Nat.div_le_self x.natAbs d.natAbs
  omega

end Go.Proofs.Ytploanbnbkhciaa
