/-
  Boxes of two and of four ints, one behind the other. No program's walk.
-/
import Derived.Test.YtploanbnbkhciaaQuad
namespace Go.Proofs.Ytploanbnbkhciaa
open Go.ChangeShapes Go.WideShapes Go.ChangeAt Go.RowKit Go.PlainAid

theorem bx_222 (w : World) (a0 b0 : Int) (ty0 : TypeId) (a1 b1 : Int) (ty1 : TypeId) (a2 b2 : Int) (ty2 : TypeId) :
    Box (((w.alloc (.cells #[.int .i64 a0, .int .i64 b0] ty0)).alloc (.cells #[.int .i64 a1, .int .i64 b1] ty1)).alloc (.cells #[.int .i64 a2, .int .i64 b2] ty2)) w.heap.size a0 b0 ty0 ∧
    Box (((w.alloc (.cells #[.int .i64 a0, .int .i64 b0] ty0)).alloc (.cells #[.int .i64 a1, .int .i64 b1] ty1)).alloc (.cells #[.int .i64 a2, .int .i64 b2] ty2)) (w.heap.size + 1) a1 b1 ty1 ∧
    Box (((w.alloc (.cells #[.int .i64 a0, .int .i64 b0] ty0)).alloc (.cells #[.int .i64 a1, .int .i64 b1] ty1)).alloc (.cells #[.int .i64 a2, .int .i64 b2] ty2)) (w.heap.size + 1 + 1) a2 b2 ty2 ∧
    Below w.heap.size w (((w.alloc (.cells #[.int .i64 a0, .int .i64 b0] ty0)).alloc (.cells #[.int .i64 a1, .int .i64 b1] ty1)).alloc (.cells #[.int .i64 a2, .int .i64 b2] ty2)) := by
  have h0 := Box.new w a0 b0 ty0
  have h1 := Box.new (w.alloc (.cells #[.int .i64 a0, .int .i64 b0] ty0)) a1 b1 ty1
  rw [show (w.alloc (.cells #[.int .i64 a0, .int .i64 b0] ty0)).heap.size = (w.heap.size + 1) by simp] at h1
  have h2 := Box.new ((w.alloc (.cells #[.int .i64 a0, .int .i64 b0] ty0)).alloc (.cells #[.int .i64 a1, .int .i64 b1] ty1)) a2 b2 ty2
  rw [show ((w.alloc (.cells #[.int .i64 a0, .int .i64 b0] ty0)).alloc (.cells #[.int .i64 a1, .int .i64 b1] ty1)).heap.size = (w.heap.size + 1 + 1) by simp] at h2
  exact ⟨((h0.alloc _).alloc _), (h1.alloc _), h2, ((((Below.refl _ _).alloc (by simp <;> omega) _).alloc (by simp <;> omega) _).alloc (by simp <;> omega) _)⟩
theorem bx_2222 (w : World) (a0 b0 : Int) (ty0 : TypeId) (a1 b1 : Int) (ty1 : TypeId) (a2 b2 : Int) (ty2 : TypeId) (a3 b3 : Int) (ty3 : TypeId) :
    Box ((((w.alloc (.cells #[.int .i64 a0, .int .i64 b0] ty0)).alloc (.cells #[.int .i64 a1, .int .i64 b1] ty1)).alloc (.cells #[.int .i64 a2, .int .i64 b2] ty2)).alloc (.cells #[.int .i64 a3, .int .i64 b3] ty3)) w.heap.size a0 b0 ty0 ∧
    Box ((((w.alloc (.cells #[.int .i64 a0, .int .i64 b0] ty0)).alloc (.cells #[.int .i64 a1, .int .i64 b1] ty1)).alloc (.cells #[.int .i64 a2, .int .i64 b2] ty2)).alloc (.cells #[.int .i64 a3, .int .i64 b3] ty3)) (w.heap.size + 1) a1 b1 ty1 ∧
    Box ((((w.alloc (.cells #[.int .i64 a0, .int .i64 b0] ty0)).alloc (.cells #[.int .i64 a1, .int .i64 b1] ty1)).alloc (.cells #[.int .i64 a2, .int .i64 b2] ty2)).alloc (.cells #[.int .i64 a3, .int .i64 b3] ty3)) (w.heap.size + 1 + 1) a2 b2 ty2 ∧
    Box ((((w.alloc (.cells #[.int .i64 a0, .int .i64 b0] ty0)).alloc (.cells #[.int .i64 a1, .int .i64 b1] ty1)).alloc (.cells #[.int .i64 a2, .int .i64 b2] ty2)).alloc (.cells #[.int .i64 a3, .int .i64 b3] ty3)) (w.heap.size + 1 + 1 + 1) a3 b3 ty3 ∧
    Below w.heap.size w ((((w.alloc (.cells #[.int .i64 a0, .int .i64 b0] ty0)).alloc (.cells #[.int .i64 a1, .int .i64 b1] ty1)).alloc (.cells #[.int .i64 a2, .int .i64 b2] ty2)).alloc (.cells #[.int .i64 a3, .int .i64 b3] ty3)) := by
  have h0 := Box.new w a0 b0 ty0
  have h1 := Box.new (w.alloc (.cells #[.int .i64 a0, .int .i64 b0] ty0)) a1 b1 ty1
  rw [show (w.alloc (.cells #[.int .i64 a0, .int .i64 b0] ty0)).heap.size = (w.heap.size + 1) by simp] at h1
  have h2 := Box.new ((w.alloc (.cells #[.int .i64 a0, .int .i64 b0] ty0)).alloc (.cells #[.int .i64 a1, .int .i64 b1] ty1)) a2 b2 ty2
  rw [show ((w.alloc (.cells #[.int .i64 a0, .int .i64 b0] ty0)).alloc (.cells #[.int .i64 a1, .int .i64 b1] ty1)).heap.size = (w.heap.size + 1 + 1) by simp] at h2
  have h3 := Box.new (((w.alloc (.cells #[.int .i64 a0, .int .i64 b0] ty0)).alloc (.cells #[.int .i64 a1, .int .i64 b1] ty1)).alloc (.cells #[.int .i64 a2, .int .i64 b2] ty2)) a3 b3 ty3
  rw [show (((w.alloc (.cells #[.int .i64 a0, .int .i64 b0] ty0)).alloc (.cells #[.int .i64 a1, .int .i64 b1] ty1)).alloc (.cells #[.int .i64 a2, .int .i64 b2] ty2)).heap.size = (w.heap.size + 1 + 1 + 1) by simp] at h3
  exact ⟨(((h0.alloc _).alloc _).alloc _), ((h1.alloc _).alloc _), (h2.alloc _), h3, (((((Below.refl _ _).alloc (by simp <;> omega) _).alloc (by simp <;> omega) _).alloc (by simp <;> omega) _).alloc (by simp <;> omega) _)⟩
theorem bx_22222 (w : World) (a0 b0 : Int) (ty0 : TypeId) (a1 b1 : Int) (ty1 : TypeId) (a2 b2 : Int) (ty2 : TypeId) (a3 b3 : Int) (ty3 : TypeId) (a4 b4 : Int) (ty4 : TypeId) :
    Box (((((w.alloc (.cells #[.int .i64 a0, .int .i64 b0] ty0)).alloc (.cells #[.int .i64 a1, .int .i64 b1] ty1)).alloc (.cells #[.int .i64 a2, .int .i64 b2] ty2)).alloc (.cells #[.int .i64 a3, .int .i64 b3] ty3)).alloc (.cells #[.int .i64 a4, .int .i64 b4] ty4)) w.heap.size a0 b0 ty0 ∧
    Box (((((w.alloc (.cells #[.int .i64 a0, .int .i64 b0] ty0)).alloc (.cells #[.int .i64 a1, .int .i64 b1] ty1)).alloc (.cells #[.int .i64 a2, .int .i64 b2] ty2)).alloc (.cells #[.int .i64 a3, .int .i64 b3] ty3)).alloc (.cells #[.int .i64 a4, .int .i64 b4] ty4)) (w.heap.size + 1) a1 b1 ty1 ∧
    Box (((((w.alloc (.cells #[.int .i64 a0, .int .i64 b0] ty0)).alloc (.cells #[.int .i64 a1, .int .i64 b1] ty1)).alloc (.cells #[.int .i64 a2, .int .i64 b2] ty2)).alloc (.cells #[.int .i64 a3, .int .i64 b3] ty3)).alloc (.cells #[.int .i64 a4, .int .i64 b4] ty4)) (w.heap.size + 1 + 1) a2 b2 ty2 ∧
    Box (((((w.alloc (.cells #[.int .i64 a0, .int .i64 b0] ty0)).alloc (.cells #[.int .i64 a1, .int .i64 b1] ty1)).alloc (.cells #[.int .i64 a2, .int .i64 b2] ty2)).alloc (.cells #[.int .i64 a3, .int .i64 b3] ty3)).alloc (.cells #[.int .i64 a4, .int .i64 b4] ty4)) (w.heap.size + 1 + 1 + 1) a3 b3 ty3 ∧
    Box (((((w.alloc (.cells #[.int .i64 a0, .int .i64 b0] ty0)).alloc (.cells #[.int .i64 a1, .int .i64 b1] ty1)).alloc (.cells #[.int .i64 a2, .int .i64 b2] ty2)).alloc (.cells #[.int .i64 a3, .int .i64 b3] ty3)).alloc (.cells #[.int .i64 a4, .int .i64 b4] ty4)) (w.heap.size + 1 + 1 + 1 + 1) a4 b4 ty4 ∧
    Below w.heap.size w (((((w.alloc (.cells #[.int .i64 a0, .int .i64 b0] ty0)).alloc (.cells #[.int .i64 a1, .int .i64 b1] ty1)).alloc (.cells #[.int .i64 a2, .int .i64 b2] ty2)).alloc (.cells #[.int .i64 a3, .int .i64 b3] ty3)).alloc (.cells #[.int .i64 a4, .int .i64 b4] ty4)) := by
  have h0 := Box.new w a0 b0 ty0
  have h1 := Box.new (w.alloc (.cells #[.int .i64 a0, .int .i64 b0] ty0)) a1 b1 ty1
  rw [show (w.alloc (.cells #[.int .i64 a0, .int .i64 b0] ty0)).heap.size = (w.heap.size + 1) by simp] at h1
  have h2 := Box.new ((w.alloc (.cells #[.int .i64 a0, .int .i64 b0] ty0)).alloc (.cells #[.int .i64 a1, .int .i64 b1] ty1)) a2 b2 ty2
  rw [show ((w.alloc (.cells #[.int .i64 a0, .int .i64 b0] ty0)).alloc (.cells #[.int .i64 a1, .int .i64 b1] ty1)).heap.size = (w.heap.size + 1 + 1) by simp] at h2
  have h3 := Box.new (((w.alloc (.cells #[.int .i64 a0, .int .i64 b0] ty0)).alloc (.cells #[.int .i64 a1, .int .i64 b1] ty1)).alloc (.cells #[.int .i64 a2, .int .i64 b2] ty2)) a3 b3 ty3
  rw [show (((w.alloc (.cells #[.int .i64 a0, .int .i64 b0] ty0)).alloc (.cells #[.int .i64 a1, .int .i64 b1] ty1)).alloc (.cells #[.int .i64 a2, .int .i64 b2] ty2)).heap.size = (w.heap.size + 1 + 1 + 1) by simp] at h3
  have h4 := Box.new ((((w.alloc (.cells #[.int .i64 a0, .int .i64 b0] ty0)).alloc (.cells #[.int .i64 a1, .int .i64 b1] ty1)).alloc (.cells #[.int .i64 a2, .int .i64 b2] ty2)).alloc (.cells #[.int .i64 a3, .int .i64 b3] ty3)) a4 b4 ty4
  rw [show ((((w.alloc (.cells #[.int .i64 a0, .int .i64 b0] ty0)).alloc (.cells #[.int .i64 a1, .int .i64 b1] ty1)).alloc (.cells #[.int .i64 a2, .int .i64 b2] ty2)).alloc (.cells #[.int .i64 a3, .int .i64 b3] ty3)).heap.size = (w.heap.size + 1 + 1 + 1 + 1) by simp] at h4
  exact ⟨((((h0.alloc _).alloc _).alloc _).alloc _), (((h1.alloc _).alloc _).alloc _), ((h2.alloc _).alloc _), (h3.alloc _), h4, ((((((Below.refl _ _).alloc (by simp <;> omega) _).alloc (by simp <;> omega) _).alloc (by simp <;> omega) _).alloc (by simp <;> omega) _).alloc (by simp <;> omega) _)⟩
theorem bx_22224 (w : World) (a0 b0 : Int) (ty0 : TypeId) (a1 b1 : Int) (ty1 : TypeId) (a2 b2 : Int) (ty2 : TypeId) (a3 b3 : Int) (ty3 : TypeId) (a4 b4 c4 d4 : Int) (ty4 : TypeId) :
    Box (((((w.alloc (.cells #[.int .i64 a0, .int .i64 b0] ty0)).alloc (.cells #[.int .i64 a1, .int .i64 b1] ty1)).alloc (.cells #[.int .i64 a2, .int .i64 b2] ty2)).alloc (.cells #[.int .i64 a3, .int .i64 b3] ty3)).alloc (.cells #[.int .i64 a4, .int .i64 b4, .int .i64 c4, .int .i64 d4] ty4)) w.heap.size a0 b0 ty0 ∧
    Box (((((w.alloc (.cells #[.int .i64 a0, .int .i64 b0] ty0)).alloc (.cells #[.int .i64 a1, .int .i64 b1] ty1)).alloc (.cells #[.int .i64 a2, .int .i64 b2] ty2)).alloc (.cells #[.int .i64 a3, .int .i64 b3] ty3)).alloc (.cells #[.int .i64 a4, .int .i64 b4, .int .i64 c4, .int .i64 d4] ty4)) (w.heap.size + 1) a1 b1 ty1 ∧
    Box (((((w.alloc (.cells #[.int .i64 a0, .int .i64 b0] ty0)).alloc (.cells #[.int .i64 a1, .int .i64 b1] ty1)).alloc (.cells #[.int .i64 a2, .int .i64 b2] ty2)).alloc (.cells #[.int .i64 a3, .int .i64 b3] ty3)).alloc (.cells #[.int .i64 a4, .int .i64 b4, .int .i64 c4, .int .i64 d4] ty4)) (w.heap.size + 1 + 1) a2 b2 ty2 ∧
    Box (((((w.alloc (.cells #[.int .i64 a0, .int .i64 b0] ty0)).alloc (.cells #[.int .i64 a1, .int .i64 b1] ty1)).alloc (.cells #[.int .i64 a2, .int .i64 b2] ty2)).alloc (.cells #[.int .i64 a3, .int .i64 b3] ty3)).alloc (.cells #[.int .i64 a4, .int .i64 b4, .int .i64 c4, .int .i64 d4] ty4)) (w.heap.size + 1 + 1 + 1) a3 b3 ty3 ∧
    Quad (((((w.alloc (.cells #[.int .i64 a0, .int .i64 b0] ty0)).alloc (.cells #[.int .i64 a1, .int .i64 b1] ty1)).alloc (.cells #[.int .i64 a2, .int .i64 b2] ty2)).alloc (.cells #[.int .i64 a3, .int .i64 b3] ty3)).alloc (.cells #[.int .i64 a4, .int .i64 b4, .int .i64 c4, .int .i64 d4] ty4)) (w.heap.size + 1 + 1 + 1 + 1) a4 b4 c4 d4 ty4 ∧
    Below w.heap.size w (((((w.alloc (.cells #[.int .i64 a0, .int .i64 b0] ty0)).alloc (.cells #[.int .i64 a1, .int .i64 b1] ty1)).alloc (.cells #[.int .i64 a2, .int .i64 b2] ty2)).alloc (.cells #[.int .i64 a3, .int .i64 b3] ty3)).alloc (.cells #[.int .i64 a4, .int .i64 b4, .int .i64 c4, .int .i64 d4] ty4)) := by
  have h0 := Box.new w a0 b0 ty0
  have h1 := Box.new (w.alloc (.cells #[.int .i64 a0, .int .i64 b0] ty0)) a1 b1 ty1
  rw [show (w.alloc (.cells #[.int .i64 a0, .int .i64 b0] ty0)).heap.size = (w.heap.size + 1) by simp] at h1
  have h2 := Box.new ((w.alloc (.cells #[.int .i64 a0, .int .i64 b0] ty0)).alloc (.cells #[.int .i64 a1, .int .i64 b1] ty1)) a2 b2 ty2
  rw [show ((w.alloc (.cells #[.int .i64 a0, .int .i64 b0] ty0)).alloc (.cells #[.int .i64 a1, .int .i64 b1] ty1)).heap.size = (w.heap.size + 1 + 1) by simp] at h2
  have h3 := Box.new (((w.alloc (.cells #[.int .i64 a0, .int .i64 b0] ty0)).alloc (.cells #[.int .i64 a1, .int .i64 b1] ty1)).alloc (.cells #[.int .i64 a2, .int .i64 b2] ty2)) a3 b3 ty3
  rw [show (((w.alloc (.cells #[.int .i64 a0, .int .i64 b0] ty0)).alloc (.cells #[.int .i64 a1, .int .i64 b1] ty1)).alloc (.cells #[.int .i64 a2, .int .i64 b2] ty2)).heap.size = (w.heap.size + 1 + 1 + 1) by simp] at h3
  have h4 := Quad.new ((((w.alloc (.cells #[.int .i64 a0, .int .i64 b0] ty0)).alloc (.cells #[.int .i64 a1, .int .i64 b1] ty1)).alloc (.cells #[.int .i64 a2, .int .i64 b2] ty2)).alloc (.cells #[.int .i64 a3, .int .i64 b3] ty3)) a4 b4 c4 d4 ty4
  rw [show ((((w.alloc (.cells #[.int .i64 a0, .int .i64 b0] ty0)).alloc (.cells #[.int .i64 a1, .int .i64 b1] ty1)).alloc (.cells #[.int .i64 a2, .int .i64 b2] ty2)).alloc (.cells #[.int .i64 a3, .int .i64 b3] ty3)).heap.size = (w.heap.size + 1 + 1 + 1 + 1) by simp] at h4
  exact ⟨((((h0.alloc _).alloc _).alloc _).alloc _), (((h1.alloc _).alloc _).alloc _), ((h2.alloc _).alloc _), (h3.alloc _), h4, ((((((Below.refl _ _).alloc (by simp <;> omega) _).alloc (by simp <;> omega) _).alloc (by simp <;> omega) _).alloc (by simp <;> omega) _).alloc (by simp <;> omega) _)⟩
theorem bx_4 (w : World) (a0 b0 c0 d0 : Int) (ty0 : TypeId) :
    Quad (w.alloc (.cells #[.int .i64 a0, .int .i64 b0, .int .i64 c0, .int .i64 d0] ty0)) w.heap.size a0 b0 c0 d0 ty0 ∧
    Below w.heap.size w (w.alloc (.cells #[.int .i64 a0, .int .i64 b0, .int .i64 c0, .int .i64 d0] ty0)) := by
  have h0 := Quad.new w a0 b0 c0 d0 ty0
  exact ⟨h0, ((Below.refl _ _).alloc (by simp <;> omega) _)⟩
theorem bx_42 (w : World) (a0 b0 c0 d0 : Int) (ty0 : TypeId) (a1 b1 : Int) (ty1 : TypeId) :
    Quad ((w.alloc (.cells #[.int .i64 a0, .int .i64 b0, .int .i64 c0, .int .i64 d0] ty0)).alloc (.cells #[.int .i64 a1, .int .i64 b1] ty1)) w.heap.size a0 b0 c0 d0 ty0 ∧
    Box ((w.alloc (.cells #[.int .i64 a0, .int .i64 b0, .int .i64 c0, .int .i64 d0] ty0)).alloc (.cells #[.int .i64 a1, .int .i64 b1] ty1)) (w.heap.size + 1) a1 b1 ty1 ∧
    Below w.heap.size w ((w.alloc (.cells #[.int .i64 a0, .int .i64 b0, .int .i64 c0, .int .i64 d0] ty0)).alloc (.cells #[.int .i64 a1, .int .i64 b1] ty1)) := by
  have h0 := Quad.new w a0 b0 c0 d0 ty0
  have h1 := Box.new (w.alloc (.cells #[.int .i64 a0, .int .i64 b0, .int .i64 c0, .int .i64 d0] ty0)) a1 b1 ty1
  rw [show (w.alloc (.cells #[.int .i64 a0, .int .i64 b0, .int .i64 c0, .int .i64 d0] ty0)).heap.size = (w.heap.size + 1) by simp] at h1
  exact ⟨(h0.alloc _), h1, (((Below.refl _ _).alloc (by simp <;> omega) _).alloc (by simp <;> omega) _)⟩
theorem bx_422 (w : World) (a0 b0 c0 d0 : Int) (ty0 : TypeId) (a1 b1 : Int) (ty1 : TypeId) (a2 b2 : Int) (ty2 : TypeId) :
    Quad (((w.alloc (.cells #[.int .i64 a0, .int .i64 b0, .int .i64 c0, .int .i64 d0] ty0)).alloc (.cells #[.int .i64 a1, .int .i64 b1] ty1)).alloc (.cells #[.int .i64 a2, .int .i64 b2] ty2)) w.heap.size a0 b0 c0 d0 ty0 ∧
    Box (((w.alloc (.cells #[.int .i64 a0, .int .i64 b0, .int .i64 c0, .int .i64 d0] ty0)).alloc (.cells #[.int .i64 a1, .int .i64 b1] ty1)).alloc (.cells #[.int .i64 a2, .int .i64 b2] ty2)) (w.heap.size + 1) a1 b1 ty1 ∧
    Box (((w.alloc (.cells #[.int .i64 a0, .int .i64 b0, .int .i64 c0, .int .i64 d0] ty0)).alloc (.cells #[.int .i64 a1, .int .i64 b1] ty1)).alloc (.cells #[.int .i64 a2, .int .i64 b2] ty2)) (w.heap.size + 1 + 1) a2 b2 ty2 ∧
    Below w.heap.size w (((w.alloc (.cells #[.int .i64 a0, .int .i64 b0, .int .i64 c0, .int .i64 d0] ty0)).alloc (.cells #[.int .i64 a1, .int .i64 b1] ty1)).alloc (.cells #[.int .i64 a2, .int .i64 b2] ty2)) := by
  have h0 := Quad.new w a0 b0 c0 d0 ty0
  have h1 := Box.new (w.alloc (.cells #[.int .i64 a0, .int .i64 b0, .int .i64 c0, .int .i64 d0] ty0)) a1 b1 ty1
  rw [show (w.alloc (.cells #[.int .i64 a0, .int .i64 b0, .int .i64 c0, .int .i64 d0] ty0)).heap.size = (w.heap.size + 1) by simp] at h1
  have h2 := Box.new ((w.alloc (.cells #[.int .i64 a0, .int .i64 b0, .int .i64 c0, .int .i64 d0] ty0)).alloc (.cells #[.int .i64 a1, .int .i64 b1] ty1)) a2 b2 ty2
  rw [show ((w.alloc (.cells #[.int .i64 a0, .int .i64 b0, .int .i64 c0, .int .i64 d0] ty0)).alloc (.cells #[.int .i64 a1, .int .i64 b1] ty1)).heap.size = (w.heap.size + 1 + 1) by simp] at h2
  exact ⟨((h0.alloc _).alloc _), (h1.alloc _), h2, ((((Below.refl _ _).alloc (by simp <;> omega) _).alloc (by simp <;> omega) _).alloc (by simp <;> omega) _)⟩
theorem bx_44 (w : World) (a0 b0 c0 d0 : Int) (ty0 : TypeId) (a1 b1 c1 d1 : Int) (ty1 : TypeId) :
    Quad ((w.alloc (.cells #[.int .i64 a0, .int .i64 b0, .int .i64 c0, .int .i64 d0] ty0)).alloc (.cells #[.int .i64 a1, .int .i64 b1, .int .i64 c1, .int .i64 d1] ty1)) w.heap.size a0 b0 c0 d0 ty0 ∧
    Quad ((w.alloc (.cells #[.int .i64 a0, .int .i64 b0, .int .i64 c0, .int .i64 d0] ty0)).alloc (.cells #[.int .i64 a1, .int .i64 b1, .int .i64 c1, .int .i64 d1] ty1)) (w.heap.size + 1) a1 b1 c1 d1 ty1 ∧
    Below w.heap.size w ((w.alloc (.cells #[.int .i64 a0, .int .i64 b0, .int .i64 c0, .int .i64 d0] ty0)).alloc (.cells #[.int .i64 a1, .int .i64 b1, .int .i64 c1, .int .i64 d1] ty1)) := by
  have h0 := Quad.new w a0 b0 c0 d0 ty0
  have h1 := Quad.new (w.alloc (.cells #[.int .i64 a0, .int .i64 b0, .int .i64 c0, .int .i64 d0] ty0)) a1 b1 c1 d1 ty1
  rw [show (w.alloc (.cells #[.int .i64 a0, .int .i64 b0, .int .i64 c0, .int .i64 d0] ty0)).heap.size = (w.heap.size + 1) by simp] at h1
  exact ⟨(h0.alloc _), h1, (((Below.refl _ _).alloc (by simp <;> omega) _).alloc (by simp <;> omega) _)⟩
theorem bx_444 (w : World) (a0 b0 c0 d0 : Int) (ty0 : TypeId) (a1 b1 c1 d1 : Int) (ty1 : TypeId) (a2 b2 c2 d2 : Int) (ty2 : TypeId) :
    Quad (((w.alloc (.cells #[.int .i64 a0, .int .i64 b0, .int .i64 c0, .int .i64 d0] ty0)).alloc (.cells #[.int .i64 a1, .int .i64 b1, .int .i64 c1, .int .i64 d1] ty1)).alloc (.cells #[.int .i64 a2, .int .i64 b2, .int .i64 c2, .int .i64 d2] ty2)) w.heap.size a0 b0 c0 d0 ty0 ∧
    Quad (((w.alloc (.cells #[.int .i64 a0, .int .i64 b0, .int .i64 c0, .int .i64 d0] ty0)).alloc (.cells #[.int .i64 a1, .int .i64 b1, .int .i64 c1, .int .i64 d1] ty1)).alloc (.cells #[.int .i64 a2, .int .i64 b2, .int .i64 c2, .int .i64 d2] ty2)) (w.heap.size + 1) a1 b1 c1 d1 ty1 ∧
    Quad (((w.alloc (.cells #[.int .i64 a0, .int .i64 b0, .int .i64 c0, .int .i64 d0] ty0)).alloc (.cells #[.int .i64 a1, .int .i64 b1, .int .i64 c1, .int .i64 d1] ty1)).alloc (.cells #[.int .i64 a2, .int .i64 b2, .int .i64 c2, .int .i64 d2] ty2)) (w.heap.size + 1 + 1) a2 b2 c2 d2 ty2 ∧
    Below w.heap.size w (((w.alloc (.cells #[.int .i64 a0, .int .i64 b0, .int .i64 c0, .int .i64 d0] ty0)).alloc (.cells #[.int .i64 a1, .int .i64 b1, .int .i64 c1, .int .i64 d1] ty1)).alloc (.cells #[.int .i64 a2, .int .i64 b2, .int .i64 c2, .int .i64 d2] ty2)) := by
  have h0 := Quad.new w a0 b0 c0 d0 ty0
  have h1 := Quad.new (w.alloc (.cells #[.int .i64 a0, .int .i64 b0, .int .i64 c0, .int .i64 d0] ty0)) a1 b1 c1 d1 ty1
  rw [show (w.alloc (.cells #[.int .i64 a0, .int .i64 b0, .int .i64 c0, .int .i64 d0] ty0)).heap.size = (w.heap.size + 1) by simp] at h1
  have h2 := Quad.new ((w.alloc (.cells #[.int .i64 a0, .int .i64 b0, .int .i64 c0, .int .i64 d0] ty0)).alloc (.cells #[.int .i64 a1, .int .i64 b1, .int .i64 c1, .int .i64 d1] ty1)) a2 b2 c2 d2 ty2
  rw [show ((w.alloc (.cells #[.int .i64 a0, .int .i64 b0, .int .i64 c0, .int .i64 d0] ty0)).alloc (.cells #[.int .i64 a1, .int .i64 b1, .int .i64 c1, .int .i64 d1] ty1)).heap.size = (w.heap.size + 1 + 1) by simp] at h2
  exact ⟨((h0.alloc _).alloc _), (h1.alloc _), h2, ((((Below.refl _ _).alloc (by simp <;> omega) _).alloc (by simp <;> omega) _).alloc (by simp <;> omega) _)⟩
end Go.Proofs.Ytploanbnbkhciaa
