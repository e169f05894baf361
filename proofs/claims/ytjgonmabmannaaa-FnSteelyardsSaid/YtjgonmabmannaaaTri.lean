/-
  Blocks of three ints (a struct in a variable), and what a load of all three asks for. No program's walk.
-/
import Derived.Test.YtjgonmabmannaaaFracOk
namespace Go.Proofs.Ytjgonmabmannaaa
open Go.ChangeShapes Go.WideShapes Go.ChangeAt Go.RowKit Go.PlainAid

/-- Three ints as a value. -/
abbrev agg3 (a b c : Int) : Value := .agg #[.int .i64 a, .int .i64 b, .int .i64 c]
/-- A block of three ints that was just made. -/
abbrev obj3 (a b c : Int) (t : TypeId) : Obj := .cells #[.int .i64 a, .int .i64 b, .int .i64 c] t
/-- Block p holds these. -/
def Tri (w : World) (p : Nat) (a b c : Int) (t : TypeId) : Prop := w.heap[p]? = some (obj3 a b c t)
theorem Tri.keep {w w' : World} {p B : Nat} {a b c : Int} {t : TypeId} (h : Tri w p a b c t) (k : Below B w w') (hp : p < B) : Tri w' p a b c t := (k.block p hp).trans h
theorem Tri.new (w : World) (a b c : Int) (t : TypeId) : Tri (w.alloc (obj3 a b c t)) w.heap.size a b c t := heap_alloc_new w _
theorem Tri.lt {w : World} {p : Nat} {a b c : Int} {t : TypeId} (h : Tri w p a b c t) : p < w.heap.size := (Array.getElem?_eq_some_iff.1 h).1
theorem Tri.alloc {w : World} {p : Nat} {a b c : Int} {t : TypeId} (h : Tri w p a b c t) (o : Obj) : Tri (w.alloc o) p a b c t := (Below.heap_alloc w o p h.lt).trans h
theorem Tri.cells {w : World} {p : Nat} {a b c : Int} {t : TypeId} (h : Tri w p a b c t) : w.cell? ⟨p, 0, none⟩ = some (.int .i64 a) ∧ w.cell? ⟨p, 1, none⟩ = some (.int .i64 b) ∧ w.cell? ⟨p, 2, none⟩ = some (.int .i64 c) := by
  have h' : w.heap[p]? = _ := h
  refine ⟨?_, ?_, ?_⟩ <;> simp [World.cell?, h']
theorem Tri.free {w : World} {p : Nat} {a b c : Int} {t : TypeId} (h : Tri w p a b c t) : w.frozen? ⟨p, 0, none⟩ = false ∧ w.frozen? ⟨p, 1, none⟩ = false ∧ w.frozen? ⟨p, 2, none⟩ = false := by
  have h' : w.heap[p]? = _ := h
  refine ⟨?_, ?_, ?_⟩ <;> simp [World.frozen?, h']
theorem Tri.under {w w' : World} {p : Nat} {a b c : Int} {t : TypeId} (h : Tri w p a b c t) (k : Below w.heap.size w w') : Tri w' p a b c t := h.keep k h.lt
theorem Box.under {w w' : World} {t b : Int} {ty : TypeId} {p : Nat} (h : Box w p t b ty) (k : Below w.heap.size w w') : Box w' p t b ty := h.keep k h.lt

/-- The boxes of a call: three ints came in, a fraction goes out. -/
theorem tri_box (w : World) (a b c : Int) (t : TypeId) :
    Tri ((w.alloc (obj3 a b c t)).alloc (.cells #[.int .i64 0, .int .i64 0] 29)) w.heap.size a b c t ∧
    Box ((w.alloc (obj3 a b c t)).alloc (.cells #[.int .i64 0, .int .i64 0] 29)) (w.heap.size + 1) 0 0 29 ∧
    Below w.heap.size w ((w.alloc (obj3 a b c t)).alloc (.cells #[.int .i64 0, .int .i64 0] 29)) := by
  have h := Box.new (w.alloc (obj3 a b c t)) 0 0 29
  have e : (w.alloc (obj3 a b c t)).heap.size = w.heap.size + 1 := by simp
  rw [e] at h
  exact ⟨(Tri.new w a b c t).alloc _, h, ((Below.refl _ _).alloc (Nat.le_refl _) _).alloc (by simp) _⟩
/-- The same beside a fraction that came in. -/
theorem tri_two (w : World) (a b c x y : Int) (t ty : TypeId) :
    Tri (((w.alloc (obj3 a b c t)).alloc (.cells #[.int .i64 x, .int .i64 y] ty)).alloc (.cells #[.int .i64 0, .int .i64 0] 29)) w.heap.size a b c t ∧
    Box (((w.alloc (obj3 a b c t)).alloc (.cells #[.int .i64 x, .int .i64 y] ty)).alloc (.cells #[.int .i64 0, .int .i64 0] 29)) (w.heap.size + 1) x y ty ∧
    Box (((w.alloc (obj3 a b c t)).alloc (.cells #[.int .i64 x, .int .i64 y] ty)).alloc (.cells #[.int .i64 0, .int .i64 0] 29)) (w.heap.size + 1 + 1) 0 0 29 ∧
    Below w.heap.size w (((w.alloc (obj3 a b c t)).alloc (.cells #[.int .i64 x, .int .i64 y] ty)).alloc (.cells #[.int .i64 0, .int .i64 0] 29)) := by
  have h := Box.new (w.alloc (obj3 a b c t)) x y ty
  have e : (w.alloc (obj3 a b c t)).heap.size = w.heap.size + 1 := by simp
  rw [e] at h
  have h2 := Box.new ((w.alloc (obj3 a b c t)).alloc (.cells #[.int .i64 x, .int .i64 y] ty)) 0 0 29
  have e2 : ((w.alloc (obj3 a b c t)).alloc (.cells #[.int .i64 x, .int .i64 y] ty)).heap.size = w.heap.size + 1 + 1 := by simp
  rw [e2] at h2
  exact ⟨((Tri.new w a b c t).alloc _).alloc _, h.alloc _, h2, (((Below.refl _ _).alloc (Nat.le_refl _) _).alloc (by simp) _).alloc (by simp <;> omega) _⟩
end Go.Proofs.Ytjgonmabmannaaa
