/-
  Blocks of four ints (a line in a variable); boxes one behind the other; what a function that answers a line says. No program's walk.
-/
import Derived.Test.YtploanbnbkhciaaToThree
namespace Go.Proofs.Ytploanbnbkhciaa
open Go.ChangeShapes Go.WideShapes Go.ChangeAt Go.RowKit Go.PlainAid

abbrev obj2 (a b : Int) (t : TypeId) : Obj := .cells #[.int .i64 a, .int .i64 b] t
abbrev obj4 (a b c d : Int) (t : TypeId) : Obj := .cells #[.int .i64 a, .int .i64 b, .int .i64 c, .int .i64 d] t
abbrev agg4 (a b c d : Int) : Value := .agg #[.int .i64 a, .int .i64 b, .int .i64 c, .int .i64 d]
/-- Block p holds these four ints. -/
def Quad (w : World) (p : Nat) (a b c d : Int) (t : TypeId) : Prop := w.heap[p]? = some (obj4 a b c d t)
section
variable {w w' : World} {p q B : Nat} {a b c d : Int} {t : TypeId}
theorem Quad.keep (h : Quad w p a b c d t) (k : Below B w w') (hp : p < B) : Quad w' p a b c d t := (k.block p hp).trans h
theorem Quad.new (w : World) (a b c d : Int) (t : TypeId) : Quad (w.alloc (obj4 a b c d t)) w.heap.size a b c d t := heap_alloc_new w _
theorem Quad.new_at (h : p = w.heap.size) : Quad (w.alloc (obj4 a b c d t)) p a b c d t := h ▸ Quad.new w a b c d t
theorem Quad.lt (h : Quad w p a b c d t) : p < w.heap.size := (Array.getElem?_eq_some_iff.1 h).1
theorem Quad.alloc (h : Quad w p a b c d t) (o : Obj) : Quad (w.alloc o) p a b c d t := (Below.heap_alloc w o p h.lt).trans h
theorem Quad.under (h : Quad w p a b c d t) (k : Below w.heap.size w w') : Quad w' p a b c d t := h.keep k h.lt
theorem Quad.drew (h : Quad w p a b c d t) : Quad w.drew p a b c d t := h
theorem Quad.other (h : Quad w p a b c d t) (o : Nat) (v : Value) (hne : p ≠ q) : Quad (w.setCell ⟨q, o, none⟩ v) p a b c d t := (Below.heap_setCell w _ v p hne).trans h
theorem Quad.grown (h : Quad w q a b c d t) (g : w.grownBy w' (some p)) (hne : q ≠ p) : Quad w' q a b c d t := (g.block q h.lt (fun e => hne (by injection e))).trans h
theorem Quad.c0 (h : Quad w p a b c d t) : w.cell? ⟨p, 0, none⟩ = some (.int .i64 a) := by
  have h' : w.heap[p]? = _ := h
  simp [World.cell?, h']
theorem Quad.c1 (h : Quad w p a b c d t) : w.cell? ⟨p, 1, none⟩ = some (.int .i64 b) := by
  have h' : w.heap[p]? = _ := h
  simp [World.cell?, h']
theorem Quad.c2 (h : Quad w p a b c d t) : w.cell? ⟨p, 2, none⟩ = some (.int .i64 c) := by
  have h' : w.heap[p]? = _ := h
  simp [World.cell?, h']
theorem Quad.c3 (h : Quad w p a b c d t) : w.cell? ⟨p, 3, none⟩ = some (.int .i64 d) := by
  have h' : w.heap[p]? = _ := h
  simp [World.cell?, h']
theorem Quad.cells (h : Quad w p a b c d t) : w.cell? ⟨p, 0, none⟩ = some (.int .i64 a) ∧ w.cell? ⟨p, 1, none⟩ = some (.int .i64 b) ∧ w.cell? ⟨p, 2, none⟩ = some (.int .i64 c) ∧ w.cell? ⟨p, 3, none⟩ = some (.int .i64 d) := ⟨h.c0, h.c1, h.c2, h.c3⟩
theorem Quad.free (h : Quad w p a b c d t) : w.frozen? ⟨p, 0, none⟩ = false ∧ w.frozen? ⟨p, 1, none⟩ = false ∧ w.frozen? ⟨p, 2, none⟩ = false ∧ w.frozen? ⟨p, 3, none⟩ = false := by
  have h' : w.heap[p]? = _ := h
  refine ⟨?_, ?_, ?_, ?_⟩ <;> simp [World.frozen?, h']
theorem Quad.set (h : Quad w p a b c d t) (a' b' c' d' : Int) : Quad ((((w.setCell ⟨p, 0, none⟩ (.int .i64 a')).setCell ⟨p, 1, none⟩ (.int .i64 b')).setCell ⟨p, 2, none⟩ (.int .i64 c')).setCell ⟨p, 3, none⟩ (.int .i64 d')) p a' b' c' d' t := by
  have h' : w.heap[p]? = _ := h
  unfold Quad
  simp [World.setCell, Array.getElem?_modify, h']
end
theorem Box.cells {w : World} {p : Nat} {a b : Int} {t : TypeId} (h : Box w p a b t) : w.cell? ⟨p, 0, none⟩ = some (.int .i64 a) ∧ w.cell? ⟨p, 1, none⟩ = some (.int .i64 b) := ⟨h.c0, h.c1⟩
theorem Box.free {w : World} {p : Nat} {a b : Int} {t : TypeId} (h : Box w p a b t) : w.frozen? ⟨p, 0, none⟩ = false ∧ w.frozen? ⟨p, 1, none⟩ = false := ⟨h.free0, h.free1⟩

/-- A line and a bool are answered, only new memory is written. -/
def SaysL (a b c d : Int) (O : Bool) (w : World) (e : Ending) (w' : World) : Prop := e = .returned (.tuple #[agg4 a b c d, .bool O]) ∧ Below w.heap.size w w'

/-- What is left of a call whose answer, a line, goes into a box of its own. -/
def BoxedL (n : Nat) (W0 : World) (a b c d : Int) (O : Bool) (s5 s6 : Value) (wx : World) : Prop :=
  ∃ p, s5 = .pointer (some ⟨p, 0, none⟩) ∧ s6 = .bool O ∧ Quad wx p a b c d 27 ∧ Below n W0 wx
theorem boxedL_new {W0 W w1 : World} {n : Nat} {a b c d : Int} {O : Bool} (h : Below n W0 W) (k : Below W.heap.size W w1) (hn : n ≤ W.heap.size) :
    BoxedL n W0 a b c d O (.pointer (some ⟨w1.heap.size, 0, none⟩)) (.bool O) (w1.alloc (obj4 a b c d 27)) :=
  ⟨_, rfl, rfl, Quad.new w1 a b c d _, (h.trans (k.mono hn)).alloc (Nat.le_trans hn k.size) _⟩
theorem boxedL_set {W0 W w1 : World} {n p : Nat} {a b c d : Int} {O : Bool} (h : Below n W0 W) (k : Below W.heap.size W w1) (hn : n ≤ W.heap.size) (hp : n ≤ p) (hb : Quad W p 0 0 0 0 27) :
    BoxedL n W0 a b c d O (.pointer (some ⟨p, 0, none⟩)) (.bool O) ((((w1.setCell ⟨p, 0, none⟩ (.int .i64 a)).setCell ⟨p, 1, none⟩ (.int .i64 b)).setCell ⟨p, 2, none⟩ (.int .i64 c)).setCell ⟨p, 3, none⟩ (.int .i64 d)) :=
  ⟨_, rfl, rfl, (hb.keep k hb.lt).set a b c d, ((((h.trans (k.mono hn)).setCell hp _).setCell hp _).setCell hp _).setCell hp _⟩
end Go.Proofs.Ytploanbnbkhciaa
