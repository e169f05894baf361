/-
  Blocks of four ints (a follower in a variable); one of them is written. No program's walk.
-/
import Derived.Test.YtgjcbcbnjgghaaaInts
namespace Go.Proofs.Ytgjcbcbnjgghaaa
open Go.ChangeShapes Go.WideShapes Go.ChangeAt Go.RowKit Go.PlainAid

abbrev obj4 (a b c d : Int) (t : TypeId) : Obj := .cells #[.int .i64 a, .int .i64 b, .int .i64 c, .int .i64 d] t
abbrev agg4 (a b c d : Int) : Value := .agg #[.int .i64 a, .int .i64 b, .int .i64 c, .int .i64 d]
/-- Block p holds these four ints. -/
def Quad (w : World) (p : Nat) (a b c d : Int) (t : TypeId) : Prop := w.heap[p]? = some (obj4 a b c d t)
section
variable {w w' : World} {p q B : Nat} {a b c d : Int} {t : TypeId}
theorem Quad.keep (h : Quad w p a b c d t) (k : Below B w w') (hp : p < B) : Quad w' p a b c d t := (k.block p hp).trans h
theorem Quad.new (w : World) (a b c d : Int) (t : TypeId) : Quad (w.alloc (obj4 a b c d t)) w.heap.size a b c d t := heap_alloc_new w _
theorem Quad.new_at (h : p = w.heap.size) : Quad (w.alloc (obj4 a b c d t)) p a b c d t := h ▸ Quad.new w a b c d t
theorem Quad.lt (h : Quad w p a b c d t) : p < w.heap.size := (Array.getElem?_eq_some_iff.1 h).1
theorem Quad.alloc (h : Quad w p a b c d t) (o : Obj) : Quad (w.alloc o) p a b c d t := (Below.heap_alloc w o p h.lt).trans h
theorem Quad.under (h : Quad w p a b c d t) (k : Below w.heap.size w w') : Quad w' p a b c d t := h.keep k h.lt
theorem Quad.drew (h : Quad w p a b c d t) : Quad w.drew p a b c d t := h
theorem Quad.drewN (h : Quad w p a b c d t) (n : Nat) : Quad (w.drewN n) p a b c d t := h
theorem Quad.other (h : Quad w p a b c d t) (o : Nat) (v : Value) (hne : p ≠ q) : Quad (w.setCell ⟨q, o, none⟩ v) p a b c d t := (Below.heap_setCell w _ v p hne).trans h
theorem Quad.grown (h : Quad w q a b c d t) (g : w.grownBy w' (some p)) (hne : q ≠ p) : Quad w' q a b c d t := (g.block q h.lt (fun e => hne (by injection e))).trans h
theorem Quad.row (h : Quad w q a b c d t) {r : Option Nat} (g : w.grownBy w' r) (hne : some q ≠ r) : Quad w' q a b c d t := (g.block q h.lt hne).trans h
theorem Quad.c0 (h : Quad w p a b c d t) : w.cell? ⟨p, 0, none⟩ = some (.int .i64 a) := by
  have h' : w.heap[p]? = _ := h
  simp [World.cell?, h']
theorem Quad.c1 (h : Quad w p a b c d t) : w.cell? ⟨p, 1, none⟩ = some (.int .i64 b) := by
  have h' : w.heap[p]? = _ := h
  simp [World.cell?, h']
theorem Quad.c2 (h : Quad w p a b c d t) : w.cell? ⟨p, 2, none⟩ = some (.int .i64 c) := by
  have h' : w.heap[p]? = _ := h
  simp [World.cell?, h']
theorem Quad.c3 (h : Quad w p a b c d t) : w.cell? ⟨p, 3, none⟩ = some (.int .i64 d) := by
  have h' : w.heap[p]? = _ := h
  simp [World.cell?, h']
theorem Quad.free (h : Quad w p a b c d t) (i : Nat) : w.frozen? ⟨p, i, none⟩ = false := by
  have h' : w.heap[p]? = _ := h
  simp [World.frozen?, h']
theorem Quad.put1 (h : Quad w p a b c d t) (x : Int) : Quad (w.setCell ⟨p, 1, none⟩ (.int .i64 x)) p a x c d t := by
  have h' : w.heap[p]? = _ := h
  unfold Quad
  simp [World.setCell, Array.getElem?_modify, h']
theorem Quad.put2 (h : Quad w p a b c d t) (x : Int) : Quad (w.setCell ⟨p, 2, none⟩ (.int .i64 x)) p a b x d t := by
  have h' : w.heap[p]? = _ := h
  unfold Quad
  simp [World.setCell, Array.getElem?_modify, h']
theorem Quad.put3 (h : Quad w p a b c d t) (x : Int) : Quad (w.setCell ⟨p, 3, none⟩ (.int .i64 x)) p a b c x t := by
  have h' : w.heap[p]? = _ := h
  unfold Quad
  simp [World.setCell, Array.getElem?_modify, h']
theorem Quad.set (h : Quad w p a b c d t) (a' b' c' d' : Int) : Quad ((((w.setCell ⟨p, 0, none⟩ (.int .i64 a')).setCell ⟨p, 1, none⟩ (.int .i64 b')).setCell ⟨p, 2, none⟩ (.int .i64 c')).setCell ⟨p, 3, none⟩ (.int .i64 d')) p a' b' c' d' t := by
  have h' : w.heap[p]? = _ := h
  unfold Quad
  simp [World.setCell, Array.getElem?_modify, h']
end
end Go.Proofs.Ytgjcbcbnjgghaaa
