/-
  Blocks of four ints (glasses in a variable), and what a load or a store of all four asks for. No program's walk.
-/
import Derived.Test.YtmbhldpbgcfnmaaGlass
import Derived.Test.YtmbhldpbgcfnmaaRange
import Derived.Laws.ResultCell
namespace Go.Proofs.Ytmbhldpbgcfnmaa
open Go.ChangeShapes Go.WideShapes Go.ChangeAt Go.RowKit Go.PlainAid

/-- Glasses as a value. -/
abbrev jagg (a b x y : Int) : Value := .agg #[.int .i64 a, .int .i64 b, .int .i64 x, .int .i64 y]
/-- A block of glasses that was just made. -/
abbrev jobj (a b x y : Int) (t : TypeId) : Obj := .cells #[.int .i64 a, .int .i64 b, .int .i64 x, .int .i64 y] t
/-- Block p holds these glasses. -/
def JBox (w : World) (p : Nat) (a b x y : Int) : Prop := w.heap[p]? = some (jobj a b x y 25)
theorem JBox.keep {w w' : World} {p B : Nat} {a b x y : Int} (h : JBox w p a b x y) (k : Below B w w') (hp : p < B) : JBox w' p a b x y := (k.block p hp).trans h
theorem JBox.new (w : World) (a b x y : Int) : JBox (w.alloc (jobj a b x y 25)) w.heap.size a b x y := heap_alloc_new w _
theorem JBox.lt {w : World} {p : Nat} {a b x y : Int} (h : JBox w p a b x y) : p < w.heap.size := (Array.getElem?_eq_some_iff.1 h).1
theorem JBox.alloc {w : World} {p : Nat} {a b x y : Int} (h : JBox w p a b x y) (o : Obj) : JBox (w.alloc o) p a b x y := (Below.heap_alloc w o p h.lt).trans h
theorem JBox.cells {w : World} {p : Nat} {a b x y : Int} (h : JBox w p a b x y) : w.cell? ⟨p, 0, none⟩ = some (.int .i64 a) ∧ w.cell? ⟨p, 1, none⟩ = some (.int .i64 b) ∧ w.cell? ⟨p, 2, none⟩ = some (.int .i64 x) ∧ w.cell? ⟨p, 3, none⟩ = some (.int .i64 y) := by
  have h' : w.heap[p]? = _ := h
  refine ⟨?_, ?_, ?_, ?_⟩ <;> simp [World.cell?, h']
theorem JBox.free {w : World} {p : Nat} {a b x y : Int} (h : JBox w p a b x y) : w.frozen? ⟨p, 0, none⟩ = false ∧ w.frozen? ⟨p, 1, none⟩ = false ∧ w.frozen? ⟨p, 2, none⟩ = false ∧ w.frozen? ⟨p, 3, none⟩ = false := by
  have h' : w.heap[p]? = _ := h
  refine ⟨?_, ?_, ?_, ?_⟩ <;> simp [World.frozen?, h']
theorem heap_set {w : World} {p : Nat} {xs : Array Value} {t : TypeId} {fz : Nat × Nat} (h : w.heap[p]? = some (.cells xs t fz)) (i : Nat) (v : Value) : (w.setCell ⟨p, i, none⟩ v).heap[p]? = some (.cells (xs.setIfInBounds i v) t fz) := by
  simp [World.setCell, Array.getElem?_modify, h]
theorem JBox.keepd {w w' : World} {p : Nat} {a b x y : Int} (h : JBox w p a b x y) (k : Below w.drew.heap.size w.drew w') : JBox w' p a b x y := (k.block p h.lt).trans h
/-- All four are written. -/
abbrev jset (w : World) (p : Nat) (a b x y : Int) : World := (((w.setCell ⟨p, 0, none⟩ (.int .i64 a)).setCell ⟨p, 1, none⟩ (.int .i64 b)).setCell ⟨p, 2, none⟩ (.int .i64 x)).setCell ⟨p, 3, none⟩ (.int .i64 y)
theorem JBox.set0 {w : World} {p : Nat} {a b x y : Int} (h : JBox w p a b x y) (v : Int) : JBox (w.setCell ⟨p, 0, none⟩ (.int .i64 v)) p v b x y := heap_set h 0 _
theorem JBox.set1 {w : World} {p : Nat} {a b x y : Int} (h : JBox w p a b x y) (v : Int) : JBox (w.setCell ⟨p, 1, none⟩ (.int .i64 v)) p a v x y := heap_set h 1 _
theorem JBox.set2 {w : World} {p : Nat} {a b x y : Int} (h : JBox w p a b x y) (v : Int) : JBox (w.setCell ⟨p, 2, none⟩ (.int .i64 v)) p a b v y := heap_set h 2 _
theorem JBox.set3 {w : World} {p : Nat} {a b x y : Int} (h : JBox w p a b x y) (v : Int) : JBox (w.setCell ⟨p, 3, none⟩ (.int .i64 v)) p a b x v := heap_set h 3 _
theorem JBox.set {w : World} {p : Nat} {a b x y : Int} (h : JBox w p a b x y) (a' b' x' y' : Int) : JBox (jset w p a' b' x' y') p a' b' x' y' := (((h.set0 a').set1 b').set2 x').set3 y'
theorem jset_other {w : World} {p q : Nat} {a b x y : Int} (h : q ≠ p) (a' b' x' y' : Int) (k : JBox w q a b x y) : JBox (jset w p a' b' x' y') q a b x y := by
  unfold jset JBox
  rw [Below.heap_setCell _ _ _ _ h, Below.heap_setCell _ _ _ _ h, Below.heap_setCell _ _ _ _ h, Below.heap_setCell _ _ _ _ h]
  exact k
theorem below_jset {B : Nat} {w wr : World} (h : Below B w wr) {p : Nat} (hp : B ≤ p) (a b x y : Int) : Below B w (jset wr p a b x y) := (((h.setCell hp _).setCell hp _).setCell hp _).setCell hp _
theorem below_drew {B : Nat} {a w : World} (h : Below B a w) : Below B a w.drew := ⟨h.os, h.tape, h.output, h.size, h.block⟩
theorem jset_size (w : World) (p : Nat) (a b x y : Int) : (jset w p a b x y).heap.size = w.heap.size := by simp [World.setCell]
theorem results_cell_one {fn : Func} {p : Tmp} {ty : TypeId} (h : fn.results = #[.cell p ty]) (tmps : Array Value) (P : Program) (w : World) :
    (results fn tmps).run P w = ((asAddr (tmps.getD p undef)).run P w).andThen fun a w₁ => (loadVar ty a).run P w₁ := by
  simp only [results, h]
  simp [Sem.run_bind, Result.andThen]

/-- Glasses are answered, only new memory is written. -/
def GivesJ (a b x y : Int) (w : World) (e : Ending) (w' : World) : Prop := e = .returned (jagg a b x y) ∧ Below w.heap.size w w'
/-- .. and a bool. -/
def GivesJB (a b x y : Int) (z : Bool) (w : World) (e : Ending) (w' : World) : Prop := e = .returned (.tuple #[jagg a b x y, .bool z]) ∧ Below w.heap.size w w'

/-- .. and an int. -/
def GivesJI (a b x y : Int) (n : Int) (w : World) (e : Ending) (w' : World) : Prop := e = .returned (.tuple #[jagg a b x y, .int .i64 n]) ∧ Below w.heap.size w w'
/-- A block of four. -/
theorem cells4 {w : World} {p : Nat} {u0 u1 u2 u3 : Value} {t : TypeId} (h : w.heap[p]? = some (.cells #[u0, u1, u2, u3] t)) : w.cell? ⟨p, 0, none⟩ = some u0 ∧ w.cell? ⟨p, 1, none⟩ = some u1 ∧ w.cell? ⟨p, 2, none⟩ = some u2 ∧ w.cell? ⟨p, 3, none⟩ = some u3 := by
  refine ⟨?_, ?_, ?_, ?_⟩ <;> simp [World.cell?, h]
theorem block_keep {w w' : World} {p : Nat} {o : Obj} (h : w.heap[p]? = some o) (b : Below w.heap.size w w') : w'.heap[p]? = some o := (b.block p (Array.getElem?_eq_some_iff.1 h).1).trans h
theorem block_alloc {w : World} {p : Nat} {o : Obj} (h : w.heap[p]? = some o) (ob : Obj) : (w.alloc ob).heap[p]? = some o := block_keep h ((Below.refl _ _).alloc (Nat.le_refl _) ob)

end Go.Proofs.Ytmbhldpbgcfnmaa
