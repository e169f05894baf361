/-
  What a call answers: posts of contracts.
-/
import Derived.Test.YtgjcbcbnjgghaaaOwn
namespace Go.Proofs.Ytgjcbcbnjgghaaa
open Go.ChangeShapes Go.WideShapes Go.ChangeAt Go.RowKit Go.PlainAid

/-- An int and a bool are answered, only new memory is written. -/
def SaysIB (x : Int) (b : Bool) (w : World) (e : Ending) (w' : World) : Prop := e = .returned (.tuple #[.int .i64 x, .bool b]) ∧ Below w.heap.size w w'
/-- Two ints are answered, only new memory is written. -/
def SaysII (x y : Int) (w : World) (e : Ending) (w' : World) : Prop := e = .returned (.tuple #[.int .i64 x, .int .i64 y]) ∧ Below w.heap.size w w'

/-- Two slices and a bool are answered, the slices in blocks of their own. -/
def GivesSSB (X Y : List Int) (z : Bool) (w : World) (e : Ending) (w' : World) : Prop :=
  ∃ (A : Option Addr) (c : Nat) (A' : Option Addr) (c' : Nat), e = .returned (.tuple #[.slice A X.length c, .slice A' Y.length c', .bool z]) ∧ Own w w' [irow (.slice A X.length c) X, irow (.slice A' Y.length c') Y]
theorem Own.gives {w w' : World} {u v : Value} {X Y : List Int} (h : Own w w' [irow u X, irow v Y]) (z : Bool) : GivesSSB X Y z w (.returned (.tuple #[u, v, .bool z])) w' := by
  obtain ⟨A, c, hu⟩ := own_slice h.hd
  obtain ⟨A', c', hv⟩ := own_slice h.tl.hd
  replace hu : u = .slice A X.length c := hu
  replace hv : v = .slice A' Y.length c' := hv
  subst hu hv
  exact ⟨A, c, A', c', rfl, h⟩
end Go.Proofs.Ytgjcbcbnjgghaaa
