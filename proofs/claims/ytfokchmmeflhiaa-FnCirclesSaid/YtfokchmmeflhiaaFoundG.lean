/-
  What a model's search answers, a row of the call's own or none. No program's walk.
-/
import Derived.Test.YtfokchmmeflhiaaOwn
namespace Go.Proofs.Ytfokchmmeflhiaa
open Go.ChangeShapes Go.WideShapes Go.ChangeAt Go.RowKit Go.PlainAid

/-- What the model's search answers: none, and the row that it was handed is as it was; or a row of the call's own. -/
def FoundG (o : Option (List Int)) (w : World) (r : Rw) (R : List Rw) (e : Ending) (w' : World) : Prop :=
  match o with
  | none => ∃ A c, e = .returned (.tuple #[.slice A 0 c, .bool false]) ∧ Own w w' (r :: R)
  | some L => ∃ A c, e = .returned (.tuple #[.slice A L.length c, .bool true]) ∧ Own w w' (irow (.slice A L.length c) L :: R)
theorem foundG_none {w w' : World} {r : Rw} {R : List Rw} {A : Option Addr} {c : Nat} (h : Own w w' (r :: R)) : FoundG none w r R (.returned (.tuple #[.slice A 0 c, .bool false])) w' := ⟨A, c, rfl, h⟩
theorem foundG_some {w w' : World} {r : Rw} {R : List Rw} {L : List Int} {A : Option Addr} {c : Nat} (h : Own w w' (irow (.slice A L.length c) L :: R)) : FoundG (some L) w r R (.returned (.tuple #[.slice A L.length c, .bool true])) w' := ⟨A, c, rfl, h⟩
end Go.Proofs.Ytfokchmmeflhiaa
