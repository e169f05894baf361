/-
  A function with another value at one place. No program's walk.
-/
import Derived.Test.YtmbhldpbgcfnmaaBase
namespace Go.Proofs.Ytmbhldpbgcfnmaa

/-- f with another value at j. -/
def upd (f : Nat → Bool) (j : Nat) (z : Bool) (y : Nat) : Bool := if y = j then z else f y
end Go.Proofs.Ytmbhldpbgcfnmaa
