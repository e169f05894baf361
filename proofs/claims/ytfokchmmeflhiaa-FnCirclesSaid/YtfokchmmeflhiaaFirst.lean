/-
  The first of several that is there; the last number of a list. No program's walk.
-/
import Derived.Test.YtfokchmmeflhiaaBase
namespace Go.Proofs.Ytfokchmmeflhiaa

/-- The first of f k, f (k + 1), .., n of them, that is there. -/
def firstSome {α : Type} (f : Nat → Option α) : Nat → Nat → Option α
  | _, 0 => none
  | k, n + 1 => match f k with
    | some x => some x
    | none => firstSome f (k + 1) n
theorem firstSome_none {α : Type} {f : Nat → Option α} {k n : Nat} (h : f k = none) : firstSome f k (n + 1) = firstSome f (k + 1) n := by
  show (match f k with | some x => some x | none => firstSome f (k + 1) n) = _
  rw [h]
theorem firstSome_some {α : Type} {f : Nat → Option α} {k n : Nat} {x : α} (h : f k = some x) : firstSome f k (n + 1) = some x := by
  show (match f k with | some x => some x | none => firstSome f (k + 1) n) = _
  rw [h]

/-- The last mark. -/
def lastL (L : List Int) : Int := L.getD (L.length - 1) 0
theorem lastL_snoc (H : List Int) (x : Int) : lastL (H ++ [x]) = x := by
  unfold lastL
  rw [List.length_append, List.length_singleton, Nat.add_sub_cancel, List.getD_eq_getElem?_getD, List.getElem?_append_right (Nat.le_refl _), Nat.sub_self]; rfl
end Go.Proofs.Ytfokchmmeflhiaa
