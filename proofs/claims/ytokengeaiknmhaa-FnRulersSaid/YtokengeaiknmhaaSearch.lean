/-
  Searches for rulers: the first one in lexicographic order, by the program's way and by the model's; what they find for small numbers of marks and small lengths, reckoned by the kernel. No program's walk.
-/
import Derived.Test.YtokengeaiknmhaaRulerLen
namespace Go.Proofs.Ytokengeaiknmhaa
open Go.ChangeShapes Go.WideShapes Go.ChangeAt Go.RowKit Go.PlainAid

/-- The first of f k, f (k + 1), .., n of them, that is there. -/
def firstSome {α : Type} (f : Nat → Option α) : Nat → Nat → Option α
  | _, 0 => none
  | k, n + 1 => match f k with
    | some x => some x
    | none => firstSome f (k + 1) n
theorem firstSome_none {α : Type} {f : Nat → Option α} {k n : Nat} (h : f k = none) : firstSome f k (n + 1) = firstSome f (k + 1) n := by
  show (match f k with | some x => some x | none => firstSome f (k + 1) n) = _
  rw [h]
theorem firstSome_some {α : Type} {f : Nat → Option α} {k n : Nat} {x : α} (h : f k = some x) : firstSome f k (n + 1) = some x := by
  show (match f k with | some x => some x | none => firstSome f (k + 1) n) = _
  rw [h]

/-- The program's search: the first ruler that begins with these marks, has n marks, ends at m and fits. -/
def fr (fits : List Int → Bool) (n : Nat) (m : Int) : Nat → List Int → Option (List Int)
  | 0, H => if H.length = n then (if lastL H = m ∧ fits H = true then some H else none) else none
  | f + 1, H => if H.length = n then (if lastL H = m ∧ fits H = true then some H else none) else firstSome (fun j => fr fits n m f (H ++ [lastL H + 1 + (j : Int)])) 0 (m - lastL H).toNat
theorem fr_end {fits : List Int → Bool} {n f : Nat} {m : Int} {H : List Int} (h : H.length = n) : fr fits n m f H = if lastL H = m ∧ fits H = true then some H else none := by
  cases f <;> (unfold fr; rw [if_pos h])
theorem fr_more {fits : List Int → Bool} {n f : Nat} {m : Int} {H : List Int} (h : ¬ H.length = n) : fr fits n m (f + 1) H = firstSome (fun j => fr fits n m f (H ++ [lastL H + 1 + (j : Int)])) 0 (m - lastL H).toNat := by
  conv => lhs; unfold fr
  rw [if_neg h]
theorem fr_none {fits : List Int → Bool} {n : Nat} {m : Int} {H : List Int} (h : ¬ H.length = n) : fr fits n m 0 H = none := by
  unfold fr
  rw [if_neg h]

/-- The model's search: the first ruler that begins with these marks, has n marks, ends at most at m and has no length twice. -/
def gl (n : Nat) (m : Int) : Nat → List Int → Option (List Int)
  | 0, H => if H.length = n then some H else none
  | f + 1, H => if H.length = n then some H else firstSome (fun j => if golB (H ++ [lastL H + 1 + (j : Int)]) = true then gl n m f (H ++ [lastL H + 1 + (j : Int)]) else none) 0 (m - lastL H).toNat
theorem gl_end {n f : Nat} {m : Int} {H : List Int} (h : H.length = n) : gl n m f H = some H := by
  cases f <;> (unfold gl; rw [if_pos h])
theorem gl_more {n f : Nat} {m : Int} {H : List Int} (h : ¬ H.length = n) : gl n m (f + 1) H = firstSome (fun j => if golB (H ++ [lastL H + 1 + (j : Int)]) = true then gl n m f (H ++ [lastL H + 1 + (j : Int)]) else none) 0 (m - lastL H).toNat := by
  conv => lhs; unfold gl
  rw [if_neg h]
theorem gl_none {n : Nat} {m : Int} {H : List Int} (h : ¬ H.length = n) : gl n m 0 H = none := by
  unfold gl
  rw [if_neg h]
theorem lastL_snoc (H : List Int) (x : Int) : lastL (H ++ [x]) = x := by
  unfold lastL
  rw [List.length_append, List.length_singleton, Nat.add_sub_cancel, List.getD_eq_getElem?_getD, List.getElem?_append_right (Nat.le_refl _), Nat.sub_self]; rfl

/-- The shortest rulers with n marks and no length twice. -/
def shorts : List (List Int) := [[0], [0, 1], [0, 1, 3], [0, 1, 4, 6], [0, 1, 4, 9, 11]]
def topOf (n : Nat) : Nat := [0, 0, 1, 3, 6, 11].getD n 0
def shortL (n : Nat) : List Int := shorts.getD (n - 1) []
def fewOf (m : Nat) : Nat := [0, 2, 3, 3, 4, 4, 4, 5, 5, 5, 6, 6, 6, 6].getD m 0

theorem fr_golomb : ∀ n, n < 6 → 1 ≤ n → (∀ m, m < topOf n → fr golB n m m [0] = none) ∧ fr golB n (topOf n) (topOf n) [0] = some (shortL n) := by decide +kernel
theorem gl_golomb : ∀ n, n < 6 → 1 ≤ n → (∀ m, m < topOf n → gl n m m [0] = none) ∧ gl n (topOf n) (topOf n) [0] = some (shortL n) := by decide +kernel
theorem fr_few : ∀ m, m < 14 → 1 ≤ m → (∀ n, n < fewOf m → 2 ≤ n → fr measB n m m [0] = none) ∧ (fr measB (fewOf m) m m [0]).isSome = true := by decide +kernel

/-- The model's set of marks from the bits of s, up to k. -/
def bitsTo (s : Nat) : Nat → List Int
  | 0 => [0]
  | k + 1 => if s >>> k % 2 = 1 then bitsTo s k ++ [((k + 1 : Nat) : Int)] else bitsTo s k
def setOf (m s : Nat) : List Int := bitsTo s (m - 1) ++ [(m : Int)]
/-- The model's best so far. -/
def bestTo (m : Nat) : Nat → Nat
  | 0 => m + 1
  | s + 1 => if (setOf m s).length < bestTo m s ∧ measB (setOf m s) = true then (setOf m s).length else bestTo m s
end Go.Proofs.Ytokengeaiknmhaa
