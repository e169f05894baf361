/-
  The model's sets of marks by their bits: the fewest that measure each length, reckoned by the kernel. No program's walk.
-/
import Derived.Test.YtokengeaiknmhaaShort
namespace Go.Proofs.Ytokengeaiknmhaa
open Go.ChangeShapes Go.WideShapes Go.ChangeAt Go.RowKit Go.PlainAid

def witOf (m : Nat) : Nat := [0, 0, 1, 1, 3, 3, 9, 7, 19, 35, 39, 71, 135, 547].getD m 0
def okSet (m s : Nat) : Bool := decide (fewOf m ≤ (setOf m s).length) || !measB (setOf m s)
theorem few_low64 : ∀ m, m < 14 → 1 ≤ m → ∀ a, a < 64 → ∀ b, b < 64 → 64 * a + b < 2 ^ (m - 1) → okSet m (64 * a + b) = true := by decide +kernel
theorem few_wit : ∀ m, m < 14 → 1 ≤ m → witOf m < 2 ^ (m - 1) ∧ (setOf m (witOf m)).length = fewOf m ∧ measB (setOf m (witOf m)) = true := by decide +kernel
theorem pow_le : ∀ m, m < 14 → 2 ^ (m - 1) ≤ 4096 := by decide +kernel
theorem few_low {m s : Nat} (hm : m < 14) (h1 : 1 ≤ m) (hs : s < 2 ^ (m - 1)) (h : measB (setOf m s) = true) : fewOf m ≤ (setOf m s).length := by
  have hp := pow_le m hm
  have e : 64 * (s / 64) + s % 64 = s := Nat.div_add_mod s 64
  have := few_low64 m hm h1 (s / 64) (by omega) (s % 64) (by omega) (by rw [e]; exact hs)
  rw [e] at this
  unfold okSet at this
  rw [h] at this
  simpa using this
end Go.Proofs.Ytokengeaiknmhaa
