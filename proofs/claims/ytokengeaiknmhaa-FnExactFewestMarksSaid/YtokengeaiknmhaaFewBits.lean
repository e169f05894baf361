/-
  The model's sets of marks by their bits, as a loop comes to them. No program's walk.
-/
import Derived.Test.YtokengeaiknmhaaSearch
import Derived.Laws.BitsLemmas
namespace Go.Proofs.Ytokengeaiknmhaa
open Go.ChangeShapes Go.WideShapes Go.ChangeAt Go.RowKit Go.PlainAid

theorem bitsTo_length (s : Nat) : ∀ k, (bitsTo s k).length ≤ k + 1 ∧ 0 < (bitsTo s k).length
  | 0 => by simp [bitsTo]
  | k + 1 => by
    have ih := bitsTo_length s k
    unfold bitsTo
    split
    · rw [List.length_append, List.length_singleton]; omega
    · omega
theorem bitsTo_yes {s p : Nat} (h : s / 2 ^ p % 2 = 1) : bitsTo s (p + 1) = bitsTo s p ++ [((p + 1 : Nat) : Int)] := by
  conv => lhs; unfold bitsTo
  rw [if_pos (by rw [Nat.shiftRight_eq_div_pow]; exact h)]
theorem bitsTo_no {s p : Nat} (h : ¬ s / 2 ^ p % 2 = 1) : bitsTo s (p + 1) = bitsTo s p := by
  conv => lhs; unfold bitsTo
  rw [if_neg (by rw [Nat.shiftRight_eq_div_pow]; exact h)]
theorem bit_of (s p : Nat) (hs : s < 9223372036854775808) : bits .and .i64 ((s : Int) / 2 ^ p) 1 = ((s / 2 ^ p % 2 : Nat) : Int) := by
  have e : (s : Int) / 2 ^ p = ((s / 2 ^ p : Nat) : Int) := by
    rw [Int.natCast_ediv]; simp
  have hle : s / 2 ^ p ≤ s := Nat.div_le_self _ _
  rw [e]
  generalize s / 2 ^ p = q at hle
  have h0 : (0 : Int) ≤ q := Int.natCast_nonneg q
  have h1 : (q : Int) < 2 ^ 63 := by
    have : (q : Int) < 9223372036854775808 := by omega
    exact this
  have := bits_mask .i64 63 (by decide) (fun n h0 h1 => IntWalk.i64_in n ⟨by omega, by have : n < 9223372036854775808 := h1; omega⟩) 1 (by decide) (q : Int) h0 h1
  simpa using this
end Go.Proofs.Ytokengeaiknmhaa
