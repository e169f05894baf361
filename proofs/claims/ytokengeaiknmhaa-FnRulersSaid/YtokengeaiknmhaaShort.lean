/-
  What the two functions on shortest and fewest answer; a new row of one int. No program's walk.
-/
import Derived.Test.YtokengeaiknmhaaSearch
import Derived.Test.YtokengeaiknmhaaOwnMore
namespace Go.Proofs.Ytokengeaiknmhaa
open Go.ChangeShapes Go.WideShapes Go.ChangeAt Go.RowKit Go.PlainAid

def shortA (n : Int) : List Int := if 1 ≤ n ∧ n ≤ 5 then shortL n.toNat else []
def fewA (m : Int) : Int := if 1 ≤ m ∧ m ≤ 13 then (fewOf m.toNat : Nat) else 0
theorem shortA_in {n : Nat} (h : 1 ≤ n ∧ n ≤ 5) : shortA (n : Int) = shortL n := by unfold shortA; rw [if_pos (by omega), Int.toNat_natCast]
theorem shortA_out {n : Int} (h : ¬ (1 ≤ n ∧ n ≤ 5)) : shortA n = [] := if_neg h
theorem fewA_in {m : Nat} (h : 1 ≤ m ∧ m ≤ 13) : fewA (m : Int) = (fewOf m : Nat) := by unfold fewA; rw [if_pos (by omega), Int.toNat_natCast]
theorem fewA_out {m : Int} (h : ¬ (1 ≤ m ∧ m ≤ 13)) : fewA m = 0 := if_neg h
theorem topOf_le : ∀ n, n < 6 → topOf n ≤ 11 ∧ (n - 1 ≤ topOf n) := by decide +kernel
theorem fewOf_le : ∀ m, m < 14 → 1 ≤ m → 2 ≤ fewOf m ∧ fewOf m ≤ 6 := by decide +kernel
theorem shortL_len : ∀ n, n < 6 → 1 ≤ n → (shortL n).length = n := by decide +kernel
theorem shortA_length (n : Int) : (shortA n).length ≤ 5 := by
  by_cases h : 1 ≤ n ∧ n ≤ 5
  · obtain ⟨k, rfl⟩ := Int.eq_ofNat_of_zero_le (a := n) (by omega)
    rw [shortA_in (by omega), shortL_len k (by omega) (by omega)]; omega
  · rw [shortA_out h]; simp
theorem last_nought : lastL [0] = 0 := by decide +kernel

theorem own_one {w wr : World} {R : List Rw} (h : Own w wr R) (x : Int) : Own w (wr.alloc (.cells #[.int .i64 x] 3)) (irow (.slice (some ⟨wr.heap.size, 0, none⟩) 1 1) [x] :: R) :=
  h.add ((Below.refl _ _).alloc (Nat.le_refl _) _) (World.ownsRow_lit wr #[.int .i64 x] 1 (Nat.le_refl _) (by decide) rfl)
theorem nil_copied {w wr : World} (h : Below w.heap.size w wr) : Copied [] w (.returned (.slice none 0 0)) wr :=
  ⟨none, 0, rfl, World.ownsRow_nil _ _ _ _, h⟩
end Go.Proofs.Ytokengeaiknmhaa
