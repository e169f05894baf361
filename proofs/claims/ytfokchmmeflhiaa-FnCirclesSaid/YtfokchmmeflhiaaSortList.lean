/-
  Ints in ascending order. Ints and lists only, no program's walk.
-/
import Derived.Test.YtfokchmmeflhiaaInts
namespace Go.Proofs.Ytfokchmmeflhiaa

def sortL (S : List Int) : List Int := S.mergeSort fun x y => decide (x ≤ y)
theorem sortL_length (S : List Int) : (sortL S).length = S.length := List.length_mergeSort S
theorem sortL_perm (S : List Int) : (sortL S).Perm S := List.mergeSort_perm S _
theorem sortL_pair (S : List Int) : (sortL S).Pairwise fun x y => x ≤ y :=
  (List.pairwise_mergeSort (le := fun x y : Int => decide (x ≤ y)) (fun a b c h1 h2 => by simp only [decide_eq_true_eq] at *; omega) (fun a b => by simp only [Bool.or_eq_true, decide_eq_true_eq]; omega) S).imp fun h => by simpa using h
theorem sortL_sorted (S : List Int) : ∀ i j, i ≤ j → j < (sortL S).length → (sortL S).getD i 0 ≤ (sortL S).getD j 0 := fun i j hij hj => by
  rcases Nat.lt_or_ge i j with h | h
  · have := List.pairwise_iff_getElem.1 (sortL_pair S) i j (by omega) hj h
    rw [List.getD_eq_getElem?_getD, List.getD_eq_getElem?_getD, List.getElem?_eq_getElem hj, List.getElem?_eq_getElem (by omega)]
    simpa using this
  · obtain rfl : i = j := by omega
    exact Int.le_refl _
theorem sortL_uniq {S T : List Int} (h : T.Pairwise fun x y => x ≤ y) (p : T.Perm S) : T = sortL S :=
  List.Perm.eq_of_pairwise (fun a b _ _ h1 h2 => by omega) h (sortL_pair S) (p.trans (sortL_perm S).symm)
end Go.Proofs.Ytfokchmmeflhiaa
