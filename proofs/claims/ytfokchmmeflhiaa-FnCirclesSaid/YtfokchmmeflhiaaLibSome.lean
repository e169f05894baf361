/-
  What the program asks of the library: a slice of the call's own that is not empty is brought into order; the greatest number of one. The library's own theorems at this program, in the words of rows of ints.
-/
import Derived.Test.YtfokchmmeflhiaaSortList
import Derived.Test.YtfokchmmeflhiaaSays
import Derived.Test.YtfokchmmeflhiaaShelf
import Derived.Sort.OwnSortedInts
namespace Go.Proofs.Ytfokchmmeflhiaa
open Go.ChangeShapes Go.WideShapes Go.ChangeAt Go.RowKit Go.PlainAid

theorem sort_some {w W : World} (S : List Int) (A : Option Addr) (c : Nat) (R : List Rw) (O : Own w W (irow (.slice A S.length c) S :: R)) (h0 : 0 < S.length) (hl : S.length ≤ 1000000000) :
    Calls Try.prog 42 #[.slice A S.length c] W fun e w' => e = .returned (.tuple #[]) ∧ Own w w' (irow (.slice A S.length c) (sortL S) :: R) := by
  have o : W.ownsRow w.heap.size 3 1 (.slice A S.length c) S.length (ints S) := O.hd
  rcases o.2 with ⟨hv, hn⟩ | ⟨g, cap, cur, hv, hb, hg, h1, h2, h3, h4⟩
  · omega
  · injection hv with e1 _ e3
    subst e1 e3
    rw [Nat.mul_one] at h4
    have hlen : (sortL S).length = S.length := sortL_length S
    refine (Try.slices_Sort_int g 0 c S W (holds_of_blockI hg h4) (Array.getElem?_eq_some_iff.1 hg).1 (by omega)).mono ?_
    rintro e w' ⟨he, n, os, rfl⟩
    refine ⟨he, O.over hlen (ownsRow_sortedI (ts := sortL S) hlen hb hg h1 h2 h3) (grownBy_sortedI _)⟩
theorem max_some {B : Nat} (S : List Int) (A : Option Addr) (c : Nat) (W : World) (o : W.ownsRow B 3 1 (.slice A S.length c) S.length (ints S)) (h0 : 0 < S.length) (hl : S.length ≤ 1000000000) :
    Calls Try.prog 43 #[.slice A S.length c] W fun e w' => e = .returned (.int .i64 (Lib.maxOf S)) ∧ w' = W := by
  obtain ⟨g, cap, hv, -, -⟩ := o.form h0
  injection hv with e1 _ e3
  subst e1 e3
  have h := Try.slices_Max_int g 0 S.length c S W h0 (Nat.le_refl _) (by omega) (fun j hj => by rw [Nat.zero_add]; exact (o.cellAt j (by omega)).trans (ints_get hj))
  rw [List.take_length] at h
  exact h
/-- The greatest number is greater than x just if one is. -/
theorem max_gt (S : List Int) (h0 : 0 < S.length) (x : Int) : x < Lib.maxOf S ↔ ∃ j, j < S.length ∧ x < S.getD j 0 := by
  have key : ∀ k, 0 < k → k ≤ S.length → (x < Lib.maxOf (S.take k) ↔ ∃ j, j < k ∧ x < S.getD j 0) := by
    intro k
    induction k with
    | zero => intro h; omega
    | succ k ih =>
      intro _ hk
      rcases Nat.eq_zero_or_pos k with rfl | g
      · rw [Lib.maxOf_one]
        constructor
        · intro h; exact ⟨0, by omega, h⟩
        · rintro ⟨j, hj, h⟩
          obtain rfl : j = 0 := by omega
          exact h
      · rw [Lib.maxOf_step S k g (by omega)]
        have ih := ih g (by omega)
        constructor
        · intro h
          by_cases c : x < Lib.maxOf (S.take k)
          · obtain ⟨j, hj, h⟩ := ih.1 c
            exact ⟨j, by omega, h⟩
          · exact ⟨k, by omega, by omega⟩
        · rintro ⟨j, hj, h⟩
          by_cases c : j = k
          · subst c; omega
          · have := ih.2 ⟨j, by omega, h⟩
            omega
  have := key S.length h0 (Nat.le_refl _)
  rw [List.take_length] at this
  exact this
end Go.Proofs.Ytfokchmmeflhiaa
