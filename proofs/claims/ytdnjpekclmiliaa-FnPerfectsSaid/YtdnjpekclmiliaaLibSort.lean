/-
  What the program asks of the library: a slice of the call's own is brought into order. The library's own theorem at this program, in the words of rows of ints.
-/
import Derived.Test.YtdnjpekclmiliaaPans
import Derived.Test.YtdnjpekclmiliaaSays
import Derived.Test.YtdnjpekclmiliaaShelf
import Derived.Sort.OwnSortedInts
namespace Go.Proofs.Ytdnjpekclmiliaa
open Go.ChangeShapes Go.WideShapes Go.ChangeAt Go.RowKit Go.PlainAid

theorem sort_own {w W : World} (S : List Int) (A : Option Addr) (c : Nat) (R : List Rw) (O : Own w W (irow (.slice A S.length c) S :: R)) (hl : S.length ≤ 1000000000) :
    Calls Try.prog 44 #[.slice A S.length c] W fun e w' => e = .returned (.tuple #[]) ∧ Own w w' (irow (.slice A S.length c) (sortL S) :: R) := by
  rcases Nat.eq_zero_or_pos S.length with h0 | h0
  · have e := List.length_eq_zero_iff.1 h0
    subst e
    refine (Try.slices_Sort_int_none A c W).mono ?_
    rintro e w' ⟨he, rfl⟩
    have e : sortL [] = [] := List.length_eq_zero_iff.1 (sortL_length [])
    exact ⟨he, by rw [e]; exact O⟩
  · have o : W.ownsRow w.heap.size 3 1 (.slice A S.length c) S.length (ints S) := O.hd
    rcases o.2 with ⟨hv, hn⟩ | ⟨g, cap, cur, hv, hb, hg, h1, h2, h3, h4⟩
    · omega
    · injection hv with e1 _ e3
      subst e1 e3
      rw [Nat.mul_one] at h4
      have hlen : (sortL S).length = S.length := sortL_length S
      refine (Try.slices_Sort_int g 0 c S W (holds_of_blockI hg h4) (Array.getElem?_eq_some_iff.1 hg).1 (by omega)).mono ?_
      rintro e w' ⟨he, n, os, rfl⟩
      refine ⟨he, O.over hlen (ownsRow_sortedI (ts := sortL S) hlen hb hg h1 h2 h3) (grownBy_sortedI _)⟩
end Go.Proofs.Ytdnjpekclmiliaa
