/-
  What the program asks of the library: whether a list of ints holds a number, whether a slice is in order, and a slice of the call's own brought into order. The library's own theorems at this program, in the words of rows of ints.
-/
import Derived.Test.YtjdkihinfilbkaaPans
import Derived.Test.YtjdkihinfilbkaaSays
import Derived.Test.YtjdkihinfilbkaaShelf
import Derived.Sort.OwnSortedInts
namespace Go.Proofs.Ytjdkihinfilbkaa
open Go.ChangeShapes Go.WideShapes Go.ChangeAt Go.RowKit Go.PlainAid

theorem has_own {B : Nat} (S : List Int) (A : Option Addr) (c : Nat) (x : Int) (W : World) (o : W.ownsRow B 3 1 (.slice A S.length c) S.length (ints S)) (hl : S.length ≤ 1000000000) :
    Calls Try.prog 31 #[.slice A S.length c, .int .i64 x] W fun e w' => e = .returned (.bool (S.contains x)) ∧ w' = W := by
  rcases Nat.eq_zero_or_pos S.length with h0 | h0
  · have e := List.length_eq_zero_iff.1 h0
    subst e
    exact Try.slices_Contains_int_empty A c x W
  · obtain ⟨g, cap, hv, -, -⟩ := o.form h0
    injection hv with e1 _ e3
    subst e1 e3
    have h := Try.slices_Contains_int g 0 S.length c S x W (Nat.le_refl _) (by omega) (fun j hj => by rw [Nat.zero_add]; exact (o.cellAt j (by omega)).trans (ints_get hj))
    rw [List.take_length] at h
    exact h

theorem intRow_flat {w : World} {A : Option Addr} {L : List Int} (r : IntRow w A L) (h0 : 0 < L.length) : ∃ b off, A = some ⟨b, off, none⟩ ∧ ∀ j, j < L.length → w.cell? ⟨b, off + j, none⟩ = some (.int .i64 (L.getD j 0)) := by
  obtain ⟨⟨b, off, spot⟩, rfl, -, hc⟩ := r 0 h0
  have hspot : spot = none := by simpa [Addr.add] using World.cell?_spot hc
  subst hspot
  refine ⟨b, off, rfl, fun j hj => ?_⟩
  obtain ⟨y, hy, -, hcj⟩ := r j hj
  injection hy with hy
  subst hy
  have e : (⟨b, off, none⟩ : Addr).add j = ⟨b, off + j, none⟩ := by unfold Addr.add; split <;> simp_all
  rw [e] at hcj
  exact hcj

theorem sorted_in (L : List Int) (A : Option Addr) (c n : Nat) (w : World) (hn : L.length = n) (h0 : 0 < n) (hl : n ≤ 1000000000) (r : IntRow w A L) :
    ∃ b : Bool, (b = true ↔ InOrder L) ∧ Calls Try.prog 33 #[.slice A n c] w (Quiet b w) := by
  subst hn
  obtain ⟨b, off, rfl, hc⟩ := intRow_flat r h0
  have hd : ∀ i, i < L.length → L.toArray[i]! = L.getD i 0 := fun i hi => by simp [hi]
  refine ⟨_, ?_, (Try.slices_IsSorted_int b off c L.toArray w (fun i hi => ?_) (by simp; omega)).mono fun _ _ h => h⟩
  · rw [Lib.downOK_iff]
    constructor
    · intro h i hi
      have := h i (by simp; omega)
      rw [hd i (by omega), hd (i + 1) hi] at this
      have := of_decide_eq_false this
      omega
    · intro h i hi
      have hi2 : i + 1 < L.length := by simp at hi; omega
      rw [hd i (by omega), hd (i + 1) hi2]
      have := h i hi2
      exact decide_eq_false (by omega)
  · have hi2 : i < L.length := by simpa using hi
    rw [hd i hi2]
    exact hc i hi2

theorem sort_own {w W : World} (S : List Int) (A : Option Addr) (c : Nat) (R : List Rw) (O : Own w W (irow (.slice A S.length c) S :: R)) (hl : S.length ≤ 1000000000) :
    Calls Try.prog 30 #[.slice A S.length c] W fun e w' => e = .returned (.tuple #[]) ∧ Own w w' (irow (.slice A S.length c) (sortL S) :: R) := by
  rcases Nat.eq_zero_or_pos S.length with h0 | h0
  · have e := List.length_eq_zero_iff.1 h0
    subst e
    refine (Try.slices_Sort_int_none A c W).mono ?_
    rintro e w' ⟨he, rfl⟩
    have e : sortL [] = [] := List.length_eq_zero_iff.1 (sortL_length [])
    exact ⟨he, by rw [e]; exact O⟩
  · have o : W.ownsRow w.heap.size 3 1 (.slice A S.length c) S.length (ints S) := O.hd
    rcases o.2 with ⟨hv, hn⟩ | ⟨g, cap, cur, hv, hb, hg, h1, h2, h3, h4⟩
    · omega
    · injection hv with e1 _ e3
      subst e1 e3
      rw [Nat.mul_one] at h4
      have hlen : (sortL S).length = S.length := sortL_length S
      refine (Try.slices_Sort_int g 0 c S W (holds_of_blockI hg h4) (Array.getElem?_eq_some_iff.1 hg).1 (by omega)).mono ?_
      rintro e w' ⟨he, n, os, rfl⟩
      refine ⟨he, O.over hlen (ownsRow_sortedI (ts := sortL S) hlen hb hg h1 h2 h3) (grownBy_sortedI _)⟩
end Go.Proofs.Ytjdkihinfilbkaa
