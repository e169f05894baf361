/-
  What the functions on a ruler answer, as a loop comes to it. No program's walk.
-/
import Derived.Test.YtokengeaiknmhaaRuler
namespace Go.Proofs.Ytokengeaiknmhaa
open Go.ChangeShapes Go.WideShapes Go.ChangeAt Go.RowKit Go.PlainAid

def lenL (L : List Int) : List Int := if rulB L = true then outL (lens L) else []
def mirA (L : List Int) : List Int := if rulB L = true then mirL L else []
theorem lenL_yes {L : List Int} (h : rulB L = true) : lenL L = outTo (lens L) 60 := by unfold lenL; rw [if_pos h]; rfl
theorem lenL_no {L : List Int} (h : rulB L = false) : lenL L = [] := by unfold lenL; rw [h]; rfl
theorem mirA_yes {L : List Int} (h : rulB L = true) : mirA L = mirL L := by unfold mirA; rw [if_pos h]
theorem mirA_no {L : List Int} (h : rulB L = false) : mirA L = [] := by unfold mirA; rw [h]; rfl
theorem golB_no {L : List Int} (h : rulB L = false) : golB L = false := by unfold golB; rw [h]; rfl
theorem measB_no {L : List Int} (h : rulB L = false) : measB L = false := by unfold measB; rw [h]; rfl

theorem outTo_at (D : List Int) {k : Nat} (h : 1 ≤ k) : outTo D k = outTo D (k - 1) ++ List.replicate (D.count (k : Int)) (k : Int) := by
  obtain ⟨m, rfl⟩ : ∃ m, k = m + 1 := ⟨k - 1, by omega⟩
  rfl
theorem more_one (P : List Int) (j : Nat) (z : Int) : (P ++ List.replicate j z) ++ [z] = P ++ List.replicate (j + 1) z := by
  rw [List.append_assoc, List.replicate_succ']
theorem count_small {D : List Int} (h : D.length ≤ 28) (v : Int) : D.count v ≤ 28 := Nat.le_trans List.count_le_length h
theorem lenL_length (L : List Int) : (lenL L).length ≤ 1680 := by
  unfold lenL
  split
  · exact outTo_length (lens L) 28 (lens_length (rulB_P (by assumption)).1.1.2) 60
  · simp
theorem mirA_length (L : List Int) : (mirA L).length ≤ 8 := by
  unfold mirA
  split
  · rw [mirL_length]; exact (rulB_P (by assumption)).1.1.2
  · simp

/-- The marks from k on, read from the other end. -/
def revd (L : List Int) (k : Nat) : List Int := ((L.drop k).map fun x => lastL L - x).reverse
theorem revd_end (L : List Int) : revd L L.length = [] := by unfold revd; rw [List.drop_length]; rfl
theorem revd_zero (L : List Int) : revd L 0 = mirL L := rfl
theorem revd_step {L : List Int} {p : Nat} (h : p < L.length) : revd L (p + 1) ++ [lastL L - L.getD p 0] = revd L p := by
  unfold revd
  rw [List.drop_eq_getElem_cons h, List.map_cons, List.reverse_cons, List.getD_eq_getElem?_getD, List.getElem?_eq_getElem h]; rfl
theorem revd_length (L : List Int) (k : Nat) : (revd L k).length = L.length - k := by unfold revd; rw [List.length_reverse, List.length_map, List.length_drop]

/-- Zeros, and behind them the first k marks read from the other end. -/
def half (L : List Int) (k : Nat) : List Int := List.replicate (L.length - k) 0 ++ ((L.take k).map fun x => lastL L - x).reverse
theorem half_length {L : List Int} {k : Nat} (h : k ≤ L.length) : (half L k).length = L.length := by
  unfold half
  rw [List.length_append, List.length_replicate, List.length_reverse, List.length_map, List.length_take]; omega
theorem half_zero (L : List Int) : half L 0 = List.replicate L.length 0 := by simp [half]
theorem half_all (L : List Int) : half L L.length = mirL L := by simp [half, mirL]
theorem half_set {L : List Int} {k : Nat} (h : k < L.length) : (half L k).set (L.length - 1 - k) (lastL L - L.getD k 0) = half L (k + 1) := by
  unfold half
  obtain ⟨m, hm⟩ : ∃ m, L.length - k = m + 1 := ⟨L.length - k - 1, by omega⟩
  have h1 : L.length - (k + 1) = m := by omega
  have h2 : L.length - 1 - k = m := by omega
  rw [hm, h1, h2, List.replicate_succ', List.set_append_left _ _ (by simp), List.set_append_right _ _ (by simp), List.length_replicate, Nat.sub_self]
  rw [List.take_succ_eq_append_getElem h, List.map_append, List.reverse_append, List.append_assoc, List.getD_eq_getElem?_getD, List.getElem?_eq_getElem h]
  rfl
end Go.Proofs.Ytokengeaiknmhaa
