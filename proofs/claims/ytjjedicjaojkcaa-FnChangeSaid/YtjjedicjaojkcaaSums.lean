/-
  Sums of lists of ints. No program's walk.
-/
import Derived.Test.YtjjedicjaojkcaaInts
namespace Go.Proofs.Ytjjedicjaojkcaa
open Go.ChangeShapes Go.WideShapes Go.ChangeAt Go.RowKit Go.PlainAid

def sumL : List Int → Int
  | [] => 0
  | x :: r => x + sumL r
theorem sumL_append : ∀ (P Q : List Int), sumL (P ++ Q) = sumL P + sumL Q
  | [], Q => by simp [sumL]
  | x :: r, Q => by
    have ih := sumL_append r Q
    show x + sumL (r ++ Q) = x + sumL r + sumL Q
    omega
theorem sumL_take {L : List Int} {k : Nat} (h : k < L.length) : sumL (L.take (k + 1)) = sumL (L.take k) + L.getD k 0 := by
  rw [List.take_succ_eq_append_getElem h, sumL_append, List.getD_eq_getElem?_getD, List.getElem?_eq_getElem h]
  simp [sumL]
theorem sumL_all (L : List Int) : sumL (L.take L.length) = sumL L := by rw [List.take_length]
theorem sumL_le {b : Int} : ∀ {L : List Int}, (∀ z ∈ L, 0 ≤ z ∧ z ≤ b) → 0 ≤ sumL L ∧ sumL L ≤ b * L.length
  | [], _ => by simp [sumL]
  | x :: r, h => by
    have ih := sumL_le (L := r) fun z hz => h z (List.mem_cons_of_mem _ hz)
    have hx := h x List.mem_cons_self
    have e : b * ((x :: r).length : Int) = b * (r.length : Int) + b := by rw [List.length_cons, Int.natCast_add, Int.mul_add]; simp
    show 0 ≤ x + sumL r ∧ x + sumL r ≤ _
    rw [e]
    omega
theorem sumL_take_le {b : Int} {L : List Int} (hb : 0 ≤ b) (h : ∀ z ∈ L, 0 ≤ z ∧ z ≤ b) (k : Nat) (m : Nat) (hk : L.length ≤ m) : 0 ≤ sumL (L.take k) ∧ sumL (L.take k) ≤ b * m := by
  have h1 := sumL_le (L := L.take k) fun z hz => h z (List.mem_of_mem_take hz)
  refine ⟨h1.1, Int.le_trans h1.2 (Int.mul_le_mul_of_nonneg_left ?_ hb)⟩
  have : (List.take k L).length ≤ L.length := by rw [List.length_take]; omega
  omega
end Go.Proofs.Ytjjedicjaojkcaa
