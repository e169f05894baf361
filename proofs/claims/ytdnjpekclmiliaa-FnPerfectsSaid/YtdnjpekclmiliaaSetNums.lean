/-
  What a table of ways needs of a valid set. Ints and lists only, no program's walk.
-/
import Derived.Test.YtdnjpekclmiliaaSetOk
import Derived.Test.YtdnjpekclmiliaaTab
namespace Go.Proofs.Ytdnjpekclmiliaa
open Go.ChangeShapes Go.WideShapes Go.ChangeAt Go.RowKit Go.PlainAid

theorem set_pos {L : List Int} (h : SetP L) : ∀ j, j < L.length → 1 ≤ L.getD j 0 ∧ L.getD j 0 ≤ 1000 := fun j hj => (h.2 j hj).1
theorem getD_mem_all {P : Int → Prop} {L : List Int} (h : ∀ j, j < L.length → P (L.getD j 0)) : ∀ z ∈ L, P z := fun z hz => by
  obtain ⟨j, hj, rfl⟩ := List.mem_iff_getElem.1 hz
  have := h j hj
  rw [List.getD_eq_getElem?_getD, List.getElem?_eq_getElem hj] at this
  exact this
theorem set_sum {L : List Int} (h : SetP L) (k : Nat) : 0 ≤ sumL (L.take k) ∧ sumL (L.take k) ≤ 8000 := by
  have b : ∀ z ∈ L, 0 ≤ z ∧ z ≤ 1000 := getD_mem_all (P := fun z => 0 ≤ z ∧ z ≤ 1000) fun j hj => by have := set_pos h j hj; omega
  have := sumL_take_le (by decide) b k 8 h.1.2
  omega
theorem sumL_mono {L : List Int} (h : ∀ j, j < L.length → 0 ≤ L.getD j 0) : ∀ d k, k + d ≤ L.length → sumL (L.take k) ≤ sumL (L.take (k + d))
  | 0, k, _ => Int.le_refl _
  | d + 1, k, hk => by
    have ih := sumL_mono h d k (by omega)
    have e := sumL_take (L := L) (k := k + d) (by omega)
    have := h (k + d) (by omega)
    have e2 : k + (d + 1) = k + d + 1 := rfl
    rw [e2, e]
    omega
theorem wys_start (two : Bool) (L : List Int) (T : Nat) : (List.replicate (2 * T + 1) (0 : Int)).set T 1 = tab T (wys two L 0) := by
  rw [← tab_none, tab_set (n := 0) (by omega)]
  refine tab_congr fun n _ _ => ?_
  unfold put
  show (if n = 0 then (1 : Int) else 0) = if n = 0 then 1 else 0
  rfl
/-- What a round of the table needs of the ways so far, with the weight x. -/
structure Round (f : Int → Int) (x : Int) (T : Nat) (s : Int) : Prop where
  x1 : 1 ≤ x
  s0 : 0 ≤ s
  st : s + x ≤ T
  nn : ∀ n, 0 ≤ f n ∧ f n ≤ 2187
  out : ∀ n, n < -s ∨ s < n → f n = 0
theorem round_of {two : Bool} {L : List Int} {T k : Nat} (h : SetP L) (hT : sumL L = T) (hk : k < L.length) : Round (wys two L k) (L.getD k 0) T (sumL (L.take k)) where
  x1 := (set_pos h k hk).1
  s0 := (set_sum h k).1
  st := by
    have e1 := sumL_take hk
    have e2 := sumL_all L
    have := sumL_mono (L := L) (fun j hj => by have := set_pos h j hj; omega) (L.length - (k + 1)) (k + 1) (by omega)
    rw [show k + 1 + (L.length - (k + 1)) = L.length by omega] at this
    omega
  nn n := by
    refine ⟨wys_nonneg _ _ _ _, Int.le_trans (wys_le _ _ _ _) ?_⟩
    have : k = 0 ∨ k = 1 ∨ k = 2 ∨ k = 3 ∨ k = 4 ∨ k = 5 ∨ k = 6 ∨ k = 7 := by have := h.1.2; omega
    rcases this with rfl | rfl | rfl | rfl | rfl | rfl | rfl | rfl <;> decide
  out n hn := wys_out two L (fun j hj => by have := set_pos h j hj; omega) k n (by omega) hn
theorem round_end {two : Bool} {L : List Int} {T k : Nat} {s : Int} (h : Round (wys two L k) (L.getD k 0) T s) {M : Nat} (hM : M = 2 * T + 1) : tab T (stp two (wys two L k) (L.getD k 0) ((M : Int) - T)) = tab T (wys two L (k + 1)) :=
  tab_congr fun n _ _ => by
    rw [stp_end fun m hm => h.out m (by have := h.st; have := h.x1; omega)]
    rw [wys_succ]
theorem round_start {two : Bool} {f : Int → Int} {T : Nat} {x s : Int} (h : Round f x T s) : tab T f = tab T (stp two f x (((0 : Nat) : Int) - T)) :=
  tab_congr fun n _ _ => (stp_start (fun m hm => h.out m (by have := h.st; have := h.x1; omega)) n).symm

end Go.Proofs.Ytdnjpekclmiliaa
