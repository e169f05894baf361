/-
  In which ways a set weighs, how far it reaches. Ints and lists only, no program's walk.
-/
import Derived.Test.YtdnjpekclmiliaaSetNums
namespace Go.Proofs.Ytdnjpekclmiliaa
open Go.ChangeShapes Go.WideShapes Go.ChangeAt Go.RowKit Go.PlainAid

def oneB (L : List Int) (n : Int) : Bool := setB L && decide (0 < wysL false L n)
def twoB (L : List Int) (n : Int) : Bool := setB L && decide (0 < wysL true L n)
def waysI (L : List Int) (n : Int) : Int := if setB L then wysL true L n else 0
def reachOf (two : Bool) (L : List Int) : Int := reachF (wysL two L) (sumL L).toNat 0
def reachI (L : List Int) (p : Int) : Int := if setB L && decide (1 ≤ p ∧ p ≤ 2) then reachOf (decide (p = 2)) L else 0
def leastI (L : List Int) : Int := if setB L then reachI L 1 + 1 else 0

theorem set_total {L : List Int} (h : SetP L) : ∃ T : Nat, sumL L = T ∧ T ≤ 8000 := by
  have := set_sum h L.length
  rw [sumL_all] at this
  exact ⟨(sumL L).toNat, by omega, by omega⟩
theorem wysL_le {L : List Int} (h : SetP L) (two : Bool) (n : Int) : 0 ≤ wysL two L n ∧ wysL two L n ≤ 6561 := by
  refine ⟨wys_nonneg _ _ _ _, Int.le_trans (wys_le _ _ _ _) ?_⟩
  have : L.length = 1 ∨ L.length = 2 ∨ L.length = 3 ∨ L.length = 4 ∨ L.length = 5 ∨ L.length = 6 ∨ L.length = 7 ∨ L.length = 8 := by have := h.1; omega
  rcases this with e | e | e | e | e | e | e | e <;> (rw [e]; decide)
theorem wysL_far {L : List Int} (h : SetP L) (two : Bool) (n : Int) (hn : n < -(sumL L) ∨ sumL L < n) : wysL two L n = 0 :=
  wysL_out two L (fun j hj => by have := set_pos h j hj; omega) n hn

end Go.Proofs.Ytdnjpekclmiliaa
