/-
  What a search for the fewest pours answers, invalid arguments included. No program's walk.
-/
import Derived.Test.YtmoncfplcmdpcaaJugDist
import Derived.Test.YtmoncfplcmdpcaaJugRow
namespace Go.Proofs.Ytmoncfplcmdpcaa
open Go.ChangeShapes Go.WideShapes Go.ChangeAt Go.RowKit Go.PlainAid

/-- The answer: the first list; nothing and false if there is none, or the arguments are not valid. -/
def Ans (a b g : Int) (l : List Int) (ok : Bool) : Prop :=
  ((okJ a b 0 0 = true ∧ 0 ≤ g ∧ g ≤ 20) ∧ BestOf (stp a b) (gl g) (0, 0) l ok) ∨ (¬ (okJ a b 0 0 = true ∧ 0 ≤ g ∧ g ≤ 20) ∧ l = [] ∧ ok = false)
theorem ans_yes {a b g : Int} {l : List Int} {ok : Bool} (h : Ans a b g l ok) (h1 : okJ a b 0 0 = true ∧ 0 ≤ g ∧ g ≤ 20) : BestOf (stp a b) (gl g) (0, 0) l ok := by
  rcases h with ⟨-, h⟩ | ⟨h, -⟩
  · exact h
  · exact absurd h1 h
theorem ans_no {a b g : Int} {l : List Int} {ok : Bool} (h : Ans a b g l ok) (h1 : ¬ (okJ a b 0 0 = true ∧ 0 ≤ g ∧ g ≤ 20)) : l = [] ∧ ok = false := by
  rcases h with ⟨h, -⟩ | ⟨-, h⟩
  · exact absurd h h1
  · exact h
theorem ans_is {a b g : Int} {l l' : List Int} {ok ok' : Bool} (h : Ans a b g l ok) (h1 : okJ a b 0 0 = true ∧ 0 ≤ g ∧ g ≤ 20) (h2 : BestOf (stp a b) (gl g) (0, 0) l' ok') : l' = l ∧ ok' = ok :=
  best_same _ _ (stp_act a b) h2 (ans_yes h h1)
end Go.Proofs.Ytmoncfplcmdpcaa
