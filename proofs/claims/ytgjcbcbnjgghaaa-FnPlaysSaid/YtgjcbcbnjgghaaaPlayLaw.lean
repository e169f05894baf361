/-
  Play: what is shown never gets further away than half, and two instruments never drift apart. No program's walk.
-/
import Derived.Test.YtgjcbcbnjgghaaaPlay
namespace Go.Proofs.Ytgjcbcbnjgghaaa
open Go.ChangeShapes Go.WideShapes Go.ChangeAt Go.RowKit Go.PlainAid

theorem drag_two {h a b x : Int} (h0 : 0 ≤ h) (e : a ≤ b) : dragV h a x ≤ dragV h b x ∧ dragV h b x - dragV h a x ≤ b - a := by
  unfold dragV
  repeat' split
  all_goals omega
theorem drag_fix {h t x : Int} (h1 : x - h ≤ t) (h2 : t ≤ x + h) : dragV h t x = t := by
  unfold dragV
  repeat' split
  all_goals omega
theorem sh_two {h s s' : Int} {L : List Int} (g : playP h s L) (g' : playP h s' L) (e : s ≤ s') : ∀ k, k ≤ L.length → sh h s L k ≤ sh h s' L k := by
  intro k
  induction k with
  | zero => exact fun _ => e
  | succ k ih =>
    intro hk
    have i := ih (by omega)
    obtain ⟨-, -, h1⟩ := sh_in g (k + 1) hk
    obtain ⟨-, -, h2⟩ := sh_in g' (k + 1) hk
    rw [(h1 k rfl).2, (h2 k rfl).2]
    exact (drag_two g.1.1.1 i).1
/-- What the law asks of one input. -/
theorem play_round {h s s' : Int} {L : List Int} (g : playP h s L) (g' : playP h s' L) (e : s ≤ s') {j : Nat} (hj : j < L.length) :
    (L.getD j 0 - h ≤ sh h s L (j + 1) ∧ sh h s L (j + 1) ≤ L.getD j 0 + h) ∧ stepV h (sh h s L (j + 1)) (L.getD j 0) = sh h s L (j + 1) ∧
    sh h s L (j + 1) ≤ sh h s' L (j + 1) ∧ sh h s' L (j + 1) - sh h s L (j + 1) ≤ sh h s' L j - sh h s L j := by
  obtain ⟨a0, a1, h1⟩ := sh_in g (j + 1) (by omega)
  obtain ⟨-, -, h2⟩ := sh_in g' (j + 1) (by omega)
  obtain ⟨p1, e1⟩ := h1 j rfl
  obtain ⟨p2, e2⟩ := h2 j rfl
  have d := drag_le (s := sh h s L j) (x := L.getD j 0) g.1.1.1
  rw [← e1] at d
  have t := drag_two (h := h) (x := L.getD j 0) g.1.1.1 (sh_two g g' e j (by omega))
  rw [← e1, ← e2] at t
  refine ⟨d, ?_, t.1, t.2⟩
  have hP : stepP h (sh h s L (j + 1)) (L.getD j 0) := ⟨p1.1, by omega, p1.2.2⟩
  rw [stepV_yes hP]
  exact drag_fix d.1 d.2
end Go.Proofs.Ytgjcbcbnjgghaaa
