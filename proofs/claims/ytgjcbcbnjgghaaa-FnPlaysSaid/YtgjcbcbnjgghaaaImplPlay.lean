/-
  The contracts of the program's check and step of play, and of the follower's two methods, one of which defers the other. The follower's block alone is written.
-/
import Derived.Test.YtgjcbcbnjgghaaaPlay
import Derived.Test.YtgjcbcbnjgghaaaWithin
import Derived.Test.YtgjcbcbnjgghaaaFourInts
import Derived.Lib.Hide
import Derived.BigRegion
import Derived.BigQuiet
import Derived.Deep.RegionHeld3
namespace Go.Proofs.Ytgjcbcbnjgghaaa
open Go.ChangeShapes Go.WideShapes Go.ChangeAt Go.RowKit Go.PlainAid

theorem iplayOk_h {h s : Int} (g : ¬ (0 ≤ h ∧ h ≤ 100)) : playOk h s = false := by unfold playOk; rw [decide_eq_false g]; rfl
theorem iplayOk_s {h s : Int} (g : 0 ≤ h ∧ h ≤ 100) : playOk h s = decide (-10000 ≤ s ∧ s ≤ 10000) := by unfold playOk; rw [decide_eq_true g]; rfl

theorem implOk_to (x : Bool) (h s : Int) (w : World) (e : playOk h s = x) : Calls Try.prog 17 #[.int .i64 h, .int .i64 s] w fun e w' => e = .returned (.bool x) ∧ w = w' := by
  subst e
  by_cases g : 0 ≤ h ∧ h ≤ 100
  · have hP := within_to true h 0 100 w (decide_eq_true g)
    have hS := within_to (decide (-10000 ≤ s ∧ s ≤ 10000)) s (-10000) 10000 w rfl
    rw [iplayOk_s g]
    generalize decide (-10000 ≤ s ∧ s ≤ 10000) = z at hS ⊢
    clear g
    go_enter Try.func17, Try.ntmps17
    go_wp2_with fail
    refine hP.mono ?_
    rintro en w2 ⟨rfl, rfl⟩
    go_wp2_with fail
    refine hS.mono ?_
    rintro en w2 ⟨rfl, rfl⟩
    go_wp2_with fail
    go_ret
    exact ⟨rfl, rfl⟩
  · have hP := within_to false h 0 100 w (decide_eq_false g)
    rw [iplayOk_h g]
    clear g
    go_enter Try.func17, Try.ntmps17
    go_wp2_with fail
    refine hP.mono ?_
    rintro en w2 ⟨rfl, rfl⟩
    go_wp2_with fail
    go_ret
    exact ⟨rfl, rfl⟩

/-- The program's clamp at an input's two edges. -/
theorem implDrag (h s x : Int) (w : World) (h0 : 0 ≤ h) : Calls Try.prog 32 #[.int .i64 s, .int .i64 (x - h), .int .i64 (x + h)] w (TellsI (dragV h s x) w) := by
  go_enter Try.func32, Try.ntmps32
  go_wp2
  all_goals
    go_ret
    exact ⟨ret_int (by unfold dragV; repeat' split
                       all_goals omega), rfl⟩

theorem implStep_any (h s x : Int) (w : World) : Calls Try.prog 13 #[.int .i64 h, .int .i64 s, .int .i64 x] w (TellsI (stepV h s x) w) := by
  by_cases g1 : 0 ≤ h ∧ h ≤ 100
  · have hP := within_to true h 0 100 w (decide_eq_true g1)
    by_cases g2 : -20000 ≤ s ∧ s ≤ 20000
    · have hS := within_to true s (-20000) 20000 w (decide_eq_true g2)
      by_cases g3 : -20000 ≤ x ∧ x ≤ 20000
      · have hX := within_to true x (-20000) 20000 w (decide_eq_true g3)
        have hC := implDrag h s x w g1.1
        rw [stepV_yes ⟨g1, g2, g3⟩]
        go_enter Try.func13, Try.ntmps13
        go_wp2_with fail
        refine hP.mono ?_
        rintro en w2 ⟨rfl, rfl⟩
        go_wp2_with fail
        refine hS.mono ?_
        rintro en w2 ⟨rfl, rfl⟩
        go_wp2_with fail
        refine hX.mono ?_
        rintro en w2 ⟨rfl, rfl⟩
        go_wp2_with fail
        refine hC.mono ?_
        rintro en w2 ⟨rfl, rfl⟩
        go_wp2_with fail
        go_ret
        exact ⟨rfl, rfl⟩
      · have hX := within_to false x (-20000) 20000 w (decide_eq_false g3)
        rw [stepV_no (fun g => g3 g.2.2)]
        go_enter Try.func13, Try.ntmps13
        go_wp2_with fail
        refine hP.mono ?_
        rintro en w2 ⟨rfl, rfl⟩
        go_wp2_with fail
        refine hS.mono ?_
        rintro en w2 ⟨rfl, rfl⟩
        go_wp2_with fail
        refine hX.mono ?_
        rintro en w2 ⟨rfl, rfl⟩
        go_wp2_with fail
        go_ret
        exact ⟨rfl, rfl⟩
    · have hS := within_to false s (-20000) 20000 w (decide_eq_false g2)
      rw [stepV_no (fun g => g2 g.2.1)]
      go_enter Try.func13, Try.ntmps13
      go_wp2_with fail
      refine hP.mono ?_
      rintro en w2 ⟨rfl, rfl⟩
      go_wp2_with fail
      refine hS.mono ?_
      rintro en w2 ⟨rfl, rfl⟩
      go_wp2_with fail
      go_ret
      exact ⟨rfl, rfl⟩
  · have hP := within_to false h 0 100 w (decide_eq_false g1)
    rw [stepV_no (fun g => g1 g.1)]
    go_enter Try.func13, Try.ntmps13
    go_wp2_with fail
    refine hP.mono ?_
    rintro en w2 ⟨rfl, rfl⟩
    go_wp2_with fail
    go_ret
    exact ⟨rfl, rfl⟩
end Go.Proofs.Ytgjcbcbnjgghaaa
