/-
  The contracts of the two greatest divisors, the program's and the model's: for ints whose sign can be changed, each answers the greatest common divisor. Nothing is written.
-/
import Derived.Test.YtploanbnbkhciaaChecked
import Derived.Test.YtploanbnbkhciaaFrac
import Derived.Test.YtploanbnbkhciaaBase
import Derived.Test.YtploanbnbkhciaaGcdSpec
import Derived.WalkKit
import Derived.ChangeSame
import Derived.JoinedAt
import Derived.BigQuiet
import Derived.Below
import Derived.Deep.LoopGhost
import Derived.PlainAid
namespace Go.Proofs.Ytploanbnbkhciaa
open Go.ChangeShapes Go.WideShapes Go.ChangeAt Go.RowKit Go.PlainAid

theorem implGcd_any (a b : Int) (w : World) (ha0 : -9223372036854775807 ≤ a) (ha1 : a ≤ 9223372036854775807) (hb0 : -9223372036854775807 ≤ b) (hb1 : b ≤ 9223372036854775807) :
    Calls Try.prog 48 #[.int .i64 a, .int .i64 b] w fun e w' => e = .returned (.int .i64 (Int.gcd a b)) ∧ Below w.heap.size w w' := by
  go_enter Try.func48, Try.ntmps48
  go_wp2
  go_loopw [0, 1] (fun u v wr => ∃ x y : Int, u = .int .i64 x ∧ v = .int .i64 y ∧ Int.gcd x y = Int.gcd a b ∧ -9223372036854775807 ≤ x ∧ x ≤ 9223372036854775807 ∧ -9223372036854775807 ≤ y ∧ y ≤ 9223372036854775807 ∧ Below w.heap.size w wr) (fun _ v _ => (intOf v).natAbs)
  case atStart => exact ⟨a, b, rfl, rfl, rfl, ha0, ha1, hb0, hb1, Below.refl _ _⟩
  case round =>
    obtain ⟨x, y, rfl, rfl, hg, hx0, hx1, hy0, hy1, bel⟩ := hrel
    by_cases hy : y = 0
    · subst hy
      have hz := gcd_zero x
      rw [hg] at hz
      clear hg
      go_wp2
      all_goals
        go_ret
        exact ⟨ret_int (by first | omega | (rw [hz]; split <;> omega)), bel⟩
    · have hg1 := gcd_step x y
      have hlt := tmod_lt x y hy
      go_wp2
      go_quiet (fail)
      go_roundw
      case rel => exact ⟨_, _, _, _, _, _, _, _, ⟨y, x.tmod y, rfl, rfl, hg1.trans hg, hy0, hy1, by clear hg1 hg; omega, by clear hg1 hg; omega, below_drewN bel _⟩, rfl⟩
      case measure => exact hlt
end Go.Proofs.Ytploanbnbkhciaa
