/-
  The contracts of the two greatest divisors, the program's and the model's: for ints whose sign can be changed, each answers the greatest common divisor. Nothing is written.
-/
import Derived.Test.YtploanbnbkhciaaChecked
import Derived.Test.YtploanbnbkhciaaFrac
import Derived.Test.YtploanbnbkhciaaBase
import Derived.WalkKit
import Derived.ChangeSame
import Derived.JoinedAt
import Derived.BigQuiet
import Derived.Below
import Derived.Deep.LoopGhost
import Derived.PlainAid
namespace Go.Proofs.Ytploanbnbkhciaa
open Go.ChangeShapes Go.WideShapes Go.ChangeAt Go.RowKit Go.PlainAid

theorem specGcd_any (a b : Int) (w : World) (ha0 : -9223372036854775807 ≤ a) (ha1 : a ≤ 9223372036854775807) (hb0 : -9223372036854775807 ≤ b) (hb1 : b ≤ 9223372036854775807) :
    Calls Try.prog 52 #[.int .i64 a, .int .i64 b] w fun e w' => e = .returned (.int .i64 (Int.gcd a b)) ∧ Below w.heap.size w w' := by
  go_enter Try.func52, Try.ntmps52
  have hab : ∀ x y : Int, (x = a ∨ x = -a) → (y = b ∨ y = -b) → Int.gcd x y = Int.gcd a b := by
    rintro x y (rfl | rfl) (rfl | rfl) <;> simp [Int.gcd_neg, Int.neg_gcd]
  go_wp2
  all_goals
    go_loopw [0, 1] (fun u v wr => ∃ x y : Int, u = .int .i64 x ∧ v = .int .i64 y ∧ Int.gcd x y = Int.gcd a b ∧ 0 ≤ x ∧ x ≤ 9223372036854775807 ∧ 0 ≤ y ∧ y ≤ 9223372036854775807 ∧ Below w.heap.size w wr) (fun _ v _ => (intOf v).natAbs)
    case atStart => exact ⟨_, _, rfl, rfl, hab _ _ (by omega) (by omega), by omega, by omega, by omega, by omega, Below.refl _ _⟩
    case round =>
      obtain ⟨x, y, rfl, rfl, hg, hx0, hx1, hy0, hy1, bel⟩ := hrel
      by_cases hy : 0 < y
      · have hg1 := gcd_step x y
        have hlt := tmod_lt x y (by omega)
        have hnn := Int.emod_nonneg x (b := y) (by omega)
        rw [Int.tmod_eq_emod_of_nonneg hx0] at hg1 hlt
        go_wp2
        go_quiet (fail)
        go_roundw
        case rel => exact ⟨_, _, _, _, _, _, _, _, ⟨y, x % y, rfl, rfl, hg1.trans hg, by omega, hy1, hnn, by clear hg1 hg; omega, below_drewN bel _⟩, rfl⟩
        case measure => exact hlt
      · obtain rfl : y = 0 := by omega
        have hz := gcd_zero x
        rw [hg, if_neg (by omega)] at hz
        clear hg hab
        go_wp2
        go_ret
        exact ⟨ret_int (by first | rfl | omega), bel⟩
end Go.Proofs.Ytploanbnbkhciaa
