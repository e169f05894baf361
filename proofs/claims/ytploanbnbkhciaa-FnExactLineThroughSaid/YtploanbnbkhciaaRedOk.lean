/-
  Fractions of small terms, without any program: shortened terms of small ones are valid. No condition but those written.
-/
import Derived.Test.YtploanbnbkhciaaFrac
namespace Go.Proofs.Ytploanbnbkhciaa

theorem yb {x y : Int} (m n : Nat) (h0 : -(m : Int) ≤ x) (h1 : x ≤ m) (h2 : -(n : Int) ≤ y) (h3 : y ≤ n) : -((m * n : Nat) : Int) ≤ x * y ∧ x * y ≤ ((m * n : Nat) : Int) := by
  have : (x * y).natAbs ≤ m * n := by
    rw [Int.natAbs_mul]
    exact Nat.mul_le_mul (by omega) (by omega)
  omega

/-- Shortened terms of small ones are valid. -/
theorem red_ok {t b : Int} (h0 : -1000000 ≤ t) (h1 : t ≤ 1000000) (h2 : 0 < b) (h3 : b ≤ 1000000) : okF (redT t b) (redB t b) = true := by
  have e1 := redT_mul (t := t) h2
  have e2 := redB_mul (t := t) h2
  have g := gcd_pos t b (by omega)
  have p := redB_pos (t := t) h2
  have hg := red_gcd (t := t) h2
  generalize redT t b = x at *
  generalize redB t b = y at *
  generalize (Int.gcd t b : Int) = k at *
  have hx : x.natAbs ≤ t.natAbs := by
    rw [← e1, Int.natAbs_mul]
    exact Nat.le_mul_of_pos_right _ (by omega)
  have hy : y.natAbs ≤ b.natAbs := by
    rw [← e2, Int.natAbs_mul]
    exact Nat.le_mul_of_pos_right _ (by omega)
  exact (okF_iff x y).2 ⟨by omega, by omega, by omega, by omega, hg⟩
theorem sh_ok {t b : Int} (h0 : -1000000 ≤ t) (h1 : t ≤ 1000000) (h2 : 0 < b) (h3 : b ≤ 1000000) : shT t b = redT t b ∧ shB t b = redB t b ∧ shO t b = true := by
  have h := red_ok h0 h1 h2 h3
  unfold shT shB shO
  rw [h]
  exact ⟨rfl, rfl, rfl⟩
theorem red_neg {t b : Int} (h : 0 < b) : redT (-t) b = -redT t b ∧ redB (-t) b = redB t b := by
  unfold redT redB
  rw [dvs_pos h, dvs_pos h, Int.neg_gcd]
  exact ⟨Int.neg_tdiv .., rfl⟩
end Go.Proofs.Ytploanbnbkhciaa
