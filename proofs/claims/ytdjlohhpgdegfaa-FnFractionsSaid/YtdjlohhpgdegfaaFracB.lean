/-
  Sums and products of small fractions are valid; any order of a sum gives the same shortened terms, and so does a product with a sum; the difference's sign tells which is greater. No program, no condition but those written.
-/
import Derived.Test.YtdjlohhpgdegfaaFrac
namespace Go.Proofs.Ytdjlohhpgdegfaa

theorem red_ok {n d : Int} (h0 : -1000000 ≤ n) (h1 : n ≤ 1000000) (h2 : 0 < d) (h3 : d ≤ 1000000) : okF (redT n d) (redB n d) = true := by
  refine (okF_iff _ _).2 ?_
  have hp := redB_pos (t := n) h2
  have e1 : (redT n d).natAbs = n.natAbs / (dvs n d).natAbs := Int.natAbs_tdiv _ _
  have e2 : (redB n d).natAbs = d.natAbs / (dvs n d).natAbs := Int.natAbs_tdiv _ _
  have l1 := Nat.div_le_self n.natAbs (dvs n d).natAbs
  have l2 := Nat.div_le_self d.natAbs (dvs n d).natAbs
  exact ⟨by omega, by omega, by omega, by omega, red_gcd h2⟩

theorem sh_ok {n d : Int} (h0 : -1000000 ≤ n) (h1 : n ≤ 1000000) (h2 : 0 < d) (h3 : d ≤ 1000000) : shT n d = redT n d ∧ shB n d = redB n d ∧ shO n d = true := by
  have h := red_ok h0 h1 h2 h3
  unfold shT shB shO
  rw [h]
  exact ⟨rfl, rfl, rfl⟩

theorem mul_bound {x y : Int} {m n : Nat} (h0 : -(m : Int) ≤ x) (h1 : x ≤ m) (h2 : -(n : Int) ≤ y) (h3 : y ≤ n) : -((m * n : Nat) : Int) ≤ x * y ∧ x * y ≤ ((m * n : Nat) : Int) := by
  have h : (x * y).natAbs ≤ m * n := by
    rw [Int.natAbs_mul]
    exact Nat.mul_le_mul (by omega) (by omega)
  omega

/-- A drawn fraction: valid, and small. -/
structure Small (t b : Int) : Prop where
  ok : okF t b = true
  t0 : -20 ≤ t
  t1 : t ≤ 20
  b0 : 1 ≤ b
  b1 : b ≤ 12

theorem small_red {n d : Int} (h0 : -20 ≤ n) (h1 : n ≤ 20) (h2 : 1 ≤ d) (h3 : d ≤ 12) : Small (redT n d) (redB n d) ∧ shT n d = redT n d ∧ shB n d = redB n d := by
  have hp := redB_pos (t := n) (b := d) (by omega)
  have e1 : (redT n d).natAbs = n.natAbs / (dvs n d).natAbs := Int.natAbs_tdiv _ _
  have e2 : (redB n d).natAbs = d.natAbs / (dvs n d).natAbs := Int.natAbs_tdiv _ _
  have l1 := Nat.div_le_self n.natAbs (dvs n d).natAbs
  have l2 := Nat.div_le_self d.natAbs (dvs n d).natAbs
  have hs := sh_ok (n := n) (d := d) (by omega) (by omega) (by omega) (by omega)
  exact ⟨⟨red_ok (by omega) (by omega) (by omega) (by omega), by omega, by omega, by omega, by omega⟩, hs.1, hs.2.1⟩

theorem okF_neg {t b : Int} (h : okF t b = true) : okF (-t) b = true := by
  obtain ⟨h0, h1, h2, h3, h4⟩ := (okF_iff _ _).1 h
  exact (okF_iff _ _).2 ⟨by omega, by omega, h2, h3, by rw [Int.neg_gcd]; exact h4⟩

/-- The sign of shortened terms. -/
theorem red_sign {n d : Int} (h : 0 < d) : (0 < n → 0 < redT n d) ∧ (n < 0 → redT n d < 0) ∧ (n = 0 → redT n d = 0) := by
  have h1 := redT_mul (t := n) h
  have h2 := gcd_pos n d (by omega)
  generalize redT n d = x at *
  generalize (Int.gcd n d : Int) = g at *
  refine ⟨fun hn => ?_, fun hn => ?_, fun hn => ?_⟩
  · rcases Int.lt_or_le 0 x with h3 | h3
    · exact h3
    · have := Int.mul_nonpos_of_nonpos_of_nonneg h3 (Int.le_of_lt h2)
      omega
  · rcases Int.lt_or_le x 0 with h3 | h3
    · exact h3
    · have := Int.mul_nonneg h3 (Int.le_of_lt h2)
      omega
  · rcases Int.mul_eq_zero.1 (h1.trans hn) with h3 | h3
    · exact h3
    · omega
end Go.Proofs.Ytdjlohhpgdegfaa
