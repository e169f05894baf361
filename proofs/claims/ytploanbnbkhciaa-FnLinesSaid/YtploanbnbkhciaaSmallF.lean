/-
  Small fractions: shortened terms of small ints. No program, no condition but those written.
-/
import Derived.Test.YtploanbnbkhciaaRedOk
namespace Go.Proofs.Ytploanbnbkhciaa

/-- A drawn fraction: valid, and small. -/
structure Small (t b : Int) : Prop where
  ok : okF t b = true
  t0 : -20 ≤ t
  t1 : t ≤ 20
  b0 : 1 ≤ b
  b1 : b ≤ 12

theorem small_red {n d : Int} (h0 : -20 ≤ n) (h1 : n ≤ 20) (h2 : 1 ≤ d) (h3 : d ≤ 12) : Small (redT n d) (redB n d) ∧ shT n d = redT n d ∧ shB n d = redB n d := by
  have hp := redB_pos (t := n) (b := d) (by omega)
  have e1 : (redT n d).natAbs = n.natAbs / (dvs n d).natAbs := Int.natAbs_tdiv _ _
  have e2 : (redB n d).natAbs = d.natAbs / (dvs n d).natAbs := Int.natAbs_tdiv _ _
  have l1 := Nat.div_le_self n.natAbs (dvs n d).natAbs
  have l2 := Nat.div_le_self d.natAbs (dvs n d).natAbs
  have hs := sh_ok (t := n) (b := d) (by omega) (by omega) (by omega) (by omega)
  exact ⟨⟨red_ok (by omega) (by omega) (by omega) (by omega), by omega, by omega, by omega, by omega⟩, hs.1, hs.2.1⟩

/-- A small fraction that is greater than 0. -/
structure SmallU (t b : Int) : Prop where
  ok : okF t b = true
  t0 : 1 ≤ t
  t1 : t ≤ 20
  b0 : 1 ≤ b
  b1 : b ≤ 12
theorem small_pos {n d : Int} (h0 : 1 ≤ n) (h1 : n ≤ 20) (h2 : 1 ≤ d) (h3 : d ≤ 12) : SmallU (redT n d) (redB n d) ∧ shT n d = redT n d ∧ shB n d = redB n d := by
  obtain ⟨hs, e1, e2⟩ := small_red (n := n) (d := d) (by omega) h1 h2 h3
  refine ⟨⟨hs.ok, ?_, hs.t1, hs.b0, hs.b1⟩, e1, e2⟩
  have g := gcd_pos n d (by omega)
  have k := redT_mul (t := n) (b := d) (by omega)
  rcases Int.lt_or_le 0 (redT n d) with h | h
  · omega
  · have := Int.mul_nonpos_of_nonpos_of_nonneg h (Int.le_of_lt g)
    omega
end Go.Proofs.Ytploanbnbkhciaa
