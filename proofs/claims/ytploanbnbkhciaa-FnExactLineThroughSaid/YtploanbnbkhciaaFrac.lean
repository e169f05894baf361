/-
  Fractions, without any program: the greatest common divisor by division with rest; shortened terms; sums, products and order of shortened terms. No condition but those written.
-/
import Derived.WalkKit
namespace Go.Proofs.Ytploanbnbkhciaa

theorem gcd_step (a b : Int) : Int.gcd b (a.tmod b) = Int.gcd a b := by
  show Nat.gcd b.natAbs (a.tmod b).natAbs = Nat.gcd a.natAbs b.natAbs
  rw [Int.natAbs_tmod, Nat.gcd_comm a.natAbs, Nat.gcd_rec b.natAbs a.natAbs, Nat.gcd_comm]

theorem tmod_lt (a b : Int) (h : b ≠ 0) : (a.tmod b).natAbs < b.natAbs := by
  rw [Int.natAbs_tmod]
  exact Nat.mod_lt _ (by omega)

theorem gcd_zero (a : Int) : (Int.gcd a 0 : Int) = if a < 0 then -a else a := by
  rw [Int.gcd_zero_right]
  split <;> omega

theorem gcd_pos (t b : Int) (h : b ≠ 0) : 0 < (Int.gcd t b : Int) := by
  have : 0 < Int.gcd t b := Int.gcd_pos_of_ne_zero_right _ h
  omega

theorem gcd_le (t b : Int) (h : b ≠ 0) : (Int.gcd t b : Int) ≤ b.natAbs := by
  have h1 : Int.gcd t b ∣ b.natAbs := Nat.gcd_dvd_right t.natAbs b.natAbs
  have := Nat.le_of_dvd (by omega) h1
  omega

/-- Valid terms. -/
def okF (t b : Int) : Bool := decide (-1000000 ≤ t ∧ t ≤ 1000000 ∧ 1 ≤ b ∧ b ≤ 1000000 ∧ Int.gcd t b = 1)

/-- The divisor with the bottom's sign. -/
def dvs (t b : Int) : Int := if b < 0 then -(Int.gcd t b : Int) else (Int.gcd t b : Int)

/-- Shortened terms. -/
def redT (t b : Int) : Int := t.tdiv (dvs t b)
def redB (t b : Int) : Int := b.tdiv (dvs t b)
/-- The answer of a shortening: the terms, if they are valid. -/
def shT (t b : Int) : Int := if okF (redT t b) (redB t b) then redT t b else 0
def shB (t b : Int) : Int := if okF (redT t b) (redB t b) then redB t b else 0
def shO (t b : Int) : Bool := okF (redT t b) (redB t b)

theorem okF_iff (t b : Int) : okF t b = true ↔ (-1000000 ≤ t ∧ t ≤ 1000000 ∧ 1 ≤ b ∧ b ≤ 1000000 ∧ Int.gcd t b = 1) := by
  unfold okF; simp

theorem okF_top (t b : Int) (h : t < -1000000 ∨ 1000000 < t) : okF t b = false := by
  unfold okF; simp; omega
theorem okF_bottom (t b : Int) (h : b < 1 ∨ 1000000 < b) : okF t b = false := by
  unfold okF; simp; omega
theorem okF_in (t b : Int) (h0 : -1000000 ≤ t) (h1 : t ≤ 1000000) (h2 : 1 ≤ b) (h3 : b ≤ 1000000) : okF t b = decide ((Int.gcd t b : Int) = 1) := by
  unfold okF
  by_cases h : Int.gcd t b = 1
  · simp [h0, h1, h2, h3, h]
  · have : ¬ (Int.gcd t b : Int) = 1 := by omega
    simp [h0, h1, h2, h3, h]
    exact this

/-! The shortening with a positive bottom. -/
theorem dvs_pos {t b : Int} (h : 0 < b) : dvs t b = Int.gcd t b := by unfold dvs; rw [if_neg (by omega)]

theorem redT_mul {t b : Int} (h : 0 < b) : redT t b * Int.gcd t b = t := by
  unfold redT; rw [dvs_pos h]
  exact Int.tdiv_mul_cancel (Int.gcd_dvd_left t b)
theorem redB_mul {t b : Int} (h : 0 < b) : redB t b * Int.gcd t b = b := by
  unfold redB; rw [dvs_pos h]
  exact Int.tdiv_mul_cancel (Int.gcd_dvd_right t b)

theorem redB_pos {t b : Int} (h : 0 < b) : 0 < redB t b := by
  have h1 := redB_mul (t := t) h
  have h2 := gcd_pos t b (by omega)
  rcases Int.lt_or_le 0 (redB t b) with h3 | h3
  · exact h3
  · have := Int.mul_nonpos_of_nonpos_of_nonneg h3 (Int.le_of_lt h2)
    omega

theorem red_gcd {t b : Int} (h : 0 < b) : Int.gcd (redT t b) (redB t b) = 1 := by
  have h1 := redT_mul (t := t) h
  have h2 := redB_mul (t := t) h
  have h3 := gcd_pos t b (by omega)
  have h4 : Int.gcd (redT t b * Int.gcd t b) (redB t b * Int.gcd t b) = Int.gcd (redT t b) (redB t b) * Int.gcd t b := by
    rw [Int.gcd_mul_right]; simp
  rw [h1, h2] at h4
  have h5 : 0 < Int.gcd t b := by omega
  exact (Nat.eq_of_mul_eq_mul_right h5 (by rw [Nat.one_mul]; exact h4)).symm

/-- The same shortened terms for terms times a positive number. -/
theorem red_mul {k t b : Int} (hk : 0 < k) (h : 0 < b) : redT (k * t) (k * b) = redT t b ∧ redB (k * t) (k * b) = redB t b := by
  have hkb : 0 < k * b := Int.mul_pos hk h
  have h3 := gcd_pos t b (by omega)
  have e : (Int.gcd (k * t) (k * b) : Int) = k * (Int.gcd t b : Int) := by
    rw [Int.gcd_mul_left]
    rw [Int.natCast_mul]
    congr 1
    omega
  unfold redT redB
  rw [dvs_pos hkb, dvs_pos h, e]
  exact ⟨Int.mul_tdiv_mul_of_pos _ _ hk, Int.mul_tdiv_mul_of_pos _ _ hk⟩

/-- Terms that are shortened already. -/
theorem red_self {t b : Int} (h : okF t b = true) : redT t b = t ∧ redB t b = b := by
  obtain ⟨-, -, h2, -, h4⟩ := (okF_iff t b).1 h
  unfold redT redB
  rw [dvs_pos (by omega), h4]
  exact ⟨Int.tdiv_one _, Int.tdiv_one _⟩

/-- A sum of shortened terms. -/
theorem red_add {t1 b1 t2 b2 : Int} (h1 : 0 < b1) (h2 : 0 < b2) :
    redT (redT t1 b1 * redB t2 b2 + redT t2 b2 * redB t1 b1) (redB t1 b1 * redB t2 b2) = redT (t1 * b2 + t2 * b1) (b1 * b2) ∧
    redB (redT t1 b1 * redB t2 b2 + redT t2 b2 * redB t1 b1) (redB t1 b1 * redB t2 b2) = redB (t1 * b2 + t2 * b1) (b1 * b2) := by
  have e1 := redT_mul (t := t1) h1
  have e2 := redB_mul (t := t1) h1
  have e3 := redT_mul (t := t2) h2
  have e4 := redB_mul (t := t2) h2
  have g1 := gcd_pos t1 b1 (by omega)
  have g2 := gcd_pos t2 b2 (by omega)
  have p1 := redB_pos (t := t1) h1
  have p2 := redB_pos (t := t2) h2
  generalize redT t1 b1 = x1 at *
  generalize redB t1 b1 = y1 at *
  generalize redT t2 b2 = x2 at *
  generalize redB t2 b2 = y2 at *
  generalize (Int.gcd t1 b1 : Int) = k1 at *
  generalize (Int.gcd t2 b2 : Int) = k2 at *
  have hk : 0 < k1 * k2 := Int.mul_pos g1 g2
  have hy : 0 < y1 * y2 := Int.mul_pos p1 p2
  have a1 : t1 * b2 + t2 * b1 = (k1 * k2) * (x1 * y2 + x2 * y1) := by subst e1 e2 e3 e4; grind
  have a2 : b1 * b2 = (k1 * k2) * (y1 * y2) := by subst e2 e4; grind
  rw [a1, a2]
  exact ⟨(red_mul hk hy).1.symm, (red_mul hk hy).2.symm⟩

/-- A product of shortened terms. -/
theorem red_times {t1 b1 t2 b2 : Int} (h1 : 0 < b1) (h2 : 0 < b2) :
    redT (redT t1 b1 * redT t2 b2) (redB t1 b1 * redB t2 b2) = redT (t1 * t2) (b1 * b2) ∧
    redB (redT t1 b1 * redT t2 b2) (redB t1 b1 * redB t2 b2) = redB (t1 * t2) (b1 * b2) := by
  have e1 := redT_mul (t := t1) h1
  have e2 := redB_mul (t := t1) h1
  have e3 := redT_mul (t := t2) h2
  have e4 := redB_mul (t := t2) h2
  have g1 := gcd_pos t1 b1 (by omega)
  have g2 := gcd_pos t2 b2 (by omega)
  have p1 := redB_pos (t := t1) h1
  have p2 := redB_pos (t := t2) h2
  generalize redT t1 b1 = x1 at *
  generalize redB t1 b1 = y1 at *
  generalize redT t2 b2 = x2 at *
  generalize redB t2 b2 = y2 at *
  generalize (Int.gcd t1 b1 : Int) = k1 at *
  generalize (Int.gcd t2 b2 : Int) = k2 at *
  have hk : 0 < k1 * k2 := Int.mul_pos g1 g2
  have hy : 0 < y1 * y2 := Int.mul_pos p1 p2
  have a1 : t1 * t2 = (k1 * k2) * (x1 * x2) := by subst e1 e3; grind
  have a2 : b1 * b2 = (k1 * k2) * (y1 * y2) := by subst e2 e4; grind
  rw [a1, a2]
  exact ⟨(red_mul hk hy).1.symm, (red_mul hk hy).2.symm⟩

/-- The model's way to a sum: shortened by the bottoms' common divisor first. -/
theorem red_add_lcm {x1 y1 x2 y2 : Int} (h1 : 0 < y1) (h2 : 0 < y2) :
    redT (x1 * (y2.tdiv (Int.gcd y1 y2)) + x2 * (y1.tdiv (Int.gcd y1 y2))) (y1.tdiv (Int.gcd y1 y2) * y2) = redT (x1 * y2 + x2 * y1) (y1 * y2) ∧
    redB (x1 * (y2.tdiv (Int.gcd y1 y2)) + x2 * (y1.tdiv (Int.gcd y1 y2))) (y1.tdiv (Int.gcd y1 y2) * y2) = redB (x1 * y2 + x2 * y1) (y1 * y2) := by
  have g := gcd_pos y1 y2 (by omega)
  have e1 := Int.tdiv_mul_cancel (Int.gcd_dvd_left y1 y2)
  have e2 := Int.tdiv_mul_cancel (Int.gcd_dvd_right y1 y2)
  generalize (Int.gcd y1 y2 : Int) = k at *
  generalize y1.tdiv k = u1 at *
  generalize y2.tdiv k = u2 at *
  have hu : 0 < u1 := by
    rcases Int.lt_or_le 0 u1 with h3 | h3
    · exact h3
    · have := Int.mul_nonpos_of_nonpos_of_nonneg h3 (Int.le_of_lt g)
      omega
  have hy : 0 < u1 * y2 := Int.mul_pos hu h2
  have a1 : x1 * y2 + x2 * y1 = k * (x1 * u2 + x2 * u1) := by subst e1 e2; grind
  have a2 : y1 * y2 = k * (u1 * y2) := by subst e1; grind
  rw [a1, a2]
  exact ⟨(red_mul g hy).1.symm, (red_mul g hy).2.symm⟩
end Go.Proofs.Ytploanbnbkhciaa
