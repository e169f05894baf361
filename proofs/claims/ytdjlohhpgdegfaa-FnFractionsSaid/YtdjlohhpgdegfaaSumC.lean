/-
  The program's sums and products of fractions are the model's, for all arguments; and for valid ones the program's are the shortened terms. Only new memory is written.
-/
import Derived.Test.YtdjlohhpgdegfaaSumB
namespace Go.Proofs.Ytdjlohhpgdegfaa
open Go.ChangeShapes Go.WideShapes Go.ChangeAt Go.RowKit Go.PlainAid

theorem mul_in (x y : Int) (h0 : -1000000 ≤ x) (h1 : x ≤ 1000000) (h2 : -1000000 ≤ y) (h3 : y ≤ 1000000) : -1000000000000 ≤ x * y ∧ x * y ≤ 1000000000000 := by
  have : (x * y).natAbs ≤ 1000000 * 1000000 := by
    rw [Int.natAbs_mul]
    exact Nat.mul_le_mul (by omega) (by omega)
  omega

theorem tdiv_in (x d : Int) (h0 : -1000000 ≤ x) (h1 : x ≤ 1000000) : -1000000 ≤ x.tdiv d ∧ x.tdiv d ≤ 1000000 := by
  have h : (x.tdiv d).natAbs = x.natAbs / d.natAbs := Int.natAbs_tdiv x d
  have h2 := Nat.div_le_self x.natAbs d.natAbs
  omega

/-- The sum of two valid fractions, as the program has it. -/
theorem implAdd_any (t1 b1 t2 b2 : Int) (w : World) (h1 : okF t1 b1 = true) (h2 : okF t2 b2 = true) :
    Calls Try.prog 11 #[.agg #[.int .i64 t1, .int .i64 b1], .agg #[.int .i64 t2, .int .i64 b2]] w (SaysF (shT (t1 * b2 + t2 * b1) (b1 * b2)) (shB (t1 * b2 + t2 * b1) (b1 * b2)) (shO (t1 * b2 + t2 * b1) (b1 * b2)) w) := by
  obtain ⟨x0, x1, x2, x3, -⟩ := (okF_iff t1 b1).1 h1
  obtain ⟨y0, y1, y2, y3, -⟩ := (okF_iff t2 b2).1 h2
  have m1 := mul_in t1 b2 (by omega) (by omega) (by omega) (by omega)
  have m2 := mul_in t2 b1 (by omega) (by omega) (by omega) (by omega)
  have m3 := mul_in b1 b2 (by omega) (by omega) (by omega) (by omega)
  have p3 : 0 < b1 * b2 := Int.mul_pos (by omega) (by omega)
  exact implAdd_yes t1 b1 t2 b2 _ _ _ w h1 h2 fun W => plus_walk t1 b1 t2 b2 _ _ _ _ _ _ W rfl rfl rfl m1.1 m1.2 m2.1 m2.2 m3.1 m3.2 fun W => short_any _ _ W (by omega) (by omega) (by omega) (by omega) (by omega)

theorem implTimes_any (t1 b1 t2 b2 : Int) (w : World) (h1 : okF t1 b1 = true) (h2 : okF t2 b2 = true) :
    Calls Try.prog 12 #[.agg #[.int .i64 t1, .int .i64 b1], .agg #[.int .i64 t2, .int .i64 b2]] w (SaysF (shT (t1 * t2) (b1 * b2)) (shB (t1 * t2) (b1 * b2)) (shO (t1 * t2) (b1 * b2)) w) := by
  obtain ⟨x0, x1, x2, x3, -⟩ := (okF_iff t1 b1).1 h1
  obtain ⟨y0, y1, y2, y3, -⟩ := (okF_iff t2 b2).1 h2
  have m1 := mul_in t1 t2 (by omega) (by omega) (by omega) (by omega)
  have m3 := mul_in b1 b2 (by omega) (by omega) (by omega) (by omega)
  have p3 : 0 < b1 * b2 := Int.mul_pos (by omega) (by omega)
  exact implTimes_yes t1 b1 t2 b2 _ _ _ w h1 h2 fun W => times_walk t1 b1 t2 b2 _ _ _ _ _ W rfl rfl m1.1 m1.2 m3.1 m3.2 fun W => short_any _ _ W (by omega) (by omega) (by omega) (by omega) (by omega)

theorem specTimes_any (t1 b1 t2 b2 : Int) (w : World) (h1 : okF t1 b1 = true) (h2 : okF t2 b2 = true) :
    Calls Try.prog 21 #[.agg #[.int .i64 t1, .int .i64 b1], .agg #[.int .i64 t2, .int .i64 b2]] w (SaysF (shT (t1 * t2) (b1 * b2)) (shB (t1 * t2) (b1 * b2)) (shO (t1 * t2) (b1 * b2)) w) := by
  obtain ⟨x0, x1, x2, x3, -⟩ := (okF_iff t1 b1).1 h1
  obtain ⟨y0, y1, y2, y3, -⟩ := (okF_iff t2 b2).1 h2
  have m1 := mul_in t1 t2 (by omega) (by omega) (by omega) (by omega)
  have m3 := mul_in b1 b2 (by omega) (by omega) (by omega) (by omega)
  have p3 : 0 < b1 * b2 := Int.mul_pos (by omega) (by omega)
  exact specTimes_yes t1 b1 t2 b2 _ _ _ _ _ w h1 h2 rfl rfl m1.1 m1.2 m3.1 m3.2 fun W => specMake_yes _ _ W ⟨by omega, m1, m3⟩

theorem specAdd_any (t1 b1 t2 b2 : Int) (w : World) (h1 : okF t1 b1 = true) (h2 : okF t2 b2 = true) :
    Calls Try.prog 20 #[.agg #[.int .i64 t1, .int .i64 b1], .agg #[.int .i64 t2, .int .i64 b2]] w (SaysF (shT (t1 * b2 + t2 * b1) (b1 * b2)) (shB (t1 * b2 + t2 * b1) (b1 * b2)) (shO (t1 * b2 + t2 * b1) (b1 * b2)) w) := by
  obtain ⟨x0, x1, x2, x3, -⟩ := (okF_iff t1 b1).1 h1
  obtain ⟨y0, y1, y2, y3, -⟩ := (okF_iff t2 b2).1 h2
  have hl := red_add_lcm (x1 := t1) (y1 := b1) (x2 := t2) (y2 := b2) (by omega) (by omega)
  unfold shT shB shO
  rw [← hl.1, ← hl.2]
  clear hl
  have g := gcd_pos b1 b2 (by omega)
  have u1 := tdiv_in b1 (Int.gcd b1 b2) (by omega) (by omega)
  have u2 := tdiv_in b2 (Int.gcd b1 b2) (by omega) (by omega)
  have pu : 0 < b1.tdiv (Int.gcd b1 b2) := by
    have e1 := Int.tdiv_mul_cancel (Int.gcd_dvd_left b1 b2)
    rcases Int.lt_or_le 0 (b1.tdiv (Int.gcd b1 b2)) with h3 | h3
    · exact h3
    · have := Int.mul_nonpos_of_nonpos_of_nonneg h3 (Int.le_of_lt g)
      omega
  have hG := fun W => specGcd_any b1 b2 W (by omega) (by omega) (by omega) (by omega)
  generalize (Int.gcd b1 b2 : Int) = k at *
  have m1 := mul_in t1 (b2.tdiv k) (by omega) (by omega) (by omega) (by omega)
  have m2 := mul_in t2 (b1.tdiv k) (by omega) (by omega) (by omega) (by omega)
  have m3 := mul_in (b1.tdiv k) b2 (by omega) (by omega) (by omega) (by omega)
  have p3 : 0 < b1.tdiv k * b2 := Int.mul_pos pu (by omega)
  unfold redT redB
  rw [dvs_pos p3]
  have g3 := gcd_pos (t1 * b2.tdiv k + t2 * b1.tdiv k) (b1.tdiv k * b2) (by omega)
  have hH := fun W => specGcd_any (t1 * b2.tdiv k + t2 * b1.tdiv k) (b1.tdiv k * b2) W (by omega) (by omega) (by omega) (by omega)
  have hq := tdiv_le (t1 * b2.tdiv k + t2 * b1.tdiv k) (Int.gcd (t1 * b2.tdiv k + t2 * b1.tdiv k) (b1.tdiv k * b2)) (by omega) (by omega)
  have hr := tdiv_le (b1.tdiv k * b2) (Int.gcd (t1 * b2.tdiv k + t2 * b1.tdiv k) (b1.tdiv k * b2)) (by omega) (by omega)
  exact specAdd_yes t1 b1 t2 b2 k _ _ _ _ _ _ _ _ _ w h1 h2 hG (by omega) rfl rfl rfl rfl rfl m1.1 m1.2 m2.1 m2.2 m3.1 m3.2 u1.1 u1.2 u2.1 u2.2 hH (by omega) rfl rfl hq.1 hq.2 hr.1 hr.2 fun W => specOk_any _ _ W

theorem add_both (t1 b1 t2 b2 : Int) : ∃ (T B : Int) (O : Bool),
    (∀ W : World, Calls Try.prog 20 #[.agg #[.int .i64 t1, .int .i64 b1], .agg #[.int .i64 t2, .int .i64 b2]] W (SaysF T B O W)) ∧
    ∀ W : World, Calls Try.prog 11 #[.agg #[.int .i64 t1, .int .i64 b1], .agg #[.int .i64 t2, .int .i64 b2]] W (SaysF T B O W) := by
  cases h1 : okF t1 b1
  · exact ⟨_, _, _, fun W => specAdd_no1 _ _ _ _ W h1, fun W => implAdd_no1 _ _ _ _ W h1⟩
  · cases h2 : okF t2 b2
    · exact ⟨_, _, _, fun W => specAdd_no2 _ _ _ _ W h1 h2, fun W => implAdd_no2 _ _ _ _ W h1 h2⟩
    · exact ⟨_, _, _, fun W => specAdd_any _ _ _ _ W h1 h2, fun W => implAdd_any _ _ _ _ W h1 h2⟩

theorem times_both (t1 b1 t2 b2 : Int) : ∃ (T B : Int) (O : Bool),
    (∀ W : World, Calls Try.prog 21 #[.agg #[.int .i64 t1, .int .i64 b1], .agg #[.int .i64 t2, .int .i64 b2]] W (SaysF T B O W)) ∧
    ∀ W : World, Calls Try.prog 12 #[.agg #[.int .i64 t1, .int .i64 b1], .agg #[.int .i64 t2, .int .i64 b2]] W (SaysF T B O W) := by
  cases h1 : okF t1 b1
  · exact ⟨_, _, _, fun W => specTimes_no1 _ _ _ _ W h1, fun W => implTimes_no1 _ _ _ _ W h1⟩
  · cases h2 : okF t2 b2
    · exact ⟨_, _, _, fun W => specTimes_no2 _ _ _ _ W h1 h2, fun W => implTimes_no2 _ _ _ _ W h1 h2⟩
    · exact ⟨_, _, _, fun W => specTimes_any _ _ _ _ W h1 h2, fun W => implTimes_any _ _ _ _ W h1 h2⟩
end Go.Proofs.Ytdjlohhpgdegfaa
