/-
  Two coins that are next to each other: what can be paid, the greatest amount that can't, how many can't. No program's walk.
-/
import Derived.Test.YtajocneggcofgaaPurse
namespace Go.Proofs.Ytajocneggcofgaa

def two (a : Nat) : List Int := [(a : Int), (a : Int) + 1]
/-- What two coins a and a + 1 pay. -/
def twoB (a x : Nat) : Bool := decide (x % a ≤ x / a)
theorem two_coins (a : Nat) : cn (two a) 0 = a ∧ cn (two a) 1 = a + 1 := by
  refine ⟨?_, ?_⟩
  · show ((a : Int)).toNat = a; omega
  · show ((a : Int) + 1).toNat = a + 1; omega
theorem two_purse {a : Nat} (h2 : 2 ≤ a) (h : a ≤ 19) : PursP (two a) := by
  refine ⟨⟨by show 1 ≤ 2; decide, by show 2 ≤ 4; decide⟩, fun j hj => ?_⟩
  obtain rfl | rfl : j = 0 ∨ j = 1 := by
    have : j < 2 := hj
    omega
  · exact ⟨⟨by show (2 : Int) ≤ (a : Int); omega, by show (a : Int) ≤ 20; omega⟩, fun g => by omega⟩
  · exact ⟨⟨by show (2 : Int) ≤ (a : Int) + 1; omega, by show (a : Int) + 1 ≤ 20; omega⟩, fun _ => by show (a : Int) < (a : Int) + 1; omega⟩
theorem two_div (a : Nat) : dv (two a) = 1 := by
  show Nat.gcd (Nat.gcd 0 (cn (two a) 0)) (cn (two a) 1) = 1
  rw [(two_coins a).1, (two_coins a).2, Nat.gcd_zero_left]
  have h := Nat.dvd_sub (Nat.gcd_dvd_right a (a + 1)) (Nat.gcd_dvd_left a (a + 1))
  rw [Nat.add_sub_cancel_left] at h
  exact Nat.dvd_one.1 h
theorem twoB_step {a x : Nat} (h2 : 2 ≤ a) (hx : 1 ≤ x) : twoB a x = ((decide (a ≤ x) && twoB a (x - a)) || (decide (a + 1 ≤ x) && twoB a (x - (a + 1)))) := by
  have e1 := Nat.mod_add_div x a
  have e2 := Nat.mod_lt x (show a > 0 by omega)
  obtain ⟨q, hq⟩ : ∃ q, x / a = q := ⟨_, rfl⟩
  obtain ⟨r, hr⟩ : ∃ r, x % a = r := ⟨_, rfl⟩
  rw [hq, hr] at e1
  rw [hr] at e2
  have key : ∀ (y u v : Nat), v < a → y = v + a * u → twoB a y = decide (v ≤ u) := fun y u v h3 h4 => by
    unfold twoB
    subst h4
    rw [Nat.add_mul_mod_self_left, Nat.mod_eq_of_lt h3, Nat.add_mul_div_left _ _ (by omega), Nat.div_eq_of_lt h3, Nat.zero_add]
  rw [key x q r e2 (by omega), Bool.eq_iff_iff, Bool.or_eq_true, Bool.and_eq_true, Bool.and_eq_true, decide_eq_true_iff, decide_eq_true_iff, decide_eq_true_iff]
  cases q with
  | zero =>
    rw [Nat.mul_zero] at e1
    constructor
    · intro h; omega
    · rintro (⟨h, -⟩ | ⟨h, -⟩) <;> omega
  | succ q =>
    rw [Nat.mul_succ] at e1
    have h5 : a ≤ x := by omega
    rw [key (x - a) q r e2 (by omega), decide_eq_true_iff]
    by_cases hr0 : r = 0
    · subst hr0
      constructor
      · intro _; exact .inl ⟨h5, Nat.zero_le _⟩
      · intro _; omega
    · have h6 : a + 1 ≤ x := by omega
      rw [key (x - (a + 1)) q (r - 1) (by omega) (by omega), decide_eq_true_iff]
      constructor
      · intro h; exact .inr ⟨h6, by omega⟩
      · rintro (⟨-, h⟩ | ⟨-, h⟩) <;> omega
theorem two_pay {a : Nat} (h2 : 2 ≤ a) (h : a ≤ 19) : ∀ x, payB (two a) x = twoB a x := by
  intro x
  induction x using Nat.strongRecOn with
  | ind x ih =>
    by_cases e : x = 0
    · subst e
      rw [payB_zero]
      unfold twoB
      rw [Nat.zero_mod, decide_eq_true (Nat.zero_le _)]
    · rw [payB_step (two_purse h2 h) (by omega), twoB_step h2 (by omega)]
      show (false || (decide (cn (two a) 0 ≤ x) && payB (two a) (x - cn (two a) 0)) || (decide (cn (two a) 1 ≤ x) && payB (two a) (x - cn (two a) 1))) = _
      rw [(two_coins a).1, (two_coins a).2, Bool.false_or, ih (x - a) (by omega), ih (x - (a + 1)) (by omega)]
theorem two_table : ∀ a, a < 20 → 2 ≤ a → lastP (twoB a) 401 = (a : Int) * (a + 1) - a - (a + 1) ∧ (cntP (twoB a) 401 : Int) = ((a : Int) - 1) * a / 2 := by decide +kernel
theorem two_turn : ∀ a, a < 20 → 2 ≤ a → ∀ n, n < 400 → n ≤ a * (a + 1) - a - (a + 1) → (twoB a n == twoB a (a * (a + 1) - a - (a + 1) - n)) = false := by decide +kernel
theorem two_last {a : Nat} (h2 : 2 ≤ a) (h : a ≤ 19) : lrgA (two a) = (a : Int) * (a + 1) - a - (a + 1) ∧ cuA (two a) = ((a : Int) - 1) * a / 2 := by
  have hp : pursB (two a) = true := decide_eq_true (two_purse h2 h)
  have hd : divA (two a) = 1 := by rw [divA_yes hp, two_div]; rfl
  obtain ⟨h1, h3⟩ := lastP_congr 401 fun x _ => two_pay h2 h x
  obtain ⟨h4, h5⟩ := two_table a (by omega) h2
  unfold lrgA cuA
  rw [if_pos hd, if_pos hd, h1, h3]
  exact ⟨h4, h5⟩
end Go.Proofs.Ytajocneggcofgaa
