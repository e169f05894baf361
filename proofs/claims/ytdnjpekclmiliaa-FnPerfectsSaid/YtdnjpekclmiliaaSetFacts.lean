/-
  What the law on sets of weights needs: both pans are alike, one pan's sums are two pans' sums, a set reaches no further than powers of two (one pan) or of three (two pans), and those do. No program's walk.
-/
import Derived.Test.YtdnjpekclmiliaaSetWays
namespace Go.Proofs.Ytdnjpekclmiliaa
open Go.ChangeShapes Go.WideShapes Go.ChangeAt Go.RowKit Go.PlainAid

theorem wysL_nonneg (two : Bool) (L : List Int) (n : Int) : 0 ≤ wysL two L n := wys_nonneg two L L.length n
theorem reachOf_reach {L : List Int} (h : SetP L) (two : Bool) : Reach (wysL two L) (reachOf two L) := by
  obtain ⟨T, hT, hT8⟩ := set_total h
  unfold reachOf
  refine reachF_reach (wysL_nonneg two L) (sumL L).toNat 0 (by omega) (fun i h1 h2 => by omega) ?_
  exact wysL_far h two _ (.inr (by rw [hT]; omega))
theorem reachI_of {L : List Int} (h : SetP L) : reachI L 1 = reachOf false L ∧ reachI L 2 = reachOf true L := by
  have hb : setB L = true := decide_eq_true h
  unfold reachI
  rw [hb]
  exact ⟨rfl, rfl⟩
theorem one_reach {L : List Int} (h : SetP L) : 0 ≤ reachOf false L ∧ reachOf false L + 1 ≤ 2 ^ L.length := by
  have R := reachOf_reach h false
  have r0 := R.r0
  refine ⟨r0, ?_⟩
  have h1 := wys_all false L L.length 0 (reachOf false L + 1).toNat
  have h2 := sumR_ge (f := wys false L L.length) (lo := 0) (c := (reachOf false L + 1).toNat) fun j hj => by
    rcases Nat.eq_zero_or_pos j with rfl | h0
    · have := wys_zero false L L.length
      simpa using this
    · have := R.pos ((0 : Int) + j) (by omega) (by omega)
      unfold wysL at this
      omega
  simp only [Bool.false_eq_true, if_false] at h1
  omega
theorem two_reach {L : List Int} (h : SetP L) : 0 ≤ reachOf true L ∧ 2 * reachOf true L + 1 ≤ 3 ^ L.length := by
  have R := reachOf_reach h true
  have r0 := R.r0
  refine ⟨r0, ?_⟩
  have h1 := wys_all true L L.length (-(reachOf true L)) (2 * reachOf true L + 1).toNat
  have h2 := sumR_ge (f := wys true L L.length) (lo := -(reachOf true L)) (c := (2 * reachOf true L + 1).toNat) fun j hj => by
    rcases Int.lt_trichotomy (-(reachOf true L) + j) 0 with h0 | h0 | h0
    · have := R.pos (-(-(reachOf true L) + j)) (by omega) (by omega)
      unfold wysL at this
      rw [wys_neg] at this
      omega
    · rw [h0]
      exact wys_zero true L L.length
    · have := R.pos (-(reachOf true L) + j) (by omega) (by omega)
      unfold wysL at this
      omega
  simp only [if_true] at h1
  omega
theorem one_two_reach {L : List Int} (h : SetP L) : reachOf false L ≤ reachOf true L := by
  have R := reachOf_reach h false
  have Q := reachOf_reach h true
  rcases Int.lt_or_le (reachOf true L) (reachOf false L) with h1 | h1
  · have p := R.pos (reachOf true L + 1) (by have := Q.r0; omega) (by omega)
    have o := Q.out
    have := wys_one_two L L.length (reachOf true L + 1)
    unfold wysL at p o
    omega
  · exact h1
theorem pows_set {b : Int} (hb : b = 2 ∨ b = 3) : ∀ n, 1 ≤ n → n ≤ 5 → SetP (pows b n) := by
  intro n h1 h5
  have : n = 1 ∨ n = 2 ∨ n = 3 ∨ n = 4 ∨ n = 5 := by omega
  rcases hb with rfl | rfl <;> rcases this with rfl | rfl | rfl | rfl | rfl <;> decide
theorem pows_two_reach {n : Nat} (h1 : 1 ≤ n) (h5 : n ≤ 5) : reachI (pows 2 n) 1 = 2 ^ n - 1 := by
  have hP := pows_set (.inl rfl) n h1 h5
  rw [(reachI_of hP).1]
  refine (reachOf_reach hP false).uniq ⟨?_, fun i i1 i2 => ?_, ?_⟩
  · have : 0 < (2 : Int) ^ n := Int.pow_pos (by decide)
    omega
  · have := wys_two_pows (L := pows 2 n) (fun j hj => pows_get (by rw [pows_length] at hj; exact hj)) n i (by rw [pows_length]; omega)
    unfold wysL
    rw [pows_length]
    exact this.2 (by omega)
  · have := wys_two_pows (L := pows 2 n) (fun j hj => pows_get (by rw [pows_length] at hj; exact hj)) n (2 ^ n - 1 + 1) (by rw [pows_length]; omega)
    have h0 := wysL_nonneg false (pows 2 n) (2 ^ n - 1 + 1)
    unfold wysL at h0 ⊢
    rw [pows_length] at h0 ⊢
    omega
theorem pows_three_reach {n : Nat} (h1 : 1 ≤ n) (h5 : n ≤ 5) : 2 * reachI (pows 3 n) 2 + 1 = 3 ^ n := by
  have hP := pows_set (.inr rfl) n h1 h5
  obtain ⟨c, hc⟩ := pow3_odd n
  have hc0 : 0 < (3 : Int) ^ n := Int.pow_pos (by decide)
  have e : reachI (pows 3 n) 2 = c := by
    rw [(reachI_of hP).2]
    refine (reachOf_reach hP true).uniq ⟨by omega, fun i i1 i2 => ?_, ?_⟩
    · have := wys_three_pows (L := pows 3 n) (fun j hj => pows_get (by rw [pows_length] at hj; exact hj)) n i (by rw [pows_length]; omega)
      unfold wysL
      rw [pows_length]
      exact this.2 (by omega)
    · have := wys_three_pows (L := pows 3 n) (fun j hj => pows_get (by rw [pows_length] at hj; exact hj)) n (c + 1) (by rw [pows_length]; omega)
      have h0 := wysL_nonneg true (pows 3 n) (c + 1)
      unfold wysL at h0 ⊢
      rw [pows_length] at h0 ⊢
      omega
  omega

/-- What the calls of the law answer for a drawn set. -/
structure SFacts (L : List Int) (a b : Int) : Prop where
  ea : reachI L 1 = a
  eb : reachI L 2 = b
  a0 : 0 ≤ a
  a1 : a + 1 ≤ 2 ^ L.length
  b1 : 2 * b + 1 ≤ 3 ^ L.length
  ab : a ≤ b
  least : leastI L = a + 1
  one : oneB L (a + 1) = false
  two : twoB L (b + 1) = false
  negT : ∀ m, twoB L (-m) = twoB L m
  negW : ∀ m, waysI L (-m) = waysI L m
  sub : ∀ m, oneB L m = true → twoB L m = true
  dec : ∀ m, decide (0 < waysI L m) = twoB L m

theorem sfacts {L : List Int} (h : SetP L) : SFacts L (reachI L 1) (reachI L 2) := by
  have hb : setB L = true := decide_eq_true h
  obtain ⟨e1, e2⟩ := reachI_of h
  have R := reachOf_reach h false
  have Q := reachOf_reach h true
  rw [← e1] at R
  rw [← e2] at Q
  have h1 := one_reach h
  have h2 := two_reach h
  have h3 := one_two_reach h
  rw [← e1] at h1 h3
  rw [← e2] at h2 h3
  refine ⟨rfl, rfl, h1.1, h1.2, h2.2, h3, ?_, ?_, ?_, fun m => ?_, fun m => ?_, fun m hm => ?_, fun m => ?_⟩
  · unfold leastI; rw [hb]; rfl
  · unfold oneB; rw [hb, R.out]; rfl
  · unfold twoB; rw [hb, Q.out]; rfl
  · unfold twoB wysL; rw [wys_neg]
  · unfold waysI wysL; rw [wys_neg]
  · unfold oneB wysL at hm
    unfold twoB wysL
    rw [hb, Bool.true_and, decide_eq_true_eq] at hm
    have := wys_one_two L L.length m
    rw [hb, decide_eq_true (by omega)]; rfl
  · unfold waysI twoB; rw [hb]; rfl
theorem waysI_le (L : List Int) (m : Int) : 0 ≤ waysI L m ∧ waysI L m ≤ 6561 := by
  unfold waysI
  split
  · exact wysL_le (setB_P (by assumption)) true m
  · omega
end Go.Proofs.Ytdnjpekclmiliaa
