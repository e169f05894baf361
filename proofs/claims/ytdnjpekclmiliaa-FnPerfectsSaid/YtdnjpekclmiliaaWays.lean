/-
  In how many ways weights give a sum, with one pan or with two; how far they reach. Ints and lists only, no program's walk.
-/
import Derived.Test.YtdnjpekclmiliaaSums
namespace Go.Proofs.Ytdnjpekclmiliaa

/-- In how many ways the first k weights give the sum n: each one added or aside, or (two) taken away. -/
def wys (two : Bool) (L : List Int) : Nat → Int → Int
  | 0, n => if n = 0 then 1 else 0
  | k + 1, n => wys two L k n + wys two L k (n - L.getD k 0) + if two then wys two L k (n + L.getD k 0) else 0
def wysL (two : Bool) (L : List Int) (n : Int) : Int := wys two L L.length n
theorem wys_succ (two : Bool) (L : List Int) (k : Nat) (n : Int) : wys two L (k + 1) n = wys two L k n + wys two L k (n - L.getD k 0) + if two then wys two L k (n + L.getD k 0) else 0 := rfl
theorem wys_nonneg (two : Bool) (L : List Int) : ∀ k n, 0 ≤ wys two L k n
  | 0, n => by show 0 ≤ (if n = 0 then (1 : Int) else 0); split <;> omega
  | k + 1, n => by
    have h1 := wys_nonneg two L k n
    have h2 := wys_nonneg two L k (n - L.getD k 0)
    have h3 := wys_nonneg two L k (n + L.getD k 0)
    rw [wys_succ]
    split <;> omega
theorem wys_zero (two : Bool) (L : List Int) : ∀ k, 1 ≤ wys two L k 0
  | 0 => Int.le_refl 1
  | k + 1 => by
    have h1 := wys_zero two L k
    have h2 := wys_nonneg two L k (0 - L.getD k 0)
    have h3 := wys_nonneg two L k (0 + L.getD k 0)
    rw [wys_succ]
    split <;> omega
theorem wys_one_two (L : List Int) : ∀ k n, wys false L k n ≤ wys true L k n
  | 0, n => Int.le_refl _
  | k + 1, n => by
    have h1 := wys_one_two L k n
    have h2 := wys_one_two L k (n - L.getD k 0)
    have h3 := wys_nonneg true L k (n + L.getD k 0)
    rw [wys_succ, wys_succ]
    simp only [if_true, Bool.false_eq_true, if_false]
    omega
theorem wys_neg (L : List Int) : ∀ k n, wys true L k (-n) = wys true L k n
  | 0, n => by
    show (if -n = 0 then (1 : Int) else 0) = if n = 0 then 1 else 0
    split <;> split <;> omega
  | k + 1, n => by
    have h1 := wys_neg L k n
    have h2 := wys_neg L k (n - L.getD k 0)
    have h3 := wys_neg L k (n + L.getD k 0)
    have e2 : -(n - L.getD k 0) = -n + L.getD k 0 := by omega
    have e3 : -(n + L.getD k 0) = -n - L.getD k 0 := by omega
    rw [e2] at h2
    rw [e3] at h3
    rw [wys_succ, wys_succ, h1, h2, h3]
    simp only [if_true]
    omega
theorem wys_le (two : Bool) (L : List Int) : ∀ k n, wys two L k n ≤ (3 : Int) ^ k
  | 0, n => by show (if n = 0 then (1 : Int) else 0) ≤ 1; split <;> omega
  | k + 1, n => by
    have h1 := wys_le two L k n
    have h2 := wys_le two L k (n - L.getD k 0)
    have h3 := wys_le two L k (n + L.getD k 0)
    have e : (3 : Int) ^ (k + 1) = (3 : Int) ^ k * 3 := Int.pow_succ 3 k
    have := wys_nonneg two L k n
    rw [wys_succ, e]
    split <;> omega
/-- Beyond the sum of the weights there is no way. -/
theorem wys_out (two : Bool) (L : List Int) (hL : ∀ j, j < L.length → 0 ≤ L.getD j 0) : ∀ k n, k ≤ L.length → (n < -(sumL (L.take k)) ∨ sumL (L.take k) < n) → wys two L k n = 0
  | 0, n, _, h => by
    show (if n = 0 then (1 : Int) else 0) = 0
    rw [if_neg]
    have : sumL (L.take 0) = 0 := by simp [sumL]
    omega
  | k + 1, n, hk, h => by
    have x := hL k (by omega)
    rw [sumL_take (by omega)] at h
    have h1 := wys_out two L hL k n (by omega) (by omega)
    have h2 := wys_out two L hL k (n - L.getD k 0) (by omega) (by omega)
    have h3 := wys_out two L hL k (n + L.getD k 0) (by omega) (by omega)
    rw [wys_succ, h1, h2, h3]
    split <;> rfl
theorem wysL_out (two : Bool) (L : List Int) (hL : ∀ j, j < L.length → 0 ≤ L.getD j 0) (n : Int) (h : n < -(sumL L) ∨ sumL L < n) : wysL two L n = 0 :=
  wys_out two L hL L.length n (Nat.le_refl _) (by rw [sumL_all]; exact h)

/-- The sum of c values from lo on. -/
def sumR (f : Int → Int) (lo : Int) : Nat → Int
  | 0 => 0
  | c + 1 => sumR f lo c + f (lo + c)
theorem sumR_add (f g : Int → Int) (lo : Int) : ∀ c, sumR (fun n => f n + g n) lo c = sumR f lo c + sumR g lo c
  | 0 => rfl
  | c + 1 => by
    have ih := sumR_add f g lo c
    show sumR (fun n => f n + g n) lo c + (f (lo + c) + g (lo + c)) = sumR f lo c + f (lo + c) + (sumR g lo c + g (lo + c))
    omega
theorem sumR_shift (f : Int → Int) (x lo : Int) : ∀ c, sumR (fun n => f (n + x)) lo c = sumR f (lo + x) c
  | 0 => rfl
  | c + 1 => by
    have ih := sumR_shift f x lo c
    have e : lo + (c : Int) + x = lo + x + c := by omega
    show sumR (fun n => f (n + x)) lo c + f (lo + c + x) = sumR f (lo + x) c + f (lo + x + c)
    rw [ih, e]
theorem sumR_nonneg {f : Int → Int} (h : ∀ n, 0 ≤ f n) (lo : Int) : ∀ c, 0 ≤ sumR f lo c
  | 0 => Int.le_refl _
  | c + 1 => Int.add_nonneg (sumR_nonneg h lo c) (h _)
theorem sumR_ge {f : Int → Int} {lo : Int} : ∀ {c : Nat}, (∀ j : Nat, j < c → 1 ≤ f (lo + j)) → (c : Int) ≤ sumR f lo c
  | 0, _ => Int.le_refl _
  | c + 1, h => by
    have ih := sumR_ge (c := c) fun j hj => h j (by omega)
    have := h c (by omega)
    show ((c + 1 : Nat) : Int) ≤ sumR f lo c + f (lo + c)
    omega
theorem sumR_zero (lo : Int) : ∀ c, sumR (fun n => if n = 0 then (1 : Int) else 0) lo c ≤ 1 ∧ (0 < lo ∨ lo + c ≤ 0 → sumR (fun n => if n = 0 then (1 : Int) else 0) lo c = 0)
  | 0 => ⟨by show (0 : Int) ≤ 1; omega, fun _ => rfl⟩
  | c + 1 => by
    obtain ⟨ih, iz⟩ := sumR_zero lo c
    show sumR (fun n => if n = 0 then (1 : Int) else 0) lo c + (if lo + c = 0 then (1 : Int) else 0) ≤ 1 ∧ (_ → sumR (fun n => if n = 0 then (1 : Int) else 0) lo c + (if lo + c = 0 then (1 : Int) else 0) = 0)
    by_cases h : lo + c = 0
    · rw [if_pos h, iz (.inr (by omega))]
      exact ⟨by omega, fun h2 => by omega⟩
    · rw [if_neg h]
      exact ⟨by omega, fun h2 => by rw [iz (by omega)]; rfl⟩
/-- All ways together: two for a weight, or three. -/
theorem wys_all (two : Bool) (L : List Int) : ∀ k lo c, sumR (wys two L k) lo c ≤ (if two then (3 : Int) else 2) ^ k
  | 0, lo, c => by
    have d : wys two L 0 = fun n => if n = 0 then (1 : Int) else 0 := rfl
    rw [d, Int.pow_zero]
    exact (sumR_zero lo c).1
  | k + 1, lo, c => by
    have h1 := wys_all two L k lo c
    have h2 := wys_all two L k (lo + -(L.getD k 0)) c
    have h3 := wys_all two L k (lo + L.getD k 0) c
    have e : (if two then (3 : Int) else 2) ^ (k + 1) = (if two then (3 : Int) else 2) ^ k * (if two then (3 : Int) else 2) := Int.pow_succ _ k
    have s2 := sumR_shift (wys two L k) (-(L.getD k 0)) lo c
    have s3 := sumR_shift (wys two L k) (L.getD k 0) lo c
    rw [e]
    cases two
    · have d : wys false L (k + 1) = fun n => wys false L k n + wys false L k (n + -(L.getD k 0)) := by
        funext n
        rw [wys_succ]
        simp [Int.sub_eq_add_neg]
      rw [d, sumR_add, s2]
      simp only [Bool.false_eq_true, if_false] at h1 h2 ⊢
      omega
    · have d : wys true L (k + 1) = fun n => (wys true L k n + wys true L k (n + -(L.getD k 0))) + wys true L k (n + L.getD k 0) := by
        funext n
        rw [wys_succ]
        simp [Int.sub_eq_add_neg]
      rw [d, sumR_add (fun n => wys true L k n + wys true L k (n + -(L.getD k 0))), sumR_add, s2, s3]
      simp only [if_true] at h1 h2 h3 ⊢
      omega

/-- r is how far f reaches: f is positive from 1 to r, and 0 behind it. -/
structure Reach (f : Int → Int) (r : Int) : Prop where
  r0 : 0 ≤ r
  pos : ∀ i, 1 ≤ i → i ≤ r → 0 < f i
  out : f (r + 1) = 0
theorem Reach.uniq {f : Int → Int} {r s : Int} (h : Reach f r) (g : Reach f s) : r = s := by
  rcases Int.lt_trichotomy r s with h1 | h1 | h1
  · have := g.pos (r + 1) (by have := h.r0; omega) (by omega)
    rw [h.out] at this
    omega
  · exact h1
  · have := h.pos (s + 1) (by have := g.r0; omega) (by omega)
    rw [g.out] at this
    omega
def reachF (f : Int → Int) : Nat → Int → Int
  | 0, n => n
  | t + 1, n => if 0 < f (n + 1) then reachF f t (n + 1) else n
theorem reachF_reach {f : Int → Int} (hf : ∀ n, 0 ≤ f n) : ∀ (t : Nat) (n : Int), 0 ≤ n → (∀ i, 1 ≤ i → i ≤ n → 0 < f i) → f (n + t + 1) = 0 → Reach f (reachF f t n)
  | 0, n, h0, hp, ho => ⟨h0, hp, by have : n + ((0 : Nat) : Int) + 1 = n + 1 := by omega
                                    rw [this] at ho; exact ho⟩
  | t + 1, n, h0, hp, ho => by
    show Reach f (if 0 < f (n + 1) then reachF f t (n + 1) else n)
    split
    · rename_i h
      refine reachF_reach hf t (n + 1) (by omega) (fun i h1 h2 => ?_) ?_
      · rcases Int.lt_or_le n i with h3 | h3
        · obtain rfl : i = n + 1 := by omega
          exact h
        · exact hp i h1 h3
      · have e : n + 1 + (t : Int) + 1 = n + ((t + 1 : Nat) : Int) + 1 := by omega
        rw [e]; exact ho
    · rename_i h
      exact ⟨h0, hp, by have := hf (n + 1); omega⟩
theorem reachF_le (f : Int → Int) : ∀ (t : Nat) (n : Int), n ≤ reachF f t n ∧ reachF f t n ≤ n + t
  | 0, n => by show n ≤ n ∧ n ≤ n + ((0 : Nat) : Int); omega
  | t + 1, n => by
    have ih := reachF_le f t (n + 1)
    show n ≤ (if 0 < f (n + 1) then reachF f t (n + 1) else n) ∧ (if 0 < f (n + 1) then reachF f t (n + 1) else n) ≤ n + ((t + 1 : Nat) : Int)
    split <;> omega

/-! ### Powers of two and of three reach furthest -/
/-- The first n powers of b. -/
def pows (b : Int) (n : Nat) : List Int := (List.range n).map fun j => b ^ j
theorem pows_length (b : Int) (n : Nat) : (pows b n).length = n := by simp [pows]
theorem pows_get {b : Int} {n j : Nat} (h : j < n) : (pows b n).getD j 0 = b ^ j := by
  unfold pows
  rw [List.getD_eq_getElem?_getD, List.getElem?_map, List.getElem?_range h]; rfl
theorem pows_succ (b : Int) (n : Nat) : pows b (n + 1) = pows b n ++ [b ^ n] := by
  unfold pows
  rw [List.range_succ, List.map_append]; rfl
theorem wys_two_pows {L : List Int} (hL : ∀ j, j < L.length → L.getD j 0 = (2 : Int) ^ j) : ∀ k n, k ≤ L.length → (0 < wys false L k n ↔ 0 ≤ n ∧ n < (2 : Int) ^ k)
  | 0, n, _ => by
    show 0 < (if n = 0 then (1 : Int) else 0) ↔ 0 ≤ n ∧ n < 1
    split <;> omega
  | k + 1, n, h => by
    have e : (2 : Int) ^ (k + 1) = (2 : Int) ^ k * 2 := Int.pow_succ _ k
    have h1 := wys_two_pows hL k n (by omega)
    have h2 := wys_two_pows hL k (n - (2 : Int) ^ k) (by omega)
    have n1 := wys_nonneg false L k n
    have n2 := wys_nonneg false L k (n - (2 : Int) ^ k)
    have p : 0 < (2 : Int) ^ k := Int.pow_pos (by decide)
    rw [wys_succ, hL k (by omega), e]
    simp only [Bool.false_eq_true, if_false]
    omega
theorem pow3_odd : ∀ k : Nat, ∃ c : Int, (3 : Int) ^ k = 2 * c + 1
  | 0 => ⟨0, rfl⟩
  | k + 1 => by
    obtain ⟨c, h⟩ := pow3_odd k
    exact ⟨3 * c + 1, by rw [Int.pow_succ, h]; omega⟩
theorem wys_three_pows {L : List Int} (hL : ∀ j, j < L.length → L.getD j 0 = (3 : Int) ^ j) : ∀ k n, k ≤ L.length → (0 < wys true L k n ↔ -((3 : Int) ^ k) < 2 * n ∧ 2 * n < (3 : Int) ^ k)
  | 0, n, _ => by
    show 0 < (if n = 0 then (1 : Int) else 0) ↔ -1 < 2 * n ∧ 2 * n < 1
    split <;> omega
  | k + 1, n, h => by
    have e : (3 : Int) ^ (k + 1) = (3 : Int) ^ k * 3 := Int.pow_succ _ k
    have h1 := wys_three_pows hL k n (by omega)
    have h2 := wys_three_pows hL k (n - (3 : Int) ^ k) (by omega)
    have h3 := wys_three_pows hL k (n + (3 : Int) ^ k) (by omega)
    have n1 := wys_nonneg true L k n
    have n2 := wys_nonneg true L k (n - (3 : Int) ^ k)
    have n3 := wys_nonneg true L k (n + (3 : Int) ^ k)
    have p : 0 < (3 : Int) ^ k := Int.pow_pos (by decide)
    obtain ⟨c, o⟩ := pow3_odd k
    rw [wys_succ, hL k (by omega), e]
    simp only [if_true]
    omega
end Go.Proofs.Ytdnjpekclmiliaa
