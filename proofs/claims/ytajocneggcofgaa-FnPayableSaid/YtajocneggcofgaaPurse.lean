/-
  Valid purses; the greatest common divisor of the coins; payable amounts; the last that is not payable, and how many are not. No program's walk.
-/
import Derived.Test.YtajocneggcofgaaInts
namespace Go.Proofs.Ytajocneggcofgaa

/-- The coin at j is in the range and greater than the one before. -/
def FineQ (L : List Int) (j : Nat) : Prop := (2 ≤ L.getD j 0 ∧ L.getD j 0 ≤ 20) ∧ (0 < j → L.getD (j - 1) 0 < L.getD j 0)
def PursP (L : List Int) : Prop := (1 ≤ L.length ∧ L.length ≤ 4) ∧ ∀ j, j < L.length → FineQ L j
instance (L : List Int) (j : Nat) : Decidable (FineQ L j) := by unfold FineQ; infer_instance
instance (L : List Int) : Decidable (PursP L) := by unfold PursP; infer_instance
def pursB (L : List Int) : Bool := decide (PursP L)
theorem pursB_yes {L : List Int} (h0 : 1 ≤ L.length ∧ L.length ≤ 4) (h : ∀ j, j < L.length → FineQ L j) : pursB L = true := decide_eq_true ⟨h0, h⟩
theorem pursB_no {L : List Int} {j : Nat} (hj : j < L.length) (h : ¬ FineQ L j) : pursB L = false := decide_eq_false fun g => h (g.2 j hj)
theorem pursB_len {L : List Int} (h : ¬ (1 ≤ L.length ∧ L.length ≤ 4)) : pursB L = false := decide_eq_false fun g => h g.1
theorem pursB_P {L : List Int} (h : pursB L = true) : PursP L := of_decide_eq_true h

theorem asc_le {L : List Int} {n : Nat} (h : ∀ j, 0 < j → j < n → L.getD (j - 1) 0 < L.getD j 0) : ∀ d i, i + d < n → L.getD i 0 + d ≤ L.getD (i + d) 0
  | 0, i, _ => by simp
  | d + 1, i, hi => by
    have h1 := asc_le h d i (by omega)
    have h2 := h (i + (d + 1)) (by omega) hi
    have e : i + (d + 1) - 1 = i + d := by omega
    rw [e] at h2
    omega
/-- Ascending from at least 2 to at most 20. -/
theorem pursP_ends {L : List Int} (h0 : 1 ≤ L.length ∧ L.length ≤ 4) (ha : ∀ j, 0 < j → j < L.length → L.getD (j - 1) 0 < L.getD j 0) (h1 : 2 ≤ L.getD 0 0) (hl : L.getD (L.length - 1) 0 ≤ 20) : PursP L := by
  refine ⟨h0, fun j hj => ⟨?_, fun g => ha j g hj⟩⟩
  have a := asc_le ha j 0 (by omega)
  have b := asc_le ha (L.length - 1 - j) j (by omega)
  have e : j + (L.length - 1 - j) = L.length - 1 := by omega
  rw [e] at b
  rw [Nat.zero_add] at a
  omega
/-- The coin at k. -/
def cn (L : List Int) (k : Nat) : Nat := (L.getD k 0).toNat
theorem PursP.coin {L : List Int} (h : PursP L) {k : Nat} (hk : k < L.length) : L.getD k 0 = (cn L k : Int) ∧ 2 ≤ cn L k ∧ cn L k ≤ 20 := by
  have := (h.2 k hk).1
  unfold cn
  omega
theorem PursP.mono {L : List Int} (h : PursP L) {i j : Nat} (hi : i ≤ j) (hj : j < L.length) : cn L i ≤ cn L j := by
  have h1 := asc_le (n := L.length) (fun j h0 hj => (h.2 j hj).2 h0) (j - i) i (by omega)
  have e : i + (j - i) = j := by omega
  rw [e, (h.coin (k := i) (by omega)).1, (h.coin hj).1] at h1
  omega

/-! ### The greatest common divisor -/
def gcdTo (L : List Int) : Nat → Nat
  | 0 => 0
  | k + 1 => Nat.gcd (gcdTo L k) (cn L k)
def dv (L : List Int) : Nat := gcdTo L L.length
theorem gcdTo_dvd {L : List Int} : ∀ k j, j < k → gcdTo L k ∣ cn L j
  | 0, j, h => by omega
  | k + 1, j, h => by
    by_cases e : j = k
    · subst e; exact Nat.gcd_dvd_right _ _
    · exact Nat.dvd_trans (Nat.gcd_dvd_left _ _) (gcdTo_dvd k j (by omega))
theorem PursP.gcdTo_le {L : List Int} (h : PursP L) : ∀ k, k ≤ L.length → gcdTo L k ≤ 20
  | 0, _ => by unfold gcdTo; omega
  | k + 1, hk => by
    have h1 := h.coin (k := k) (by omega)
    have := Nat.le_of_dvd (by omega) (gcdTo_dvd (k + 1) k (by omega) : gcdTo L (k + 1) ∣ cn L k)
    omega
theorem PursP.dv_pos {L : List Int} (h : PursP L) : 1 ≤ dv L ∧ dv L ≤ 20 := by
  have h1 := h.coin (k := 0) (by have := h.1; omega)
  have h2 := Nat.pos_of_dvd_of_pos (gcdTo_dvd L.length 0 (by have := h.1; omega) : dv L ∣ cn L 0) (by omega)
  have h3 := h.gcdTo_le L.length (Nat.le_refl _)
  exact ⟨h2, h3⟩
theorem gcd_cast (a b : Nat) : (Int.gcd (a : Int) (b : Int) : Int) = (Nat.gcd a b : Nat) := by simp [Int.gcd]
/-- What CommonDivisor answers. -/
def divA (L : List Int) : Int := if pursB L then (dv L : Int) else 0

/-! ### Payable amounts -/
/-- One of the first k coins fits into x, and f holds of the rest. -/
def anyTo (L : List Int) (x : Nat) (f : Nat → Bool) : Nat → Bool
  | 0 => false
  | k + 1 => anyTo L x f k || (decide (cn L k ≤ x) && f (x - cn L k))
def payF (L : List Int) : Nat → Nat → Bool
  | 0, x => decide (x = 0)
  | t + 1, x => decide (x = 0) || anyTo L x (payF L t) L.length
/-- x is a sum of coins. -/
def payB (L : List Int) (x : Nat) : Bool := payF L x x
theorem anyTo_congr {L : List Int} {x : Nat} {f g : Nat → Bool} (h : ∀ y, y < x → f y = g y) : ∀ k, (∀ j, j < k → 1 ≤ cn L j) → anyTo L x f k = anyTo L x g k
  | 0, _ => rfl
  | k + 1, hc => by
    unfold anyTo
    rw [anyTo_congr h k fun j hj => hc j (by omega)]
    by_cases e : cn L k ≤ x
    · have := hc k (by omega)
      rw [h (x - cn L k) (by omega)]
    · rw [decide_eq_false e, Bool.false_and, Bool.false_and]
theorem anyTo_true {L : List Int} {x : Nat} {f : Nat → Bool} : ∀ k, anyTo L x f k = true ↔ ∃ j, j < k ∧ cn L j ≤ x ∧ f (x - cn L j) = true
  | 0 => by
    constructor
    · intro h; cases h
    · rintro ⟨j, h, -⟩; omega
  | k + 1 => by
    unfold anyTo
    rw [Bool.or_eq_true, Bool.and_eq_true, decide_eq_true_iff, anyTo_true k]
    constructor
    · rintro (⟨j, h1, h2⟩ | h)
      · exact ⟨j, by omega, h2⟩
      · exact ⟨k, by omega, h⟩
    · rintro ⟨j, h1, h2⟩
      by_cases e : j = k
      · subst e; exact .inr h2
      · exact .inl ⟨j, by omega, h2⟩
theorem PursP.ones {L : List Int} (h : PursP L) : ∀ j, j < L.length → 1 ≤ cn L j := fun j hj => by
  have := h.coin hj
  omega
theorem payF_fuel {L : List Int} (hP : PursP L) : ∀ t s x, x ≤ t → x ≤ s → payF L t x = payF L s x := by
  intro t
  induction t with
  | zero =>
    intro s x h1 h2
    obtain rfl : x = 0 := by omega
    cases s with
    | zero => rfl
    | succ s => unfold payF; rfl
  | succ t ih =>
    intro s x h1 h2
    cases s with
    | zero =>
      obtain rfl : x = 0 := by omega
      unfold payF; rfl
    | succ s =>
      show (decide (x = 0) || anyTo L x (payF L t) L.length) = (decide (x = 0) || anyTo L x (payF L s) L.length)
      rw [anyTo_congr (fun y hy => ih s y (by omega) (by omega)) _ hP.ones]
theorem payB_zero (L : List Int) : payB L 0 = true := rfl
theorem payB_step {L : List Int} (hP : PursP L) {x : Nat} (hx : 1 ≤ x) : payB L x = anyTo L x (payB L) L.length := by
  obtain ⟨t, rfl⟩ : ∃ t, x = t + 1 := ⟨x - 1, by omega⟩
  show (decide (t + 1 = 0) || anyTo L (t + 1) (payF L t) L.length) = _
  rw [decide_eq_false (by omega), Bool.false_or]
  exact anyTo_congr (fun y hy => payF_fuel hP _ _ _ (by omega) (Nat.le_refl _)) _ hP.ones
theorem payB_add {L : List Int} (hP : PursP L) {x k : Nat} (hk : k < L.length) (h : payB L x = true) : payB L (x + cn L k) = true := by
  have := hP.ones k hk
  rw [payB_step hP (by omega), anyTo_true]
  exact ⟨k, hk, by omega, by rw [Nat.add_sub_cancel]; exact h⟩
theorem payB_less {L : List Int} (hP : PursP L) {x : Nat} (hx : 1 ≤ x) (h : payB L x = true) : ∃ k, k < L.length ∧ cn L k ≤ x ∧ payB L (x - cn L k) = true := by
  rw [payB_step hP hx, anyTo_true] at h
  exact h
theorem payB_dvd {L : List Int} (hP : PursP L) : ∀ x, payB L x = true → dv L ∣ x := by
  intro x
  induction x using Nat.strongRecOn with
  | ind x ih =>
    intro h
    by_cases e : x = 0
    · subst e; exact Nat.dvd_zero _
    · obtain ⟨k, hk, h1, h2⟩ := payB_less hP (by omega) h
      have h3 := hP.ones k hk
      have h4 := ih _ (by omega) h2
      have h5 := Nat.dvd_add h4 (gcdTo_dvd L.length k hk : dv L ∣ cn L k)
      rw [Nat.sub_add_cancel h1] at h5
      exact h5
theorem payB_one {L : List Int} (hP : PursP L) : payB L 1 = false := by
  rcases e : payB L 1 with _ | _
  · rfl
  · obtain ⟨k, hk, h1, -⟩ := payB_less hP (by omega) e
    have := (hP.coin hk).2
    omega

/-! ### The table, while it is filled -/
/-- Below x all is known. -/
def bst (L : List Int) (x y : Nat) : Bool := (decide (y < x) && payB L y) || decide (y = 0)
/-- And at x what the first k coins tell. -/
def bin (L : List Int) (x k y : Nat) : Bool := if y = x then decide (x = 0) || anyTo L x (payB L) k else bst L x y
def upd (f : Nat → Bool) (j : Nat) (z : Bool) (y : Nat) : Bool := if y = j then z else f y
theorem bst_zero (L : List Int) : upd (fun _ => false) 0 true = bst L 0 := by
  funext y
  unfold upd bst
  by_cases e : y = 0
  · subst e; rfl
  · rw [if_neg e, decide_eq_false e, decide_eq_false (by omega)]; rfl
theorem bst_one (L : List Int) : bst L 0 = bst L 1 := by
  funext y
  unfold bst
  by_cases e : y = 0
  · subst e; rfl
  · rw [decide_eq_false e, decide_eq_false (show ¬ y < 0 by omega), decide_eq_false (show ¬ y < 1 by omega)]
theorem bin_zero (L : List Int) (x : Nat) : bin L x 0 = bst L x := by
  funext y
  unfold bin bst
  by_cases e : y = x
  · subst e
    rw [if_pos rfl, decide_eq_false (Nat.lt_irrefl y), Bool.false_and, Bool.false_or]
    unfold anyTo
    rw [Bool.or_false]
  · rw [if_neg e]
theorem bin_end {L : List Int} (hP : PursP L) (x : Nat) : bin L x L.length = bst L (x + 1) := by
  funext y
  unfold bin bst
  by_cases e : y = x
  · subst e
    rw [if_pos rfl, decide_eq_true (Nat.lt_succ_self y), Bool.true_and]
    by_cases h0 : y = 0
    · subst h0; rw [decide_eq_true rfl, Bool.true_or, Bool.or_true]
    · rw [decide_eq_false h0, Bool.false_or, Bool.or_false, payB_step hP (by omega)]
  · rw [if_neg e]
    by_cases h1 : y < x
    · rw [decide_eq_true h1, decide_eq_true (show y < x + 1 by omega)]
    · rw [decide_eq_false h1, decide_eq_false (show ¬ y < x + 1 by omega)]
theorem bin_below {L : List Int} {x k y : Nat} (h : y < x) : bin L x k y = payB L y := by
  unfold bin bst
  rw [if_neg (by omega), decide_eq_true h, Bool.true_and]
  by_cases e : y = 0
  · subst e; rfl
  · rw [decide_eq_false e, Bool.or_false]
theorem bin_yes {L : List Int} {x k : Nat} (h : cn L k ≤ x) (h2 : payB L (x - cn L k) = true) : upd (bin L x k) x true = bin L x (k + 1) := by
  funext y
  unfold upd bin
  by_cases e : y = x
  · rw [if_pos e, if_pos e]
    unfold anyTo
    rw [decide_eq_true h, h2, Bool.and_true, Bool.or_true, Bool.or_true]
  · rw [if_neg e, if_neg e, if_neg e]
theorem bin_no {L : List Int} {x k : Nat} (h : (decide (cn L k ≤ x) && payB L (x - cn L k)) = false) : bin L x k = bin L x (k + 1) := by
  funext y
  unfold bin
  by_cases e : y = x
  · rw [if_pos e, if_pos e]
    show _ = (_ || (anyTo L x (payB L) k || (decide (cn L k ≤ x) && payB L (x - cn L k))))
    rw [h, Bool.or_false]
  · rw [if_neg e, if_neg e]
theorem bin_at (L : List Int) (x k : Nat) : bin L x k x = (decide (x = 0) || anyTo L x (payB L) k) := by unfold bin; rw [if_pos rfl]
theorem bin_has {L : List Int} {x k : Nat} (h : bin L x k x = true) : bin L x k = bin L x (k + 1) := by
  funext y
  rw [bin_at] at h
  unfold bin
  by_cases e : y = x
  · rw [if_pos e, if_pos e]
    show _ = (_ || (anyTo L x (payB L) k || (decide (cn L k ≤ x) && payB L (x - cn L k))))
    rw [← Bool.or_assoc, h, Bool.true_or]
  · rw [if_neg e, if_neg e]
theorem upd_same {f : Nat → Bool} {j : Nat} {z : Bool} (h : f j = z) : upd f j z = f := by
  funext y
  unfold upd
  by_cases e : y = j
  · subst e; rw [if_pos rfl, h]
  · rw [if_neg e]
theorem bst_all {L : List Int} {M y : Nat} (h : y < M) : bst L M y = payB L y := by
  unfold bst
  rw [decide_eq_true h, Bool.true_and]
  by_cases e : y = 0
  · subst e; rfl
  · rw [decide_eq_false e, Bool.or_false]

/-! ### The last place where p fails, and how many there are -/
def lastP (p : Nat → Bool) : Nat → Int
  | 0 => -1
  | k + 1 => if p k then lastP p k else k
def cntP (p : Nat → Bool) : Nat → Nat
  | 0 => 0
  | k + 1 => if p k then cntP p k else cntP p k + 1
def noP (p : Nat → Bool) : Nat → List Int
  | 0 => []
  | k + 1 => if p k then noP p k else noP p k ++ [(k : Int)]
theorem noP_length (p : Nat → Bool) : ∀ k, (noP p k).length = cntP p k
  | 0 => rfl
  | k + 1 => by
    unfold noP cntP
    cases p k
    · rw [if_neg (by simp), if_neg (by simp), List.length_append, noP_length p k]; rfl
    · rw [if_pos rfl, if_pos rfl, noP_length p k]
theorem cntP_le (p : Nat → Bool) : ∀ k, cntP p k ≤ k
  | 0 => Nat.le_refl _
  | k + 1 => by
    have := cntP_le p k
    unfold cntP
    split <;> omega
theorem noP_last (p : Nat → Bool) : ∀ k, 0 < cntP p k → (noP p k).getD (cntP p k - 1) 0 = lastP p k
  | 0, h => by cases h
  | k + 1, h => by
    unfold cntP at h
    unfold noP cntP lastP
    cases e : p k
    · rw [if_neg (by simp), if_neg (by simp), if_neg (by simp), Nat.add_sub_cancel, ← noP_length p k, List.getD_eq_getElem?_getD, List.getElem?_append_right (Nat.le_refl _), Nat.sub_self]
      rfl
    · rw [if_pos rfl, if_pos rfl, if_pos rfl]
      rw [if_pos e] at h
      exact noP_last p k h
theorem lastP_range (p : Nat → Bool) : ∀ k, -1 ≤ lastP p k ∧ lastP p k < k
  | 0 => by unfold lastP; omega
  | k + 1 => by
    have := lastP_range p k
    unfold lastP
    split <;> omega
theorem lastP_ge {p : Nat → Bool} {x : Nat} (h : p x = false) : ∀ k, x < k → (x : Int) ≤ lastP p k
  | 0, hk => by omega
  | k + 1, hk => by
    unfold lastP
    split
    · rename_i h1
      have : x ≠ k := fun e => by subst e; rw [h] at h1; cases h1
      exact lastP_ge h k (by omega)
    · omega
theorem cntP_pos {p : Nat → Bool} {x : Nat} (h : p x = false) : ∀ k, x < k → 0 < cntP p k
  | 0, hk => by omega
  | k + 1, hk => by
    unfold cntP
    split
    · rename_i h1
      have : x ≠ k := fun e => by subst e; rw [h] at h1; cases h1
      exact cntP_pos h k (by omega)
    · omega
theorem lastP_more {p : Nat → Bool} {a : Nat} : ∀ d, (∀ x, a ≤ x → x < a + d → p x = true) → lastP p (a + d) = lastP p a ∧ cntP p (a + d) = cntP p a
  | 0, _ => ⟨rfl, rfl⟩
  | d + 1, h => by
    obtain ⟨h1, h2⟩ := lastP_more d fun x h1 h2 => h x h1 (by omega)
    have h3 := h (a + d) (by omega) (by omega)
    show (if p (a + d) then lastP p (a + d) else ((a + d : Nat) : Int)) = _ ∧ (if p (a + d) then cntP p (a + d) else cntP p (a + d) + 1) = _
    rw [if_pos h3, if_pos h3]
    exact ⟨h1, h2⟩
theorem lastP_congr {p q : Nat → Bool} : ∀ k, (∀ x, x < k → p x = q x) → lastP p k = lastP q k ∧ cntP p k = cntP q k
  | 0, _ => ⟨rfl, rfl⟩
  | k + 1, h => by
    obtain ⟨h1, h2⟩ := lastP_congr k fun x hx => h x (by omega)
    unfold lastP cntP
    rw [h k (by omega), h1, h2]
    exact ⟨rfl, rfl⟩

/-! ### What the functions answer -/
def lrgA (L : List Int) : Int := if divA L = 1 then lastP (payB L) 401 else -1
def cuA (L : List Int) : Int := if divA L = 1 then (cntP (payB L) 401 : Int) else -1
def payA (L : List Int) (m : Int) : Bool := pursB L && (decide (0 ≤ m ∧ m ≤ 1000) && payB L m.toNat)
def exA (L : List Int) (m : Int) : Bool := pursB L && (decide (-1000 ≤ m ∧ m ≤ 1000) && decide (m.tmod (dv L) = 0))
theorem divA_yes {L : List Int} (h : pursB L = true) : divA L = (dv L : Int) := by unfold divA; rw [if_pos h]
theorem divA_no {L : List Int} (h : pursB L = false) : divA L = 0 := by unfold divA; rw [if_neg (by rw [h]; decide)]
theorem divA_one {L : List Int} (h : divA L = 1) : PursP L ∧ dv L = 1 := by
  rcases e : pursB L with _ | _
  · rw [divA_no e] at h; cases h
  · rw [divA_yes e] at h
    exact ⟨pursB_P e, by omega⟩
end Go.Proofs.Ytajocneggcofgaa
