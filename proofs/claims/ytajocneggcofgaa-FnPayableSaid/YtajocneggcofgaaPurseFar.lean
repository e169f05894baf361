/-
  With a greatest common divisor of 1, every amount from the product of the least and the greatest coin on is payable. No program's walk.
-/
import Derived.Test.YtajocneggcofgaaPurse
namespace Go.Proofs.Ytajocneggcofgaa

/-! ### How many of the first numbers are in a set -/
def cntY (p : Nat → Bool) : Nat → Nat
  | 0 => 0
  | k + 1 => if p k then cntY p k + 1 else cntY p k
theorem cntY_le (p : Nat → Bool) : ∀ k, cntY p k ≤ k
  | 0 => Nat.le_refl _
  | k + 1 => by
    have := cntY_le p k
    unfold cntY
    split <;> omega
theorem cntY_mono {p q : Nat → Bool} (h : ∀ r, p r = true → q r = true) : ∀ k, cntY p k ≤ cntY q k
  | 0 => Nat.le_refl _
  | k + 1 => by
    have := cntY_mono h k
    unfold cntY
    by_cases e : p k = true
    · rw [if_pos e, if_pos (h k e)]; omega
    · rw [if_neg e]
      split <;> omega
theorem cntY_more {p q : Nat → Bool} (h : ∀ r, p r = true → q r = true) {s : Nat} (h1 : p s = false) (h2 : q s = true) : ∀ k, s < k → cntY p k < cntY q k
  | 0, hk => by omega
  | k + 1, hk => by
    unfold cntY
    by_cases e : s = k
    · subst e
      have := cntY_mono h s
      rw [if_neg (by rw [h1]; decide), if_pos h2]
      omega
    · have := cntY_more h h1 h2 k (by omega)
      by_cases g : p k = true
      · rw [if_pos g, if_pos (h k g)]; omega
      · rw [if_neg g]
        split <;> omega
theorem cntY_full {p : Nat → Bool} : ∀ k, k ≤ cntY p k → ∀ r, r < k → p r = true
  | 0, _, r, hr => by omega
  | k + 1, h, r, hr => by
    have := cntY_le p k
    unfold cntY at h
    split at h
    · rename_i g
      by_cases e : r = k
      · subst e; exact g
      · exact cntY_full k (by omega) r (by omega)
    · omega

/-! ### A set of remainders that is closed under the coins holds all of them -/
/-- The set of remainders by m is closed under adding d. -/
def Clo (p : Nat → Bool) (m d : Nat) : Prop := ∀ r, r < m → p r = true → p ((r + d) % m) = true
theorem clo_zero (p : Nat → Bool) (m : Nat) : Clo p m 0 := fun r hr h => by
  rw [Nat.add_zero, Nat.mod_eq_of_lt hr]; exact h
theorem clo_mod {p : Nat → Bool} {m a b : Nat} (h : Clo p m a) (e : b % m = a % m) : Clo p m b := fun r hr g => by
  have := h r hr g
  rw [Nat.add_mod, ← e, ← Nat.add_mod] at this
  exact this
theorem clo_add {p : Nat → Bool} {m a b : Nat} (ha : Clo p m a) (hb : Clo p m b) : Clo p m (a + b) := fun r hr h => by
  have h1 := hb _ (Nat.mod_lt _ (by omega)) (ha r hr h)
  rw [Nat.mod_add_mod, Nat.add_assoc] at h1
  exact h1
theorem clo_times {p : Nat → Bool} {m a : Nat} (ha : Clo p m a) : ∀ t, Clo p m (t * a)
  | 0 => by rw [Nat.zero_mul]; exact clo_zero p m
  | t + 1 => by
    rw [Nat.add_mul, Nat.one_mul]
    exact clo_add (clo_times ha t) ha
theorem clo_rest {p : Nat → Bool} {m a b : Nat} (hm : 1 ≤ m) (ha : Clo p m a) (hb : Clo p m b) : Clo p m (b % a) := by
  have h1 : Clo p m (b + (m - 1) * (b / a) * a) := clo_add hb (clo_times ha _)
  refine clo_mod h1 ?_
  have e : b + (m - 1) * (b / a) * a = b % a + m * (a * (b / a)) := by
    have h2 := Nat.mod_add_div b a
    have h3 : (m - 1) * (b / a) * a = (m - 1) * (a * (b / a)) := by rw [Nat.mul_assoc, Nat.mul_comm (b / a) a]
    have h4 : m * (a * (b / a)) = (m - 1) * (a * (b / a)) + a * (b / a) := by
      obtain ⟨k, rfl⟩ : ∃ k, m = k + 1 := ⟨m - 1, by omega⟩
      rw [Nat.add_sub_cancel, Nat.add_mul, Nat.one_mul]
    omega
  rw [e, Nat.add_mul_mod_self_left]
theorem clo_gcd {p : Nat → Bool} {m : Nat} (hm : 1 ≤ m) : ∀ a b, Clo p m a → Clo p m b → Clo p m (Nat.gcd a b) := by
  intro a b
  induction a, b using Nat.gcd.induction with
  | H0 n => intro _ h; rw [Nat.gcd_zero_left]; exact h
  | H1 a b _ ih =>
    intro ha hb
    rw [Nat.gcd_rec]
    exact ih (clo_rest hm ha hb) ha
theorem clo_all {p : Nat → Bool} {m : Nat} {L : List Int} (hm : 1 ≤ m) (hc : ∀ k, k < L.length → Clo p m (cn L k)) : ∀ k, k ≤ L.length → Clo p m (gcdTo L k)
  | 0, _ => clo_zero p m
  | k + 1, hk => clo_gcd hm _ _ (clo_all hm hc k (by omega)) (hc k (by omega))
theorem clo_one {p : Nat → Bool} {m : Nat} (h0 : p 0 = true) (h : Clo p m 1) : ∀ r, r < m → p r = true
  | 0, _ => h0
  | r + 1, hr => by
    have := h r (by omega) (clo_one h0 h r (by omega))
    rw [Nat.mod_eq_of_lt hr] at this
    exact this

/-! ### Remainders of small payable amounts -/
/-- Some payable amount up to b has the remainder r. -/
def remB (L : List Int) (m b r : Nat) : Bool := (List.range (b + 1)).any fun y => payB L y && decide (y % m = r)
theorem remB_true {L : List Int} {m b r : Nat} : remB L m b r = true ↔ ∃ y, y ≤ b ∧ payB L y = true ∧ y % m = r := by
  unfold remB
  rw [List.any_eq_true]
  constructor
  · rintro ⟨y, h1, h2⟩
    rw [Bool.and_eq_true, decide_eq_true_iff] at h2
    exact ⟨y, by have := List.mem_range.1 h1; omega, h2⟩
  · rintro ⟨y, h1, h2⟩
    exact ⟨y, List.mem_range.2 (by omega), by rw [Bool.and_eq_true, decide_eq_true_iff]; exact h2⟩
theorem remB_more {L : List Int} {m b c : Nat} (h : b ≤ c) (r : Nat) (g : remB L m b r = true) : remB L m c r = true := by
  rw [remB_true] at g ⊢
  obtain ⟨y, h1, h2⟩ := g
  exact ⟨y, by omega, h2⟩
/-- Step by step there are more remainders, until there are all. -/
theorem rem_grow {L : List Int} (hP : PursP L) (hd : dv L = 1) {m M : Nat} (hm : 1 ≤ m) (hM : ∀ k, k < L.length → cn L k ≤ M) : ∀ j, (∀ r, r < m → remB L m (j * M) r = true) ∨ j + 1 ≤ cntY (remB L m (j * M)) m
  | 0 => by
    refine .inr ?_
    have h1 : remB L m (0 * M) 0 = true := remB_true.2 ⟨0, Nat.zero_le _, rfl, Nat.zero_mod m⟩
    have := cntY_more (p := fun _ => false) (q := remB L m (0 * M)) (fun r h => by cases h) rfl h1 m (by omega)
    omega
  | j + 1 => by
    have hle : j * M ≤ (j + 1) * M := Nat.mul_le_mul_right M (by omega)
    rcases rem_grow hP hd hm hM j with h | h
    · exact .inl fun r hr => remB_more hle r (h r hr)
    · by_cases hc : ∀ k, k < L.length → ∀ r, r < m → remB L m (j * M) r = true → remB L m (j * M) ((r + cn L k) % m) = true
      · refine .inl fun r hr => remB_more hle r ?_
        have h1 := clo_all (p := remB L m (j * M)) (m := m) hm (fun k hk => hc k hk) L.length (Nat.le_refl _)
        have h2 : Clo (remB L m (j * M)) m 1 := hd ▸ h1
        exact clo_one (remB_true.2 ⟨0, Nat.zero_le _, rfl, Nat.zero_mod m⟩) h2 r hr
      · refine .inr ?_
        obtain ⟨k, hk, r, hr, h1, h2⟩ : ∃ k, k < L.length ∧ ∃ r, r < m ∧ remB L m (j * M) r = true ∧ remB L m (j * M) ((r + cn L k) % m) = false := by
          refine Classical.byContradiction fun g => hc fun k hk r hr h1 => ?_
          rcases e : remB L m (j * M) ((r + cn L k) % m) with _ | _
          · exact absurd ⟨k, hk, r, hr, h1, e⟩ g
          · rfl
        have h3 : remB L m ((j + 1) * M) ((r + cn L k) % m) = true := by
          obtain ⟨y, y1, y2, y3⟩ := remB_true.1 h1
          refine remB_true.2 ⟨y + cn L k, ?_, payB_add hP hk y2, ?_⟩
          · have := hM k hk
            rw [Nat.add_mul, Nat.one_mul]
            omega
          · rw [← y3, Nat.mod_add_mod]
        have := cntY_more (remB_more hle) h2 h3 m (Nat.mod_lt _ (by omega))
        omega
theorem payB_times {L : List Int} (hP : PursP L) {x k : Nat} (hk : k < L.length) (h : payB L x = true) : ∀ t, payB L (x + t * cn L k) = true
  | 0 => by rw [Nat.zero_mul]; exact h
  | t + 1 => by
    rw [Nat.add_mul, Nat.one_mul, ← Nat.add_assoc]
    exact payB_add hP hk (payB_times hP hk h t)
/-- From the product of the least and the greatest coin on, all is payable. -/
theorem far_pay {L : List Int} (hP : PursP L) (hd : dv L = 1) {x : Nat} (hx : cn L 0 * cn L (L.length - 1) ≤ x) : payB L x = true := by
  have hn := hP.1
  have h0 := (hP.coin (k := 0) (by omega)).2
  obtain ⟨m, hm⟩ : ∃ m, cn L 0 = m := ⟨_, rfl⟩
  obtain ⟨M, hM⟩ : ∃ M, cn L (L.length - 1) = M := ⟨_, rfl⟩
  rw [hm] at h0 hx
  rw [hM] at hx
  have hall : ∀ r, r < m → remB L m (m * M) r = true := by
    rcases rem_grow hP hd (m := m) (M := M) (by omega) (fun k hk => by rw [← hM]; exact hP.mono (by omega) (by omega)) m with h | h
    · exact h
    · have := cntY_le (remB L m (m * M)) m
      omega
  obtain ⟨y, y1, y2, y3⟩ := remB_true.1 (hall (x % m) (Nat.mod_lt _ (by omega)))
  have h1 := Nat.mod_add_div x m
  have h2 := Nat.mod_add_div y m
  have h3 : y / m ≤ x / m := Nat.div_le_div_right (by omega)
  have h4 : x = y + (x / m - y / m) * cn L 0 := by
    rw [hm, Nat.sub_mul, Nat.mul_comm (x / m), Nat.mul_comm (y / m)]
    have := Nat.mul_le_mul_left m h3
    omega
  rw [h4]
  exact payB_times hP (by omega) y2 _
/-- The model's table and the program's tell the same. -/
theorem far_same {L : List Int} (hP : PursP L) (hd : dv L = 1) : lastP (payB L) 401 = lastP (payB L) (cn L 0 * cn L (L.length - 1) + 1) ∧ cntP (payB L) 401 = cntP (payB L) (cn L 0 * cn L (L.length - 1) + 1) := by
  have hn := hP.1
  have h0 := (hP.coin (k := 0) (by omega)).2
  have h1 := (hP.coin (k := L.length - 1) (by omega)).2
  have hle : cn L 0 * cn L (L.length - 1) ≤ 400 := Nat.mul_le_mul (by omega : cn L 0 ≤ 20) (by omega : cn L (L.length - 1) ≤ 20)
  obtain ⟨d, hd2⟩ : ∃ d, cn L 0 * cn L (L.length - 1) + 1 + d = 401 := ⟨400 - cn L 0 * cn L (L.length - 1), by omega⟩
  rw [← hd2]
  exact lastP_more d fun x h1 _ => far_pay hP hd (by omega)
end Go.Proofs.Ytajocneggcofgaa
