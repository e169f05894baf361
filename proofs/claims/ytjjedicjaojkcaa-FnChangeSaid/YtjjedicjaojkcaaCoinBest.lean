/-
  The least numbers of coins, amount by amount; where greedy change is best up to the sum of the two greatest coins, it always is. No program's walk.
-/
import Derived.Test.YtjjedicjaojkcaaCoinSys
namespace Go.Proofs.Ytjjedicjaojkcaa
open Go.ChangeShapes Go.WideShapes Go.ChangeAt Go.RowKit Go.PlainAid

/-! ### How many coins are paid -/
theorem cnt_fuel {L : List Int} {f : Nat → Nat} {n : Nat} (h : Chooses L f n) : ∀ s t r, r ≤ s → r ≤ t → r ≤ n → cnt L f t r = cnt L f s r := by
  intro s
  induction s with
  | zero =>
    intro t r h1 h2 h3
    obtain rfl : r = 0 := by omega
    cases t with
    | zero => rfl
    | succ t => show (if (0 : Nat) = 0 then 0 else _) = 0; rw [if_pos rfl]
  | succ s ih =>
    intro t r h1 h2 h3
    cases t with
    | zero =>
      obtain rfl : r = 0 := by omega
      show 0 = (if (0 : Nat) = 0 then 0 else _)
      rw [if_pos rfl]
    | succ t =>
      show (if r = 0 then 0 else _) = (if r = 0 then 0 else _)
      by_cases e : r = 0
      · rw [if_pos e, if_pos e]
      · rw [if_neg e, if_neg e]
        obtain ⟨h4, h5, h6⟩ := h r (by omega) h3
        rw [ih t _ (by omega) (by omega) (by omega)]
theorem cnt_step {L : List Int} {f : Nat → Nat} {n : Nat} (h : Chooses L f n) {r : Nat} (h0 : 1 ≤ r) (hn : r ≤ n) : cnt L f r r = cnt L f (r - cn L (f r)) (r - cn L (f r)) + 1 := by
  obtain ⟨h4, h5, h6⟩ := h r h0 hn
  obtain ⟨t, rfl⟩ : ∃ t, r = t + 1 := ⟨r - 1, by omega⟩
  show (if t + 1 = 0 then 0 else _) = _
  rw [if_neg (by omega), cnt_fuel h (t + 1 - cn L (f (t + 1))) t _ (Nat.le_refl _) (by omega) (by omega)]
theorem sumL_pays {L : List Int} {f : Nat → Nat} {n : Nat} (h : Chooses L f n) : ∀ t r U, r ≤ t → r ≤ n → U.length = L.length → sumL (pays L f t r U) = sumL U + cnt L f t r
  | 0, r, U, _, _, _ => by show sumL U = sumL U + ((0 : Nat) : Int); omega
  | t + 1, r, U, h1, h2, h3 => by
    unfold pays cnt
    by_cases e : r = 0
    · rw [if_pos e, if_pos e]; omega
    · rw [if_neg e, if_neg e]
      obtain ⟨h4, h5, h6⟩ := h r (by omega) h2
      rw [sumL_pays h t _ _ (by omega) (by omega) (by rw [addAt_length]; exact h3), sumL_addAt (by omega)]
      omega
theorem chooses_greedy {L : List Int} (hP : SysP L) (n : Nat) : Chooses L (gt L) n := fun r h1 _ => by
  obtain ⟨g1, g2, -⟩ := hP.top h1
  exact ⟨g1, (hP.coin g1).2.1, g2⟩
theorem addAt_get {U : List Int} {i k : Nat} (hi : i < U.length) : (addAt U i).getD k 0 = U.getD k 0 + if k = i then 1 else 0 := by
  unfold addAt
  rw [getD_set hi]
  by_cases e : i = k
  · subst e; rw [if_pos rfl, if_pos rfl]
  · rw [if_neg e, if_neg (Ne.symm e)]; omega
theorem pays_greedy {L : List Int} (hP : SysP L) : ∀ t r U, r ≤ t → U.length = L.length → ∀ k, k < L.length → (pays L (gt L) t r U).getD k 0 = U.getD k 0 + gq L r k
  | 0, r, U, h1, _, k, hk => by
    obtain rfl : r = 0 := by omega
    rw [gq_zero hP hk]
    show U.getD k 0 = U.getD k 0 + ((0 : Nat) : Int)
    omega
  | t + 1, r, U, h1, h2, k, hk => by
    unfold pays
    by_cases e : r = 0
    · subst e
      rw [if_pos rfl, gq_zero hP hk]; omega
    · rw [if_neg e]
      obtain ⟨g1, g2, -⟩ := hP.top (r := r) (by omega)
      have g3 := (hP.coin g1).2.1
      rw [pays_greedy hP t _ _ (by omega) (by rw [addAt_length]; exact h2) k hk, addAt_get (by omega), gq_step hP (r := r) (by omega) hk]
      split <;> omega
theorem pays_gL {L : List Int} (hP : SysP L) (r : Nat) : pays L (gt L) r r (List.replicate L.length 0) = gL L r := by
  refine list_ext_getD (by rw [pays_length, List.length_replicate, gL_length]) fun k hk => ?_
  rw [pays_length, List.length_replicate] at hk
  rw [pays_greedy hP r r _ (Nat.le_refl _) (by rw [List.length_replicate]) k hk, gL_get hk, List.getD_eq_getElem?_getD, List.getElem?_replicate, if_pos hk]
  show (0 : Int) + _ = _
  omega
/-- How many coins greedy change is. -/
def gN (L : List Int) (r : Nat) : Nat := cnt L (gt L) r r
theorem sumL_gL {L : List Int} (hP : SysP L) (r : Nat) : sumL (gL L r) = gN L r := by
  rw [← pays_gL hP, sumL_pays (chooses_greedy hP r) r r _ (Nat.le_refl _) (Nat.le_refl _) (by rw [List.length_replicate]), sumL_zeros]
  unfold gN
  omega
theorem gN_step {L : List Int} (hP : SysP L) {r : Nat} (h0 : 1 ≤ r) : gN L r = gN L (r - cn L (gt L r)) + 1 := cnt_step (chooses_greedy hP r) h0 (Nat.le_refl _)
theorem gN_zero (L : List Int) : gN L 0 = 0 := rfl

/-! ### The least numbers -/
/-- The least number for x once the first k coins were tried; b: the least numbers of smaller amounts. -/
def minTo (L : List Int) (b : Nat → Nat) (x : Nat) : Nat → Nat
  | 0 => b (x - 1) + 1
  | k + 1 => if cn L k ≤ x ∧ b (x - cn L k) + 1 < minTo L b x k then b (x - cn L k) + 1 else minTo L b x k
def chTo (L : List Int) (b : Nat → Nat) (x : Nat) : Nat → Nat
  | 0 => 0
  | k + 1 => if cn L k ≤ x ∧ b (x - cn L k) + 1 < minTo L b x k then k else chTo L b x k
def bf (L : List Int) : Nat → Nat → Nat
  | 0 => fun _ => 0
  | n + 1 => fun y => if y = n + 1 then minTo L (bf L n) (n + 1) L.length else bf L n y
def best (L : List Int) (x : Nat) : Nat := bf L x x
def choi (L : List Int) (x : Nat) : Nat := chTo L (best L) x L.length
theorem bf_le (L : List Int) : ∀ n y, y ≤ n → bf L n y = best L y
  | 0, y, h => by obtain rfl : y = 0 := by omega
                  rfl
  | n + 1, y, h => by
    by_cases e : y = n + 1
    · subst e; rfl
    · show (if y = n + 1 then _ else bf L n y) = _
      rw [if_neg e, bf_le L n y (by omega)]
theorem minTo_congr {L : List Int} (hP : SysP L) {b b' : Nat → Nat} {x : Nat} (hx : 1 ≤ x) (h : ∀ y, y < x → b y = b' y) : ∀ k, k ≤ L.length → minTo L b x k = minTo L b' x k
  | 0, _ => by unfold minTo; rw [h _ (by omega)]
  | k + 1, hk => by
    have hc := hP.coin (k := k) (by omega)
    unfold minTo
    rw [minTo_congr hP hx h k (by omega), h (x - cn L k) (by omega)]
theorem best_zero (L : List Int) : best L 0 = 0 := rfl
theorem best_more {L : List Int} (hP : SysP L) {x : Nat} (hx : 1 ≤ x) : best L x = minTo L (best L) x L.length := by
  obtain ⟨n, rfl⟩ : ∃ n, x = n + 1 := ⟨x - 1, by omega⟩
  show (if n + 1 = n + 1 then minTo L (bf L n) (n + 1) L.length else _) = _
  rw [if_pos rfl]
  exact minTo_congr hP hx (fun y hy => bf_le L n y (by omega)) _ (Nat.le_refl _)
theorem minTo_le {L : List Int} {b : Nat → Nat} {x : Nat} : ∀ k, minTo L b x k ≤ b (x - 1) + 1 ∧ ∀ i, i < k → cn L i ≤ x → minTo L b x k ≤ b (x - cn L i) + 1
  | 0 => ⟨Nat.le_refl _, fun i h => by omega⟩
  | k + 1 => by
    obtain ⟨h1, h2⟩ := minTo_le (L := L) (b := b) (x := x) k
    unfold minTo
    split
    · rename_i h
      refine ⟨by omega, fun i hi hc => ?_⟩
      by_cases e : i = k
      · subst e; omega
      · have := h2 i (by omega) hc
        omega
    · rename_i h
      refine ⟨h1, fun i hi hc => ?_⟩
      by_cases e : i = k
      · subst e; omega
      · exact h2 i (by omega) hc
theorem minTo_succ (L : List Int) (b : Nat → Nat) (x k : Nat) : minTo L b x (k + 1) = if cn L k ≤ x ∧ b (x - cn L k) + 1 < minTo L b x k then b (x - cn L k) + 1 else minTo L b x k := rfl
theorem chTo_succ (L : List Int) (b : Nat → Nat) (x k : Nat) : chTo L b x (k + 1) = if cn L k ≤ x ∧ b (x - cn L k) + 1 < minTo L b x k then k else chTo L b x k := rfl
theorem chTo_fits {L : List Int} (hP : SysP L) {b : Nat → Nat} {x : Nat} (hx : 1 ≤ x) : ∀ k, k ≤ L.length → chTo L b x k < L.length ∧ cn L (chTo L b x k) ≤ x ∧ minTo L b x k = b (x - cn L (chTo L b x k)) + 1
  | 0, _ => by
    have := hP.1.1
    unfold chTo minTo
    rw [hP.first]
    exact ⟨by omega, hx, rfl⟩
  | k + 1, hk => by
    obtain ⟨h1, h2, h3⟩ := chTo_fits hP (b := b) hx k (by omega)
    rw [chTo_succ, minTo_succ]
    by_cases h : cn L k ≤ x ∧ b (x - cn L k) + 1 < minTo L b x k
    · rw [if_pos h, if_pos h]
      exact ⟨by omega, h.1, rfl⟩
    · rw [if_neg h, if_neg h]
      exact ⟨h1, h2, h3⟩
theorem chooses_best {L : List Int} (hP : SysP L) (n : Nat) : Chooses L (choi L) n := fun r h1 _ => by
  obtain ⟨g1, g2, -⟩ := chTo_fits hP (b := best L) h1 L.length (Nat.le_refl _)
  exact ⟨g1, (hP.coin g1).2.1, g2⟩
theorem best_step {L : List Int} (hP : SysP L) {r : Nat} (h0 : 1 ≤ r) : best L r = best L (r - cn L (choi L r)) + 1 := by
  rw [best_more hP h0, (chTo_fits hP (b := best L) h0 L.length (Nat.le_refl _)).2.2]
  rfl
theorem best_least {L : List Int} (hP : SysP L) {r i : Nat} (hi : i < L.length) (hc : cn L i ≤ r) : best L r ≤ best L (r - cn L i) + 1 := by
  have := (hP.coin hi).2.1
  rw [best_more hP (by omega)]
  exact (minTo_le L.length).2 i hi hc
theorem best_cnt {L : List Int} (hP : SysP L) : ∀ r, best L r = cnt L (choi L) r r := by
  intro r
  induction r using Nat.strongRecOn with
  | ind r ih =>
    by_cases h : r = 0
    · subst h; rfl
    · obtain ⟨h1, h2, h3⟩ := chooses_best hP r r (by omega) (Nat.le_refl _)
      rw [best_step hP (by omega), cnt_step (chooses_best hP r) (by omega) (Nat.le_refl _), ih _ (by omega)]
theorem sumL_best {L : List Int} (hP : SysP L) {n r : Nat} (f : Nat → Nat) (hf : ∀ x, x ≤ n → f x = choi L x) (hr : r ≤ n) : sumL (pays L f r r (List.replicate L.length 0)) = best L r := by
  have hC : Chooses L f n := fun x h1 h2 => by rw [hf x h2]; exact chooses_best hP n x h1 h2
  have he : ∀ t x, x ≤ t → x ≤ n → cnt L f t x = cnt L (choi L) t x := by
    intro t
    induction t with
    | zero => intro x _ _; rfl
    | succ t ih =>
      intro x h1 h2
      unfold cnt
      by_cases e : x = 0
      · rw [if_pos e, if_pos e]
      · rw [if_neg e, if_neg e, hf x h2]
        obtain ⟨h4, h5, h6⟩ := chooses_best hP n x (by omega) h2
        rw [ih _ (by omega) (by omega)]
  rw [sumL_pays hC r r _ (Nat.le_refl _) hr (by rw [List.length_replicate]), sumL_zeros, he r r (Nat.le_refl _) hr, ← best_cnt hP]
  omega
theorem best_pos {L : List Int} (hP : SysP L) {r : Nat} (h0 : 1 ≤ r) : 1 ≤ best L r := by rw [best_step hP h0]; omega
theorem best_le {L : List Int} (hP : SysP L) : ∀ r, best L r ≤ r := by
  intro r
  induction r using Nat.strongRecOn with
  | ind r ih =>
    by_cases h : r = 0
    · subst h; exact Nat.le_refl _
    · obtain ⟨h1, h2, h3⟩ := chooses_best hP r r (by omega) (Nat.le_refl _)
      have := ih (r - cn L (choi L r)) (by omega)
      rw [best_step hP (by omega)]
      omega
theorem best_greedy {L : List Int} (hP : SysP L) : ∀ r, best L r ≤ gN L r := by
  intro r
  induction r using Nat.strongRecOn with
  | ind r ih =>
    by_cases h : r = 0
    · subst h; exact Nat.le_refl _
    · obtain ⟨h1, h2, h3⟩ := chooses_greedy hP r r (by omega) (Nat.le_refl _)
      have := ih (r - cn L (gt L r)) (by omega)
      have := best_least hP h1 h3
      rw [gN_step hP (by omega)]
      omega
theorem gN_le {L : List Int} (hP : SysP L) : ∀ r, gN L r ≤ r := by
  intro r
  induction r using Nat.strongRecOn with
  | ind r ih =>
    by_cases h : r = 0
    · subst h; exact Nat.le_refl _
    · obtain ⟨h1, h2, h3⟩ := chooses_greedy hP r r (by omega) (Nat.le_refl _)
      have := ih (r - cn L (gt L r)) (by omega)
      rw [gN_step hP (by omega)]
      omega

/-! ### Up to the sum of the two greatest coins -/
/-- From the greatest coin on, greedy change pays that one. -/
theorem gN_top {L : List Int} (hP : SysP L) {r : Nat} (h : cn L (L.length - 1) ≤ r) : gN L r = gN L (r - cn L (L.length - 1)) + 1 := by
  have h0 := hP.1.1
  have hc := (hP.coin (k := L.length - 1) (by omega)).2.1
  obtain ⟨g1, g2, g3⟩ := hP.top (r := r) (by omega)
  have e : gt L r = L.length - 1 := by
    rcases Nat.lt_or_ge (gt L r) (L.length - 1) with h2 | h2
    · have := g3 _ h2 (by omega)
      omega
    · omega
  rw [gN_step hP (by omega), e]
/-- The sum of the two greatest coins. -/
def mostC (L : List Int) : Nat := cn L (L.length - 1) + cn L (L.length - 2)
theorem greedy_always {L : List Int} (hP : SysP L) (h2 : 2 ≤ L.length) (h : ∀ x, x ≤ mostC L → gN L x = best L x) : ∀ r, gN L r = best L r := by
  intro r
  induction r using Nat.strongRecOn with
  | ind r ih =>
    by_cases hm : r ≤ mostC L
    · exact h r hm
    · refine Nat.le_antisymm ?_ (best_greedy hP r)
      have hl := (hP.coin (k := L.length - 1) (by omega)).2.1
      have hl2 := (hP.coin (k := L.length - 2) (by omega)).2.1
      unfold mostC at hm
      obtain ⟨c1, c2, c3⟩ := chooses_best hP r r (by omega) (Nat.le_refl _)
      have hb := best_step hP (r := r) (by omega)
      have hi := ih (r - cn L (choi L r)) (by omega)
      have ht := gN_top hP (r := r) (by omega)
      by_cases e : choi L r = L.length - 1
      · rw [e] at hb hi
        omega
      · have hc := hP.mono (i := choi L r) (j := L.length - 2) (by omega) (by omega)
        have h3 := gN_top hP (r := r - cn L (choi L r)) (by omega)
        have h4 := best_greedy hP (r - cn L (choi L r) - cn L (L.length - 1))
        have h5 := best_least hP (r := r - cn L (L.length - 1)) c1 (by omega)
        have e2 : r - cn L (L.length - 1) - cn L (choi L r) = r - cn L (choi L r) - cn L (L.length - 1) := by omega
        rw [e2] at h5
        have h6 := ih (r - cn L (L.length - 1)) (by omega)
        omega
theorem greedy_one {L : List Int} (hP : SysP L) (h1 : L.length = 1) : ∀ r, gN L r = best L r := by
  intro r
  induction r using Nat.strongRecOn with
  | ind r ih =>
    by_cases h : r = 0
    · subst h; rfl
    · obtain ⟨a1, a2, a3⟩ := chooses_best hP r r (by omega) (Nat.le_refl _)
      obtain ⟨b1, b2, b3⟩ := chooses_greedy hP r r (by omega) (Nat.le_refl _)
      have e : gt L r = choi L r := by omega
      rw [gN_step hP (by omega), best_step hP (by omega), e, ih _ (by omega)]
/-- A coin alone is greedy change. -/
theorem bad_two {L : List Int} (hP : SysP L) {x : Nat} (h : gN L x ≠ best L x) : 2 ≤ best L x := by
  rcases Nat.lt_or_ge x 1 with h0 | h0
  · obtain rfl : x = 0 := by omega
    exact absurd rfl h
  · have hp := best_pos hP h0
    rcases Nat.lt_or_ge (best L x) 2 with h1 | h1
    · exfalso
      apply h
      obtain ⟨c1, c2, c3⟩ := chooses_best hP x x h0 (Nat.le_refl _)
      have hb := best_step hP h0
      have hz : x - cn L (choi L x) = 0 := by
        rcases Nat.lt_or_ge (x - cn L (choi L x)) 1 with h2 | h2
        · omega
        · have := best_pos hP h2
          omega
      obtain ⟨g1, g2, g3⟩ := hP.top h0
      have hg : cn L (gt L x) = x := by
        rcases Nat.lt_or_ge (gt L x) (choi L x) with h2 | h2
        · have := g3 _ h2 c1
          omega
        · have := hP.mono h2 g1
          omega
      rw [gN_step hP h0, hg, Nat.sub_self, gN_zero]
      omega
    · exact h1

/-- The first n from m on, of at most t, at which p; -1 if there is none. -/
def firstP (p : Nat → Bool) : Nat → Nat → Int
  | 0, _ => -1
  | t + 1, m => if p m = true then m else firstP p t (m + 1)
theorem firstP_none {p : Nat → Bool} : ∀ t m, firstP p t m < 0 → ∀ x, m ≤ x → x < m + t → p x = false
  | 0, m, _, x, h1, h2 => by omega
  | t + 1, m, h, x, h1, h2 => by
    unfold firstP at h
    by_cases e : p m = true
    · rw [if_pos e] at h; omega
    · rw [if_neg e] at h
      by_cases e2 : x = m
      · subst e2; simpa using e
      · exact firstP_none t (m + 1) h x (by omega) (by omega)
theorem firstP_some {p : Nat → Bool} : ∀ t m, ¬ firstP p t m < 0 → ∃ x : Nat, firstP p t m = (x : Int) ∧ p x = true ∧ m ≤ x ∧ x < m + t
  | 0, m, h => absurd (show firstP p 0 m < 0 by show (-1 : Int) < 0; decide) h
  | t + 1, m, h => by
    unfold firstP at h ⊢
    by_cases e : p m = true
    · rw [if_pos e]; exact ⟨m, rfl, e, Nat.le_refl _, by omega⟩
    · rw [if_neg e] at h ⊢
      obtain ⟨x, h1, h2, h3, h4⟩ := firstP_some t (m + 1) h
      exact ⟨x, h1, h2, by omega, by omega⟩
theorem firstP_range (p : Nat → Bool) : ∀ t m, -1 ≤ firstP p t m ∧ firstP p t m ≤ ((m + t : Nat) : Int)
  | 0, m => by show (-1 : Int) ≤ -1 ∧ (-1 : Int) ≤ _; omega
  | t + 1, m => by
    have := firstP_range p t (m + 1)
    unfold firstP
    split <;> omega
/-- Is greedy change bad at x? -/
def badAt (L : List Int) (x : Nat) : Bool := decide ((gN L x : Int) ≠ (best L x : Int))
/-- The first amount at which greedy change is bad. -/
def badL (L : List Int) : Int := firstP (badAt L) (mostC L) 1
def badA (L : List Int) : Int := if sysB L = true ∧ 2 ≤ L.length then badL L else -1
theorem badA_no {L : List Int} (h : sysB L = false) : badA L = -1 := if_neg (by rw [h]; simp)
theorem badA_one {L : List Int} (h : ¬ 2 ≤ L.length) : badA L = -1 := if_neg fun g => h g.2
theorem badA_yes {L : List Int} (h : sysB L = true) (h2 : 2 ≤ L.length) : badA L = badL L := if_pos ⟨h, h2⟩
def goodB (L : List Int) : Bool := sysB L && decide (badA L < 0)
theorem most_le {L : List Int} (hP : SysP L) : 1 ≤ mostC L ∧ mostC L ≤ 200 := by
  have h0 := hP.1.1
  have h1 := (hP.coin (k := L.length - 1) (by omega)).2
  have h2 := (hP.coin (k := L.length - 2) (by omega)).2
  unfold mostC
  omega
theorem good_always {L : List Int} (hP : SysP L) (h : badA L < 0) (r : Nat) : gN L r = best L r := by
  by_cases h2 : 2 ≤ L.length
  · rw [badA_yes (decide_eq_true hP) h2] at h
    refine greedy_always hP h2 (fun x hx => ?_) r
    rcases Nat.lt_or_ge x 1 with h0 | h0
    · obtain rfl : x = 0 := by omega
      rfl
    · have := firstP_none _ _ h x h0 (by omega)
      unfold badAt at this
      have := of_decide_eq_false this
      omega
  · exact greedy_one hP (by have := hP.1.1; omega) r
theorem bad_least {L : List Int} (h : ¬ badA L < 0) : ∃ x : Nat, badA L = (x : Int) ∧ x ≤ 200 ∧ 2 ≤ best L x := by
  unfold badA at h ⊢
  by_cases e : sysB L = true ∧ 2 ≤ L.length
  · rw [if_pos e] at h ⊢
    have hP := sysB_P e.1
    obtain ⟨x, h1, h2, h3, h4⟩ := firstP_some _ _ h
    have := most_le hP
    unfold badAt at h2
    have h2 := of_decide_eq_true h2
    exact ⟨x, h1, by omega, bad_two hP (by omega)⟩
  · rw [if_neg e] at h
    exact absurd (by decide) h
theorem badA_range (L : List Int) : -1 ≤ badA L ∧ badA L ≤ 201 := by
  unfold badA
  split
  · rename_i e
    have h1 := most_le (sysB_P e.1)
    have := firstP_range (badAt L) (mostC L) 1
    unfold badL
    omega
  · omega
end Go.Proofs.Ytjjedicjaojkcaa
