/-
  Valid systems of coins; greedy change; the least numbers of coins; the numbers of ways. No program's walk.
-/
import Derived.Test.YtjjedicjaojkcaaSums
namespace Go.Proofs.Ytjjedicjaojkcaa
open Go.ChangeShapes Go.WideShapes Go.ChangeAt Go.RowKit Go.PlainAid

/-- The coin at j is in the range and greater than the one before. -/
def FineC (L : List Int) (j : Nat) : Prop := (1 ≤ L.getD j 0 ∧ L.getD j 0 ≤ 100) ∧ (0 < j → L.getD (j - 1) 0 < L.getD j 0)
def SysP (L : List Int) : Prop := ((1 ≤ L.length ∧ L.length ≤ 6) ∧ L.getD 0 0 = 1) ∧ ∀ j, j < L.length → FineC L j
instance (L : List Int) (j : Nat) : Decidable (FineC L j) := by unfold FineC; infer_instance
instance (L : List Int) : Decidable (SysP L) := by unfold SysP; infer_instance
def sysB (L : List Int) : Bool := decide (SysP L)
theorem sysB_yes {L : List Int} (h0 : 1 ≤ L.length ∧ L.length ≤ 6) (h1 : L.getD 0 0 = 1) (h : ∀ j, j < L.length → FineC L j) : sysB L = true := decide_eq_true ⟨⟨h0, h1⟩, h⟩
theorem sysB_no {L : List Int} {j : Nat} (hj : j < L.length) (h : ¬ FineC L j) : sysB L = false := decide_eq_false fun g => h (g.2 j hj)
theorem sysB_len {L : List Int} (h : ¬ (1 ≤ L.length ∧ L.length ≤ 6)) : sysB L = false := decide_eq_false fun g => h g.1.1
theorem sysB_one {L : List Int} (h : ¬ L.getD 0 0 = 1) : sysB L = false := decide_eq_false fun g => h g.1.2
theorem sysB_P {L : List Int} (h : sysB L = true) : SysP L := of_decide_eq_true h

theorem coin_asc_le {L : List Int} {n : Nat} (h : ∀ j, 0 < j → j < n → L.getD (j - 1) 0 < L.getD j 0) : ∀ d i, i + d < n → L.getD i 0 + d ≤ L.getD (i + d) 0
  | 0, i, _ => by simp
  | d + 1, i, hi => by
    have h1 := coin_asc_le h d i (by omega)
    have h2 := h (i + (d + 1)) (by omega) hi
    have e : i + (d + 1) - 1 = i + d := by omega
    rw [e] at h2
    omega
/-- Ascending from 1 to at most 100. -/
theorem sysP_ends {L : List Int} (h0 : 1 ≤ L.length ∧ L.length ≤ 6) (h1 : L.getD 0 0 = 1) (ha : ∀ j, 0 < j → j < L.length → L.getD (j - 1) 0 < L.getD j 0) (hl : L.getD (L.length - 1) 0 ≤ 100) : SysP L := by
  refine ⟨⟨h0, h1⟩, fun j hj => ⟨?_, fun g => ha j g hj⟩⟩
  have a := coin_asc_le ha j 0 (by omega)
  have b := coin_asc_le ha (L.length - 1 - j) j (by omega)
  have e : j + (L.length - 1 - j) = L.length - 1 := by omega
  rw [e] at b
  rw [Nat.zero_add, h1] at a
  omega

/-- The coin at k. -/
def cn (L : List Int) (k : Nat) : Nat := (L.getD k 0).toNat
theorem SysP.coin {L : List Int} (h : SysP L) {k : Nat} (hk : k < L.length) : L.getD k 0 = (cn L k : Int) ∧ 1 ≤ cn L k ∧ cn L k ≤ 100 := by
  have := (h.2 k hk).1
  unfold cn
  omega
theorem SysP.first {L : List Int} (h : SysP L) : cn L 0 = 1 := by unfold cn; rw [h.1.2]; rfl
theorem SysP.asc {L : List Int} (h : SysP L) {i j : Nat} (hi : i < j) (hj : j < L.length) : cn L i < cn L j := by
  have h1 := coin_asc_le (n := L.length) (fun j h0 hj => (h.2 j hj).2 h0) (j - i) i (by omega)
  have e : i + (j - i) = j := by omega
  rw [e, (h.coin (k := i) (by omega)).1, (h.coin hj).1] at h1
  omega
theorem SysP.mono {L : List Int} (h : SysP L) {i j : Nat} (hi : i ≤ j) (hj : j < L.length) : cn L i ≤ cn L j := by
  rcases Nat.lt_or_ge i j with h1 | h1
  · exact Nat.le_of_lt (h.asc h1 hj)
  · obtain rfl : i = j := by omega
    exact Nat.le_refl _

/-! ### Greedy change -/
/-- What is left of r when the j greatest coins are paid. -/
def remA (L : List Int) (r : Nat) : Nat → Nat
  | 0 => r
  | j + 1 => remA L r j % cn L (L.length - 1 - j)
/-- How often the coin at k is paid. -/
def gq (L : List Int) (r k : Nat) : Nat := remA L r (L.length - 1 - k) / cn L k
def gL (L : List Int) (r : Nat) : List Int := (List.range L.length).map fun k => (gq L r k : Int)
theorem gL_length (L : List Int) (r : Nat) : (gL L r).length = L.length := by unfold gL; rw [List.length_map, List.length_range]
theorem gL_get {L : List Int} {r k : Nat} (h : k < L.length) : (gL L r).getD k 0 = gq L r k := by
  unfold gL
  rw [List.getD_eq_getElem?_getD, List.getElem?_map, List.getElem?_range h]; rfl
/-- The index of the greatest coin that is at most r. -/
def gi (L : List Int) (r : Nat) : Nat → Nat
  | 0 => 0
  | k + 1 => if r < cn L (k + 1) then gi L r k else k + 1
theorem gi_le (L : List Int) (r : Nat) : ∀ k, gi L r k ≤ k
  | 0 => Nat.le_refl _
  | k + 1 => by
    have := gi_le L r k
    unfold gi
    split <;> omega
theorem gi_above (L : List Int) (r : Nat) : ∀ k i, gi L r k < i → i ≤ k → r < cn L i
  | 0, i, h, h2 => by unfold gi at h; omega
  | k + 1, i, h, h2 => by
    unfold gi at h
    split at h
    · rename_i hlt
      by_cases e : i = k + 1
      · subst e; exact hlt
      · exact gi_above L r k i h (by omega)
    · omega
theorem gi_fits {L : List Int} (h : SysP L) {r : Nat} (hr : 1 ≤ r) : ∀ k, cn L (gi L r k) ≤ r
  | 0 => by show cn L 0 ≤ r; rw [h.first]; exact hr
  | k + 1 => by
    have := gi_fits h hr k
    unfold gi
    split <;> omega
/-- The coin that is paid first. -/
def gt (L : List Int) (r : Nat) : Nat := gi L r (L.length - 1)
theorem SysP.top {L : List Int} (h : SysP L) {r : Nat} (hr : 1 ≤ r) : gt L r < L.length ∧ cn L (gt L r) ≤ r ∧ ∀ i, gt L r < i → i < L.length → r < cn L i := by
  have h0 := h.1.1
  have h1 := gi_le L r (L.length - 1)
  exact ⟨by unfold gt; omega, gi_fits h hr _, fun i h2 h3 => gi_above L r (L.length - 1) i h2 (by omega)⟩
theorem remA_small {L : List Int} {r g : Nat} (h : ∀ i, g < i → i < L.length → r < cn L i) : ∀ j, j + g < L.length → remA L r j = r
  | 0, _ => rfl
  | j + 1, hj => by
    unfold remA
    rw [remA_small h j (by omega)]
    exact Nat.mod_eq_of_lt (h _ (by omega) (by omega))
theorem remA_less {L : List Int} {r g c : Nat} (hg : g < L.length) (hc : cn L g = c) (hcr : c ≤ r) (h : ∀ i, g < i → i < L.length → r < cn L i) : ∀ d, remA L r (L.length - 1 - g + 1 + d) = remA L (r - c) (L.length - 1 - g + 1 + d)
  | 0 => by
    show remA L r (L.length - 1 - g) % cn L (L.length - 1 - (L.length - 1 - g)) = remA L (r - c) (L.length - 1 - g) % cn L (L.length - 1 - (L.length - 1 - g))
    have e : L.length - 1 - (L.length - 1 - g) = g := by omega
    rw [remA_small h _ (by omega), remA_small (g := g) (fun i h1 h2 => by have := h i h1 h2; omega) _ (by omega), e, hc]
    exact Nat.mod_eq_sub_mod hcr
  | d + 1 => by
    show remA L r (L.length - 1 - g + 1 + d) % _ = remA L (r - c) (L.length - 1 - g + 1 + d) % _
    rw [remA_less hg hc hcr h d]
theorem gq_step {L : List Int} (hP : SysP L) {r : Nat} (hr : 1 ≤ r) {k : Nat} (hk : k < L.length) : gq L r k = gq L (r - cn L (gt L r)) k + if k = gt L r then 1 else 0 := by
  obtain ⟨g1, g2, g3⟩ := hP.top hr
  generalize gt L r = g at g1 g2 g3 ⊢
  have hs : ∀ i, g < i → i < L.length → r - cn L g < cn L i := fun i h1 h2 => by have := g3 i h1 h2; omega
  unfold gq
  by_cases e : k = g
  · subst e
    rw [if_pos rfl, remA_small (g := k) g3 _ (by omega), remA_small (g := k) hs _ (by omega)]
    have := (hP.coin g1).2.1
    rw [Nat.div_eq r, if_pos ⟨by omega, g2⟩]
  · rw [if_neg e]
    by_cases h1 : g < k
    · rw [remA_small (g := g) g3 _ (by omega), remA_small (g := g) hs _ (by omega), Nat.div_eq_of_lt (g3 k h1 hk), Nat.div_eq_of_lt (hs k h1 hk)]
    · have e2 : L.length - 1 - k = L.length - 1 - g + 1 + (g - 1 - k) := by omega
      rw [e2, remA_less g1 rfl g2 g3]
      rfl
theorem gq_zero {L : List Int} (hP : SysP L) {k : Nat} (hk : k < L.length) : gq L 0 k = 0 := by
  have h1 : ∀ j, j < L.length → remA L 0 j = 0 := fun j hj => remA_small (g := 0) (fun i h1 h2 => by have := (hP.coin h2).2.1; omega) j (by omega)
  unfold gq
  rw [h1 _ (by omega), Nat.zero_div]
theorem gL_zero {L : List Int} (hP : SysP L) : gL L 0 = List.replicate L.length 0 := by
  refine List.ext_getElem (by rw [gL_length, List.length_replicate]) fun i h1 h2 => ?_
  rw [gL_length] at h1
  have := gL_get (r := 0) h1
  rw [gq_zero hP h1, List.getD_eq_getElem?_getD, List.getElem?_eq_getElem (by rw [gL_length]; exact h1)] at this
  rw [List.getElem_replicate]
  simpa using this
theorem list_ext_getD {A B : List Int} (hl : A.length = B.length) (h : ∀ k, k < A.length → A.getD k 0 = B.getD k 0) : A = B := by
  refine List.ext_getElem hl fun i h1 h2 => ?_
  have := h i h1
  rw [List.getD_eq_getElem?_getD, List.getD_eq_getElem?_getD, List.getElem?_eq_getElem h1, List.getElem?_eq_getElem h2] at this
  simpa using this
theorem getD_set {A : List Int} {i j : Nat} {v : Int} (hi : i < A.length) : (A.set i v).getD j 0 = if i = j then v else A.getD j 0 := by
  rw [List.getD_eq_getElem?_getD, List.getD_eq_getElem?_getD, List.getElem?_set]
  by_cases e : i = j
  · subst e
    rw [if_pos rfl, if_pos rfl, if_pos hi]; rfl
  · rw [if_neg e, if_neg e]

/-! ### Coin by coin -/
/-- One coin more of the kind at i. -/
def addAt (U : List Int) (i : Nat) : List Int := U.set i (U.getD i 0 + 1)
theorem addAt_length (U : List Int) (i : Nat) : (addAt U i).length = U.length := by unfold addAt; rw [List.length_set]
/-- r is paid, the next coin by f, in at most t coins. -/
def pays (L : List Int) (f : Nat → Nat) : Nat → Nat → List Int → List Int
  | 0, _, U => U
  | t + 1, r, U => if r = 0 then U else pays L f t (r - cn L (f r)) (addAt U (f r))
theorem pays_length (L : List Int) (f : Nat → Nat) : ∀ t r U, (pays L f t r U).length = U.length
  | 0, _, _ => rfl
  | t + 1, r, U => by
    unfold pays
    split
    · rfl
    · rw [pays_length L f t, addAt_length]
/-- What pays needs of the choice. -/
def Chooses (L : List Int) (f : Nat → Nat) (n : Nat) : Prop := ∀ r, 1 ≤ r → r ≤ n → f r < L.length ∧ 1 ≤ cn L (f r) ∧ cn L (f r) ≤ r
theorem pays_fuel {L : List Int} {f : Nat → Nat} {n : Nat} (h : Chooses L f n) : ∀ t r U, r ≤ t → r ≤ n → pays L f t r U = pays L f r r U := by
  have key : ∀ s t r U, r ≤ s → r ≤ t → r ≤ n → pays L f t r U = pays L f s r U := by
    intro s
    induction s with
    | zero =>
      intro t r U h1 h2 h3
      obtain rfl : r = 0 := by omega
      cases t with
      | zero => rfl
      | succ t => show (if (0 : Nat) = 0 then U else _) = U; rw [if_pos rfl]
    | succ s ih =>
      intro t r U h1 h2 h3
      cases t with
      | zero =>
        obtain rfl : r = 0 := by omega
        show U = (if (0 : Nat) = 0 then U else _)
        rw [if_pos rfl]
      | succ t =>
        show (if r = 0 then U else _) = (if r = 0 then U else _)
        by_cases e : r = 0
        · rw [if_pos e, if_pos e]
        · rw [if_neg e, if_neg e]
          obtain ⟨h4, h5, h6⟩ := h r (by omega) h3
          exact ih t _ _ (by omega) (by omega) (by omega)
  intro t r U h1 h2
  exact key r t r U (Nat.le_refl _) h1 h2
theorem pays_step {L : List Int} {f : Nat → Nat} {n : Nat} (h : Chooses L f n) {r : Nat} (h0 : 1 ≤ r) (hn : r ≤ n) (U : List Int) : pays L f r r U = pays L f (r - cn L (f r)) (r - cn L (f r)) (addAt U (f r)) := by
  obtain ⟨h4, h5, h6⟩ := h r h0 hn
  obtain ⟨t, rfl⟩ : ∃ t, r = t + 1 := ⟨r - 1, by omega⟩
  show (if t + 1 = 0 then U else _) = _
  rw [if_neg (by omega)]
  exact pays_fuel h t _ _ (by omega) (by omega)
theorem pays_zero (L : List Int) (f : Nat → Nat) (U : List Int) : pays L f 0 0 U = U := rfl
/-- How many coins are paid. -/
def cnt (L : List Int) (f : Nat → Nat) : Nat → Nat → Nat
  | 0, _ => 0
  | t + 1, r => if r = 0 then 0 else cnt L f t (r - cn L (f r)) + 1
theorem sumL_set {U : List Int} {i : Nat} (h : i < U.length) (v : Int) : sumL (U.set i v) = sumL U - U.getD i 0 + v := by
  induction U generalizing i with
  | nil => cases h
  | cons x U ih =>
    cases i with
    | zero => show v + sumL U = x + sumL U - x + v; omega
    | succ i =>
      have := ih (i := i) (by simpa using h)
      show x + sumL (U.set i v) = x + sumL U - U.getD i 0 + v
      omega
theorem sumL_addAt {U : List Int} {i : Nat} (h : i < U.length) : sumL (addAt U i) = sumL U + 1 := by
  unfold addAt
  rw [sumL_set h]
  omega
theorem sumL_zeros (n : Nat) : sumL (List.replicate n 0) = 0 := by
  induction n with
  | zero => rfl
  | succ n ih => rw [List.replicate_succ]; show 0 + sumL _ = 0; omega
end Go.Proofs.Ytjjedicjaojkcaa
