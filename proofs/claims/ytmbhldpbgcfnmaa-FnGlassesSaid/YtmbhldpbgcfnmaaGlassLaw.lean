/-
  What the law on glasses says: only multiples of the common divisor, all multiples of either glass; glasses turned twice; what running out leaves. No program's walk.
-/
import Derived.Test.YtmbhldpbgcfnmaaGlass
namespace Go.Proofs.Ytmbhldpbgcfnmaa

theorem nx_dvd {a b u v c d : Nat} (ha : d ∣ a) (hb : d ∣ b) (hu : d ∣ u) (hv : d ∣ v) : d ∣ (nx a b u v c).1.1 ∧ d ∣ (nx a b u v c).1.2 ∧ d ∣ (nx a b u v c).2 := by
  unfold nx
  dsimp only
  generalize hx : (if c = 1 ∨ c = 3 then a - u else u) = x
  generalize hy : (if c = 2 ∨ c = 3 then b - v else v) = y
  have dx : d ∣ x := by
    rw [← hx]
    split
    · exact Nat.dvd_sub ha hu
    · exact hu
  have dy : d ∣ y := by
    rw [← hy]
    split
    · exact Nat.dvd_sub hb hv
    · exact hv
  generalize hn : (if x = 0 then y else if y = 0 then x else if x < y then x else y) = n
  have dn : d ∣ n := by
    rw [← hn]
    split
    · exact dy
    · split
      · exact dx
      · split
        · exact dx
        · exact dy
  exact ⟨Nat.dvd_sub dx dn, Nat.dvd_sub dy dn, dn⟩
theorem reach_dvd {a b d t u v : Nat} (ha : d ∣ a) (hb : d ∣ b) (h : Reach a b t u v) : d ∣ t ∧ d ∣ u ∧ d ∣ v := by
  induction h with
  | zero => exact ⟨Nat.dvd_zero d, Nat.dvd_zero d, Nat.dvd_zero d⟩
  | step t u v c _ _ _ ih =>
    obtain ⟨h1, h2, h3⟩ := nx_dvd (c := c) ha hb ih.2.1 ih.2.2
    exact ⟨Nat.dvd_add ih.1 h3, h1, h2⟩
theorem nx_first {a b : Nat} (ha : 1 ≤ a) : nx a b 0 0 1 = ((0, 0), a) := by
  unfold nx
  have h : ¬ a = 0 := by omega
  simp [h]
theorem nx_second {a b : Nat} : nx a b 0 0 2 = ((0, 0), b) := by
  unfold nx
  simp
theorem reach_first {a b : Nat} (ha : 1 ≤ a) : ∀ k, Reach a b (a * k) 0 0
  | 0 => .zero
  | k + 1 => by
    have h := Reach.step (a := a) (b := b) (a * k) 0 0 1 (reach_first ha k) (by omega) (by rw [nx_first ha]; exact ha)
    rw [nx_first ha] at h
    exact h
theorem reach_second {a b : Nat} (hb : 1 ≤ b) : ∀ k, Reach a b (b * k) 0 0
  | 0 => .zero
  | k + 1 => by
    have h := Reach.step (a := a) (b := b) (b * k) 0 0 2 (reach_second hb k) (by omega) (by rw [nx_second]; exact hb)
    rw [nx_second] at h
    exact h
theorem at_mul {a b t : Nat} (ha : 1 ≤ a) (hb : 1 ≤ b) (h : t % a = 0 ∨ t % b = 0) : At a b t = true := by
  refine at_iff.2 ⟨0, 0, ?_⟩
  rcases h with h | h
  · obtain ⟨k, rfl⟩ := Nat.dvd_of_mod_eq_zero h
    exact reach_first ha k
  · obtain ⟨k, rfl⟩ := Nat.dvd_of_mod_eq_zero h
    exact reach_second hb k
/-- What the times are. -/
theorem tms_law {a b m k : Nat} (h : k < (tms a b (m + 1)).length) : ∃ t : Nat, (tms a b (m + 1)).getD k 0 = t ∧ 1 ≤ t ∧ t ≤ m ∧ t % Nat.gcd a b = 0 ∧ At a b t = true := by
  have hm : (tms a b (m + 1)).getD k 0 ∈ tms a b (m + 1) := by
    rw [List.getD_eq_getElem?_getD, List.getElem?_eq_getElem h]
    exact List.getElem_mem _
  obtain ⟨t, e, h0, h1, hA⟩ := tms_mem.1 hm
  obtain ⟨u, v, hr⟩ := at_iff.1 hA
  exact ⟨t, e, by omega, by omega, Nat.mod_eq_zero_of_dvd (reach_dvd (Nat.gcd_dvd_left a b) (Nat.gcd_dvd_right a b) hr).1, hA⟩
theorem tms_has {a b m t : Nat} (ha : 1 ≤ a) (hb : 1 ≤ b) (h0 : 1 ≤ t) (h1 : t ≤ m) (h : t % a = 0 ∨ t % b = 0) : (t : Int) ∈ tms a b (m + 1) :=
  tms_mem.2 ⟨t, rfl, by omega, by omega, at_mul ha hb h⟩

/-! ### Turned twice, and run out -/
theorem fl_ok {a b x y c : Int} (h : okG a b x y = true) : okG a b (flS a b x y c).1 (flS a b x y c).2 = true := by
  unfold flS tn
  rw [if_pos h]
  rw [okG_iff] at h ⊢
  dsimp only
  split <;> split <;> omega
theorem tn_twice (p : Bool) (a x : Int) : tn p a (tn p a x) = x := by
  unfold tn
  cases p
  · rfl
  · simp only [if_true]; omega
theorem fl_twice {a b x y c : Int} (h : okG a b x y = true) : flS a b (flS a b x y c).1 (flS a b x y c).2 c = (x, y) := by
  have h2 := fl_ok (c := c) h
  have e : flS a b x y c = (tn (decide (c = 1 ∨ c = 3)) a x, tn (decide (c = 2 ∨ c = 3)) b y) := if_pos h
  rw [e] at h2 ⊢
  unfold flS
  rw [if_pos h2, tn_twice, tn_twice]
theorem ro_law {a b x y : Int} (h : okG a b x y = true) : okG a b (roS a b x y).1 (roS a b x y).2 = true ∧ (roN a b x y = 0 ↔ x = 0 ∧ y = 0) ∧ 0 ≤ roN a b x y ∧ roN a b x y ≤ 12 ∧
    (roS a b x y).1 ≤ (if x < y then y else x) - roN a b x y ∧ (roS a b x y).2 ≤ (if x < y then y else x) - roN a b x y := by
  have e1 : roS a b x y = (less x (tmR x y), less y (tmR x y)) := if_pos h
  have e2 : roN a b x y = tmR x y := if_pos h
  rw [e1, e2]
  rw [okG_iff] at h ⊢
  dsimp only
  have ht : (x = 0 ∧ tmR x y = y) ∨ (y = 0 ∧ tmR x y = x) ∨ (0 < x ∧ 0 < y ∧ x < y ∧ tmR x y = x) ∨ (0 < x ∧ 0 < y ∧ y ≤ x ∧ tmR x y = y) := by
    unfold tmR
    by_cases h1 : x = 0
    · rw [if_pos h1]; exact .inl ⟨h1, rfl⟩
    · rw [if_neg h1]
      by_cases h2 : y = 0
      · rw [if_pos h2]; exact .inr (.inl ⟨h2, rfl⟩)
      · rw [if_neg h2]
        by_cases h3 : x < y
        · rw [if_pos h3]; exact .inr (.inr (.inl ⟨by omega, by omega, h3, rfl⟩))
        · rw [if_neg h3]; exact .inr (.inr (.inr ⟨by omega, by omega, by omega, rfl⟩))
  generalize tmR x y = T at ht
  have hx : less x T = x - T ∨ less x T = 0 ∧ x ≤ T := by
    unfold less
    split
    · right; omega
    · left; rfl
  have hy : less y T = y - T ∨ less y T = 0 ∧ y ≤ T := by
    unfold less
    split
    · right; omega
    · left; rfl
  have hx0 : 0 ≤ less x T := by unfold less; split <;> omega
  have hy0 : 0 ≤ less y T := by unfold less; split <;> omega
  generalize less x T = X at hx hx0
  generalize less y T = Y at hy hy0
  refine ⟨by omega, by omega, by omega, by omega, ?_, ?_⟩ <;> split <;> omega
end Go.Proofs.Ytmbhldpbgcfnmaa
