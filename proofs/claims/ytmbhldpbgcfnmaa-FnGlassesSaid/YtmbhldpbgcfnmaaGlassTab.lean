/-
  The model's table of the states that can be reached, as a function of the place in the table and of how far it is filled. No program's walk.
-/
import Derived.Test.YtmbhldpbgcfnmaaGlass
import Derived.Test.YtmbhldpbgcfnmaaUpd
namespace Go.Proofs.Ytmbhldpbgcfnmaa

/-- The steps ahead of this place. -/
def Dn (T K W t u v c : Nat) : Prop := t < T ∨ t = T ∧ (u * 13 + v < K ∨ u * 13 + v = K ∧ c < W)
noncomputable def bt (a b T K W : Nat) : Nat → Bool := fun j => dec (Rb a b (Dn T K W) (j / 169) (j % 169 / 13) (j % 13))
theorem bt_start (a b : Nat) : upd (fun _ => false) 0 true = bt a b 0 0 0 := by
  funext j
  unfold upd bt
  by_cases h : j = 0
  · subst h
    rw [if_pos rfl]
    exact (dec_yes (.inl ⟨by omega, by omega, by omega⟩)).symm
  · rw [if_neg h]
    refine (dec_no ?_).symm
    rintro (⟨h1, h2, h3⟩ | ⟨t0, u0, v0, c, -, -, hd, -⟩)
    · omega
    · unfold Dn at hd; omega
theorem bt_read {a b T K : Nat} (hK : K < 169) : bt a b T K 0 (T * 169 + K) = dec (Reach a b T (K / 13) (K % 13)) := by
  unfold bt
  rw [show (T * 169 + K) / 169 = T by omega, show (T * 169 + K) % 169 / 13 = K / 13 by omega, show (T * 169 + K) % 13 = K % 13 by omega]
  exact dec_congr (rb_all (T := T) (fun t u v c h => .inl h) (Nat.le_refl _))
theorem reach_key {a b t u v K : Nat} (hb : b ≤ 12) (h : Reach a b t u v) : u * 13 + v = K ↔ u = K / 13 ∧ v = K % 13 := by
  have := h.le
  omega
theorem bt_skip {a b T K : Nat} (hb : b ≤ 12) (h : ¬ Reach a b T (K / 13) (K % 13)) : bt a b T K 0 = bt a b T (K + 1) 0 := by
  funext j
  refine dec_congr (rb_congr fun t u v c hr hc => ?_)
  unfold Dn
  have hk := reach_key (K := K) hb hr
  by_cases e : t = T ∧ u * 13 + v = K
  · obtain ⟨rfl, e⟩ := e
    obtain ⟨rfl, rfl⟩ := hk.1 e
    exact absurd hr h
  · omega
theorem bt_more {a b T K W : Nat} (ha : a ≤ 12) (hb : b ≤ 12) (hR : Reach a b T (K / 13) (K % 13)) (hW : W < 4) {j : Nat} :
    bt a b T K (W + 1) j = true ↔ bt a b T K W j = true ∨ (0 < (nx a b (K / 13) (K % 13) W).2 ∧ j = (T + (nx a b (K / 13) (K % 13) W).2) * 169 + (nx a b (K / 13) (K % 13) W).1.1 * 13 + (nx a b (K / 13) (K % 13) W).1.2) := by
  unfold bt
  rw [dec_iff, dec_iff, rb_more (D := Dn T K W) hR hW (fun t u v c hr hc => ?_)]
  · refine or_congr Iff.rfl (and_congr Iff.rfl ?_)
    have l1 := hR.le
    have l2 := nx_le (c := W) l1.1 l1.2
    omega
  · unfold Dn
    have hk := reach_key (K := K) hb hr
    omega
theorem bt_yes {a b T K W : Nat} (ha : a ≤ 12) (hb : b ≤ 12) (hR : Reach a b T (K / 13) (K % 13)) (hW : W < 4) (hn : 0 < (nx a b (K / 13) (K % 13) W).2) :
    upd (bt a b T K W) ((T + (nx a b (K / 13) (K % 13) W).2) * 169 + (nx a b (K / 13) (K % 13) W).1.1 * 13 + (nx a b (K / 13) (K % 13) W).1.2) true = bt a b T K (W + 1) := by
  funext j
  unfold upd
  have h := bt_more (j := j) ha hb hR hW
  by_cases e : j = (T + (nx a b (K / 13) (K % 13) W).2) * 169 + (nx a b (K / 13) (K % 13) W).1.1 * 13 + (nx a b (K / 13) (K % 13) W).1.2
  · rw [if_pos e]; exact (h.2 (.inr ⟨hn, e⟩)).symm
  · rw [if_neg e]
    have h2 : bt a b T K (W + 1) j = true ↔ bt a b T K W j = true := h.trans ⟨fun g => g.resolve_right fun g => e g.2, .inl⟩
    exact (Bool.eq_iff_iff.2 h2).symm
theorem bt_no {a b m T K W : Nat} (ha : a ≤ 12) (hb : b ≤ 12) (hR : Reach a b T (K / 13) (K % 13)) (hW : W < 4) (hn : ¬ (0 < (nx a b (K / 13) (K % 13) W).2 ∧ T + (nx a b (K / 13) (K % 13) W).2 ≤ m)) {j : Nat} (hj : j < (m + 1) * 169) :
    bt a b T K W j = bt a b T K (W + 1) j := by
  have h := bt_more (j := j) ha hb hR hW
  have h2 : bt a b T K (W + 1) j = true ↔ bt a b T K W j = true := h.trans ⟨fun g => g.resolve_right fun g => hn ⟨g.1, by omega⟩, .inl⟩
  exact (Bool.eq_iff_iff.2 h2).symm
theorem bt_four {a b T K : Nat} : bt a b T K 4 = bt a b T (K + 1) 0 := by
  funext j
  refine dec_congr (rb_congr fun t u v c hr hc => ?_)
  unfold Dn
  omega
theorem bt_row {a b T : Nat} (ha : a ≤ 12) (hb : b ≤ 12) : bt a b T 169 0 = bt a b (T + 1) 0 0 := by
  funext j
  refine dec_congr (rb_congr fun t u v c hr hc => ?_)
  have := hr.le
  unfold Dn
  omega
/-- One of the first K states can be reached. -/
noncomputable def fnd (a b T K : Nat) : Bool := dec (∃ k, k < K ∧ Reach a b T (k / 13) (k % 13))
theorem fnd_zero (a b T : Nat) : fnd a b T 0 = false := dec_no fun ⟨k, h, _⟩ => by omega
theorem fnd_yes {a b T K : Nat} (h : Reach a b T (K / 13) (K % 13)) : fnd a b T (K + 1) = true := dec_yes ⟨K, by omega, h⟩
theorem fnd_no {a b T K : Nat} (h : ¬ Reach a b T (K / 13) (K % 13)) : fnd a b T (K + 1) = fnd a b T K := dec_congr ⟨fun ⟨k, hk, hr⟩ => by
  by_cases e : k = K
  · subst e; exact absurd hr h
  · exact ⟨k, by omega, hr⟩, fun ⟨k, hk, hr⟩ => ⟨k, by omega, hr⟩⟩
theorem fnd_all {a b T : Nat} (ha : a ≤ 12) (hb : b ≤ 12) : fnd a b T 169 = At a b T := dec_congr ⟨fun ⟨k, _, hr⟩ => ⟨_, _, hr⟩, fun ⟨u, v, hr⟩ => by
  have := hr.le
  refine ⟨u * 13 + v, by omega, ?_⟩
  rw [show (u * 13 + v) / 13 = u by omega, show (u * 13 + v) % 13 = v by omega]
  exact hr⟩
end Go.Proofs.Ytmbhldpbgcfnmaa
