/-
  Mobiles: how great the least weights can be at all, reckoned without a look at the limit; when the whole is small enough. No program's walk.
-/
import Derived.Test.YthefcbninpkncaaMobLaw
namespace Go.Proofs.Ythefcbninpkncaa

/-- All that hangs from a part, and the part itself. -/
def ds (L : List PartT) (k : Nat) : List Nat :=
  if _h : Bm L k then k :: (ds L (lc L k) ++ ds L (rc L k)) else [k]
termination_by L.length - k
decreasing_by all_goals (have := _h.2; omega)
theorem ds_bm {L : List PartT} {k : Nat} (h : Bm L k) : ds L k = k :: (ds L (lc L k) ++ ds L (rc L k)) := by rw [ds, dif_pos h]
theorem ds_wt {L : List PartT} {k : Nat} (h : ¬ Bm L k) : ds L k = [k] := by rw [ds, dif_neg h]
/-- The beams among them. -/
def bc (L : List PartT) (k : Nat) : Nat :=
  if _h : Bm L k then bc L (lc L k) + bc L (rc L k) + 1 else 0
termination_by L.length - k
decreasing_by all_goals (have := _h.2; omega)
theorem bc_bm {L : List PartT} {k : Nat} (h : Bm L k) : bc L k = bc L (lc L k) + bc L (rc L k) + 1 := by rw [bc, dif_pos h]
theorem bc_wt {L : List PartT} {k : Nat} (h : ¬ Bm L k) : bc L k = 0 := by rw [bc, dif_neg h]
theorem ds_desc {L : List PartT} : ∀ k x, x ∈ ds L k → Desc L k x := by
  refine mob_ind (L := L) (p := fun k => ∀ x, x ∈ ds L k → Desc L k x) (fun k h x hx => ?_) (fun k h i1 i2 x hx => ?_)
  · rw [ds_wt h, List.mem_singleton] at hx
    subst hx; exact .self
  · rw [ds_bm h, List.mem_cons, List.mem_append] at hx
    rcases hx with rfl | hx | hx
    · exact .self
    · exact (Desc.step .self ⟨h, .inl rfl⟩).trans (i1 x hx)
    · exact (Desc.step .self ⟨h, .inr rfl⟩).trans (i2 x hx)
theorem desc_lt {L : List PartT} {k x : Nat} (hk : k < L.length) (h : Desc L k x) : x < L.length := by
  cases h with
  | self => exact hk
  | step _ c => exact c.lt.2
theorem ds_nodup {L : List PartT} (hL : MOk L) : ∀ k, (ds L k).Nodup := by
  refine mob_ind (L := L) (p := fun k => (ds L k).Nodup) (fun k h => ?_) (fun k h i1 i2 => ?_)
  · rw [ds_wt h]
    exact List.nodup_cons.2 ⟨List.not_mem_nil, List.nodup_nil⟩
  · rw [ds_bm h]
    refine List.nodup_cons.2 ⟨fun m => ?_, List.nodup_append.2 ⟨i1, i2, fun a ha b hb e => ?_⟩⟩
    · have := h.2
      rcases List.mem_append.1 m with m | m
      · have := (ds_desc _ _ m).le; omega
      · have := (ds_desc _ _ m).le; omega
    · subst e
      exact hL.apart h ⟨ds_desc _ _ ha, ds_desc _ _ hb⟩
theorem ds_len {L : List PartT} : ∀ k, (ds L k).length = 2 * bc L k + 1 := by
  refine mob_ind (L := L) (p := fun k => (ds L k).length = 2 * bc L k + 1) (fun k h => ?_) (fun k h i1 i2 => ?_)
  · rw [ds_wt h, bc_wt h]; rfl
  · rw [ds_bm h, bc_bm h, List.length_cons, List.length_append, i1, i2]
    omega
theorem bc_le {L : List PartT} (hL : MOk L) {k : Nat} (hk : k < L.length) : bc L k ≤ 7 := by
  have a := nodup_le (ds_nodup hL k) (m := List.range L.length) fun x hx => List.mem_range.2 (desc_lt hk (ds_desc _ _ hx))
  rw [List.length_range, ds_len] at a
  have := hL.len
  omega
section
variable {L : List PartT} (hL : MOk L)
include hL
theorem mul_le_gcd {j : Nat} (hj : j < L.length) (b : Bm L j) : ml (soA L j) (soB L j) ≤ soB L j ∧ mr (soA L j) (soB L j) ≤ soA L j := by
  have p := so_prod hL hj b
  have g := gcd_ml p.1 p.2
  have m1 := Int.mul_le_mul_of_nonneg_left g.1 (show 0 ≤ ml (soA L j) (soB L j) by omega)
  have m2 := Int.mul_le_mul_of_nonneg_left g.1 (show 0 ≤ mr (soA L j) (soB L j) by omega)
  rw [g.2.1] at m1
  rw [g.2.2.1] at m2
  omega
theorem so_sum_le : ∀ k, k < L.length → 1 ≤ sm L (so L k) k ∧ sm L (so L k) k ≤ ((40 ^ bc L k : Nat) : Int) := by
  refine mob_ind (L := L) (p := fun k => k < L.length → 1 ≤ sm L (so L k) k ∧ sm L (so L k) k ≤ ((40 ^ bc L k : Nat) : Int)) (fun k h _ => ?_) (fun k h i1 i2 hk => ?_)
  · rw [sm_wt h, so_wt h, bc_wt h]
    exact ⟨Int.le_refl _, Int.le_refl _⟩
  · have b := h.2
    have s1 := i1 (by omega)
    have s2 := i2 (by omega)
    refine ⟨sm_pos _ (so_pos hL k hk), ?_⟩
    have q := hL.bm hk h.1
    have ss := so_sums hL h
    have m := mul_le_gcd hL hk h
    rw [sm_bm h, ss.1 _ .self, ss.2 _ .self, bc_bm h, Nat.pow_succ, Nat.pow_add]
    have a1 : soA L k ≤ sm L (so L (lc L k)) (lc L k) * 20 := Int.mul_le_mul_of_nonneg_left q.2.2.2.1.2 (by omega)
    have b1 : soB L k ≤ sm L (so L (rc L k)) (rc L k) * 20 := Int.mul_le_mul_of_nonneg_left q.2.2.2.2.1.2 (by omega)
    generalize ml (soA L k) (soB L k) = z1 at m ⊢
    generalize mr (soA L k) (soB L k) = z2 at m ⊢
    generalize sm L (so L (lc L k)) (lc L k) = S at s1 a1 ⊢
    generalize sm L (so L (rc L k)) (rc L k) = T at s2 b1 ⊢
    generalize (40 ^ bc L (lc L k) : Nat) = P at s1 ⊢
    generalize (40 ^ bc L (rc L k) : Nat) = Q at s2 ⊢
    have e1 := Int.mul_le_mul_of_nonneg_left (show z1 ≤ T * 20 by omega) (show 0 ≤ S by omega)
    have e2 := Int.mul_le_mul_of_nonneg_left (show z2 ≤ S * 20 by omega) (show 0 ≤ T by omega)
    have e3 := Int.mul_le_mul s1.2 s2.2 (by omega) (by omega)
    have c1 : S * (T * 20) = S * T * 20 := by rw [Int.mul_assoc]
    have c2 : T * (S * 20) = S * T * 20 := by rw [← Int.mul_assoc, Int.mul_comm T S]
    have c3 : ((P * Q * 40 : Nat) : Int) = (P : Int) * (Q : Int) * 40 := by rw [Int.natCast_mul, Int.natCast_mul]; rfl
    rw [c3]
    omega
theorem so_sum_top {k : Nat} (hk : k < L.length) : 1 ≤ sm L (so L k) k ∧ sm L (so L k) k ≤ 163840000000 := by
  have s := so_sum_le hL k hk
  have p : 40 ^ bc L k ≤ 40 ^ 7 := Nat.pow_le_pow_right (by omega) (bc_le hL hk)
  have e : (40 : Nat) ^ 7 = 163840000000 := by decide
  omega
omit hL in
theorem le_sm {u : Nat → Int} : ∀ k, (∀ x ∈ lv L k, 0 ≤ u x) → 0 ≤ sm L u k ∧ ∀ x ∈ lv L k, u x ≤ sm L u k := by
  refine mob_ind (L := L) (p := fun k => (∀ x ∈ lv L k, 0 ≤ u x) → 0 ≤ sm L u k ∧ ∀ x ∈ lv L k, u x ≤ sm L u k) (fun k h g => ?_) (fun k h i1 i2 g => ?_)
  · rw [sm_wt h]
    refine ⟨g k (by rw [lv_wt h]; exact List.mem_singleton.2 rfl), fun x hx => ?_⟩
    rw [lv_wt h, List.mem_singleton] at hx
    subst hx
    exact Int.le_refl _
  · rw [sm_bm h]
    have a := i1 fun x hx => g x (by rw [lv_bm h]; exact List.mem_append_left _ hx)
    have b := i2 fun x hx => g x (by rw [lv_bm h]; exact List.mem_append_right _ hx)
    refine ⟨by omega, fun x hx => ?_⟩
    rw [lv_bm h] at hx
    rcases List.mem_append.1 hx with hx | hx
    · have := a.2 x hx; omega
    · have := b.2 x hx; omega
theorem so_top {k x : Nat} (hk : k < L.length) (hx : x ∈ lv L k) : 1 ≤ so L k x ∧ so L k x ≤ 163840000000 := by
  have a := so_pos hL k hk
  have b := (le_sm k fun y hy => (by have := a y hy; omega : 0 ≤ so L k y)).2 x hx
  have c := so_sum_top hL hk
  exact ⟨a x hx, by omega⟩
/-- What is reckoned at a beam. -/
theorem great {j : Nat} (hj : j < L.length) (b : Bm L j) : (1 ≤ soA L j ∧ soA L j ≤ 3276800000000) ∧ (1 ≤ soB L j ∧ soB L j ≤ 3276800000000) ∧ (1 ≤ ml (soA L j) (soB L j) ∧ ml (soA L j) (soB L j) ≤ 3276800000000) ∧ (1 ≤ mr (soA L j) (soB L j) ∧ mr (soA L j) (soB L j) ≤ 3276800000000) ∧ (∀ x ∈ lv L (lc L j), 0 ≤ so L (lc L j) x * ml (soA L j) (soB L j) ∧ so L (lc L j) x * ml (soA L j) (soB L j) ≤ 163840000000) ∧ (∀ x ∈ lv L (rc L j), 0 ≤ so L (rc L j) x * mr (soA L j) (soB L j) ∧ so L (rc L j) x * mr (soA L j) (soB L j) ≤ 163840000000) := by
  have bb := b.2
  have p := so_prod hL hj b
  have g := gcd_ml p.1 p.2
  have q := hL.bm hj b.1
  have m := mul_le_gcd hL hj b
  have s1 := so_sum_top hL (show lc L j < L.length by omega)
  have s2 := so_sum_top hL (show rc L j < L.length by omega)
  have a1 : soA L j ≤ sm L (so L (lc L j)) (lc L j) * 20 := Int.mul_le_mul_of_nonneg_left q.2.2.2.1.2 (by omega)
  have b1 : soB L j ≤ sm L (so L (rc L j)) (rc L j) * 20 := Int.mul_le_mul_of_nonneg_left q.2.2.2.2.1.2 (by omega)
  refine ⟨⟨p.1, by omega⟩, ⟨p.2, by omega⟩, ⟨g.2.2.2.1, by omega⟩, ⟨g.2.2.2.2.1, by omega⟩, fun x hx => ?_, fun x hx => ?_⟩
  · have t := so_top hL hj (x := x) (by rw [lv_bm b]; exact List.mem_append_left _ hx)
    rw [so_left b hx] at t
    omega
  · have t := so_top hL hj (x := x) (by rw [lv_bm b]; exact List.mem_append_right _ hx)
    rw [so_right hL b hx] at t
    omega
/-- The reckoned mobile is valid just if its weights are small enough. -/
theorem so_mok : MOk (put L (so L 0)) ↔ lwOk L := by
  have one := hL.one
  refine ⟨fun h x hx => ?_, fun h => lw_mok hL h⟩
  have xl := lv_lt hL.one hx
  have xb := lv_wt_of _ _ hx
  have w := wu_le h (x := x) (by rw [put_length]; exact xl) (fun g => xb (put_Bm.1 g))
  rw [put_wu_get xl xb] at w
  exact w.2
end
end Go.Proofs.Ythefcbninpkncaa
