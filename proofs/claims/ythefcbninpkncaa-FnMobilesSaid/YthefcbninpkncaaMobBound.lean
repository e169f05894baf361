/-
  Mobiles: how great sums and multipliers are; what is left to be done of the model's way, from the last part to the first. No program's walk.
-/
import Derived.Test.YthefcbninpkncaaMobSol
namespace Go.Proofs.Ythefcbninpkncaa

theorem lv_len (L : List PartT) : ∀ k, k < L.length → (lv L k).length ≤ 2 ^ (L.length - k) := by
  refine mob_ind (L := L) (p := fun k => k < L.length → (lv L k).length ≤ 2 ^ (L.length - k)) (fun k h _ => ?_) (fun k h i1 i2 hk => ?_)
  · rw [lv_wt h]
    exact Nat.one_le_two_pow
  · have b := h.2
    have a1 := i1 (by omega)
    have a2 := i2 (by omega)
    have p1 : 2 ^ (L.length - lc L k) ≤ 2 ^ (L.length - k - 1) := Nat.pow_le_pow_right (by omega) (by omega)
    have p2 : 2 ^ (L.length - rc L k) ≤ 2 ^ (L.length - k - 1) := Nat.pow_le_pow_right (by omega) (by omega)
    have e : 2 ^ (L.length - k) = 2 ^ (L.length - k - 1) * 2 := by
      rw [← Nat.pow_succ]
      congr 1
      omega
    rw [lv_bm h, List.length_append]
    omega
theorem sm_le {L : List PartT} {u : Nat → Int} {k : Nat} (h15 : L.length ≤ 15) (hk : k < L.length) (h : ∀ x ∈ lv L k, 0 ≤ u x ∧ u x ≤ 1000) : 0 ≤ sm L u k ∧ sm L u k ≤ 32768000 := by
  have key : ∀ S : List Nat, (∀ x ∈ S, 0 ≤ u x ∧ u x ≤ 1000) → 0 ≤ (S.map u).sum ∧ (S.map u).sum ≤ 1000 * (S.length : Int) := by
    intro S
    induction S with
    | nil => intro _; simp
    | cons a S ih =>
      intro g
      have i := ih fun x hx => g x (List.mem_cons_of_mem _ hx)
      have q := g a List.mem_cons_self
      rw [List.map_cons, List.sum_cons, List.length_cons]
      omega
  have i := key _ h
  have l := lv_len L k hk
  have p : 2 ^ (L.length - k) ≤ 2 ^ 15 := Nat.pow_le_pow_right (by omega) (by omega)
  have e : (2 : Nat) ^ 15 = 32768 := by decide
  unfold sm
  omega

/-- From part j on all is done: what hangs from nothing behind it has the least weights. -/
def Top (L : List PartT) (j k : Nat) : Prop := k < L.length ∧ j ≤ k ∧ ∀ m, j ≤ m → ¬ Ch L m k
def Inv (L : List PartT) (j : Nat) (u : Nat → Int) : Prop := ∀ k, Top L j k → ∀ x ∈ lv L k, u x = so L k x
def Small (L : List PartT) (j : Nat) : Prop := ∀ k, Top L j k → ∀ x ∈ lv L k, so L k x ≤ 1000
theorem Top.next {L : List PartT} {j k : Nat} (h : Top L j k) (hk : k ≠ j) : Top L (j + 1) k := ⟨h.1, by have := h.2.1; omega, fun m hm => h.2.2 m (by omega)⟩
theorem inv_end (L : List PartT) (u : Nat → Int) : Inv L L.length u := fun k h => by have := h.1; have := h.2.1; omega
theorem small_end (L : List PartT) : Small L L.length := fun k h => by have := h.1; have := h.2.1; omega
theorem top_zero {L : List PartT} (h : 1 ≤ L.length) : Top L 0 0 := ⟨by omega, Nat.le_refl _, fun m _ c => by have := c.lt; omega⟩
section
variable {L : List PartT} (hL : MOk L)
include hL
theorem top_kids {j : Nat} (b : Bm L j) : Top L (j + 1) (lc L j) ∧ Top L (j + 1) (rc L j) := by
  have c := b.2
  refine ⟨⟨by omega, by omega, fun m hm g => ?_⟩, ⟨by omega, by omega, fun m hm g => ?_⟩⟩
  · have := hL.parent g (⟨b, .inl rfl⟩ : Ch L j (lc L j)); omega
  · have := hL.parent g (⟨b, .inr rfl⟩ : Ch L j (rc L j)); omega
theorem top_away {j k : Nat} (b : Bm L j) (t : Top L j k) (hk : k ≠ j) {x : Nat} (hx : x ∈ lv L k) : x ∉ lv L (lc L j) ∧ x ∉ lv L (rc L j) := by
  have key : ∀ l, Ch L j l → x ∉ lv L l := fun l c hx2 => by
    rcases hL.meet (lv_desc _ _ hx) (lv_desc _ _ hx2) with d | d
    · cases d with
      | self => exact t.2.2 j (Nat.le_refl _) c
      | step d' c' =>
        obtain rfl := hL.parent c' c
        have := d'.le
        have := t.2.1
        omega
    · cases d with
      | self => exact t.2.2 j (Nat.le_refl _) c
      | step d' c' =>
        have := d'.le
        have := c.lt
        exact t.2.2 _ (by omega) c'
  exact ⟨key _ ⟨b, .inl rfl⟩, key _ ⟨b, .inr rfl⟩⟩
omit hL in
theorem inv_wt {j : Nat} {u : Nat → Int} (b : ¬ Bm L j) (h : Inv L (j + 1) u) : Inv L j (fun i => if i = j then 1 else u i) := fun k t x hx => by
  by_cases e : k = j
  · subst e
    rw [lv_wt b, List.mem_singleton] at hx
    subst hx
    show (if x = x then 1 else u x) = _
    rw [if_pos rfl, so_wt b]
  · have := (lv_desc _ _ hx).le
    have := t.2.1
    show (if x = j then 1 else u x) = _
    rw [if_neg (by omega)]
    exact h k (t.next e) x hx
theorem inv_bm {j : Nat} {u : Nat → Int} (b : Bm L j) (h : Inv L (j + 1) u) : Inv L j (mulU L (rc L j) (mr (soA L j) (soB L j)) (mulU L (lc L j) (ml (soA L j) (soB L j)) u)) := fun k t x hx => by
  have tk := top_kids hL b
  by_cases e : k = j
  · subst e
    rw [lv_bm b, List.mem_append] at hx
    rcases hx with hx | hx
    · unfold mulU
      rw [if_neg (hL.lv_apart b hx), if_pos hx, so_left b hx, h _ tk.1 x hx]
    · have hn : x ∉ lv L (lc L k) := fun g => hL.lv_apart b g hx
      unfold mulU
      rw [if_pos hx, if_neg hn, so_right hL b hx, h _ tk.2 x hx]
  · have aw := top_away hL b t e hx
    unfold mulU
    rw [if_neg aw.2, if_neg aw.1]
    exact h k (t.next e) x hx
theorem inv_sums {j : Nat} {u : Nat → Int} (b : Bm L j) (h : Inv L (j + 1) u) : sm L u (lc L j) * (ptget L j).armLeft = soA L j ∧ sm L u (rc L j) * (ptget L j).armRight = soB L j ∧ mx L u (lc L j) = mx L (so L (lc L j)) (lc L j) ∧ mx L u (rc L j) = mx L (so L (rc L j)) (rc L j) := by
  have tk := top_kids hL b
  unfold soA soB
  rw [sm_congr (h _ tk.1), sm_congr (h _ tk.2)]
  exact ⟨rfl, rfl, mx_congr _ (h _ tk.1), mx_congr _ (h _ tk.2)⟩
omit hL in
theorem mx_mul {u : Nat → Int} {c z : Int} (hc : 1 ≤ c) : ∀ k, mx L u k * c ≤ z ↔ ∀ x ∈ lv L k, u x * c ≤ z := by
  refine mob_ind (L := L) (p := fun k => mx L u k * c ≤ z ↔ ∀ x ∈ lv L k, u x * c ≤ z) (fun k h => ?_) (fun k h i1 i2 => ?_)
  · rw [mx_wt h, lv_wt h]
    simp
  · rw [mx_bm h, lv_bm h]
    have e : max (mx L u (lc L k)) (mx L u (rc L k)) * c ≤ z ↔ mx L u (lc L k) * c ≤ z ∧ mx L u (rc L k) * c ≤ z := by
      rcases Int.le_total (mx L u (lc L k)) (mx L u (rc L k)) with a | a
      · rw [Int.max_eq_right a]
        have := Int.mul_le_mul_of_nonneg_right a (show 0 ≤ c by omega)
        exact ⟨fun h => ⟨by omega, h⟩, fun h => h.2⟩
      · rw [Int.max_eq_left a]
        have := Int.mul_le_mul_of_nonneg_right a (show 0 ≤ c by omega)
        exact ⟨fun h => ⟨h, by omega⟩, fun h => h.1⟩
    rw [e, i1, i2]
    constructor
    · rintro ⟨a, b⟩ x hx
      rcases List.mem_append.1 hx with hx | hx
      · exact a x hx
      · exact b x hx
    · intro g
      exact ⟨fun x hx => g x (List.mem_append_left _ hx), fun x hx => g x (List.mem_append_right _ hx)⟩
/-- The test at a beam. -/
def BigAt (L : List PartT) (j : Nat) : Prop := 1000 < mx L (so L (lc L j)) (lc L j) * ml (soA L j) (soB L j) ∨ 1000 < mx L (so L (rc L j)) (rc L j) * mr (soA L j) (soB L j)
theorem at_le {j : Nat} (hj : j < L.length) (b : Bm L j) : ¬ BigAt L j ↔ ∀ x ∈ lv L j, so L j x ≤ 1000 := by
  have p := so_prod hL hj b
  have g := gcd_ml p.1 p.2
  have e : ¬ BigAt L j ↔ mx L (so L (lc L j)) (lc L j) * ml (soA L j) (soB L j) ≤ 1000 ∧ mx L (so L (rc L j)) (rc L j) * mr (soA L j) (soB L j) ≤ 1000 := by
    unfold BigAt
    omega
  rw [e, mx_mul g.2.2.2.1, mx_mul g.2.2.2.2.1]
  constructor
  · rintro ⟨a, c⟩ x hx
    rw [lv_bm b, List.mem_append] at hx
    rcases hx with hx | hx
    · rw [so_left b hx]; exact a x hx
    · rw [so_right hL b hx]; exact c x hx
  · intro h
    refine ⟨fun x hx => ?_, fun x hx => ?_⟩
    · have := h x (by rw [lv_bm b]; exact List.mem_append_left _ hx)
      rwa [so_left b hx] at this
    · have := h x (by rw [lv_bm b]; exact List.mem_append_right _ hx)
      rwa [so_right hL b hx] at this
omit hL in
theorem small_next {j : Nat} (h : Small L (j + 1)) (g : ∀ x ∈ lv L j, so L j x ≤ 1000) : Small L j := fun k t => by
  by_cases e : k = j
  · subst e; exact g
  · exact h k (t.next e)
/-- Whether the least weights are small enough. -/
def lwOk (L : List PartT) : Prop := ∀ x ∈ lv L 0, so L 0 x ≤ 1000
instance (L : List PartT) : Decidable (lwOk L) := by unfold lwOk; infer_instance
theorem big_no {j : Nat} (hj : j < L.length) (b : Bm L j) (h : BigAt L j) : ¬ lwOk L := fun g => by
  refine (at_le hL hj b).2 (fun x hx => ?_) h
  obtain ⟨c, hc, e⟩ := so_under hL hj
  have a := g x (desc_lv 0 j (hL.all j hj) x hx)
  rw [e x hx] at a
  have p := so_pos hL j hj x hx
  have := Int.mul_le_mul_of_nonneg_left hc (show 0 ≤ so L j x by omega)
  omega
theorem small_zero (h : Small L 0) : lwOk L := h 0 (top_zero hL.one)
/-- In all, the least weights. -/
theorem inv_zero {u : Nat → Int} (h : Inv L 0 u) : put L u = put L (so L 0) :=
  put_congr fun i hi b => h 0 (top_zero hL.one) i (hL.lv_all hi b)
/-- What stays small on the way. -/
theorem ml_le {j : Nat} (hj : j < L.length) (b : Bm L j) (s : Small L (j + 1)) : (1 ≤ soA L j ∧ soA L j ≤ 655360000) ∧ (1 ≤ soB L j ∧ soB L j ≤ 655360000) ∧ (1 ≤ ml (soA L j) (soB L j) ∧ ml (soA L j) (soB L j) ≤ 655360000) ∧ (1 ≤ mr (soA L j) (soB L j) ∧ mr (soA L j) (soB L j) ≤ 655360000) ∧ (1 ≤ mx L (so L (lc L j)) (lc L j) ∧ mx L (so L (lc L j)) (lc L j) ≤ 1000) ∧ (1 ≤ mx L (so L (rc L j)) (rc L j) ∧ mx L (so L (rc L j)) (rc L j) ≤ 1000) := by
  have tk := top_kids hL b
  have p := so_prod hL hj b
  have g := gcd_ml p.1 p.2
  have q := hL.bm hj b.1
  have l1 := fun x hx => And.intro (so_pos hL _ tk.1.1 x hx) (s _ tk.1 x hx)
  have l2 := fun x hx => And.intro (so_pos hL _ tk.2.1 x hx) (s _ tk.2 x hx)
  have s1 := sm_le hL.len tk.1.1 (u := so L (lc L j)) fun x hx => by have := l1 x hx; omega
  have s2 := sm_le hL.len tk.2.1 (u := so L (rc L j)) fun x hx => by have := l2 x hx; omega
  have a1 : soA L j ≤ 655360000 := by
    have := Int.mul_le_mul s1.2 q.2.2.2.1.2 (by omega) (by omega)
    unfold soA; omega
  have b1 : soB L j ≤ 655360000 := by
    have := Int.mul_le_mul s2.2 q.2.2.2.2.1.2 (by omega) (by omega)
    unfold soB; omega
  have m1 := Int.mul_le_mul_of_nonneg_left g.1 (show 0 ≤ ml (soA L j) (soB L j) by omega)
  have m2 := Int.mul_le_mul_of_nonneg_left g.1 (show 0 ≤ mr (soA L j) (soB L j) by omega)
  rw [g.2.1] at m1
  rw [g.2.2.1] at m2
  exact ⟨⟨p.1, a1⟩, ⟨p.2, b1⟩, ⟨g.2.2.2.1, by omega⟩, ⟨g.2.2.2.2.1, by omega⟩, ⟨mx_pos _ fun x hx => (l1 x hx).1, (mx_le _).2 fun x hx => (l1 x hx).2⟩, ⟨mx_pos _ fun x hx => (l2 x hx).1, (mx_le _).2 fun x hx => (l2 x hx).2⟩⟩
end
end Go.Proofs.Ythefcbninpkncaa
