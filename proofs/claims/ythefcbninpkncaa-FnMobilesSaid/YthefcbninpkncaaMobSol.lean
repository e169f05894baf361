/-
  Mobiles: the least weights balance, have no common divisor, all balanced weights are multiples of them; a mobile with other weights; the model's way from the last part to the first. No program's walk.
-/
import Derived.Test.YthefcbninpkncaaMob
namespace Go.Proofs.Ythefcbninpkncaa

theorem desc_cases {L : List PartT} {k m : Nat} (h : Desc L k m) : m = k ∨ (Bm L k ∧ (Desc L (lc L k) m ∨ Desc L (rc L k) m)) := by
  induction h with
  | self => exact .inl rfl
  | step d c ih =>
    rcases ih with rfl | ⟨b, d | d⟩
    · rcases c.2 with e | e
      · exact .inr ⟨c.1, .inl (e ▸ .self)⟩
      · exact .inr ⟨c.1, .inr (e ▸ .self)⟩
    · exact .inr ⟨b, .inl (.step d c)⟩
    · exact .inr ⟨b, .inr (.step d c)⟩
theorem desc_lv {L : List PartT} : ∀ k m, Desc L k m → ∀ x ∈ lv L m, x ∈ lv L k := by
  refine mob_ind (L := L) (p := fun k => ∀ m, Desc L k m → ∀ x ∈ lv L m, x ∈ lv L k) (fun k h m d x hx => ?_) (fun k h i1 i2 m d x hx => ?_)
  · rcases desc_cases d with rfl | ⟨b, -⟩
    · exact hx
    · exact (h b).elim
  · rcases desc_cases d with rfl | ⟨-, d | d⟩
    · exact hx
    · rw [lv_bm h]; exact List.mem_append_left _ (i1 m d x hx)
    · rw [lv_bm h]; exact List.mem_append_right _ (i2 m d x hx)
theorem lv_of_desc {L : List PartT} {k x : Nat} (d : Desc L k x) (h : ¬ Bm L x) : x ∈ lv L k := desc_lv k x d x (by rw [lv_wt h]; exact List.mem_singleton.2 rfl)
theorem cnt_pos {L : List PartT} {j : Nat} : ∀ n, 1 ≤ cnt L j n → ∃ m, m < n ∧ ((ptget L m).left = (j : Int) ∨ (ptget L m).right = (j : Int))
  | 0, h => by have : cnt L j 0 = 0 := rfl
               omega
  | n + 1, h => by
    by_cases g : 1 ≤ cnt L j n
    · obtain ⟨m, hm, e⟩ := cnt_pos n g
      exact ⟨m, by omega, e⟩
    · have e : cnt L j (n + 1) = cnt L j n + (if (ptget L n).left = (j : Int) then 1 else 0) + (if (ptget L n).right = (j : Int) then 1 else 0) := rfl
      by_cases a : (ptget L n).left = (j : Int)
      · exact ⟨n, by omega, .inl a⟩
      · by_cases b : (ptget L n).right = (j : Int)
        · exact ⟨n, by omega, .inr b⟩
        · rw [if_neg a, if_neg b] at e; omega
/-- Every part hangs from part 0. -/
theorem MOk.all {L : List PartT} (h : MOk L) : ∀ j, j < L.length → Desc L 0 j := by
  have key : ∀ d j, j ≤ d → j < L.length → Desc L 0 j := by
    intro d
    induction d with
    | zero => intro j hd _; obtain rfl : j = 0 := by omega
              exact .self
    | succ d ih =>
      intro j hd hj
      rcases Nat.eq_zero_or_pos j with rfl | h0
      · exact .self
      · obtain ⟨m, hm, e⟩ := cnt_pos L.length (Nat.le_of_eq (h.once j hj h0).symm)
        have g : (ptget L m).left ≠ -1 := fun g => by
          have w := h.wt hm g
          rw [g, w.1] at e
          omega
        have q := h.bm hm g
        have c : Ch L m j := ⟨q.1, by rw [q.2.1, q.2.2.1] at e; omega⟩
        exact .step (ih m (by have := c.lt; omega) hm) c
  exact fun j => key j j (Nat.le_refl _)
theorem MOk.lv_all {L : List PartT} (h : MOk L) {x : Nat} (hx : x < L.length) (b : ¬ Bm L x) : x ∈ lv L 0 := lv_of_desc (h.all x hx) b

section
variable {L : List PartT} (hL : MOk L)
include hL
theorem so_prod {k : Nat} (hk : k < L.length) (h : Bm L k) : 1 ≤ soA L k ∧ 1 ≤ soB L k := by
  have s1 := sm_pos _ (so_pos hL (lc L k) (by have := h.2; omega))
  have s2 := sm_pos _ (so_pos hL (rc L k) (by have := h.2; omega))
  have q := hL.bm hk h.1
  have a1 := Int.mul_le_mul s1 q.2.2.2.1.1 (by omega) (by omega)
  have b1 := Int.mul_le_mul s2 q.2.2.2.2.1.1 (by omega) (by omega)
  unfold soA soB
  omega
theorem so_sums {k : Nat} (h : Bm L k) : (∀ m, Desc L (lc L k) m → sm L (so L k) m = sm L (so L (lc L k)) m * ml (soA L k) (soB L k)) ∧ (∀ m, Desc L (rc L k) m → sm L (so L k) m = sm L (so L (rc L k)) m * mr (soA L k) (soB L k)) := by
  refine ⟨fun m d => ?_, fun m d => ?_⟩
  · rw [← sm_mul]
    exact sm_congr fun x hx => so_left h (desc_lv _ _ d x hx)
  · rw [← sm_mul]
    exact sm_congr fun x hx => so_right hL h (desc_lv _ _ d x hx)
/-- The least weights balance. -/
theorem so_bal : ∀ k, k < L.length → BalT L (so L k) k := by
  refine mob_ind (L := L) (p := fun k => k < L.length → BalT L (so L k) k) (fun k h _ m d b => ?_) (fun k h i1 i2 hk m d b => ?_)
  · rcases desc_cases d with rfl | ⟨b', -⟩
    · exact (h b).elim
    · exact (h b').elim
  · have sS := so_sums hL h
    rcases desc_cases d with rfl | ⟨-, d | d⟩
    · have p := so_prod hL hk h
      have g := gcd_ml p.1 p.2
      unfold Lvl
      rw [sS.1 _ .self, sS.2 _ .self]
      have e1 : sm L (so L (lc L m)) (lc L m) * ml (soA L m) (soB L m) * (ptget L m).armLeft = soA L m * ml (soA L m) (soB L m) := by
        unfold soA
        rw [Int.mul_assoc, Int.mul_comm (ml _ _), ← Int.mul_assoc]
      have e2 : sm L (so L (rc L m)) (rc L m) * mr (soA L m) (soB L m) * (ptget L m).armRight = soB L m * mr (soA L m) (soB L m) := by
        unfold soB
        rw [Int.mul_assoc, Int.mul_comm (mr _ _), ← Int.mul_assoc]
      rw [e1, e2]
      have g0 : (Int.gcd (soA L m) (soB L m) : Int) ≠ 0 := by omega
      apply Int.eq_of_mul_eq_mul_right g0
      rw [Int.mul_assoc, g.2.1, Int.mul_assoc, g.2.2.1, Int.mul_comm]
    · have := i1 (by have := h.2; omega) m d b
      unfold Lvl at this ⊢
      rw [sS.1 _ (.step d ⟨b, .inl rfl⟩), sS.1 _ (.step d ⟨b, .inr rfl⟩), Int.mul_assoc, Int.mul_comm (ml _ _), ← Int.mul_assoc, this, Int.mul_assoc, Int.mul_comm (ptget L m).armRight, ← Int.mul_assoc]
    · have := i2 (by have := h.2; omega) m d b
      unfold Lvl at this ⊢
      rw [sS.2 _ (.step d ⟨b, .inl rfl⟩), sS.2 _ (.step d ⟨b, .inr rfl⟩), Int.mul_assoc, Int.mul_comm (mr _ _), ← Int.mul_assoc, this, Int.mul_assoc, Int.mul_comm (ptget L m).armRight, ← Int.mul_assoc]
/-- Positive balanced weights are a multiple of the least ones. -/
theorem so_mult : ∀ k, k < L.length → ∀ w : Nat → Int, (∀ x ∈ lv L k, 1 ≤ w x) → BalT L w k → ∃ c, 1 ≤ c ∧ ∀ x ∈ lv L k, w x = so L k x * c := by
  refine mob_ind (L := L) (p := fun k => k < L.length → ∀ w : Nat → Int, (∀ x ∈ lv L k, 1 ≤ w x) → BalT L w k → ∃ c, 1 ≤ c ∧ ∀ x ∈ lv L k, w x = so L k x * c) (fun k h _ w hw _ => ?_) (fun k h i1 i2 hk w hw hb => ?_)
  · refine ⟨w k, hw k (by rw [lv_wt h]; exact List.mem_singleton.2 rfl), fun x hx => ?_⟩
    rw [lv_wt h, List.mem_singleton] at hx
    subst hx
    rw [so_wt h, Int.one_mul]
  · obtain ⟨c1, h1, e1⟩ := i1 (by have := h.2; omega) w (fun x hx => hw x (by rw [lv_bm h]; exact List.mem_append_left _ hx)) (hb.left h)
    obtain ⟨c2, h2, e2⟩ := i2 (by have := h.2; omega) w (fun x hx => hw x (by rw [lv_bm h]; exact List.mem_append_right _ hx)) (hb.right h)
    have p := so_prod hL hk h
    have g := gcd_ml p.1 p.2
    have lev := hb k .self h
    unfold Lvl at lev
    have s1 : sm L w (lc L k) = sm L (so L (lc L k)) (lc L k) * c1 := by rw [← sm_mul]; exact sm_congr e1
    have s2 : sm L w (rc L k) = sm L (so L (rc L k)) (rc L k) * c2 := by rw [← sm_mul]; exact sm_congr e2
    rw [s1, s2] at lev
    have lev2 : soA L k * c1 = soB L k * c2 := by
      unfold soA soB
      rw [Int.mul_assoc, Int.mul_comm (ptget L k).armLeft, ← Int.mul_assoc, lev, Int.mul_assoc, Int.mul_comm c2, ← Int.mul_assoc]
    generalize ha : soA L k = a at p g lev2
    generalize hb2 : soB L k = b at p g lev2
    obtain ⟨g1, gl, gr, pl, pr, cop⟩ := g
    generalize (Int.gcd a b : Int) = d at g1 gl gr
    have lev3 : mr a b * c1 = ml a b * c2 := by
      apply Int.eq_of_mul_eq_mul_right (show d ≠ 0 by omega)
      rw [Int.mul_assoc, Int.mul_comm c1, ← Int.mul_assoc, gr, Int.mul_assoc, Int.mul_comm c2, ← Int.mul_assoc, gl, lev2]
    have dv : ml a b ∣ c1 := by
      have d1 : ml a b ∣ mr a b * c1 := ⟨c2, lev3⟩
      have d2 : ml a b ∣ ml a b * c1 := ⟨c1, rfl⟩
      have e := Int.gcd_mul_right (mr a b) c1 (ml a b)
      rw [cop, Nat.one_mul] at e
      have := Int.dvd_coe_gcd d1 d2
      rw [e] at this
      exact Int.dvd_natAbs.1 this
    obtain ⟨t, ht⟩ := dv
    have e3 : c2 = mr a b * t := by
      apply Int.eq_of_mul_eq_mul_left (show ml a b ≠ 0 by omega)
      rw [← lev3, ht, ← Int.mul_assoc, Int.mul_comm (mr a b), Int.mul_assoc]
    have t1 : 1 ≤ t := by
      rcases Int.lt_or_le 0 t with h | h
      · omega
      · have := Int.mul_nonpos_of_nonneg_of_nonpos (show 0 ≤ ml a b by omega) h
        omega
    refine ⟨t, t1, fun x hx => ?_⟩
    rw [lv_bm h, List.mem_append] at hx
    rcases hx with hx | hx
    · rw [so_left h hx, e1 x hx, ha, hb2, ht, Int.mul_assoc]
    · rw [so_right hL h hx, e2 x hx, ha, hb2, e3, Int.mul_assoc]
/-- The least weights have no common divisor. -/
theorem so_coprime : ∀ k, k < L.length → ∀ d c : Int, (∀ x ∈ lv L k, d ∣ so L k x * c) → d ∣ c := by
  refine mob_ind (L := L) (p := fun k => k < L.length → ∀ d c : Int, (∀ x ∈ lv L k, d ∣ so L k x * c) → d ∣ c) (fun k h _ d c hd => ?_) (fun k h i1 i2 hk d c hd => ?_)
  · have := hd k (by rw [lv_wt h]; exact List.mem_singleton.2 rfl)
    rwa [so_wt h, Int.one_mul] at this
  · have p := so_prod hL hk h
    have g := gcd_ml p.1 p.2
    have d1 := i1 (by have := h.2; omega) d (ml (soA L k) (soB L k) * c) fun x hx => by
      have := hd x (by rw [lv_bm h]; exact List.mem_append_left _ hx)
      rwa [so_left h hx, Int.mul_assoc] at this
    have d2 := i2 (by have := h.2; omega) d (mr (soA L k) (soB L k) * c) fun x hx => by
      have := hd x (by rw [lv_bm h]; exact List.mem_append_right _ hx)
      rwa [so_right hL h hx, Int.mul_assoc] at this
    have e := Int.gcd_mul_right (mr (soA L k) (soB L k)) c (ml (soA L k) (soB L k))
    rw [g.2.2.2.2.2, Nat.one_mul] at e
    have := Int.dvd_coe_gcd d2 d1
    rw [e] at this
    exact Int.dvd_natAbs.1 this
/-- Under a part, the least weights of the whole are a multiple of the part's own. -/
theorem so_under {k : Nat} (hk : k < L.length) : ∃ c, 1 ≤ c ∧ ∀ x ∈ lv L k, so L 0 x = so L k x * c := by
  have d := hL.all k hk
  have h0 := hL.one
  exact so_mult hL k hk (so L 0) (fun x hx => so_pos hL 0 (by omega) x (desc_lv 0 k d x hx)) (fun m dm b => so_bal hL 0 (by omega) m (d.trans dm) b)
end

/-! ### A mobile with other weights -/
def put (L : List PartT) (u : Nat → Int) : List PartT := (List.range L.length).map fun i => if Bm L i then ptget L i else { ptget L i with weight := u i }
theorem put_length (L : List PartT) (u : Nat → Int) : (put L u).length = L.length := by simp [put]
theorem put_get {L : List PartT} {u : Nat → Int} {i : Nat} (h : i < L.length) : ptget (put L u) i = if Bm L i then ptget L i else { ptget L i with weight := u i } := by
  unfold put
  rw [ptget, List.getD_eq_getElem?_getD, List.getElem?_map, List.getElem?_range h]; rfl
theorem put_bm {L : List PartT} {u : Nat → Int} {i : Nat} (h : i < L.length) (b : Bm L i) : ptget (put L u) i = ptget L i := by rw [put_get h, if_pos b]
theorem put_wt {L : List PartT} {u : Nat → Int} {i : Nat} (h : i < L.length) (b : ¬ Bm L i) : ptget (put L u) i = { ptget L i with weight := u i } := by rw [put_get h, if_neg b]
theorem put_left {L : List PartT} {u : Nat → Int} {i : Nat} (h : i < L.length) : (ptget (put L u) i).left = (ptget L i).left ∧ (ptget (put L u) i).right = (ptget L i).right ∧ (ptget (put L u) i).armLeft = (ptget L i).armLeft ∧ (ptget (put L u) i).armRight = (ptget L i).armRight := by
  rw [put_get h]
  split <;> exact ⟨rfl, rfl, rfl, rfl⟩
theorem ext_get {M N : List PartT} (h : M.length = N.length) (g : ∀ i, i < M.length → ptget M i = ptget N i) : M = N := by
  refine List.ext_getElem h fun i h1 h2 => ?_
  have := g i h1
  rwa [ptget_el h1, ptget_el h2] at this
theorem put_self (L : List PartT) : put L (fun i => (ptget L i).weight) = L :=
  ext_get (put_length _ _) fun i h => by
    rw [put_length] at h
    rw [put_get h]
    split <;> rfl
theorem put_congr {L : List PartT} {u v : Nat → Int} (h : ∀ i, i < L.length → ¬ Bm L i → u i = v i) : put L u = put L v :=
  ext_get (by rw [put_length, put_length]) fun i hi => by
    rw [put_length] at hi
    rw [put_get hi, put_get hi]
    split
    · rfl
    · rename_i b
      rw [h i hi b]
theorem put_set {L : List PartT} {u : Nat → Int} {k : Nat} (hk : k < L.length) (b : ¬ Bm L k) (z : Int) : (put L u).set k { ptget (put L u) k with weight := z } = put L (fun i => if i = k then z else u i) := by
  refine ext_get (by rw [List.length_set, put_length, put_length]) fun i hi => ?_
  rw [List.length_set, put_length] at hi
  by_cases e : k = i
  · subst e
    rw [ptget_set (by rw [put_length]; exact hk), put_wt hk b, put_wt hk b, if_pos rfl]
  · rw [ptget_ne e, put_get hi, put_get hi]
    by_cases c : Bm L i
    · rw [if_pos c, if_pos c]
    · rw [if_neg c, if_neg c, if_neg (fun g => e g.symm)]
/-- All weights under a part times z. -/
def mulU (L : List PartT) (k : Nat) (z : Int) (u : Nat → Int) : Nat → Int := fun x => if x ∈ lv L k then u x * z else u x
/-- The greatest weight under a part. -/
def mx (L : List PartT) (u : Nat → Int) (k : Nat) : Int :=
  if _h : Bm L k then max (mx L u (lc L k)) (mx L u (rc L k)) else u k
termination_by L.length - k
decreasing_by all_goals (have := _h.2; omega)
theorem mx_bm {L : List PartT} {u : Nat → Int} {k : Nat} (h : Bm L k) : mx L u k = max (mx L u (lc L k)) (mx L u (rc L k)) := by rw [mx, dif_pos h]
theorem mx_wt {L : List PartT} {u : Nat → Int} {k : Nat} (h : ¬ Bm L k) : mx L u k = u k := by rw [mx, dif_neg h]
theorem mx_le {L : List PartT} {u : Nat → Int} {z : Int} : ∀ k, mx L u k ≤ z ↔ ∀ x ∈ lv L k, u x ≤ z := by
  refine mob_ind (L := L) (p := fun k => mx L u k ≤ z ↔ ∀ x ∈ lv L k, u x ≤ z) (fun k h => ?_) (fun k h i1 i2 => ?_)
  · rw [mx_wt h, lv_wt h]
    simp
  · rw [mx_bm h, lv_bm h]
    constructor
    · intro g x hx
      rcases List.mem_append.1 hx with hx | hx
      · exact i1.1 (by omega) x hx
      · exact i2.1 (by omega) x hx
    · intro g
      have a := i1.2 fun x hx => g x (List.mem_append_left _ hx)
      have b := i2.2 fun x hx => g x (List.mem_append_right _ hx)
      omega
theorem mx_pos {L : List PartT} {u : Nat → Int} : ∀ k, (∀ x ∈ lv L k, 1 ≤ u x) → 1 ≤ mx L u k := by
  refine mob_ind (L := L) (p := fun k => (∀ x ∈ lv L k, 1 ≤ u x) → 1 ≤ mx L u k) (fun k h g => ?_) (fun k h i1 i2 g => ?_)
  · rw [mx_wt h]; exact g k (by rw [lv_wt h]; exact List.mem_singleton.2 rfl)
  · rw [mx_bm h]
    have a := i1 fun x hx => g x (by rw [lv_bm h]; exact List.mem_append_left _ hx)
    omega
theorem mx_congr {L : List PartT} {u v : Nat → Int} : ∀ k, (∀ x ∈ lv L k, u x = v x) → mx L u k = mx L v k := by
  refine mob_ind (L := L) (p := fun k => (∀ x ∈ lv L k, u x = v x) → mx L u k = mx L v k) (fun k h g => ?_) (fun k h i1 i2 g => ?_)
  · rw [mx_wt h, mx_wt h]; exact g k (by rw [lv_wt h]; exact List.mem_singleton.2 rfl)
  · rw [mx_bm h, mx_bm h, i1 fun x hx => g x (by rw [lv_bm h]; exact List.mem_append_left _ hx), i2 fun x hx => g x (by rw [lv_bm h]; exact List.mem_append_right _ hx)]
end Go.Proofs.Ythefcbninpkncaa
