/-
  Mobiles: which are valid, what hangs from a part, sums, balance; the least weights under a part, and that all balanced weights are multiples of them. No program's walk.
-/
import Derived.Test.YthefcbninpkncaaParts
namespace Go.Proofs.Ythefcbninpkncaa

/-- A weight; a beam, at index k of n. -/
def WtOk (x : PartT) : Prop := x.right = -1 ∧ x.armLeft = 0 ∧ x.armRight = 0 ∧ 1 ≤ x.weight ∧ x.weight ≤ 1000
def BmOk (n k : Nat) (x : PartT) : Prop := ((k : Int) + 1 ≤ x.left ∧ x.left ≤ (n : Int) - 1) ∧ ((k : Int) + 1 ≤ x.right ∧ x.right ≤ (n : Int) - 1) ∧ (1 ≤ x.armLeft ∧ x.armLeft ≤ 20) ∧ (1 ≤ x.armRight ∧ x.armRight ≤ 20) ∧ x.weight = 0
def PtOk (n k : Nat) (x : PartT) : Prop := if x.left = -1 then WtOk x else BmOk n k x
instance (x : PartT) : Decidable (WtOk x) := by unfold WtOk; infer_instance
instance (n k : Nat) (x : PartT) : Decidable (BmOk n k x) := by unfold BmOk; infer_instance
instance (n k : Nat) (x : PartT) : Decidable (PtOk n k x) := by unfold PtOk; infer_instance
/-- From how many places j hangs, among the first k parts. -/
def cnt (L : List PartT) (j : Nat) : Nat → Nat
  | 0 => 0
  | k + 1 => cnt L j k + (if (ptget L k).left = (j : Int) then 1 else 0) + (if (ptget L k).right = (j : Int) then 1 else 0)
structure MOk (L : List PartT) : Prop where
  one : 1 ≤ L.length
  len : L.length ≤ 15
  part : ∀ k, k < L.length → PtOk L.length k (ptget L k)
  once : ∀ j, j < L.length → 1 ≤ j → cnt L j L.length = 1
theorem mok_iff {L : List PartT} : MOk L ↔ (1 ≤ L.length ∧ L.length ≤ 15) ∧ (∀ k, k < L.length → PtOk L.length k (ptget L k)) ∧ ∀ j, j < L.length → 1 ≤ j → cnt L j L.length = 1 :=
  ⟨fun h => ⟨⟨h.one, h.len⟩, h.part, h.once⟩, fun h => ⟨h.1.1, h.1.2, h.2.1, h.2.2⟩⟩
instance (L : List PartT) : Decidable (MOk L) := decidable_of_iff _ mok_iff.symm
def mok (L : List PartT) : Bool := decide (MOk L)

/-! ### Parents and children -/
def lc (L : List PartT) (k : Nat) : Nat := (ptget L k).left.toNat
def rc (L : List PartT) (k : Nat) : Nat := (ptget L k).right.toNat
/-- A beam both of whose parts come behind it. -/
def Bm (L : List PartT) (k : Nat) : Prop := (ptget L k).left ≠ -1 ∧ (k < lc L k ∧ lc L k < L.length) ∧ (k < rc L k ∧ rc L k < L.length)
instance (L : List PartT) (k : Nat) : Decidable (Bm L k) := by unfold Bm; infer_instance
theorem MOk.bm {L : List PartT} (h : MOk L) {k : Nat} (hk : k < L.length) (g : (ptget L k).left ≠ -1) : Bm L k ∧ (ptget L k).left = lc L k ∧ (ptget L k).right = rc L k ∧ (1 ≤ (ptget L k).armLeft ∧ (ptget L k).armLeft ≤ 20) ∧ (1 ≤ (ptget L k).armRight ∧ (ptget L k).armRight ≤ 20) ∧ (ptget L k).weight = 0 := by
  have p := h.part k hk
  unfold PtOk at p
  rw [if_neg g] at p
  obtain ⟨a, b, c, d, e⟩ := p
  unfold Bm lc rc
  exact ⟨⟨g, by omega, by omega⟩, by omega, by omega, c, d, e⟩
theorem MOk.wt {L : List PartT} (h : MOk L) {k : Nat} (hk : k < L.length) (g : (ptget L k).left = -1) : WtOk (ptget L k) := by
  have p := h.part k hk
  unfold PtOk at p
  rwa [if_pos g] at p
theorem not_bm {L : List PartT} {k : Nat} (g : (ptget L k).left = -1) : ¬ Bm L k := fun h => h.1 g
/-- j hangs from m. -/
def Ch (L : List PartT) (m j : Nat) : Prop := Bm L m ∧ (lc L m = j ∨ rc L m = j)
theorem Ch.lt {L : List PartT} {m j : Nat} (h : Ch L m j) : m < j ∧ j < L.length := by
  obtain ⟨⟨-, a, b⟩, c | c⟩ := h <;> omega
theorem cnt_mono (L : List PartT) (j : Nat) {k n : Nat} (h : k ≤ n) : cnt L j k ≤ cnt L j n := by
  induction n with
  | zero => obtain rfl : k = 0 := by omega
            exact Nat.le_refl _
  | succ n ih =>
    by_cases e : k = n + 1
    · subst e; exact Nat.le_refl _
    · have := ih (by omega)
      show cnt L j k ≤ cnt L j n + _ + _
      omega
theorem MOk.kid {L : List PartT} (h : MOk L) {m j : Nat} (c : Ch L m j) : (ptget L m).left = (j : Int) ∨ (ptget L m).right = (j : Int) := by
  have lt := c.lt
  have b := h.bm (k := m) (by omega) c.1.1
  rcases c.2 with e | e
  · exact .inl (by rw [b.2.1, e])
  · exact .inr (by rw [b.2.2.1, e])
theorem cnt_kid {L : List PartT} {m j : Nat} (h : (ptget L m).left = (j : Int) ∨ (ptget L m).right = (j : Int)) : cnt L j m + 1 ≤ cnt L j (m + 1) := by
  show cnt L j m + 1 ≤ cnt L j m + _ + _
  rcases h with h | h
  · rw [if_pos h]; omega
  · rw [if_pos h]; omega
theorem MOk.parent {L : List PartT} (h : MOk L) {m m' j : Nat} (c : Ch L m j) (c' : Ch L m' j) : m = m' := by
  have one := h.once j c.lt.2 (by have := c.lt; omega)
  have key : ∀ {a b : Nat}, Ch L a j → Ch L b j → ¬ a < b := fun {a b} ca cb lt => by
    have h1 := cnt_kid (h.kid ca)
    have h2 := cnt_kid (h.kid cb)
    have h3 := cnt_mono L j (show a + 1 ≤ b by omega)
    have h4 := cnt_mono L j (show b + 1 ≤ L.length by have := cb.lt; omega)
    omega
  have h1 := key c c'
  have h2 := key c' c
  omega
theorem MOk.sides {L : List PartT} (h : MOk L) {m : Nat} (b : Bm L m) : lc L m ≠ rc L m := fun e => by
  have hm : m < L.length := by have := b.2; omega
  have q := h.bm hm b.1
  have one := h.once (lc L m) (by have := b.2; omega) (by have := b.2; omega)
  have h1 : cnt L (lc L m) (m + 1) = cnt L (lc L m) m + 1 + 1 := by
    show cnt L (lc L m) m + _ + _ = _
    rw [if_pos q.2.1, if_pos (by rw [q.2.2.1, e])]
  have h2 := cnt_mono L (lc L m) (show m + 1 ≤ L.length by omega)
  omega

/-! ### What hangs from a part -/
inductive Desc (L : List PartT) (k : Nat) : Nat → Prop
  | self : Desc L k k
  | step {m j : Nat} : Desc L k m → Ch L m j → Desc L k j
theorem Desc.le {L : List PartT} {k j : Nat} (h : Desc L k j) : k ≤ j := by
  induction h with
  | self => exact Nat.le_refl _
  | step _ c ih => have := c.lt; omega
theorem Desc.trans {L : List PartT} {a b c : Nat} (h : Desc L a b) (g : Desc L b c) : Desc L a c := by
  induction g with
  | self => exact h
  | step _ c ih => exact .step ih c
theorem MOk.meet {L : List PartT} (h : MOk L) {k l x : Nat} (a : Desc L k x) (b : Desc L l x) : Desc L k l ∨ Desc L l k := by
  induction a with
  | self => exact .inr b
  | step a c ih =>
    cases b with
    | self => exact .inl (.step a c)
    | step b' c' =>
      obtain rfl := h.parent c c'
      exact ih b'
theorem MOk.apart {L : List PartT} (h : MOk L) {m x : Nat} (b : Bm L m) : ¬ (Desc L (lc L m) x ∧ Desc L (rc L m) x) := fun ⟨d1, d2⟩ => by
  have key : ∀ {p q : Nat}, Ch L m p → Ch L m q → p ≠ q → ¬ Desc L p q := fun {p q} cp cq ne d => by
    cases d with
    | self => exact ne rfl
    | step d' c' =>
      obtain rfl := h.parent c' cq
      have := d'.le
      have := cp.lt
      omega
  have c1 : Ch L m (lc L m) := ⟨b, .inl rfl⟩
  have c2 : Ch L m (rc L m) := ⟨b, .inr rfl⟩
  rcases h.meet d1 d2 with d | d
  · exact key c1 c2 (h.sides b) d
  · exact key c2 c1 (fun e => h.sides b e.symm) d

/-- The weights that hang from a part. -/
def lv (L : List PartT) (k : Nat) : List Nat :=
  if _h : Bm L k then lv L (lc L k) ++ lv L (rc L k) else [k]
termination_by L.length - k
decreasing_by all_goals (have := _h.2; omega)
theorem lv_bm {L : List PartT} {k : Nat} (h : Bm L k) : lv L k = lv L (lc L k) ++ lv L (rc L k) := by rw [lv, dif_pos h]
theorem lv_wt {L : List PartT} {k : Nat} (h : ¬ Bm L k) : lv L k = [k] := by rw [lv, dif_neg h]
/-- From the parts behind to a part. -/
theorem mob_ind {L : List PartT} {p : Nat → Prop} (hw : ∀ k, ¬ Bm L k → p k) (hb : ∀ k, Bm L k → p (lc L k) → p (rc L k) → p k) : ∀ k, p k := by
  have key : ∀ d k, L.length - k ≤ d → p k := by
    intro d
    induction d with
    | zero =>
      intro k hd
      exact hw k fun b => by have := b.2; omega
    | succ d ih =>
      intro k hd
      by_cases b : Bm L k
      · have := b.2
        exact hb k b (ih _ (by omega)) (ih _ (by omega))
      · exact hw k b
  exact fun k => key _ k (Nat.le_refl _)
theorem lv_desc {L : List PartT} : ∀ k x, x ∈ lv L k → Desc L k x := by
  refine mob_ind (L := L) (p := fun k => ∀ x, x ∈ lv L k → Desc L k x) (fun k h x hx => ?_) (fun k h i1 i2 x hx => ?_)
  · rw [lv_wt h, List.mem_singleton] at hx
    subst hx; exact .self
  · rw [lv_bm h, List.mem_append] at hx
    rcases hx with hx | hx
    · exact (Desc.step .self ⟨h, .inl rfl⟩).trans (i1 x hx)
    · exact (Desc.step .self ⟨h, .inr rfl⟩).trans (i2 x hx)
theorem lv_lt {L : List PartT} {k x : Nat} (hk : k < L.length) (h : x ∈ lv L k) : x < L.length := by
  have d := lv_desc k x h
  cases d with
  | self => exact hk
  | step _ c => exact c.lt.2
theorem lv_wt_of {L : List PartT} : ∀ k x, x ∈ lv L k → ¬ Bm L x := by
  refine mob_ind (L := L) (p := fun k => ∀ x, x ∈ lv L k → ¬ Bm L x) (fun k h x hx => ?_) (fun k h i1 i2 x hx => ?_)
  · rw [lv_wt h, List.mem_singleton] at hx
    subst hx; exact h
  · rw [lv_bm h, List.mem_append] at hx
    rcases hx with hx | hx
    · exact i1 x hx
    · exact i2 x hx
theorem MOk.lv_apart {L : List PartT} (h : MOk L) {m x : Nat} (b : Bm L m) : x ∈ lv L (lc L m) → x ∉ lv L (rc L m) := fun h1 h2 => h.apart b ⟨lv_desc _ _ h1, lv_desc _ _ h2⟩
theorem lv_ne (L : List PartT) : ∀ k, lv L k ≠ [] := by
  refine mob_ind (L := L) (fun k h => ?_) (fun k h i1 i2 => ?_)
  · rw [lv_wt h]; exact List.cons_ne_nil _ _
  · rw [lv_bm h]
    intro e
    exact i1 (List.append_eq_nil_iff.1 e).1

/-! ### Sums, the greatest, balance -/
/-- The sum of what hangs from a part, the weights being w. -/
def sm (L : List PartT) (w : Nat → Int) (k : Nat) : Int := ((lv L k).map w).sum
theorem sm_bm {L : List PartT} {w : Nat → Int} {k : Nat} (h : Bm L k) : sm L w k = sm L w (lc L k) + sm L w (rc L k) := by
  unfold sm
  rw [lv_bm h, List.map_append, List.sum_append]
theorem sm_wt {L : List PartT} {w : Nat → Int} {k : Nat} (h : ¬ Bm L k) : sm L w k = w k := by
  unfold sm
  rw [lv_wt h]
  simp
theorem sm_congr {L : List PartT} {w u : Nat → Int} {k : Nat} (h : ∀ x ∈ lv L k, w x = u x) : sm L w k = sm L u k := by
  unfold sm
  rw [List.map_congr_left h]
theorem sm_mul (L : List PartT) (w : Nat → Int) (c : Int) : ∀ k, sm L (fun x => w x * c) k = sm L w k * c := by
  refine mob_ind (L := L) (fun k h => ?_) (fun k h i1 i2 => ?_)
  · rw [sm_wt h, sm_wt h]
  · rw [sm_bm h, sm_bm h, i1, i2, Int.add_mul]
theorem sm_pos {L : List PartT} {w : Nat → Int} : ∀ k, (∀ x ∈ lv L k, 1 ≤ w x) → 1 ≤ sm L w k := by
  refine mob_ind (L := L) (p := fun k => (∀ x ∈ lv L k, 1 ≤ w x) → 1 ≤ sm L w k) (fun k h g => ?_) (fun k h i1 i2 g => ?_)
  · rw [sm_wt h]; exact g k (by rw [lv_wt h]; exact List.mem_singleton.2 rfl)
  · rw [sm_bm h]
    have a := i1 fun x hx => g x (by rw [lv_bm h]; exact List.mem_append_left _ hx)
    have b := i2 fun x hx => g x (by rw [lv_bm h]; exact List.mem_append_right _ hx)
    omega
/-- A beam is level, the weights being w. -/
def Lvl (L : List PartT) (w : Nat → Int) (k : Nat) : Prop := sm L w (lc L k) * (ptget L k).armLeft = sm L w (rc L k) * (ptget L k).armRight
instance (L : List PartT) (w : Nat → Int) (k : Nat) : Decidable (Lvl L w k) := by unfold Lvl; infer_instance
/-- All beams under a part are level. -/
def BalT (L : List PartT) (w : Nat → Int) (k : Nat) : Prop := ∀ m, Desc L k m → Bm L m → Lvl L w m
theorem BalT.left {L : List PartT} {w : Nat → Int} {k : Nat} (h : BalT L w k) (b : Bm L k) : BalT L w (lc L k) := fun m d bm => h m ((Desc.step .self ⟨b, .inl rfl⟩).trans d) bm
theorem BalT.right {L : List PartT} {w : Nat → Int} {k : Nat} (h : BalT L w k) (b : Bm L k) : BalT L w (rc L k) := fun m d bm => h m ((Desc.step .self ⟨b, .inr rfl⟩).trans d) bm

/-! ### The least weights -/
/-- By what the parts of a beam are multiplied, a and b being the products of sum and arm. -/
def ml (a b : Int) : Int := b / (Int.gcd a b : Int)
def mr (a b : Int) : Int := a / (Int.gcd a b : Int)
/-- The least weight of x under part k. -/
def so (L : List PartT) (k : Nat) : Nat → Int :=
  if _h : Bm L k then
    fun x => if x ∈ lv L (lc L k) then so L (lc L k) x * ml (sm L (so L (lc L k)) (lc L k) * (ptget L k).armLeft) (sm L (so L (rc L k)) (rc L k) * (ptget L k).armRight)
      else so L (rc L k) x * mr (sm L (so L (lc L k)) (lc L k) * (ptget L k).armLeft) (sm L (so L (rc L k)) (rc L k) * (ptget L k).armRight)
  else fun _ => 1
termination_by L.length - k
decreasing_by all_goals (have := _h.2; omega)
def soA (L : List PartT) (k : Nat) : Int := sm L (so L (lc L k)) (lc L k) * (ptget L k).armLeft
def soB (L : List PartT) (k : Nat) : Int := sm L (so L (rc L k)) (rc L k) * (ptget L k).armRight
theorem so_wt {L : List PartT} {k : Nat} (h : ¬ Bm L k) (x : Nat) : so L k x = 1 := by rw [so, dif_neg h]
theorem so_left {L : List PartT} {k x : Nat} (h : Bm L k) (hx : x ∈ lv L (lc L k)) : so L k x = so L (lc L k) x * ml (soA L k) (soB L k) := by
  rw [so, dif_pos h]
  exact if_pos hx
theorem so_right {L : List PartT} (hL : MOk L) {k x : Nat} (h : Bm L k) (hx : x ∈ lv L (rc L k)) : so L k x = so L (rc L k) x * mr (soA L k) (soB L k) := by
  rw [so, dif_pos h]
  exact if_neg fun g => hL.lv_apart h g hx
theorem gcd_ml {a b : Int} (ha : 1 ≤ a) (hb : 1 ≤ b) : 1 ≤ (Int.gcd a b : Int) ∧ ml a b * (Int.gcd a b : Int) = b ∧ mr a b * (Int.gcd a b : Int) = a ∧ 1 ≤ ml a b ∧ 1 ≤ mr a b ∧ Int.gcd (mr a b) (ml a b) = 1 := by
  have g0 : 0 < Int.gcd a b := Int.gcd_pos_of_ne_zero_left _ (by omega)
  have d1 : (Int.gcd a b : Int) ∣ a := Int.gcd_dvd_left ..
  have d2 : (Int.gcd a b : Int) ∣ b := Int.gcd_dvd_right ..
  have e1 : mr a b * (Int.gcd a b : Int) = a := Int.ediv_mul_cancel d1
  have e2 : ml a b * (Int.gcd a b : Int) = b := Int.ediv_mul_cancel d2
  have p1 : 1 ≤ mr a b := by
    rcases Int.lt_or_le 0 (mr a b) with h | h
    · omega
    · have := Int.mul_nonpos_of_nonpos_of_nonneg h (show (0 : Int) ≤ (Int.gcd a b : Int) by omega)
      omega
  have p2 : 1 ≤ ml a b := by
    rcases Int.lt_or_le 0 (ml a b) with h | h
    · omega
    · have := Int.mul_nonpos_of_nonpos_of_nonneg h (show (0 : Int) ≤ (Int.gcd a b : Int) by omega)
      omega
  refine ⟨by omega, e2, e1, p2, p1, ?_⟩
  have h := Int.gcd_mul_right (mr a b) (Int.gcd a b : Int) (ml a b)
  rw [e1, e2, Int.natAbs_natCast] at h
  exact Nat.eq_of_mul_eq_mul_right g0 (by rw [Nat.one_mul]; exact h.symm)
theorem so_pos {L : List PartT} (hL : MOk L) : ∀ k, k < L.length → ∀ x ∈ lv L k, 1 ≤ so L k x := by
  refine mob_ind (L := L) (p := fun k => k < L.length → ∀ x ∈ lv L k, 1 ≤ so L k x) (fun k h _ x _ => by rw [so_wt h]; omega) (fun k h i1 i2 hk x hx => ?_)
  have l1 := i1 (by have := h.2; omega)
  have l2 := i2 (by have := h.2; omega)
  have s1 := sm_pos _ l1
  have s2 := sm_pos _ l2
  have q := hL.bm hk h.1
  have a1 : 1 ≤ soA L k := by
    have := Int.mul_le_mul s1 q.2.2.2.1.1 (by omega) (by omega)
    unfold soA; omega
  have b1 : 1 ≤ soB L k := by
    have := Int.mul_le_mul s2 q.2.2.2.2.1.1 (by omega) (by omega)
    unfold soB; omega
  have g := gcd_ml a1 b1
  rw [lv_bm h, List.mem_append] at hx
  rcases hx with hx | hx
  · rw [so_left h hx]
    have := Int.mul_le_mul (l1 x hx) g.2.2.2.1 (by omega) (by have := l1 x hx; omega)
    omega
  · rw [so_right hL h hx]
    have := Int.mul_le_mul (l2 x hx) g.2.2.2.2.1 (by omega) (by have := l2 x hx; omega)
    omega
end Go.Proofs.Ythefcbninpkncaa
