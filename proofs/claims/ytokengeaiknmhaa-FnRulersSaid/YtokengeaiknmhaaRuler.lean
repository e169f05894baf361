/-
  Valid rulers; the lengths between their marks, how often each occurs, in ascending order; the ruler read from the other end. No program's walk.
-/
import Derived.Test.YtokengeaiknmhaaRange
namespace Go.Proofs.Ytokengeaiknmhaa
open Go.ChangeShapes Go.WideShapes Go.ChangeAt Go.RowKit Go.PlainAid

/-- The mark at j is in the range and greater than the one before. -/
def FineR (L : List Int) (j : Nat) : Prop := (0 ≤ L.getD j 0 ∧ L.getD j 0 ≤ 60) ∧ (0 < j → L.getD (j - 1) 0 < L.getD j 0)
def RulP (L : List Int) : Prop := ((1 ≤ L.length ∧ L.length ≤ 8) ∧ L.getD 0 0 = 0) ∧ ∀ j, j < L.length → FineR L j
instance (L : List Int) (j : Nat) : Decidable (FineR L j) := by unfold FineR; infer_instance
instance (L : List Int) : Decidable (RulP L) := by unfold RulP; infer_instance
def rulB (L : List Int) : Bool := decide (RulP L)
theorem rulB_yes {L : List Int} (h0 : 1 ≤ L.length ∧ L.length ≤ 8) (h1 : L.getD 0 0 = 0) (h : ∀ j, j < L.length → FineR L j) : rulB L = true := decide_eq_true ⟨⟨h0, h1⟩, h⟩
theorem rulB_no {L : List Int} {j : Nat} (hj : j < L.length) (h : ¬ FineR L j) : rulB L = false := decide_eq_false fun g => h (g.2 j hj)
theorem rulB_len {L : List Int} (h : ¬ (1 ≤ L.length ∧ L.length ≤ 8)) : rulB L = false := decide_eq_false fun g => h g.1.1
theorem rulB_zero {L : List Int} (h : ¬ L.getD 0 0 = 0) : rulB L = false := decide_eq_false fun g => h g.1.2
theorem rulB_P {L : List Int} (h : rulB L = true) : RulP L := of_decide_eq_true h

/-- Ascending up to n: any two marks. -/
theorem asc_le {L : List Int} {n : Nat} (h : ∀ j, 0 < j → j < n → L.getD (j - 1) 0 < L.getD j 0) : ∀ d i, i + d < n → L.getD i 0 + d ≤ L.getD (i + d) 0
  | 0, i, _ => by simp
  | d + 1, i, hi => by
    have h1 := asc_le h d i (by omega)
    have h2 := h (i + (d + 1)) (by omega) hi
    have e : i + (d + 1) - 1 = i + d := by omega
    rw [e] at h2
    omega
theorem RulP.asc {L : List Int} (h : RulP L) {i j : Nat} (hi : i < j) (hj : j < L.length) : L.getD i 0 < L.getD j 0 := by
  have := asc_le (n := L.length) (fun j h0 hj => (h.2 j hj).2 h0) (j - i) i (by omega)
  have e : i + (j - i) = j := by omega
  rw [e] at this
  omega
theorem RulP.le {L : List Int} (h : RulP L) {i j : Nat} (hi : i ≤ j) (hj : j < L.length) : L.getD i 0 ≤ L.getD j 0 := by
  rcases Nat.lt_or_ge i j with h1 | h1
  · exact Int.le_of_lt (h.asc h1 hj)
  · obtain rfl : i = j := by omega
    exact Int.le_refl _
/-- Ascending from 0 to at most 60. -/
theorem rulP_ends {L : List Int} (h0 : 1 ≤ L.length ∧ L.length ≤ 8) (h1 : L.getD 0 0 = 0) (ha : ∀ j, 0 < j → j < L.length → L.getD (j - 1) 0 < L.getD j 0) (hl : L.getD (L.length - 1) 0 ≤ 60) : RulP L := by
  refine ⟨⟨h0, h1⟩, fun j hj => ⟨?_, fun g => ha j g hj⟩⟩
  have a := asc_le ha j 0 (by omega)
  have b := asc_le ha (L.length - 1 - j) j (by omega)
  have e : j + (L.length - 1 - j) = L.length - 1 := by omega
  rw [e] at b
  rw [Nat.zero_add, h1] at a
  omega

/-- The last mark. -/
def lastL (L : List Int) : Int := L.getD (L.length - 1) 0

/-- The lengths to the marks ahead of k, as a program comes to them. -/
def lensTo (L : List Int) : Nat → List Int
  | 0 => []
  | k + 1 => lensTo L k ++ (L.take k).map fun x => L.getD k 0 - x
def lens (L : List Int) : List Int := lensTo L L.length
/-- .. and to the mark at k from the first i marks. -/
def lensAt (L : List Int) (k i : Nat) : List Int := lensTo L k ++ (L.take i).map fun x => L.getD k 0 - x
theorem lensAt_zero (L : List Int) (k : Nat) : lensAt L k 0 = lensTo L k := by unfold lensAt; simp
theorem lensAt_all (L : List Int) (k : Nat) : lensAt L k k = lensTo L (k + 1) := rfl
theorem lensAt_succ {L : List Int} {k i : Nat} (hi : i < L.length) : lensAt L k (i + 1) = lensAt L k i ++ [L.getD k 0 - L.getD i 0] := by
  unfold lensAt
  rw [List.take_succ_eq_append_getElem hi, List.map_append, List.getD_eq_getElem?_getD (i := i), List.getElem?_eq_getElem hi, List.append_assoc]; rfl
theorem lensTo_length (L : List Int) : ∀ k, k ≤ L.length → 2 * (lensTo L k).length = k * (k - 1)
  | 0, _ => rfl
  | k + 1, h => by
    have ih := lensTo_length L k (by omega)
    unfold lensTo
    rw [List.length_append, List.length_map, List.length_take, Nat.min_eq_left (by omega), Nat.mul_add, ih]
    rcases k with _ | k
    · rfl
    · simp only [Nat.add_sub_cancel]
      have e : (k + 1 + 1) * (k + 1) = (k + 1) * k + 2 * (k + 1) := by rw [← Nat.mul_comm (k + 1) 2, ← Nat.mul_add, Nat.mul_comm]
      rw [e]
theorem lensAt_length {L : List Int} {k i : Nat} (hl : L.length ≤ 8) (hk : k ≤ L.length) (hi : i ≤ k) : (lensAt L k i).length ≤ 64 := by
  unfold lensAt
  have h1 := lensTo_length L k hk
  rw [List.length_append, List.length_map, List.length_take]
  have h2 : k * (k - 1) ≤ 8 * 7 := Nat.mul_le_mul (by omega) (by omega)
  omega
theorem lens_length {L : List Int} (hl : L.length ≤ 8) : (lens L).length ≤ 28 := by
  have h1 := lensTo_length L L.length (Nat.le_refl _)
  have h2 : L.length * (L.length - 1) ≤ 8 * 7 := Nat.mul_le_mul (by omega) (by omega)
  unfold lens
  omega
theorem mem_take {L : List Int} {k : Nat} {x : Int} (h : x ∈ L.take k) : ∃ i, i < k ∧ i < L.length ∧ x = L.getD i 0 := by
  obtain ⟨i, hi, rfl⟩ := List.mem_iff_getElem.1 h
  rw [List.length_take] at hi
  refine ⟨i, by omega, by omega, ?_⟩
  rw [List.getElem_take, List.getD_eq_getElem?_getD, List.getElem?_eq_getElem (by omega)]; rfl
theorem lensTo_mem {L : List Int} : ∀ {k : Nat} {d : Int}, d ∈ lensTo L k → ∃ i j, i < j ∧ j < k ∧ d = L.getD j 0 - L.getD i 0
  | 0, d, h => by cases h
  | k + 1, d, h => by
    unfold lensTo at h
    rcases List.mem_append.1 h with h | h
    · obtain ⟨i, j, h1, h2, h3⟩ := lensTo_mem h
      exact ⟨i, j, h1, by omega, h3⟩
    · obtain ⟨x, hx, rfl⟩ := List.mem_map.1 h
      obtain ⟨i, h1, h2, rfl⟩ := mem_take hx
      exact ⟨i, k, h1, by omega, rfl⟩
theorem RulP.diff {L : List Int} (h : RulP L) {i j : Nat} (hi : i < j) (hj : j < L.length) : 1 ≤ L.getD j 0 - L.getD i 0 ∧ L.getD j 0 - L.getD i 0 ≤ lastL L ∧ lastL L ≤ 60 := by
  have h1 := h.asc hi hj
  have h2 := h.le (i := j) (j := L.length - 1) (by omega) (by omega)
  have h3 := (h.2 i (by omega)).1
  have h4 := (h.2 (L.length - 1) (by omega)).1
  unfold lastL
  omega
theorem RulP.lens_in {L : List Int} (h : RulP L) {d : Int} (hd : d ∈ lens L) : 1 ≤ d ∧ d ≤ lastL L ∧ lastL L ≤ 60 := by
  obtain ⟨i, j, h1, h2, rfl⟩ := lensTo_mem hd
  exact h.diff h1 h2
theorem RulP.last {L : List Int} (h : RulP L) : 0 ≤ lastL L ∧ lastL L ≤ 60 := (h.2 (L.length - 1) (by have := h.1.1.1; omega)).1

/-! ### How often each length occurs -/
def tab (D : List Int) : List Int := (List.range 61).map fun v : Nat => (D.count (v : Int) : Int)
theorem tab_len (D : List Int) : (tab D).length = 61 := by unfold tab; rw [List.length_map, List.length_range]
theorem tab_get (D : List Int) {v : Nat} (h : v < 61) : (tab D).getD v 0 = (D.count (v : Int) : Int) := by
  unfold tab
  rw [List.getD_eq_getElem?_getD, List.getElem?_map, List.getElem?_range h]; rfl
theorem tab_nil : tab [] = List.replicate 61 0 := by decide +kernel
theorem tab_getE (D : List Int) {j : Nat} (h : j < (tab D).length) : (tab D)[j] = (D.count (j : Int) : Int) := by
  have e := tab_get D (v := j) (by rw [tab_len] at h; exact h)
  rwa [List.getD_eq_getElem?_getD, List.getElem?_eq_getElem h] at e
theorem tab_snoc (D : List Int) {v : Nat} (h : v < 61) : (tab D).set v ((tab D).getD v 0 + 1) = tab (D ++ [(v : Int)]) := by
  rw [tab_get D h]
  refine List.ext_getElem (by rw [List.length_set, tab_len, tab_len]) fun j h1 h2 => ?_
  rw [List.getElem_set, tab_getE, tab_getE, List.count_append]
  by_cases e : v = j
  · subst e
    rw [if_pos rfl, List.count_singleton_self]; omega
  · rw [if_neg e, List.count_singleton, if_neg (by simp; omega)]
    rfl

/-! ### The lengths in ascending order -/
def outTo (D : List Int) : Nat → List Int
  | 0 => []
  | k + 1 => outTo D k ++ List.replicate (D.count ((k + 1 : Nat) : Int)) ((k + 1 : Nat) : Int)
def outL (D : List Int) : List Int := outTo D 60
theorem outTo_length (D : List Int) (m : Nat) (hm : D.length ≤ m) : ∀ k, (outTo D k).length ≤ m * k
  | 0 => Nat.zero_le _
  | k + 1 => by
    have ih := outTo_length D m hm k
    have h1 := List.count_le_length (a := ((k + 1 : Nat) : Int)) (l := D)
    unfold outTo
    rw [List.length_append, List.length_replicate, Nat.mul_add, Nat.mul_one]
    omega
theorem outTo_perm {D E : List Int} (h : D.Perm E) : ∀ k, outTo D k = outTo E k
  | 0 => rfl
  | k + 1 => by
    unfold outTo
    rw [outTo_perm h k, h.count_eq]

/-! ### Each length once; each length up to the last mark -/
def golB (L : List Int) : Bool := rulB L && decide (lens L).Nodup
def measB (L : List Int) : Bool := rulB L && (List.range (lastL L).toNat).all fun j => decide (((j + 1 : Nat) : Int) ∈ lens L)
/-- How many different lengths there are. -/
def dist (D : List Int) : Nat := (List.range 61).countP fun v : Nat => decide ((v : Int) ∈ D)
theorem dist_nil : dist [] = 0 := by decide +kernel
theorem countP_or_one {p q : Nat → Bool} {v : Nat} (hq : ∀ j, q j = (p j || decide (j = v))) (hp : p v = false) : ∀ l : List Nat, l.Nodup → l.countP q = l.countP p + if v ∈ l then 1 else 0
  | [], _ => rfl
  | x :: l, h => by
    have ih := countP_or_one hq hp l (List.nodup_cons.1 h).2
    rw [List.countP_cons, List.countP_cons, ih, hq x]
    by_cases e : x = v
    · subst e
      have h1 : x ∉ l := (List.nodup_cons.1 h).1
      simp [hp, h1]
    · have e2 : ¬ v = x := fun g => e g.symm
      simp [e, e2]
      omega
theorem dist_snoc {D : List Int} {d : Int} (h1 : 0 ≤ d) (h2 : d ≤ 60) : dist (D ++ [d]) = if d ∈ D then dist D else dist D + 1 := by
  unfold dist
  by_cases h : d ∈ D
  · rw [if_pos h]
    refine List.countP_congr fun v _ => ?_
    simp only [List.mem_append, List.mem_singleton, decide_eq_true_eq]
    constructor
    · rintro (h3 | h3)
      · exact h3
      · rw [h3]; exact h
    · exact .inl
  · rw [if_neg h]
    obtain ⟨v, rfl⟩ := Int.eq_ofNat_of_zero_le h1
    rw [countP_or_one (p := fun j => decide ((j : Int) ∈ D)) (v := v) (fun j => ?_) (decide_eq_false h) _ List.nodup_range, if_pos (List.mem_range.2 (by omega))]
    simp only [List.mem_append, List.mem_singleton, Bool.decide_or]
    congr 1
    exact decide_eq_decide.2 Int.ofNat_inj
theorem snoc_ind {α : Type} {P : List α → Prop} (h0 : P []) (h1 : ∀ l x, P l → P (l ++ [x])) (l : List α) : P l := by
  have : ∀ m : List α, P m.reverse := fun m => by
    induction m with
    | nil => exact h0
    | cons x m ih => rw [List.reverse_cons]; exact h1 _ _ ih
  have h := this l.reverse
  rwa [List.reverse_reverse] at h
theorem nodup_snoc {D : List Int} {d : Int} : (D ++ [d]).Nodup ↔ D.Nodup ∧ d ∉ D := by
  rw [List.nodup_append]
  constructor
  · rintro ⟨h1, -, h3⟩
    exact ⟨h1, fun h => h3 d h d (List.mem_singleton.2 rfl) rfl⟩
  · rintro ⟨h1, h2⟩
    refine ⟨h1, by simp, fun a ha b hb e => ?_⟩
    rw [List.mem_singleton.1 hb] at e
    subst e
    exact h2 ha
theorem dist_le (D : List Int) : (∀ d ∈ D, 0 ≤ d ∧ d ≤ 60) → dist D ≤ D.length ∧ (dist D = D.length ↔ D.Nodup) := by
  induction D using snoc_ind with
  | h0 => intro _; rw [dist_nil]; simp
  | h1 D d ih =>
    intro h
    obtain ⟨a, b⟩ := ih fun x hx => h x (List.mem_append_left _ hx)
    have hd := h d (List.mem_append_right _ (List.mem_singleton.2 rfl))
    rw [dist_snoc hd.1 hd.2, List.length_append, List.length_singleton, nodup_snoc]
    by_cases e : d ∈ D
    · rw [if_pos e]
      exact ⟨by omega, fun g => by omega, fun g => absurd e g.2⟩
    · rw [if_neg e]
      refine ⟨by omega, fun g => ⟨b.1 (by omega), e⟩, fun g => ?_⟩
      rw [b.2 g.1]
/-- As many different lengths as pairs of marks. -/
theorem golB_dist {L : List Int} (h : rulB L = true) : golB L = decide ((dist (lens L) : Int) = (L.length * (L.length - 1) / 2 : Nat)) := by
  have hP := rulB_P h
  unfold golB
  rw [h, Bool.true_and]
  have h1 := (dist_le (lens L) fun d hd => by have := hP.lens_in hd; omega).2
  have h2 := lensTo_length L L.length (Nat.le_refl _)
  have h3 : (lens L).length = L.length * (L.length - 1) / 2 := by unfold lens; omega
  rw [h3] at h1
  exact decide_eq_decide.2 (h1.symm.trans Int.ofNat_inj.symm)
theorem countP_all {p : Nat → Bool} (l : List Nat) : l.countP p = l.length ↔ ∀ x ∈ l, p x = true := List.countP_eq_length
theorem dist_last {D : List Int} {m : Nat} (hm : m ≤ 60) (h : ∀ d ∈ D, 1 ≤ d ∧ d ≤ (m : Int)) : dist D = (List.range m).countP fun j => decide (((j + 1 : Nat) : Int) ∈ D) := by
  unfold dist
  have e : List.range 61 = 0 :: ((List.range m).map (· + 1) ++ (List.range (60 - m)).map (· + (m + 1))) := by
    refine List.ext_getElem ?_ fun i h1 h2 => ?_
    · simp; omega
    · rw [List.getElem_range]
      rcases i with _ | i
      · rfl
      · rw [List.getElem_cons_succ, List.getElem_append]
        split
        · rw [List.getElem_map, List.getElem_range]
        · rename_i h3
          rw [List.length_map, List.length_range] at h3
          rw [List.getElem_map, List.getElem_range, List.length_map, List.length_range]; omega
  rw [e, List.countP_cons, List.countP_append, List.countP_map, List.countP_map]
  have z : decide (((0 : Nat) : Int) ∈ D) = false := decide_eq_false fun g => by have := h _ g; omega
  have z2 : (List.range (60 - m)).countP ((fun v : Nat => decide ((v : Int) ∈ D)) ∘ (· + (m + 1))) = 0 := by
    refine List.countP_eq_zero.2 fun j _ => ?_
    simp only [Function.comp, decide_eq_true_eq]
    intro g
    have := h _ g
    omega
  rw [z2, if_neg (by rw [z]; decide)]
  rfl
/-- As many different lengths as the last mark says. -/
theorem measB_dist {L : List Int} (h : rulB L = true) : measB L = decide ((dist (lens L) : Int) = lastL L) := by
  have hP := rulB_P h
  have hl := hP.last
  obtain ⟨m, hm⟩ := Int.eq_ofNat_of_zero_le hl.1
  unfold measB
  rw [h, Bool.true_and, hm, dist_last (m := m) (by omega) fun d hd => by have := hP.lens_in hd; omega]
  rw [Bool.eq_iff_iff, List.all_eq_true, decide_eq_true_eq]
  have e : (((List.range m).countP fun j => decide (((j + 1 : Nat) : Int) ∈ lens L) : Nat) : Int) = (m : Int) ↔ (List.range m).countP (fun j => decide (((j + 1 : Nat) : Int) ∈ lens L)) = (List.range m).length := by rw [List.length_range]; exact Int.ofNat_inj
  show (∀ x ∈ List.range (Int.toNat (m : Int)), _) ↔ _
  rw [Int.toNat_natCast]
  exact (countP_all (p := fun j => decide (((j + 1 : Nat) : Int) ∈ lens L)) (List.range m)).symm.trans e.symm
/-- No length occurs twice: what the table says. -/
theorem golB_count {L : List Int} (h : rulB L = true) : golB L = true ↔ ∀ v : Nat, 1 ≤ v → v ≤ 60 → (lens L).count (v : Int) ≤ 1 := by
  have hP := rulB_P h
  unfold golB
  rw [h, Bool.true_and, decide_eq_true_eq, List.nodup_iff_count]
  constructor
  · exact fun g v _ _ => g v
  · intro g a
    by_cases ha : a ∈ lens L
    · have := hP.lens_in ha
      obtain ⟨v, rfl⟩ := Int.eq_ofNat_of_zero_le (a := a) (by omega)
      exact g v (by omega) (by omega)
    · rw [List.count_eq_zero.2 ha]; omega
theorem measB_count {L : List Int} (h : rulB L = true) : measB L = true ↔ ∀ v : Nat, 1 ≤ v → (v : Int) ≤ lastL L → (lens L).count (v : Int) ≠ 0 := by
  have hl := (rulB_P h).last
  unfold measB
  rw [h, Bool.true_and, List.all_eq_true]
  constructor
  · intro g v h1 h2 h3
    have := g (v - 1) (List.mem_range.2 (by omega))
    rw [decide_eq_true_eq, Nat.sub_add_cancel h1] at this
    exact List.count_eq_zero.1 h3 this
  · intro g j hj
    have := g (j + 1) (by omega) (by have := List.mem_range.1 hj; omega)
    rw [decide_eq_true_eq]
    exact Decidable.byContradiction fun e => this (List.count_eq_zero.2 e)

/-! ### The ruler read from the other end -/
def mirL (L : List Int) : List Int := (L.map fun x => lastL L - x).reverse
theorem mirL_length (L : List Int) : (mirL L).length = L.length := by unfold mirL; rw [List.length_reverse, List.length_map]
theorem mirL_get {L : List Int} {j : Nat} (h : j < L.length) : (mirL L).getD j 0 = lastL L - L.getD (L.length - 1 - j) 0 := by
  unfold mirL
  rw [List.getD_eq_getElem?_getD, List.getElem?_reverse (by rw [List.length_map]; exact h), List.length_map, List.getElem?_map, List.getD_eq_getElem?_getD, List.getElem?_eq_getElem (by omega)]; rfl
end Go.Proofs.Ytokengeaiknmhaa
