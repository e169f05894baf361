/-
  Facts on rulers: read from the other end; how many lengths there are; the drawn ones; each length exactly once. No program's walk.
-/
import Derived.Test.YtokengeaiknmhaaShort
import Derived.Test.YtokengeaiknmhaaRulerLen
namespace Go.Proofs.Ytokengeaiknmhaa
open Go.ChangeShapes Go.WideShapes Go.ChangeAt Go.RowKit Go.PlainAid

theorem getD_snoc (L : List Int) (x : Int) {j : Nat} (hj : j ≤ L.length) : (L ++ [x]).getD j 0 = if j < L.length then L.getD j 0 else x := by
  rw [List.getD_eq_getElem?_getD, List.getD_eq_getElem?_getD]
  by_cases h : j < L.length
  · rw [if_pos h, List.getElem?_append_left h]
  · obtain rfl : j = L.length := by omega
    rw [if_neg h, List.getElem?_append_right (Nat.le_refl _), Nat.sub_self]; rfl
theorem lensTo_snoc (L : List Int) (x : Int) : ∀ k, k ≤ L.length → lensTo (L ++ [x]) k = lensTo L k
  | 0, _ => rfl
  | k + 1, h => by
    unfold lensTo
    rw [lensTo_snoc L x k (by omega), getD_snoc L x (by omega), if_pos (by omega), List.take_append_of_le_length (by omega)]
theorem lens_snoc (L : List Int) (x : Int) : lens (L ++ [x]) = lens L ++ L.map fun y => x - y := by
  unfold lens
  rw [List.length_append, List.length_singleton]
  show lensTo (L ++ [x]) L.length ++ ((L ++ [x]).take L.length).map (fun y => (L ++ [x]).getD L.length 0 - y) = _
  rw [lensTo_snoc L x _ (Nat.le_refl _), getD_snoc L x (Nat.le_refl _), if_neg (by omega), List.take_append_of_le_length (Nat.le_refl _), List.take_length]
theorem lens_cons (a : Int) (L : List Int) : (lens (a :: L)).Perm (L.map (fun y => y - a) ++ lens L) := by
  induction L using snoc_ind with
  | h0 => exact List.Perm.refl _
  | h1 L x ih =>
    have e : lens (a :: (L ++ [x])) = lens (a :: L) ++ (a :: L).map fun y => x - y := lens_snoc (a :: L) x
    rw [e, lens_snoc, List.map_append, List.map_cons, List.map_cons, List.map_nil]
    refine (ih.append_right _).trans ?_
    rw [List.append_assoc, List.append_assoc]
    refine List.Perm.append_left _ ?_
    exact List.perm_middle
theorem lens_turn (c : Int) : ∀ L : List Int, (lens (L.map fun x => c - x).reverse).Perm (lens L)
  | [] => List.Perm.refl _
  | a :: L => by
    rw [List.map_cons, List.reverse_cons, lens_snoc]
    refine ((lens_turn c L).append_right _).trans (List.perm_append_comm.trans ?_)
    refine List.Perm.trans ?_ (lens_cons a L).symm
    refine List.Perm.append_right _ ?_
    have e : (List.map (fun x => c - x) L).reverse.map (fun y => c - a - y) = (L.map fun y => y - a).reverse := by
      rw [← List.map_reverse, List.map_map, ← List.map_reverse]
      refine List.map_congr_left fun y _ => ?_
      simp only [Function.comp]
      omega
    rw [e]
    exact List.reverse_perm _
theorem lens_mirror (L : List Int) : (lens (mirL L)).Perm (lens L) := lens_turn _ L
theorem mirror_rul {L : List Int} (h : RulP L) : RulP (mirL L) := by
  have h0 := h.1.1
  have hl := h.last
  refine ⟨⟨by rw [mirL_length]; exact h0, ?_⟩, fun j hj => ?_⟩
  · rw [mirL_get (by omega), Nat.sub_zero]
    show lastL L - lastL L = 0
    omega
  · rw [mirL_length] at hj
    unfold FineR
    have h1 := (h.2 (L.length - 1 - j) (by omega)).1
    have h2 := h.le (i := L.length - 1 - j) (j := L.length - 1) (by omega) (by omega)
    have h3 : L.getD (L.length - 1) 0 = lastL L := rfl
    rw [mirL_get hj]
    refine ⟨by omega, fun g => ?_⟩
    rw [mirL_get (by omega)]
    have := h.asc (i := L.length - 1 - j) (j := L.length - 1 - (j - 1)) (by omega) (by omega)
    omega
theorem mirror_rulB {L : List Int} (h : RulP L) : rulB (mirL L) = true := decide_eq_true (mirror_rul h)
theorem mirror_last {L : List Int} (h : RulP L) : lastL (mirL L) = lastL L := by
  have h0 := h.1.1
  have h1 : lastL (mirL L) = lastL L - L.getD (L.length - 1 - (L.length - 1)) 0 := by
    show (mirL L).getD ((mirL L).length - 1) 0 = _
    rw [mirL_length, mirL_get (by omega)]
  rw [h1, Nat.sub_self, h.1.2]; omega
theorem mirror_twice {L : List Int} (h : RulP L) : mirL (mirL L) = L := by
  have e : mirL (mirL L) = ((mirL L).map fun x => lastL L - x).reverse := by
    show ((mirL L).map fun x => lastL (mirL L) - x).reverse = _
    rw [mirror_last h]
  rw [e]
  unfold mirL
  rw [List.map_reverse, List.reverse_reverse, List.map_map]
  have : ((fun x => lastL L - x) ∘ fun x => lastL L - x) = id := funext fun x => by simp only [Function.comp, id]; omega
  rw [this, List.map_id]
theorem mirror_len {L : List Int} (h : RulP L) : lenL (mirL L) = lenL L := by
  rw [lenL_yes (mirror_rulB h), lenL_yes (decide_eq_true h), outTo_perm (lens_mirror L)]
theorem mirror_gol {L : List Int} (h : RulP L) : golB (mirL L) = golB L := by
  unfold golB
  rw [mirror_rulB h, show rulB L = true from decide_eq_true h, Bool.true_and, Bool.true_and]
  exact decide_eq_decide.2 (lens_mirror L).nodup_iff
theorem mirror_mirA {L : List Int} (h : RulP L) : mirA (mirL L) = L := by rw [mirA_yes (mirror_rulB h), mirror_twice h]

/-! ### How many lengths there are -/
theorem countP_more (D : List Int) (y z : Int) (h : z = y + 1) : D.countP (fun d => decide (d ≤ z)) = D.countP (fun d => decide (d ≤ y)) + D.count z := by
  induction D with
  | nil => rfl
  | cons d D ih =>
    rw [List.countP_cons, List.countP_cons, List.count_cons, ih]
    by_cases h1 : d ≤ y
    · rw [if_pos (decide_eq_true (show d ≤ z by omega)), if_pos (decide_eq_true h1), if_neg (by simp; omega)]
      omega
    · by_cases h3 : d = z
      · rw [if_pos (decide_eq_true (show d ≤ z by omega)), if_neg (by simpa using h1), if_pos (by simp [h3])]
        omega
      · rw [if_neg (by simp; omega), if_neg (by simpa using h1), if_neg (by simpa using h3)]
        omega
theorem countP_step (D : List Int) (k : Nat) : D.countP (fun d => decide (d ≤ ((k + 1 : Nat) : Int))) = D.countP (fun d => decide (d ≤ (k : Int))) + D.count ((k + 1 : Nat) : Int) :=
  countP_more D k _ (by omega)
theorem outTo_count (D : List Int) (h : ∀ d ∈ D, 1 ≤ d) : ∀ k, (outTo D k).length = D.countP fun d => decide (d ≤ (k : Int))
  | 0 => by
    refine (List.countP_eq_zero.2 fun d hd => ?_).symm
    have := h d hd
    simp; omega
  | k + 1 => by
    unfold outTo
    rw [List.length_append, List.length_replicate, outTo_count D h k, countP_step]
theorem lenL_count {L : List Int} (h : RulP L) : (lenL L).length = L.length * (L.length - 1) / 2 := by
  rw [lenL_yes (decide_eq_true h), outTo_count _ (fun d hd => (h.lens_in hd).1)]
  have e : (lens L).countP (fun d => decide (d ≤ ((60 : Nat) : Int))) = (lens L).length := List.countP_eq_length.2 fun d hd => decide_eq_true (by have := h.lens_in hd; omega)
  rw [e]
  have := lensTo_length L L.length (Nat.le_refl _)
  unfold lens
  omega

/-! ### The drawn rulers: marks 1 to 6 apart -/
def Gap (L : List Int) : Prop := (0 < L.length ∧ L.getD 0 0 = 0) ∧ ∀ j, j + 1 < L.length → L.getD j 0 + 1 ≤ L.getD (j + 1) 0 ∧ L.getD (j + 1) 0 ≤ L.getD j 0 + 6
theorem gap_zero : Gap [0] := ⟨⟨by decide, rfl⟩, fun j hj => by simp at hj⟩
theorem gap_app {L : List Int} (h : Gap L) {k : Nat} (hk : L.length = k + 1) {d : Int} (h0 : 0 ≤ d) (h1 : d < 6) : Gap (L ++ [L.getD k 0 + 1 + d]) := by
  refine ⟨⟨by rw [List.length_append, List.length_singleton]; omega, ?_⟩, fun j hj => ?_⟩
  · rw [getD_snoc _ _ (by omega), if_pos (by omega)]; exact h.1.2
  · rw [List.length_append, List.length_singleton] at hj
    rw [getD_snoc _ _ (by omega), getD_snoc _ _ (by omega), if_pos (by omega)]
    by_cases e : j + 1 < L.length
    · rw [if_pos e]; exact h.2 j e
    · rw [if_neg e]
      obtain rfl : j = k := by omega
      omega
theorem gap_le {L : List Int} (h : Gap L) : ∀ j, j < L.length → (j : Int) ≤ L.getD j 0 ∧ L.getD j 0 ≤ 6 * j
  | 0, _ => by rw [h.1.2]; simp
  | j + 1, hj => by
    have ih := gap_le h j (by omega)
    have := h.2 j hj
    omega
theorem gap_rul {L : List Int} (h : Gap L) (h8 : L.length ≤ 8) : RulP L := by
  refine ⟨⟨⟨h.1.1, h8⟩, h.1.2⟩, fun j hj => ⟨by have := gap_le h j hj; omega, fun g => ?_⟩⟩
  have := h.2 (j - 1) (by omega)
  rw [Nat.sub_add_cancel g] at this
  omega

/-! ### Each length exactly once -/
def fitsC (L : List Int) : Bool := ((List.range (lastL L).toNat).all fun j => decide (((j + 1 : Nat) : Int) ∈ lens L)) && decide (lens L).Nodup
theorem fitsC_of {L : List Int} (h1 : golB L = true) (h2 : measB L = true) : fitsC L = true := by
  unfold golB at h1
  unfold measB at h2
  rw [Bool.and_eq_true] at h1 h2
  unfold fitsC
  rw [h1.2, h2.2]; rfl
def rul5 (a b c d : Nat) : List Int := [0, a + 1, a + b + 2, a + b + c + 3, a + b + c + d + 4]
def rul6 (a b c d e : Nat) : List Int := [0, a + 1, a + b + 2, a + b + c + 3, a + b + c + d + 4, a + b + c + d + e + 5]
theorem no_five : ∀ a, a < 6 → ∀ b, b < 6 → ∀ c, c < 6 → a + b + c ≤ 6 → fitsC (rul5 a b c (6 - (a + b + c))) = false := by decide +kernel
theorem no_six : ∀ a, a < 6 → ∀ b, b < 6 → ∀ c, c < 6 → ∀ d, d < 6 → (decide (a + b + c + d ≤ 10) && decide (10 - (a + b + c + d) < 6) && fitsC (rul6 a b c d (10 - (a + b + c + d)))) = false := by decide +kernel
/-- The last mark is the number of pairs of marks. -/
theorem last_pairs {L : List Int} (h1 : golB L = true) (h2 : measB L = true) : lastL L = (L.length * (L.length - 1) / 2 : Nat) := by
  have hr : rulB L = true := by
    unfold golB at h1
    rw [Bool.and_eq_true] at h1
    exact h1.1
  rw [golB_dist hr, decide_eq_true_eq] at h1
  rw [measB_dist hr, decide_eq_true_eq] at h2
  omega
theorem step_of {x y : Int} (h1 : x + 1 ≤ y) (h2 : y ≤ x + 6) : ∃ a : Nat, a < 6 ∧ y = x + a + 1 := ⟨(y - x - 1).toNat, by omega, by omega⟩
theorem four_marks {L : List Int} (h : Gap L) (h6 : L.length ≤ 6) (h1 : golB L = true) (h2 : measB L = true) : L.length ≤ 4 := by
  have hC := fitsC_of h1 h2
  have hS := last_pairs h1 h2
  clear h1 h2
  obtain ⟨⟨h0, z⟩, g⟩ := h
  match L, h0, h6, z, g, hC, hS with
  | [_], _, _, _, _, _, _ => simp
  | [_, _], _, _, _, _, _, _ => simp
  | [_, _, _], _, _, _, _, _, _ => simp
  | [_, _, _, _], _, _, _, _, _, _ => simp
  | [p, q, r, s, t], _, _, z, g, hC, hS =>
    have z : p = 0 := z
    have hS : t = 10 := by simpa [lastL] using hS
    obtain ⟨a, ha, ea⟩ := step_of (x := p) (y := q) (g 0 (by simp)).1 (g 0 (by simp)).2
    obtain ⟨b, hb, eb⟩ := step_of (x := q) (y := r) (g 1 (by simp)).1 (g 1 (by simp)).2
    obtain ⟨c, hc, ec⟩ := step_of (x := r) (y := s) (g 2 (by simp)).1 (g 2 (by simp)).2
    obtain ⟨d, hd, ed⟩ := step_of (x := s) (y := t) (g 3 (by simp)).1 (g 3 (by simp)).2
    obtain rfl : d = 6 - (a + b + c) := by omega
    have e : [p, q, r, s, t] = rul5 a b c (6 - (a + b + c)) := by
      unfold rul5
      rw [show p = 0 from z, show q = (a : Int) + 1 by omega, show r = (a : Int) + b + 2 by omega, show s = (a : Int) + b + c + 3 by omega, show t = (a : Int) + b + c + (6 - (a + b + c) : Nat) + 4 by omega]
    rw [e, no_five a ha b hb c hc (by omega)] at hC
    cases hC
  | [p, q, r, s, t, u], _, _, z, g, hC, hS =>
    have z : p = 0 := z
    have hS : u = 15 := by simpa [lastL] using hS
    obtain ⟨a, ha, ea⟩ := step_of (x := p) (y := q) (g 0 (by simp)).1 (g 0 (by simp)).2
    obtain ⟨b, hb, eb⟩ := step_of (x := q) (y := r) (g 1 (by simp)).1 (g 1 (by simp)).2
    obtain ⟨c, hc, ec⟩ := step_of (x := r) (y := s) (g 2 (by simp)).1 (g 2 (by simp)).2
    obtain ⟨d, hd, ed⟩ := step_of (x := s) (y := t) (g 3 (by simp)).1 (g 3 (by simp)).2
    obtain ⟨f, hf, ef⟩ := step_of (x := t) (y := u) (g 4 (by simp)).1 (g 4 (by simp)).2
    obtain rfl : f = 10 - (a + b + c + d) := by omega
    have e : [p, q, r, s, t, u] = rul6 a b c d (10 - (a + b + c + d)) := by
      unfold rul6
      rw [show p = 0 from z, show q = (a : Int) + 1 by omega, show r = (a : Int) + b + 2 by omega, show s = (a : Int) + b + c + 3 by omega, show t = (a : Int) + b + c + d + 4 by omega, show u = (a : Int) + b + c + d + (10 - (a + b + c + d) : Nat) + 5 by omega]
    have hN := no_six a ha b hb c hc d hd
    rw [decide_eq_true (show a + b + c + d ≤ 10 by omega), decide_eq_true hf, Bool.true_and, Bool.true_and, ← e, hC] at hN
    cases hN
  | _ :: _ :: _ :: _ :: _ :: _ :: _ :: _, _, h6, _, _, _, _ => simp at h6

/-! ### The shortest and the fewest -/
theorem short_facts : ∀ n, n < 6 → 1 ≤ n → (shortL n).getD (n - 1) 0 = topOf n ∧ golB (shortL n) = true := by decide +kernel
theorem few_facts : ∀ m, m < 14 → 1 ≤ m → m ≤ fewOf m * (fewOf m - 1) / 2 := by decide +kernel
end Go.Proofs.Ytokengeaiknmhaa
