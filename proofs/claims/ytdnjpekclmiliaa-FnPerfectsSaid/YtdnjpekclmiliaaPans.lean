/-
  Lists of all sums of weights, one for each way of putting them; their counts are the ways. How far a sorted list of sums reaches; what makes a set valid. Ints and lists only, no program's walk.
-/
import Derived.Test.YtdnjpekclmiliaaSetFacts
import Derived.Test.YtdnjpekclmiliaaOrder
namespace Go.Proofs.Ytdnjpekclmiliaa

/-- The factors of a weight: aside and in the right pan, or (two) in the left one too. -/
def signs (two : Bool) : List Int := if two then [-1, 0, 1] else [0, 1]
theorem signs_len (two : Bool) : 2 ≤ (signs two).length ∧ (signs two).length ≤ 3 := by cases two <;> decide
theorem signs_at (two : Bool) : ∀ j, j < (signs two).length → -1 ≤ (signs two).getD j 0 ∧ (signs two).getD j 0 ≤ 1 := by cases two <;> decide
/-- Each sum with each factor of a further weight. -/
def more (G : List Int) (x : Int) : List Int → List Int
  | [] => []
  | s :: r => (G.map fun g => s + g * x) ++ more G x r
theorem more_append (G : List Int) (x : Int) : ∀ S R, more G x (S ++ R) = more G x S ++ more G x R
  | [], R => rfl
  | s :: r, R => by
    show (G.map fun g => s + g * x) ++ more G x (r ++ R) = ((G.map fun g => s + g * x) ++ more G x r) ++ more G x R
    rw [more_append G x r R, List.append_assoc]
theorem more_take {G : List Int} {x : Int} {S : List Int} {k : Nat} (h : k < S.length) : more G x (S.take (k + 1)) = more G x (S.take k) ++ G.map fun g => S.getD k 0 + g * x := by
  rw [List.take_succ_eq_append_getElem h, more_append, List.getD_eq_getElem?_getD, List.getElem?_eq_getElem h]
  simp [more]
theorem mid_take {G : List Int} {x s : Int} {j : Nat} (h : j < G.length) : ((G.take (j + 1)).map fun g => s + g * x) = ((G.take j).map fun g => s + g * x) ++ [s + G.getD j 0 * x] := by
  rw [List.take_succ_eq_append_getElem h, List.map_append, List.getD_eq_getElem?_getD, List.getElem?_eq_getElem h]
  rfl
theorem more_length (G : List Int) (x : Int) : ∀ S, (more G x S).length = S.length * G.length
  | [] => by simp [more]
  | s :: r => by
    show ((G.map fun g => s + g * x) ++ more G x r).length = _
    rw [List.length_append, List.length_map, more_length G x r, List.length_cons, Nat.succ_mul]
    omega
theorem more_bound {G : List Int} {x : Int} (hx : 0 ≤ x ∧ x ≤ 1000) (hG : ∀ g ∈ G, -1 ≤ g ∧ g ≤ 1) {b : Int} : ∀ {S : List Int}, (∀ s ∈ S, -b ≤ s ∧ s ≤ b) → ∀ s ∈ more G x S, -(b + 1000) ≤ s ∧ s ≤ b + 1000
  | [], _, s, h => by cases h
  | t :: r, hS, s, h => by
    rcases List.mem_append.1 (show s ∈ (G.map fun g => t + g * x) ++ more G x r from h) with h1 | h1
    · obtain ⟨g, hg, rfl⟩ := List.mem_map.1 h1
      have h2 := hS t List.mem_cons_self
      have h3 := hG g hg
      have : g = -1 ∨ g = 0 ∨ g = 1 := by omega
      rcases this with rfl | rfl | rfl <;> constructor <;> omega
    · exact more_bound hx hG (fun s h => hS s (List.mem_cons_of_mem _ h)) s h1

/-- The sums of the first k weights. -/
def sumsOf (G L : List Int) : Nat → List Int
  | 0 => [0]
  | k + 1 => more G (L.getD k 0) (sumsOf G L k)
theorem sumsOf_len {two : Bool} (L : List Int) : ∀ k, 1 ≤ (sumsOf (signs two) L k).length ∧ (sumsOf (signs two) L k).length ≤ 3 ^ k
  | 0 => ⟨Nat.le_refl 1, Nat.le_refl 1⟩
  | k + 1 => by
    have ih := sumsOf_len (two := two) L k
    have hG := signs_len two
    show 1 ≤ (more (signs two) (L.getD k 0) (sumsOf (signs two) L k)).length ∧ (more (signs two) (L.getD k 0) (sumsOf (signs two) L k)).length ≤ 3 ^ (k + 1)
    rw [more_length, Nat.pow_succ]
    exact ⟨Nat.mul_pos ih.1 (by omega), Nat.mul_le_mul ih.2 hG.2⟩
theorem sumsOf_bound {two : Bool} {L : List Int} (h : SetP L) : ∀ k, k ≤ L.length → ∀ s ∈ sumsOf (signs two) L k, -(1000 * (k : Int)) ≤ s ∧ s ≤ 1000 * (k : Int)
  | 0, _, s, hs => by
    obtain rfl : s = 0 := by simpa [sumsOf] using hs
    omega
  | k + 1, hk, s, hs => by
    have ih := sumsOf_bound (two := two) h k (by omega)
    have hx := set_pos h k (by omega)
    have hG : ∀ g ∈ signs two, -1 ≤ g ∧ g ≤ 1 := by cases two <;> decide
    have := more_bound (x := L.getD k 0) (by omega) hG ih s hs
    omega

/-- How often n is among these. -/
def cnt (S : List Int) (n : Int) : Int := (S.count n : Nat)
theorem cnt_append (S R : List Int) (n : Int) : cnt (S ++ R) n = cnt S n + cnt R n := by unfold cnt; rw [List.count_append]; omega
theorem cnt_cons (s : Int) (S : List Int) (n : Int) : cnt (s :: S) n = (if s = n then 1 else 0) + cnt S n := by
  unfold cnt
  rw [List.count_cons]
  by_cases h : s = n
  · simp [h]; omega
  · simp [h]
theorem cnt_nil (n : Int) : cnt [] n = 0 := rfl
theorem cnt_nonneg (S : List Int) (n : Int) : 0 ≤ cnt S n := by unfold cnt; omega
theorem cnt_more_one (x : Int) (n : Int) : ∀ S, cnt (more [0, 1] x S) n = cnt S n + cnt S (n - x)
  | [] => by simp [more, cnt]
  | s :: r => by
    have ih := cnt_more_one x n r
    show cnt ([s + 0 * x, s + 1 * x] ++ more [0, 1] x r) n = _
    rw [cnt_append, cnt_cons, cnt_cons, cnt_nil, cnt_cons, cnt_cons, ih]
    split <;> split <;> split <;> split <;> omega
theorem cnt_more_two (x : Int) (n : Int) : ∀ S, cnt (more [-1, 0, 1] x S) n = cnt S n + cnt S (n - x) + cnt S (n + x)
  | [] => by simp [more, cnt]
  | s :: r => by
    have ih := cnt_more_two x n r
    show cnt ([s + -1 * x, s + 0 * x, s + 1 * x] ++ more [-1, 0, 1] x r) n = _
    rw [cnt_append, cnt_cons, cnt_cons, cnt_cons, cnt_nil, cnt_cons, cnt_cons, cnt_cons, ih]
    have e1 : (s + -1 * x = n) = (s = n + x) := by rw [eq_iff_iff]; omega
    have e2 : (s + 0 * x = n) = (s = n) := by rw [eq_iff_iff]; omega
    have e3 : (s + 1 * x = n) = (s = n - x) := by rw [eq_iff_iff]; omega
    simp only [e1, e2, e3]
    omega
theorem cnt_sums (two : Bool) (L : List Int) : ∀ k n, cnt (sumsOf (signs two) L k) n = wys two L k n
  | 0, n => by
    show cnt [0] n = if n = 0 then 1 else 0
    rw [cnt_cons, cnt_nil]
    split <;> split <;> omega
  | k + 1, n => by
    have ih := cnt_sums two L k
    show cnt (more (signs two) (L.getD k 0) (sumsOf (signs two) L k)) n = _
    cases two
    · show cnt (more [0, 1] _ _) n = _
      rw [cnt_more_one, ih, ih, wys_succ]
      simp
    · show cnt (more [-1, 0, 1] _ _) n = _
      rw [cnt_more_two, ih, ih, ih, wys_succ]
      simp
/-- All sums. -/
def sumsL (two : Bool) (L : List Int) : List Int := sumsOf (signs two) L L.length
theorem cnt_sumsL (two : Bool) (L : List Int) (n : Int) : cnt (sumsL two L) n = wysL two L n := cnt_sums two L L.length n
theorem sumsL_len {L : List Int} (h : SetP L) (two : Bool) : 1 ≤ (sumsL two L).length ∧ (sumsL two L).length ≤ 6561 := by
  have h1 := sumsOf_len (two := two) L L.length
  have h2 : (3 : Nat) ^ L.length ≤ 3 ^ 8 := Nat.pow_le_pow_right (by decide) h.1.2
  have h3 : (3 : Nat) ^ 8 = 6561 := by decide
  unfold sumsL
  omega
theorem sums_has (two : Bool) (L : List Int) (n : Int) : (sumsL two L).contains n = decide (0 < wysL two L n) := by
  rw [← cnt_sumsL]
  unfold cnt
  by_cases h : n ∈ sumsL two L
  · have := List.count_pos_iff.2 h
    rw [decide_eq_true (by omega)]
    simpa using h
  · have := List.count_eq_zero.2 h
    rw [decide_eq_false (by omega)]
    simpa using h

/-! ### A walk over a list: how often a number is met; how far a sorted list reaches -/
theorem cnt_take {S : List Int} {k : Nat} (h : k < S.length) (n : Int) : cnt (S.take (k + 1)) n = cnt (S.take k) n + if S.getD k 0 = n then 1 else 0 := by
  rw [List.take_succ_eq_append_getElem h, cnt_append, cnt_cons, cnt_nil, List.getD_eq_getElem?_getD, List.getElem?_eq_getElem h]
  simp
theorem cnt_le (S : List Int) (n : Int) : cnt S n ≤ S.length := by
  unfold cnt
  have := List.count_le_length (a := n) (l := S)
  omega
def rAt (Z : List Int) : Nat → Int
  | 0 => 0
  | k + 1 => if Z.getD k 0 = rAt Z k + 1 then Z.getD k 0 else rAt Z k
theorem rAt_succ (Z : List Int) (k : Nat) : rAt Z (k + 1) = if Z.getD k 0 = rAt Z k + 1 then Z.getD k 0 else rAt Z k := rfl
theorem rAt_le (Z : List Int) : ∀ k, 0 ≤ rAt Z k ∧ rAt Z k ≤ k
  | 0 => ⟨Int.le_refl 0, Int.le_refl 0⟩
  | k + 1 => by
    have ih := rAt_le Z k
    rw [rAt_succ]
    split <;> omega
theorem rAt_inv {Z : List Int} (hs : ∀ i j, i ≤ j → j < Z.length → Z.getD i 0 ≤ Z.getD j 0) : ∀ k, k ≤ Z.length →
    (∀ i, 1 ≤ i → i ≤ rAt Z k → ∃ j, j < Z.length ∧ Z.getD j 0 = i) ∧ ∀ j, j < k → Z.getD j 0 ≠ rAt Z k + 1
  | 0, _ => ⟨fun i h1 h2 => by have : i ≤ 0 := h2; omega, fun j hj => by omega⟩
  | k + 1, hk => by
    obtain ⟨ih1, ih2⟩ := rAt_inv hs k (by omega)
    have r0 := rAt_le Z k
    rw [rAt_succ]
    by_cases h : Z.getD k 0 = rAt Z k + 1
    · rw [if_pos h]
      refine ⟨fun i h1 h2 => ?_, fun j hj => ?_⟩
      · rcases Int.lt_or_le (rAt Z k) i with h3 | h3
        · exact ⟨k, by omega, by omega⟩
        · exact ih1 i h1 h3
      · have := hs j k (by omega) (by omega)
        omega
    · rw [if_neg h]
      refine ⟨ih1, fun j hj => ?_⟩
      rcases Nat.lt_or_ge j k with h1 | h1
      · exact ih2 j h1
      · obtain rfl : j = k := by omega
        exact h
theorem getD_mem {Z : List Int} {j : Nat} (h : j < Z.length) : Z.getD j 0 ∈ Z := by
  rw [List.getD_eq_getElem?_getD, List.getElem?_eq_getElem h]; simp
/-- A sorted list of what f counts reaches as far as f. -/
theorem rAt_reach {f : Int → Int} {Z : List Int} (hf : ∀ n, cnt Z n = f n) (hs : ∀ i j, i ≤ j → j < Z.length → Z.getD i 0 ≤ Z.getD j 0) : Reach f (rAt Z Z.length) := by
  obtain ⟨h1, h2⟩ := rAt_inv hs Z.length (Nat.le_refl _)
  refine ⟨(rAt_le Z _).1, fun i i1 i2 => ?_, ?_⟩
  · obtain ⟨j, hj, e⟩ := h1 i i1 i2
    have := List.count_pos_iff.2 (getD_mem hj)
    rw [e] at this
    rw [← hf]
    unfold cnt
    omega
  · rw [← hf]
    unfold cnt
    rw [List.count_eq_zero.2]
    · rfl
    · intro hm
      obtain ⟨j, hj, e⟩ := List.mem_iff_getElem.1 hm
      refine h2 j hj ?_
      rw [List.getD_eq_getElem?_getD, List.getElem?_eq_getElem hj]
      exact e
def sortL (S : List Int) : List Int := S.mergeSort fun x y => decide (x ≤ y)
theorem sortL_length (S : List Int) : (sortL S).length = S.length := List.length_mergeSort S
theorem sortL_cnt (S : List Int) (n : Int) : cnt (sortL S) n = cnt S n := by
  unfold cnt sortL
  rw [(List.mergeSort_perm S _).count_eq]
theorem sortL_sorted (S : List Int) : ∀ i j, i ≤ j → j < (sortL S).length → (sortL S).getD i 0 ≤ (sortL S).getD j 0 := fun i j hij hj => by
  have hp : (sortL S).Pairwise fun x y => decide (x ≤ y) = true :=
    List.pairwise_mergeSort (fun a b c h1 h2 => by simp only [decide_eq_true_eq] at *; omega) (fun a b => by simp only [Bool.or_eq_true, decide_eq_true_eq]; omega) S
  rcases Nat.lt_or_ge i j with h | h
  · have := List.pairwise_iff_getElem.1 hp i j (by omega) hj h
    rw [List.getD_eq_getElem?_getD, List.getD_eq_getElem?_getD, List.getElem?_eq_getElem hj, List.getElem?_eq_getElem (by omega)]
    simpa using this
  · obtain rfl : i = j := by omega
    exact Int.le_refl _
theorem reach_sorted {L : List Int} (h : SetP L) {p : Int} (hp : 1 ≤ p ∧ p ≤ 2) : reachI L p = rAt (sortL (sumsL (decide (p = 2)) L)) (sumsL (decide (p = 2)) L).length := by
  have hb : setB L = true := decide_eq_true h
  have e : reachI L p = reachOf (decide (p = 2)) L := by unfold reachI; rw [hb, decide_eq_true hp]; rfl
  rw [e, ← sortL_length]
  refine (reachOf_reach h _).uniq (rAt_reach (fun n => ?_) (sortL_sorted _))
  rw [sortL_cnt, cnt_sumsL]
end Go.Proofs.Ytdnjpekclmiliaa
