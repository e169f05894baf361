/-
  Ternary digits with signs: their value is the number, the opposite digits are those of the opposite number, the last one of a positive number is 1, the powers at the places 1 and -1 differ by the number and are disjoint. No program's walk.
-/
import Derived.Test.YthedoijceeeinaaSums
import Derived.Test.YthedoijceeeinaaTernVal
import Derived.Test.YthedoijceeeinaaTernPans
namespace Go.Proofs.Ythedoijceeeinaa
open Go.ChangeShapes Go.WideShapes Go.ChangeAt Go.RowKit Go.PlainAid

theorem digs_val : ∀ (f : Nat) (n : Int), -(top3 f) ≤ n → n ≤ top3 f → valL (digs f n) = n
  | 0, n, h0, h1 => by
    have : top3 0 = 0 := rfl
    show (0 : Int) = n
    omega
  | f + 1, n, h0, h1 => by
    by_cases h : n = 0
    · rw [h, digs_zero]; rfl
    · rw [digs_step f h]
      have b := nxt_le h0 h1
      have ih := digs_val f (nxt n) b.1 b.2
      have d := dig_nxt n
      show dig n + 3 * valL (digs f (nxt n)) = n
      omega
theorem dig_neg (n : Int) : dig (-n) = -(dig n) ∧ nxt (-n) = -(nxt n) := by
  have a := dig_nxt n
  have b := dig_nxt (-n)
  omega
theorem digs_neg : ∀ (f : Nat) (n : Int), digs f (-n) = negs (digs f n)
  | 0, _ => rfl
  | f + 1, n => by
    by_cases h : n = 0
    · subst h
      rw [Int.neg_zero, digs_zero]; rfl
    · rw [digs_step f h, digs_step f (n := -n) (by omega), (dig_neg n).1, (dig_neg n).2, digs_neg f (nxt n)]; rfl
theorem digs_signs : ∀ (f : Nat) (n : Int), ∀ z ∈ digs f n, -1 ≤ z ∧ z ≤ 1
  | 0, _, z, h => by cases h
  | f + 1, n, z, h => by
    by_cases h0 : n = 0
    · rw [h0, digs_zero] at h; cases h
    · rw [digs_step f h0] at h
      rcases List.mem_cons.1 h with rfl | h
      · have := dig_nxt n; omega
      · exact digs_signs f _ z h
theorem getD_cons_succ' (x : Int) (r : List Int) (k : Nat) : (x :: r).getD (k + 1) 0 = r.getD k 0 := by simp
theorem digs_last : ∀ (f : Nat) (n : Int), 0 < n → n ≤ top3 f → (digs f n).getD ((digs f n).length - 1) 0 = 1
  | 0, n, h0, h1 => by
    have : top3 0 = 0 := rfl
    omega
  | f + 1, n, h0, h1 => by
    have d := dig_nxt n
    rw [digs_step f (by omega)]
    by_cases hz : nxt n = 0
    · rw [hz, digs_zero]
      show dig n = 1
      omega
    · have b := nxt_le (n := n) (f := f) (by have : top3 (f + 1) = 3 * top3 f + 1 := rfl; omega) h1
      have ih := digs_last f (nxt n) (by omega) b.2
      rcases f with _ | f
      · have : top3 0 = 0 := rfl
        omega
      · have hp := digs_pos (f := f) hz
        generalize digs (f + 1) (nxt n) = D at ih hp
        obtain ⟨m, hm⟩ : ∃ m, D.length = m + 1 := ⟨D.length - 1, by omega⟩
        have e : (dig n :: D).length - 1 = m + 1 := by simp [hm]
        rw [e, getD_cons_succ']
        rw [hm] at ih
        exact ih

theorem valL_negs : ∀ L : List Int, valL (negs L) = -(valL L)
  | [] => rfl
  | x :: r => by
    have ih := valL_negs r
    show -x + 3 * valL (negs r) = -(x + 3 * valL r)
    omega
/-- The value of the first k digits. -/
def valTo (D : List Int) : Nat → Int
  | 0 => 0
  | k + 1 => valTo D k + D.getD k 0 * (3 : Int) ^ k
theorem valL_split (D : List Int) : ∀ k, k ≤ D.length → valL D = valTo D k + (3 : Int) ^ k * valL (D.drop k)
  | 0, _ => by simp [valTo]
  | k + 1, h => by
    have ih := valL_split D k (by omega)
    have e : valL (D.drop k) = D.getD k 0 + 3 * valL (D.drop (k + 1)) := by rw [drop_get (by omega)]; rfl
    have e2 : valTo D (k + 1) = valTo D k + D.getD k 0 * (3 : Int) ^ k := rfl
    have e3 : (3 : Int) ^ (k + 1) = (3 : Int) ^ k * 3 := Int.pow_succ 3 k
    rw [ih, e, e2, e3, Int.mul_add, Int.mul_comm (D.getD k 0), Int.mul_assoc, Int.add_assoc]
theorem valTo_all (D : List Int) : valTo D D.length = valL D := by
  have h := valL_split D D.length (Nat.le_refl _)
  rw [List.drop_length] at h
  have : valL [] = 0 := rfl
  rw [this] at h
  omega
theorem pows_sum {D : List Int} (hs : ∀ j, j < D.length → -1 ≤ D.getD j 0 ∧ D.getD j 0 ≤ 1) : ∀ k, k ≤ D.length → sumL (powsTo D 1 k) - sumL (powsTo D (-1) k) = valTo D k
  | 0, _ => rfl
  | k + 1, h => by
    have ih := pows_sum hs k (by omega)
    have d := hs k (by omega)
    have e1 : powsTo D (-1) (k + 1) = if D.getD k 0 = -1 then powsTo D (-1) k ++ [(3 : Int) ^ k] else powsTo D (-1) k := rfl
    have e2 : powsTo D 1 (k + 1) = if D.getD k 0 = 1 then powsTo D 1 k ++ [(3 : Int) ^ k] else powsTo D 1 k := rfl
    have e3 : valTo D (k + 1) = valTo D k + D.getD k 0 * (3 : Int) ^ k := rfl
    rw [e1, e2, e3]
    generalize D.getD k 0 = z at d
    have s : ∀ P : List Int, sumL (P ++ [(3 : Int) ^ k]) = sumL P + (3 : Int) ^ k := fun P => by rw [sumL_append]; simp [sumL]
    have hz : z = -1 ∨ z = 0 ∨ z = 1 := by omega
    rcases hz with rfl | rfl | rfl
    · rw [if_pos rfl, if_neg (by decide), s]
      generalize (3 : Int) ^ k = p
      omega
    · rw [if_neg (by decide), if_neg (by decide)]
      generalize (3 : Int) ^ k = p
      omega
    · rw [if_pos rfl, if_neg (by decide), s]
      generalize (3 : Int) ^ k = p
      omega
theorem mem_powsTo {D : List Int} {x z : Int} : ∀ {k : Nat}, z ∈ powsTo D x k → ∃ j, j < k ∧ D.getD j 0 = x ∧ z = (3 : Int) ^ j
  | 0, h => by cases h
  | k + 1, h => by
    have e : powsTo D x (k + 1) = if D.getD k 0 = x then powsTo D x k ++ [(3 : Int) ^ k] else powsTo D x k := rfl
    rw [e] at h
    split at h
    · rename_i hx
      rcases List.mem_append.1 h with h | h
      · obtain ⟨j, h1, h2⟩ := mem_powsTo h
        exact ⟨j, by omega, h2⟩
      · exact ⟨k, by omega, hx, by simpa using h⟩
    · obtain ⟨j, h1, h2⟩ := mem_powsTo h
      exact ⟨j, by omega, h2⟩
theorem pow3_pos (k : Nat) : 0 < (3 : Int) ^ k := Int.pow_pos (by decide)
theorem pow3_lt : ∀ {i j : Nat}, i < j → (3 : Int) ^ i < (3 : Int) ^ j
  | i, 0, h => by omega
  | i, j + 1, h => by
    have e : (3 : Int) ^ (j + 1) = (3 : Int) ^ j * 3 := Int.pow_succ 3 j
    have p := pow3_pos j
    rcases Nat.lt_or_ge i j with h1 | h1
    · have := pow3_lt h1
      omega
    · obtain rfl : i = j := by omega
      omega
theorem pow3_inj {i j : Nat} (h : (3 : Int) ^ i = (3 : Int) ^ j) : i = j := by
  rcases Nat.lt_trichotomy i j with h1 | h1 | h1
  · have := pow3_lt h1; omega
  · exact h1
  · have := pow3_lt h1; omega
theorem pows_apart {D : List Int} {x y : Int} {k m : Nat} (hne : ¬ x = y) : ∀ z ∈ powsTo D x k, ∀ u ∈ powsTo D y m, ¬ z = u := fun z hz u hu e => by
  obtain ⟨i, -, h1, rfl⟩ := mem_powsTo hz
  obtain ⟨j, -, h2, rfl⟩ := mem_powsTo hu
  have := pow3_inj e
  subst this
  exact hne (h1.symm.trans h2)
theorem pows_cnt (D : List Int) (x : Int) : ∀ k, ((powsTo D x k).length : Int) = cntTo D x k
  | 0 => rfl
  | k + 1 => by
    have ih := pows_cnt D x k
    have e : powsTo D x (k + 1) = if D.getD k 0 = x then powsTo D x k ++ [(3 : Int) ^ k] else powsTo D x k := rfl
    have e2 : cntTo D x (k + 1) = cntTo D x k + if D.getD k 0 = x then 1 else 0 := rfl
    rw [e, e2]
    split
    · rw [List.length_append]; simp; omega
    · omega
theorem pows_bound {D : List Int} {x : Int} {k : Nat} (h : k ≤ 10) : ∀ z ∈ powsTo D x k, 0 ≤ z ∧ z ≤ 59049 := fun z hz => by
  obtain ⟨j, h1, -, rfl⟩ := mem_powsTo hz
  have := pow3_le (k := j) (by omega)
  omega
theorem getD_of_all {P : Int → Prop} {L : List Int} (h : ∀ z ∈ L, P z) : ∀ j, j < L.length → P (L.getD j 0) := fun j hj => h _ (by rw [List.getD_eq_getElem?_getD, List.getElem?_eq_getElem hj]; exact List.getElem_mem hj)

/-- What the law on ternary digits needs of a number's digits D and its powers L (at -1) and R (at 1). -/
structure TFacts (n : Int) (D L R : List Int) : Prop where
  d0 : 0 < D.length
  d1 : D.length ≤ 10
  last : D.getD (D.length - 1) 0 = 1
  l1 : L.length ≤ 10
  r1 : R.length ≤ 10
  lb : ∀ z ∈ L, 0 ≤ z ∧ z ≤ 59049
  rb : ∀ z ∈ R, 0 ≤ z ∧ z ≤ 59049
  sum : n + sumL L - sumL R = 0
  apart : ∀ u ∈ R, ∀ z ∈ L, ¬ z = u
  eD : digsL n = D
  eN : digsL (-n) = negs D
  eL : panX n (-1) = L
  eR : panX n 1 = R
  eB : panB n = true
  eV : valueI D = n
  eM : valueI (negs D) = -n
  eG : negL D = negs D
  eW : weightsI n = L.length + R.length

theorem tfacts {n : Int} (h0 : 1 ≤ n) (h1 : n ≤ 29524) : TFacts n (digsL n) (panX n (-1)) (panX n 1) := by
  have e : ∀ {m : Int}, -29524 ≤ m → m ≤ 29524 → digsL m = digs 10 m := fun {m} a b => by unfold digsL; rw [if_pos ⟨a, b⟩]
  have t : top3 10 = 29524 := by decide
  have eN : digsL (-n) = negs (digsL n) := by rw [e (by omega) (by omega), e (by omega) (by omega)]; exact digs_neg 10 n
  have hs : ∀ z ∈ digsL n, -1 ≤ z ∧ z ≤ 1 := by rw [e (by omega) (by omega)]; exact digs_signs 10 n
  have hv : valL (digsL n) = n := by rw [e (by omega) (by omega)]; exact digs_val 10 n (by omega) (by omega)
  have hlast : (digsL n).getD ((digsL n).length - 1) 0 = 1 := by rw [e (by omega) (by omega)]; exact digs_last 10 n (by omega) (by omega)
  have hp : 0 < (digsL n).length := by rw [e (by omega) (by omega)]; exact digs_pos (by omega)
  have hl := digsL_length n
  have sD : signsB (digsL n) = true := by unfold signsB allIn; exact List.all_eq_true.2 fun z hy => decide_eq_true (hs z hy)
  have sN : signsB (negs (digsL n)) = true := by
    unfold signsB allIn negs
    refine List.all_eq_true.2 fun z hy => decide_eq_true ?_
    obtain ⟨u, hu, rfl⟩ := List.mem_map.1 hy
    have := hs u hu
    omega
  have p : ∀ x, panX n x = powsTo (digsL n) x (digsL n).length := fun x => by unfold panX powsL; rw [if_pos h0]
  have q := pows_sum (D := digsL n) (getD_of_all hs) _ (Nat.le_refl _)
  rw [valTo_all, hv] at q
  refine ⟨hp, hl, hlast, ?_, ?_, ?_, ?_, ?_, ?_, rfl, eN, rfl, rfl, ?_, ?_, ?_, ?_, ?_⟩
  · rw [p]; exact Nat.le_trans (powsTo_length _ _ _) hl
  · rw [p]; exact Nat.le_trans (powsTo_length _ _ _) hl
  · rw [p]; exact pows_bound hl
  · rw [p]; exact pows_bound hl
  · rw [p, p]; omega
  · rw [p, p]; exact fun u hu z hz => pows_apart (by decide) z hz u hu
  · unfold panB; exact decide_eq_true ⟨h0, h1⟩
  · unfold valueI; rw [if_pos ⟨sD, hl⟩]; exact hv
  · unfold valueI; rw [if_pos ⟨sN, by rw [negs_length]; exact hl⟩, valL_negs, hv]
  · unfold negL turnL; rw [if_pos hl, sD]; rfl
  · unfold weightsI cnt; rw [p, p, pows_cnt, pows_cnt]; omega
end Go.Proofs.Ythedoijceeeinaa
