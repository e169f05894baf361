/-
  In how many ways numbers give a sum, where equal ones are not told apart: a run of equal ones after the other. Ints and lists only, no program's walk.
-/
import Derived.Test.YtdnjpekclmiliaaSums
import Derived.Test.YtdnjpekclmiliaaSetOk
namespace Go.Proofs.Ytdnjpekclmiliaa

/-- How many of the first are equal to x. -/
def runOf (x : Int) : List Int → Nat
  | [] => 0
  | y :: r => if y = x then runOf x r + 1 else 0
theorem runOf_le (x : Int) : ∀ R, runOf x R ≤ R.length
  | [] => Nat.le_refl 0
  | y :: r => by
    have ih := runOf_le x r
    show (if y = x then runOf x r + 1 else 0) ≤ r.length + 1
    split <;> omega
theorem runOf_at (x : Int) : ∀ R j, j < runOf x R → R.getD j 0 = x
  | [], j, h => by cases h
  | y :: r, j, h => by
    change j < (if y = x then runOf x r + 1 else 0) at h
    split at h
    · rename_i e
      rcases j with _ | j
      · simpa using e
      · have := runOf_at x r j (by omega)
        simpa using this
    · omega
theorem runOf_end (x : Int) : ∀ R, runOf x R < R.length → R.getD (runOf x R) 0 ≠ x
  | [], h => by cases h
  | y :: r, h => by
    by_cases e : y = x
    · have e2 : runOf x (y :: r) = runOf x r + 1 := by show (if y = x then runOf x r + 1 else 0) = _; rw [if_pos e]
      rw [e2] at h ⊢
      have := runOf_end x r (by simpa using h)
      simpa using this
    · have e2 : runOf x (y :: r) = 0 := by show (if y = x then runOf x r + 1 else 0) = _; rw [if_neg e]
      rw [e2]
      simpa using e

def sumN (g : Nat → Int) : Nat → Int
  | 0 => 0
  | n + 1 => sumN g n + g n
theorem sumN_congr {g h : Nat → Int} : ∀ n, (∀ i, i < n → g i = h i) → sumN g n = sumN h n
  | 0, _ => rfl
  | n + 1, e => by
    have ih := sumN_congr n fun i hi => e i (by omega)
    show sumN g n + g n = sumN h n + h n
    rw [ih, e n (by omega)]
theorem sumN_add (g h : Nat → Int) : ∀ n, sumN (fun i => g i + h i) n = sumN g n + sumN h n
  | 0 => rfl
  | n + 1 => by
    have ih := sumN_add g h n
    show sumN (fun i => g i + h i) n + (g n + h n) = sumN g n + g n + (sumN h n + h n)
    omega
theorem sumN_zero {g : Nat → Int} (h : ∀ i, g i = 0) : ∀ n, sumN g n = 0
  | 0 => rfl
  | n + 1 => by
    show sumN g n + g n = 0
    rw [sumN_zero h n, h n]; rfl
theorem sumN_le {g : Nat → Int} {B : Int} (h : ∀ i, 0 ≤ g i ∧ g i ≤ B) : ∀ n : Nat, 0 ≤ sumN g n ∧ sumN g n ≤ n * B
  | 0 => by
    show (0 : Int) ≤ 0 ∧ (0 : Int) ≤ ((0 : Nat) : Int) * B
    simp
  | n + 1 => by
    have ih := sumN_le h n
    have hn := h n
    show 0 ≤ sumN g n + g n ∧ sumN g n + g n ≤ ((n + 1 : Nat) : Int) * B
    have e : ((n + 1 : Nat) : Int) * B = n * B + B := by rw [Int.natCast_add, Int.add_mul]; simp
    rw [e]
    omega

/-- c further numbers x: some of them. -/
def conv (f : Int → Int) (x : Int) (c : Nat) (n : Int) : Int := sumN (fun i => f (n - i * x)) (c + 1)
def uwF : Nat → List Int → (Int → Int) → Int → Int
  | 0, _, f => f
  | _ + 1, [], f => f
  | d + 1, x :: r, f => uwF d (r.drop (runOf x r)) (conv f x (runOf x r + 1))
def dlt (n : Int) : Int := if n = 0 then 1 else 0
def uw (L : List Int) : Int → Int := uwF L.length L dlt
theorem uwF_nil (d : Nat) (f : Int → Int) : uwF d [] f = f := by cases d <;> rfl

/-- What the ways of the first k numbers are. -/
structure UState (L : List Int) (k : Nat) (f : Int → Int) : Prop where
  rest : ∃ d, L.length ≤ d + k ∧ uwF d (L.drop k) f = uw L
  neg : ∀ n, n < 0 → f n = 0
  bd : ∀ n, 0 ≤ f n ∧ f n ≤ (2 : Int) ^ k
theorem ustate_start (L : List Int) : UState L 0 dlt where
  rest := ⟨L.length, by omega, rfl⟩
  neg n h := by unfold dlt; rw [if_neg (by omega)]
  bd n := by
    unfold dlt
    show 0 ≤ _ ∧ _ ≤ (1 : Int)
    split <;> omega
theorem ustate_end {L : List Int} {f : Int → Int} (h : UState L L.length f) : f = uw L := by
  obtain ⟨d, -, e⟩ := h.rest
  rw [List.drop_length, uwF_nil] at e
  exact e
/-- The run of equal numbers from k on. -/
def runAt (L : List Int) (k : Nat) : Nat := runOf (L.getD k 0) (L.drop k)
theorem getD_drop (L : List Int) (k j : Nat) : (L.drop k).getD j 0 = L.getD (k + j) 0 := by
  rw [List.getD_eq_getElem?_getD, List.getD_eq_getElem?_getD, List.getElem?_drop]
theorem drop_get {L : List Int} {k : Nat} (h : k < L.length) : L.drop k = L.getD k 0 :: L.drop (k + 1) := by
  rw [List.drop_eq_getElem_cons h, List.getD_eq_getElem?_getD, List.getElem?_eq_getElem h]; rfl
theorem runAt_eq {L : List Int} {k : Nat} (h : k < L.length) : runAt L k = runOf (L.getD k 0) (L.drop (k + 1)) + 1 := by
  unfold runAt
  rw [drop_get h]
  show (if L.getD k 0 = L.getD k 0 then _ else _) = _
  rw [if_pos rfl]
theorem runAt_le {L : List Int} {k : Nat} (h : k ≤ L.length) : k + runAt L k ≤ L.length := by
  have := runOf_le (L.getD k 0) (L.drop k)
  rw [List.length_drop] at this
  unfold runAt
  omega
theorem runAt_at {L : List Int} {k j : Nat} (h : j < runAt L k) : L.getD (k + j) 0 = L.getD k 0 := by
  rw [← getD_drop]
  exact runOf_at _ _ j h
theorem runAt_end {L : List Int} {k : Nat} (h : k + runAt L k < L.length) : L.getD (k + runAt L k) 0 ≠ L.getD k 0 := by
  rw [← getD_drop]
  exact runOf_end _ _ (by rw [List.length_drop]; unfold runAt at h; omega)
theorem two_pow_le (c : Nat) : (c : Int) + 1 ≤ (2 : Int) ^ c := by
  induction c with
  | zero => decide
  | succ c ih =>
    rw [Int.pow_succ]
    have : 0 ≤ (c : Int) := by omega
    omega
theorem ustate_next {L : List Int} {k : Nat} {f : Int → Int} (h : UState L k f) (hk : k < L.length) (hx : 0 ≤ L.getD k 0) : UState L (k + runAt L k) (conv f (L.getD k 0) (runAt L k)) := by
  refine ⟨?_, fun n hn => ?_, fun n => ?_⟩
  · obtain ⟨d, hd, e⟩ := h.rest
    have e2 := runAt_eq hk
    obtain ⟨d', rfl⟩ : ∃ d', d = d' + 1 := ⟨d - 1, by omega⟩
    refine ⟨d', by omega, ?_⟩
    rw [← e, drop_get hk]
    show _ = uwF d' ((L.drop (k + 1)).drop (runOf (L.getD k 0) (L.drop (k + 1)))) (conv f (L.getD k 0) (runOf (L.getD k 0) (L.drop (k + 1)) + 1))
    rw [← e2, List.drop_drop]
    congr 2
    omega
  · unfold conv
    refine sumN_zero (fun i => h.neg _ ?_) _
    have : 0 ≤ (i : Int) * L.getD k 0 := Int.mul_nonneg (by omega) hx
    omega
  · unfold conv
    have b := sumN_le (g := fun i => f (n - i * L.getD k 0)) (fun i => h.bd _) (runAt L k + 1)
    refine ⟨b.1, Int.le_trans b.2 ?_⟩
    rw [Int.pow_add, Int.mul_comm]
    refine Int.mul_le_mul_of_nonneg_left ?_ (Int.le_of_lt (Int.pow_pos (by decide)))
    have := two_pow_le (runAt L k)
    omega

/-! ### A table of the values from 0 to T, and a run's step over it -/
def tabN (T : Nat) (f : Int → Int) : List Int := (List.range (T + 1)).map fun j : Nat => f j
theorem tabN_length (T : Nat) (f : Int → Int) : (tabN T f).length = T + 1 := by simp [tabN]
theorem tabN_get {T : Nat} {f : Int → Int} {j : Nat} (h : j < T + 1) : (tabN T f).getD j 0 = f j := by
  unfold tabN
  rw [List.getD_eq_getElem?_getD, List.getElem?_map, List.getElem?_range h]; rfl
theorem tabN_congr {T : Nat} {f g : Int → Int} (h : ∀ n : Int, 0 ≤ n → n ≤ T → f n = g n) : tabN T f = tabN T g := by
  unfold tabN
  refine List.map_congr_left fun j hj => ?_
  have := List.mem_range.1 hj
  exact h _ (by omega) (by omega)
theorem tabN_el {T : Nat} {f : Int → Int} {i : Nat} (h : i < (tabN T f).length) : (tabN T f)[i] = f i := by simp [tabN]
def putN (f : Int → Int) (n v : Int) : Int → Int := fun y => if y = n then v else f y
theorem tabN_set {T : Nat} {f : Int → Int} {j : Nat} {n v : Int} (h : (j : Int) = n) : (tabN T f).set j v = tabN T (putN f n v) := by
  refine List.ext_getElem (by rw [List.length_set, tabN_length, tabN_length]) fun i h1 h2 => ?_
  rw [List.getElem_set, tabN_el, tabN_el]
  unfold putN
  by_cases e : j = i
  · subst e
    rw [if_pos rfl, if_pos h]
  · rw [if_neg e, if_neg (by omega)]
theorem tabN_none (T : Nat) : tabN T (fun _ => 0) = List.replicate (T + 1) 0 := by
  unfold tabN
  rw [List.map_const', List.length_range]
theorem tabN_start (T : Nat) : (List.replicate (T + 1) (0 : Int)).set 0 1 = tabN T dlt := by
  rw [← tabN_none, tabN_set (n := 0) rfl]
  refine tabN_congr fun n _ _ => ?_
  unfold putN dlt
  rfl
/-- What the sums below b give. -/
def part (f : Int → Int) (x : Int) (c : Nat) (b m : Int) : Int := sumN (fun i => if m - i * x < b then f (m - i * x) else 0) (c + 1)
/-- What the sum b gives with less than j numbers. -/
def pin (f : Int → Int) (x b : Int) (j : Nat) (m : Int) : Int := sumN (fun i => if m - i * x = b then f b else 0) j
theorem part_zero {f : Int → Int} (h : ∀ n, n < 0 → f n = 0) (x : Int) (c : Nat) (m : Int) : part f x c 0 m = 0 := by
  refine sumN_zero (fun i => ?_) _
  split
  · exact h _ (by assumption)
  · rfl
theorem part_step (f : Int → Int) (x : Int) (c : Nat) (b m : Int) : part f x c (b + 1) m = part f x c b m + pin f x b (c + 1) m := by
  unfold part pin
  rw [← sumN_add]
  refine sumN_congr _ fun i _ => ?_
  by_cases e : m - i * x = b
  · rw [if_pos e, if_pos (by omega), if_neg (by omega), e]; omega
  · rw [if_neg e]
    by_cases g : m - i * x < b
    · rw [if_pos g, if_pos (by omega)]; omega
    · rw [if_neg g, if_neg (by omega)]; omega
theorem part_end {f : Int → Int} {x : Int} (hx : 0 ≤ x) (c : Nat) {T m : Int} (h : m ≤ T) : part f x c (T + 1) m = conv f x c m := by
  unfold part conv
  refine sumN_congr _ fun i _ => ?_
  have : 0 ≤ (i : Int) * x := Int.mul_nonneg (by omega) hx
  rw [if_pos (by omega)]
theorem pin_zero {f : Int → Int} {b : Int} (h : f b = 0) (x : Int) (j : Nat) (m : Int) : pin f x b j m = 0 := by
  refine sumN_zero (fun i => ?_) _
  split
  · exact h
  · rfl
theorem part_bd {f : Int → Int} {B : Int} (h : ∀ n, 0 ≤ f n ∧ f n ≤ B) (x : Int) (c : Nat) (b m : Int) : 0 ≤ part f x c b m ∧ part f x c b m ≤ ((c + 1 : Nat) : Int) * B := by
  refine sumN_le (fun i => ?_) _
  have h0 := h (m - i * x)
  split <;> omega
theorem pin_bd {f : Int → Int} {B : Int} (h : ∀ n, 0 ≤ f n ∧ f n ≤ B) (x b : Int) (j : Nat) (m : Int) : 0 ≤ pin f x b j m ∧ pin f x b j m ≤ (j : Int) * B := by
  refine sumN_le (fun i => ?_) _
  have h0 := h b
  split <;> omega
/-- One number more of the run, on the sum b. -/
theorem pin_put (f : Int → Int) (x : Int) (c : Nat) (b : Int) (j : Nat) (m : Int) :
    putN (fun y => part f x c b y + pin f x b j y) (b + j * x) (part f x c b (b + j * x) + pin f x b j (b + j * x) + f b) m = part f x c b m + pin f x b (j + 1) m := by
  unfold putN
  have e : pin f x b (j + 1) m = pin f x b j m + (if m - j * x = b then f b else 0) := rfl
  rw [e]
  by_cases h : m = b + j * x
  · rw [if_pos h, if_pos (by omega), ← h]; omega
  · rw [if_neg h, if_neg (by omega)]
    show part f x c b m + pin f x b j m = _
    omega
theorem pin_out {f : Int → Int} {x b : Int} {j : Nat} {m : Int} (h : m < b + j * x) : pin f x b (j + 1) m = pin f x b j m := by
  have e : pin f x b (j + 1) m = pin f x b j m + (if m - j * x = b then f b else 0) := rfl
  rw [e, if_neg (by omega)]; omega
end Go.Proofs.Ytdnjpekclmiliaa
