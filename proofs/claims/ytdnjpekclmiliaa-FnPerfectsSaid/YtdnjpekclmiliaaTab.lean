/-
  Tables of ints around a middle, and one weight's step over a table of ways. No program's walk.
-/
import Derived.Test.YtdnjpekclmiliaaWays
namespace Go.Proofs.Ytdnjpekclmiliaa

/-- The values of f from -T to T. -/
def tab (T : Nat) (f : Int → Int) : List Int := (List.range (2 * T + 1)).map fun j : Nat => f ((j : Int) - T)
theorem tab_length (T : Nat) (f : Int → Int) : (tab T f).length = 2 * T + 1 := by simp [tab]
theorem tab_get {T : Nat} {f : Int → Int} {j : Nat} (h : j < 2 * T + 1) : (tab T f).getD j 0 = f ((j : Int) - T) := by
  unfold tab
  rw [List.getD_eq_getElem?_getD, List.getElem?_map, List.getElem?_range h]; rfl
theorem tab_at {T : Nat} {f : Int → Int} {j : Nat} {n : Int} (h : (j : Int) = n + T) (h2 : n ≤ T) : (tab T f).getD j 0 = f n := by
  rw [tab_get (by omega)]
  congr 1; omega
theorem tab_congr {T : Nat} {f g : Int → Int} (h : ∀ n : Int, -T ≤ n → n ≤ T → f n = g n) : tab T f = tab T g := by
  unfold tab
  refine List.map_congr_left fun j hj => ?_
  have := List.mem_range.1 hj
  exact h _ (by omega) (by omega)
theorem tab_el {T : Nat} {f : Int → Int} {i : Nat} (h : i < (tab T f).length) : (tab T f)[i] = f ((i : Int) - T) := by simp [tab]
/-- f, with v at n. -/
def put (f : Int → Int) (n v : Int) : Int → Int := fun y => if y = n then v else f y
theorem tab_set {T : Nat} {f : Int → Int} {j : Nat} {n v : Int} (h : (j : Int) = n + T) : (tab T f).set j v = tab T (put f n v) := by
  refine List.ext_getElem (by rw [List.length_set, tab_length, tab_length]) fun i h1 h2 => ?_
  rw [List.getElem_set, tab_el, tab_el]
  unfold put
  by_cases e : j = i
  · subst e
    rw [if_pos rfl, if_pos (by omega)]
  · rw [if_neg e, if_neg (by omega)]
theorem tab_none (T : Nat) : tab T (fun _ => 0) = List.replicate (2 * T + 1) 0 := by
  unfold tab
  rw [List.map_const', List.length_range]

/-- A weight x is added to (and, with two pans, taken from) the sums below b. -/
def stp (two : Bool) (f : Int → Int) (x b m : Int) : Int :=
  f m + (if m - x < b then f (m - x) else 0) + (if two then (if m + x < b then f (m + x) else 0) else 0)
theorem stp_start {two : Bool} {f : Int → Int} {x b : Int} (h : ∀ n, n < b → f n = 0) (m : Int) : stp two f x b m = f m := by
  have h1 : (if m - x < b then f (m - x) else 0) = 0 := by
    split
    · exact h _ (by assumption)
    · rfl
  have h2 : (if m + x < b then f (m + x) else 0) = 0 := by
    split
    · exact h _ (by assumption)
    · rfl
  unfold stp
  rw [h1, h2]
  cases two <;> simp
theorem stp_end {two : Bool} {f : Int → Int} {x b : Int} (h : ∀ n, b ≤ n → f n = 0) (m : Int) : stp two f x b m = f m + f (m - x) + if two then f (m + x) else 0 := by
  have h1 : (if m - x < b then f (m - x) else 0) = f (m - x) := by
    split
    · rfl
    · exact (h _ (by omega)).symm
  have h2 : (if m + x < b then f (m + x) else 0) = f (m + x) := by
    split
    · rfl
    · exact (h _ (by omega)).symm
  unfold stp
  rw [h1, h2]
/-- There is no way to b: nothing is added. -/
theorem stp_none {two : Bool} {f : Int → Int} {x b : Int} (h : f b = 0) (m : Int) : stp two f x (b + 1) m = stp two f x b m := by
  have h1 : (if m - x < b + 1 then f (m - x) else 0) = (if m - x < b then f (m - x) else 0) := by
    by_cases e : m - x = b
    · rw [e, h]; split <;> split <;> rfl
    · by_cases g : m - x < b
      · rw [if_pos g, if_pos (by omega)]
      · rw [if_neg g, if_neg (by omega)]
  have h2 : (if m + x < b + 1 then f (m + x) else 0) = (if m + x < b then f (m + x) else 0) := by
    by_cases e : m + x = b
    · rw [e, h]; split <;> split <;> rfl
    · by_cases g : m + x < b
      · rw [if_pos g, if_pos (by omega)]
      · rw [if_neg g, if_neg (by omega)]
  unfold stp
  rw [h1, h2]
theorem stp_one {f : Int → Int} {x b : Int} (m : Int) : stp false f x (b + 1) m = put (stp false f x b) (b + x) (stp false f x b (b + x) + f b) m := by
  unfold put stp
  simp only [Bool.false_eq_true, if_false]
  by_cases e : m = b + x
  · subst e
    have e1 : b + x - x = b := by omega
    rw [if_pos rfl, e1, if_pos (by omega), if_neg (by omega)]
    omega
  · rw [if_neg e]
    by_cases g : m - x < b
    · rw [if_pos g, if_pos (by omega)]
    · rw [if_neg g, if_neg (by omega)]
theorem stp_two {f : Int → Int} {x b : Int} (hx : 1 ≤ x) (m : Int) :
    stp true f x (b + 1) m = put (put (stp true f x b) (b + x) (stp true f x b (b + x) + f b)) (b - x) (stp true f x b (b - x) + f b) m := by
  unfold put stp
  simp only [if_true]
  by_cases e : m = b + x
  · subst e
    have e1 : b + x - x = b := by omega
    rw [if_neg (show ¬ b + x = b - x by omega), if_pos rfl, e1, if_pos (show b < b + 1 by omega), if_neg (show ¬ b < b by omega), if_neg (show ¬ b + x + x < b + 1 by omega), if_neg (show ¬ b + x + x < b by omega)]
    omega
  · by_cases g : m = b - x
    · subst g
      have e2 : b - x + x = b := by omega
      rw [if_pos rfl, e2, if_pos (show b - x - x < b + 1 by omega), if_pos (show b < b + 1 by omega), if_pos (show b - x - x < b by omega), if_neg (show ¬ b < b by omega)]
      omega
    · rw [if_neg g, if_neg e]
      have h1 : (m - x < b + 1) = (m - x < b) := by rw [eq_iff_iff]; omega
      have h2 : (m + x < b + 1) = (m + x < b) := by rw [eq_iff_iff]; omega
      simp only [h1, h2]
theorem stp_le {two : Bool} {f : Int → Int} {x b B : Int} (h : ∀ n, 0 ≤ f n ∧ f n ≤ B) (m : Int) : 0 ≤ stp two f x b m ∧ stp two f x b m ≤ 3 * B := by
  have h1 := h m
  have h2 := h (m - x)
  have h3 := h (m + x)
  unfold stp
  split <;> split <;> (try split) <;> omega
end Go.Proofs.Ytdnjpekclmiliaa
