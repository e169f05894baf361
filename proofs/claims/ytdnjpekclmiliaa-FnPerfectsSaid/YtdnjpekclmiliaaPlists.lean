/-
  Lists with a sum for which every smaller number is a sum in exactly one way; how many there are. Lists only, no program's walk.
-/
import Derived.Test.YtdnjpekclmiliaaUCalls
import Derived.Test.YtdnjpekclmiliaaFacs
namespace Go.Proofs.Ytdnjpekclmiliaa
open Go.ChangeShapes Go.WideShapes Go.ChangeAt Go.RowKit Go.PlainAid

def lastN (H : List Int) : Nat := if H.length = 0 then 1 else (H.getD (H.length - 1) 0).toNat
/-- How many next numbers are looked at. -/
def cntX (n r l : Nat) : Nat := min (r + 1) (n - r) + 1 - l
def plists : Nat → Nat → List Int → Nat → List (List Int)
  | 0, _, _, _ => []
  | d + 1, n, H, r => if r = n then [H] else (List.range (cntX n r (lastN H))).flatMap fun i =>
      if lastN H + i ≠ lastN H ∧ lastN H + i ≠ r + 1 then [] else if oneWay (H ++ [((lastN H + i : Nat) : Int)]) = true then plists d n (H ++ [((lastN H + i : Nat) : Int)]) (r + (lastN H + i)) else []
def pstep (d n : Nat) (H : List Int) (r x : Nat) : List (List Int) :=
  if x ≠ lastN H ∧ x ≠ r + 1 then [] else if oneWay (H ++ [(x : Int)]) = true then plists d n (H ++ [(x : Int)]) (r + x) else []
def plistsTo (d n : Nat) (H : List Int) (r j : Nat) : List (List Int) := (List.range j).flatMap fun i => pstep d n H r (lastN H + i)
theorem plists_end (d n : Nat) (H : List Int) : plists (d + 1) n H n = [H] := by
  show (if n = n then _ else _) = _
  rw [if_pos rfl]
theorem plists_more {d n r : Nat} (h : r ≠ n) (H : List Int) : plists (d + 1) n H r = plistsTo d n H r (cntX n r (lastN H)) := by
  show (if r = n then _ else _) = _
  rw [if_neg h]; rfl
theorem plistsTo_succ (d n : Nat) (H : List Int) (r j : Nat) : plistsTo d n H r (j + 1) = plistsTo d n H r j ++ pstep d n H r (lastN H + j) := by
  unfold plistsTo
  rw [List.range_succ, List.flatMap_append]
  simp

/-- A head: positive numbers with the sum r. -/
structure Head (H : List Int) (r : Nat) : Prop where
  pos : ∀ j, j < H.length → 1 ≤ H.getD j 0
  sum : sumL H = r
theorem head_nil : Head [] 0 := ⟨fun j h => absurd h (Nat.not_lt_zero j), rfl⟩
theorem getD_append {H : List Int} {x : Int} {j : Nat} (h : j < (H ++ [x]).length) : (H ++ [x]).getD j 0 = if j < H.length then H.getD j 0 else x := by
  rw [List.length_append] at h
  simp only [List.length_singleton] at h
  by_cases e : j < H.length
  · rw [if_pos e, List.getD_eq_getElem?_getD, List.getD_eq_getElem?_getD, List.getElem?_append_left e]
  · rw [if_neg e]
    obtain rfl : j = H.length := by omega
    rw [List.getD_eq_getElem?_getD, List.getElem?_append_right (Nat.le_refl _), Nat.sub_self]
    rfl
theorem head_next {H : List Int} {r x : Nat} (h : Head H r) (hx : 1 ≤ x) : Head (H ++ [(x : Int)]) (r + x) := by
  refine ⟨fun j hj => ?_, ?_⟩
  · rw [getD_append hj]
    split
    · exact h.pos j (by assumption)
    · omega
  · rw [sumL_append, h.sum]
    simp [sumL]
theorem sumL_ge : ∀ {H : List Int}, (∀ z ∈ H, 1 ≤ z) → (H.length : Int) ≤ sumL H ∧ ∀ z ∈ H, z ≤ sumL H
  | [], _ => ⟨Int.le_refl 0, fun z hz => by cases hz⟩
  | x :: r, h => by
    obtain ⟨i1, i2⟩ := sumL_ge (H := r) fun z hz => h z (List.mem_cons_of_mem _ hz)
    have hx := h x List.mem_cons_self
    have e : sumL (x :: r) = x + sumL r := rfl
    refine ⟨by rw [e, List.length_cons]; omega, fun z hz => ?_⟩
    rcases List.mem_cons.1 hz with rfl | hz
    · rw [e]; omega
    · have := i2 z hz
      rw [e]; omega
theorem Head.mem {H : List Int} {r : Nat} (h : Head H r) : (H.length : Int) ≤ r ∧ ∀ j, j < H.length → H.getD j 0 ≤ r := by
  obtain ⟨h1, h2⟩ := sumL_ge (getD_all (P := fun z => 1 ≤ z) h.pos)
  rw [h.sum] at h1 h2
  refine ⟨h1, fun j hj => h2 _ ?_⟩
  rw [List.getD_eq_getElem?_getD, List.getElem?_eq_getElem hj]; simp
theorem Head.num {H : List Int} {r : Nat} (h : Head H r) (hr : r ≤ 24) : NumP H r := by
  have hm := h.mem
  exact ⟨by omega, fun j hj => ⟨h.pos j hj, by have := hm.2 j hj; omega⟩, h.sum⟩
theorem Head.last {H : List Int} {r : Nat} (h : Head H r) : 1 ≤ lastN H ∧ (0 < H.length → H.getD (H.length - 1) 0 = (lastN H : Int)) := by
  unfold lastN
  by_cases e : H.length = 0
  · rw [if_pos e]
    exact ⟨Nat.le_refl 1, fun h0 => by omega⟩
  · rw [if_neg e]
    have := h.pos (H.length - 1) (by omega)
    exact ⟨by omega, fun _ => by omega⟩

theorem two_add (a : Nat) : 2 ^ (a + 1) = 2 ^ a + 2 ^ a := by rw [Nat.pow_succ]; omega
theorem pow_le2 {a b : Nat} (h : a ≤ b) : 2 ^ a ≤ 2 ^ b := Nat.pow_le_pow_right (by decide) h
mutual
theorem plists_len : ∀ (d n : Nat) (H : List Int) (r : Nat), Head H r → r ≤ n → (plists d n H r).length ≤ 2 ^ (n - r)
  | 0, n, H, r, _, _ => Nat.zero_le _
  | d + 1, n, H, r, h, hr => by
    by_cases e : r = n
    · subst e
      rw [plists_end, Nat.sub_self]
      exact Nat.le_refl 1
    · rw [plists_more e]
      exact plistsTo_len d n H r (cntX n r (lastN H)) h hr (Nat.le_refl _)
theorem plistsTo_len : ∀ (d n : Nat) (H : List Int) (r j : Nat), Head H r → r ≤ n → j ≤ cntX n r (lastN H) → (plistsTo d n H r j).length ≤ 2 ^ (n - r)
  | d, n, H, r, j, h, hr, hj => by
    have key : ∀ j, j ≤ cntX n r (lastN H) → (plistsTo d n H r j).length + 2 ^ (n - r + 1 - lastN H - j) ≤ 2 ^ (n - r) := fun j => by
      induction j with
      | zero =>
        intro _
        have := h.last.1
        show 0 + 2 ^ (n - r + 1 - lastN H - 0) ≤ 2 ^ (n - r)
        rw [Nat.zero_add]
        exact pow_le2 (by omega)
      | succ j ih =>
        intro hj
        have h1 := ih (by omega)
        have hl := h.last.1
        unfold cntX at hj
        rw [plistsTo_succ, List.length_append]
        have h2 : (pstep d n H r (lastN H + j)).length ≤ 2 ^ (n - r + 1 - lastN H - (j + 1)) := by
          unfold pstep
          split
          · exact Nat.zero_le _
          · split
            · have := plists_len d n (H ++ [((lastN H + j : Nat) : Int)]) (r + (lastN H + j)) (head_next h (by omega)) (by omega)
              exact Nat.le_trans this (pow_le2 (by omega))
            · exact Nat.zero_le _
        have e : n - r + 1 - lastN H - j = (n - r + 1 - lastN H - (j + 1)) + 1 := by omega
        have h3 := two_add (n - r + 1 - lastN H - (j + 1))
        rw [e] at h1
        omega
    exact Nat.le_trans (Nat.le_add_right _ _) (key j hj)
end
theorem pow24 {n r : Nat} (h : n ≤ 24) : 2 ^ (n - r) ≤ 16777216 := by
  have h1 := pow_le2 (show n - r ≤ 24 by omega)
  have e : (2 : Nat) ^ 24 = 16777216 := by decide
  omega
/-- The model's answers. -/
def listsP (m : Int) : List (List Int) := if 1 ≤ m ∧ m ≤ 24 then plists 25 m.toNat [] 0 else []
def listsF (m : Int) : List (List Int) := if 2 ≤ m ∧ m ≤ 100 then facs 7 m.toNat [] else []
end Go.Proofs.Ytdnjpekclmiliaa
