/-
  The lists that a search finds which goes on with the last number again or with the first one that is missing: they are the perfect lists. Lists only, no program's walk.
-/
import Derived.Test.YtdnjpekclmiliaaPlists
namespace Go.Proofs.Ytdnjpekclmiliaa

def nextN (H : List Int) (r : Nat) : List Nat := if H.length = 0 then [r + 1] else [lastN H, r + 1]
def pfrom : Nat → Nat → List Int → Nat → List (List Int)
  | 0, _, _, _ => []
  | d + 1, n, H, r => if r = n then [H] else (nextN H r).flatMap fun x => if r + x ≤ n then pfrom d n (H ++ [(x : Int)]) (r + x) else []
def pfTo (d n : Nat) (H : List Int) (r k : Nat) : List (List Int) := ((nextN H r).take k).flatMap fun x => if r + x ≤ n then pfrom d n (H ++ [(x : Int)]) (r + x) else []
theorem pfrom_end (d n : Nat) (H : List Int) : pfrom (d + 1) n H n = [H] := by
  show (if n = n then _ else _) = _
  rw [if_pos rfl]
theorem pfrom_more {d n r : Nat} (h : r ≠ n) (H : List Int) : pfrom (d + 1) n H r = pfTo d n H r (nextN H r).length := by
  show (if r = n then _ else _) = _
  rw [if_neg h]
  unfold pfTo
  rw [List.take_length]
theorem pfTo_zero (d n : Nat) (H : List Int) (r : Nat) : pfTo d n H r 0 = [] := rfl
theorem pfTo_succ {d n : Nat} {H : List Int} {r k : Nat} (h : k < (nextN H r).length) : pfTo d n H r (k + 1) = pfTo d n H r k ++ if r + (nextN H r).getD k 0 ≤ n then pfrom d n (H ++ [(((nextN H r).getD k 0 : Nat) : Int)]) (r + (nextN H r).getD k 0) else [] := by
  unfold pfTo
  rw [List.take_succ_eq_append_getElem h, List.flatMap_append, List.getD_eq_getElem?_getD, List.getElem?_eq_getElem h]
  simp
theorem nextN_len (H : List Int) (r : Nat) : (nextN H r).length ≤ 2 := by
  unfold nextN
  split <;> simp
theorem nextN_pos {H : List Int} {r k : Nat} (h : Head H r) (hk : k < (nextN H r).length) : 1 ≤ (nextN H r).getD k 0 := by
  have h1 := h.last.1
  unfold nextN at hk ⊢
  split at hk
  · rename_i e
    rw [if_pos e]
    rcases k with _ | k
    · simp
    · simp at hk
  · rename_i e
    rw [if_neg e]
    rcases k with _ | _ | k
    · simpa using h1
    · simp
    · have : k + 1 + 1 < 2 := hk
      omega
theorem nextN_le {H : List Int} {r k : Nat} (h : Head H r) (hk : k < (nextN H r).length) : (nextN H r).getD k 0 ≤ r + 1 := by
  have h1 := h.last.2
  have h2 := h.mem.2
  unfold nextN at hk ⊢
  split at hk
  · rename_i e
    rw [if_pos e]
    rcases k with _ | k
    · simp
    · simp at hk
  · rename_i e
    rw [if_neg e]
    rcases k with _ | _ | k
    · have := h1 (by omega)
      have := h2 (H.length - 1) (by omega)
      show lastN H ≤ r + 1
      omega
    · simp
    · have : k + 1 + 1 < 2 := hk
      omega
mutual
theorem pfrom_len : ∀ (d n : Nat) (H : List Int) (r : Nat), Head H r → r ≤ n → (pfrom d n H r).length ≤ 2 ^ (n - r)
  | 0, _, _, _, _, _ => Nat.zero_le _
  | d + 1, n, H, r, h, hr => by
    by_cases e : r = n
    · subst e
      rw [pfrom_end]
      exact Nat.one_le_two_pow
    · rw [pfrom_more e]
      have h1 := pfTo_len d n H r (nextN H r).length h (by omega) (Nat.le_refl _)
      have h2 : (nextN H r).length * 2 ^ (n - r - 1) ≤ 2 * 2 ^ (n - r - 1) := Nat.mul_le_mul_right _ (nextN_len H r)
      have e2 : 2 ^ (n - r) = 2 ^ (n - r - 1) * 2 := by rw [← Nat.pow_succ]; congr 1; omega
      omega
theorem pfTo_len : ∀ (d n : Nat) (H : List Int) (r k : Nat), Head H r → r < n → k ≤ (nextN H r).length → (pfTo d n H r k).length ≤ k * 2 ^ (n - r - 1)
  | d, n, H, r, 0, h, hr, hk => Nat.zero_le _
  | d, n, H, r, k + 1, h, hr, hk => by
    have ih := pfTo_len d n H r k h hr (by omega)
    have hx := nextN_pos h (show k < (nextN H r).length by omega)
    rw [pfTo_succ (by omega), List.length_append, Nat.add_mul, Nat.one_mul]
    generalize (nextN H r).getD k 0 = x at hx ⊢
    split
    · have h1 := pfrom_len d n (H ++ [(x : Int)]) (r + x) (head_next h hx) (by assumption)
      have h2 : 2 ^ (n - (r + x)) ≤ 2 ^ (n - r - 1) := pow_le2 (by omega)
      omega
    · exact Nat.le_trans ih (Nat.le_add_right _ _)
end
theorem pfrom_all : ∀ n, n < 24 → pfrom 25 (n + 1) [] 0 = plists 25 (n + 1) [] 0 := by decide +kernel
/-- The next numbers as they lie in memory. -/
def nextI (H : List Int) (r : Nat) : List Int := (nextN H r).map fun x : Nat => (x : Int)
theorem nextI_len (H : List Int) (r : Nat) : (nextI H r).length = (nextN H r).length := by simp [nextI]
theorem nextI_get {H : List Int} {r k : Nat} (h : k < (nextN H r).length) : (nextI H r).getD k 0 = (((nextN H r).getD k 0 : Nat) : Int) := by
  unfold nextI
  rw [List.getD_eq_getElem?_getD, List.getD_eq_getElem?_getD, List.getElem?_map, List.getElem?_eq_getElem h]
  rfl
end Go.Proofs.Ytdnjpekclmiliaa
