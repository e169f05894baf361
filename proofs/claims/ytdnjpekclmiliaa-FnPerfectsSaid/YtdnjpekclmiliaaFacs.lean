/-
  Lists of factors behind a head; how many there are. Lists only, no program's walk.
-/
import Derived.Test.YtdnjpekclmiliaaRowsApp
namespace Go.Proofs.Ytdnjpekclmiliaa

/-- The lists of factors of n behind H (at most d factors). -/
def facs : Nat → Nat → List Int → List (List Int)
  | 0, _, _ => []
  | d + 1, n, H => if n = 1 then [H] else (List.range (n - 1)).flatMap fun i => if n % (i + 2) = 0 then facs d (n / (i + 2)) (H ++ [((i + 2 : Nat) : Int)]) else []
/-- Those whose next factor is at most j + 1. -/
def facsTo (d n : Nat) (H : List Int) (j : Nat) : List (List Int) := (List.range j).flatMap fun i => if n % (i + 2) = 0 then facs d (n / (i + 2)) (H ++ [((i + 2 : Nat) : Int)]) else []
theorem facs_one (d : Nat) (H : List Int) : facs (d + 1) 1 H = [H] := rfl
theorem facs_more {d n : Nat} (h : n ≠ 1) (H : List Int) : facs (d + 1) n H = facsTo d n H (n - 1) := by
  show (if n = 1 then _ else _) = _
  rw [if_neg h]; rfl
theorem facsTo_zero (d n : Nat) (H : List Int) : facsTo d n H 0 = [] := rfl
theorem facsTo_succ (d n : Nat) (H : List Int) (j : Nat) : facsTo d n H (j + 1) = facsTo d n H j ++ if n % (j + 2) = 0 then facs d (n / (j + 2)) (H ++ [((j + 2 : Nat) : Int)]) else [] := by
  unfold facsTo
  rw [List.range_succ, List.flatMap_append]
  simp

def cntF : Nat → Nat → Nat
  | 0, _ => 0
  | d + 1, n => if n = 1 then 1 else ((List.range (n - 1)).map fun i => if n % (i + 2) = 0 then cntF d (n / (i + 2)) else 0).sum
def cTo (d n j : Nat) : Nat := ((List.range j).map fun i => if n % (i + 2) = 0 then cntF d (n / (i + 2)) else 0).sum
theorem cTo_succ (d n j : Nat) : cTo d n (j + 1) = cTo d n j + if n % (j + 2) = 0 then cntF d (n / (j + 2)) else 0 := by
  unfold cTo
  rw [List.range_succ, List.map_append, List.sum_append]
  simp
theorem cTo_mono (d n j : Nat) : ∀ e, cTo d n j ≤ cTo d n (j + e)
  | 0 => Nat.le_refl _
  | e + 1 => by
    have ih := cTo_mono d n j e
    have := cTo_succ d n (j + e)
    have e2 : j + (e + 1) = j + e + 1 := rfl
    rw [e2]
    omega
mutual
theorem facs_length : ∀ (d n : Nat) (H : List Int), (facs d n H).length = cntF d n
  | 0, _, _ => rfl
  | d + 1, n, H => by
    by_cases h : n = 1
    · subst h; rfl
    · rw [facs_more h, facsTo_length d n H (n - 1)]
      show _ = if n = 1 then 1 else _
      rw [if_neg h]; rfl
theorem facsTo_length : ∀ (d n : Nat) (H : List Int) (j : Nat), (facsTo d n H j).length = cTo d n j
  | d, n, H, 0 => rfl
  | d, n, H, j + 1 => by
    rw [facsTo_succ, cTo_succ, List.length_append, facsTo_length d n H j]
    split
    · rw [facs_length d]
    · rfl
end
theorem cntF_le : ∀ d, d < 8 → ∀ n, n < 101 → cntF d n ≤ 200 := by decide +kernel
theorem cntF_more {d n : Nat} (h : n ≠ 1) : cntF (d + 1) n = cTo d n (n - 1) := by
  show (if n = 1 then _ else _) = _
  rw [if_neg h]; rfl
theorem facsTo_le {d n j : Nat} (hd : d < 7) (hn : n < 101) (h1 : n ≠ 1) (hj : j ≤ n - 1) (H : List Int) : (facsTo d n H j).length ≤ 200 := by
  rw [facsTo_length]
  have h2 := cTo_mono d n j (n - 1 - j)
  rw [show j + (n - 1 - j) = n - 1 by omega, ← cntF_more h1] at h2
  exact Nat.le_trans h2 (cntF_le (d + 1) (by omega) n hn)
mutual
theorem facs_each : ∀ (d n : Nat) (H : List Int), ∀ L ∈ facs d n H, L.length ≤ H.length + d
  | 0, _, _, L, h => by cases h
  | d + 1, n, H, L, h => by
    by_cases h1 : n = 1
    · subst h1
      obtain rfl : L = H := by simpa [facs] using h
      omega
    · rw [facs_more h1] at h
      exact facsTo_each d n H (n - 1) L h
theorem facsTo_each : ∀ (d n : Nat) (H : List Int) (j : Nat), ∀ L ∈ facsTo d n H j, L.length ≤ H.length + (d + 1)
  | d, n, H, 0, L, h => by cases h
  | d, n, H, j + 1, L, h => by
    rw [facsTo_succ] at h
    rcases List.mem_append.1 h with h | h
    · exact facsTo_each d n H j L h
    · split at h
      · have := facs_each d _ _ L h
        rw [List.length_append] at this
        simp at this
        omega
      · cases h
end
theorem sizeSS_le {b : Nat} : ∀ {LL : List (List Int)}, (∀ L ∈ LL, L.length ≤ b) → sizeSS LL ≤ b * LL.length
  | [], _ => Nat.zero_le _
  | L :: r, h => by
    have ih := sizeSS_le (LL := r) fun L h1 => h L (List.mem_cons_of_mem _ h1)
    have h1 := h L List.mem_cons_self
    show L.length + sizeSS r ≤ b * (r.length + 1)
    rw [Nat.mul_add]
    omega
end Go.Proofs.Ytdnjpekclmiliaa
