/-
  Marks that are turned or stretched, in ascending order. Ints and lists only, no program's walk.
-/
import Derived.Test.YtfokchmmeflhiaaCircle
import Derived.Test.YtfokchmmeflhiaaSortList
namespace Go.Proofs.Ytfokchmmeflhiaa

/-- Each mark times f, plus b, modulo n. -/
def movL (n f b : Int) (L : List Int) : List Int := L.map fun z => (z * f + b) % n
theorem movL_len (n f b : Int) (L : List Int) : (movL n f b L).length = L.length := by unfold movL; rw [List.length_map]
theorem movL_take {n f b : Int} {L : List Int} {k : Nat} (h : k < L.length) : movL n f b (L.take (k + 1)) = movL n f b (L.take k) ++ [(L.getD k 0 * f + b) % n] := by
  unfold movL
  rw [List.take_succ_eq_append_getElem h, List.map_append, List.getD_eq_getElem?_getD, List.getElem?_eq_getElem h]; rfl
/-- The first k of them; zeros behind them. -/
def movTo (n f b : Int) (L : List Int) (k : Nat) : List Int := movL n f b (L.take k) ++ List.replicate (L.length - k) 0
theorem movTo_zero (n f b : Int) (L : List Int) : movTo n f b L 0 = List.replicate L.length 0 := by simp [movTo, movL]
theorem movTo_len (n f b : Int) {L : List Int} {k : Nat} (h : k ≤ L.length) : (movTo n f b L k).length = L.length := by
  unfold movTo
  rw [List.length_append, movL_len, List.length_take, List.length_replicate]; omega
theorem movTo_set (n f b : Int) {L : List Int} {k : Nat} (h : k < L.length) : (movTo n f b L k).set k ((L.getD k 0 * f + b) % n) = movTo n f b L (k + 1) := by
  unfold movTo
  have hl : (movL n f b (L.take k)).length = k := by rw [movL_len, List.length_take]; omega
  rw [List.set_append_right _ _ (by omega), hl, Nat.sub_self, movL_take h, List.append_assoc]
  congr 1
  rw [show L.length - k = (L.length - (k + 1)) + 1 by omega, List.replicate_succ]; rfl
theorem movTo_all (n f b : Int) (L : List Int) : movTo n f b L L.length = movL n f b L := by simp [movTo]
def turnA (n : Int) (L : List Int) (b : Int) : List Int := if circB n L = true ∧ 0 ≤ b ∧ b < n then sortL (movL n 1 b L) else []
def strA (n : Int) (L : List Int) (b : Int) : List Int := if circB n L = true ∧ (1 ≤ b ∧ b < n) ∧ Int.gcd b n = 1 then sortL (movL n b 0 L) else []
theorem turnA_yes {n b : Int} {L : List Int} (h : circB n L = true) (h1 : 0 ≤ b ∧ b < n) : turnA n L b = sortL (movL n 1 b L) := if_pos ⟨h, h1⟩
theorem turnA_no {n b : Int} {L : List Int} (h : circB n L = false) : turnA n L b = [] := if_neg fun g => by rw [h] at g; cases g.1
theorem turnA_out {n b : Int} {L : List Int} (h : ¬ (0 ≤ b ∧ b < n)) : turnA n L b = [] := if_neg fun g => h g.2
theorem strA_yes {n b : Int} {L : List Int} (h : circB n L = true) (h1 : 1 ≤ b ∧ b < n) (h2 : Int.gcd b n = 1) : strA n L b = sortL (movL n b 0 L) := if_pos ⟨h, h1, h2⟩
theorem strA_no {n b : Int} {L : List Int} (h : circB n L = false) : strA n L b = [] := if_neg fun g => by rw [h] at g; cases g.1
theorem strA_out {n b : Int} {L : List Int} (h : ¬ (1 ≤ b ∧ b < n)) : strA n L b = [] := if_neg fun g => h g.2.1
theorem strA_gcd {n b : Int} {L : List Int} (h : ¬ Int.gcd b n = 1) : strA n L b = [] := if_neg fun g => h g.2.2
theorem sortL_nil : sortL [] = [] := List.length_eq_zero_iff.1 (sortL_length [])
theorem turnA_len (n : Int) (L : List Int) (b : Int) : (turnA n L b).length ≤ 8 := by
  unfold turnA
  split
  · rename_i h
    rw [sortL_length, movL_len]
    exact (circB_P h.1).1.2.2
  · simp
theorem strA_len (n : Int) (L : List Int) (b : Int) : (strA n L b).length ≤ 8 := by
  unfold strA
  split
  · rename_i h
    rw [sortL_length, movL_len]
    exact (circB_P h.1).1.2.2
  · simp
/-- What the walk reckons. -/
theorem mov_walk {n : Int} {L : List Int} (h : CircP n L) {f b : Int} (hf : 0 ≤ f ∧ f ≤ 60) (hb : 0 ≤ b ∧ b ≤ 60) {k : Nat} (hk : k < L.length) :
    0 ≤ L.getD k 0 * f ∧ L.getD k 0 * f ≤ 3600 ∧ (L.getD k 0 * f + b).tmod n = (L.getD k 0 * f + b) % n := by
  have h1 := (h.2 k hk).1
  have h2 : 0 ≤ L.getD k 0 * f := Int.mul_nonneg h1.1 hf.1
  have h3 : L.getD k 0 * f ≤ 60 * 60 := Int.mul_le_mul (by omega) hf.2 hf.1 (by omega)
  exact ⟨h2, by omega, Int.tmod_eq_emod_of_nonneg (by omega)⟩
end Go.Proofs.Ytfokchmmeflhiaa
