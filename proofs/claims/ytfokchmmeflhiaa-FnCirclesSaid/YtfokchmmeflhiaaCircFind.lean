/-
  Searches for marks that measure every arc once: the first list in lexicographic order; what they find, reckoned by the kernel. Ints and lists only, no program's walk.
-/
import Derived.Test.YtfokchmmeflhiaaCircle
import Derived.Test.YtfokchmmeflhiaaFirst
namespace Go.Proofs.Ytfokchmmeflhiaa

theorem CircP.arcD_eq {n : Int} {L : List Int} (h : CircP n L) {i k : Nat} (hi : i < L.length) (hk : k < L.length) :
    (arcD n L i k : Int) = if L.getD i 0 ≤ L.getD k 0 then L.getD k 0 - L.getD i 0 else L.getD k 0 - L.getD i 0 + n := by
  have h1 := h.2 i hi
  have h2 := h.2 k hk
  unfold FineC at h1 h2
  have hn := h.1.1.1
  unfold arcD
  split
  · rw [Int.add_emod_right, Int.emod_eq_of_lt (by omega) (by omega)]
    omega
  · rw [Int.emod_eq_of_lt (by omega) (by omega)]
    omega
theorem CircP.arcD_pos {n : Int} {L : List Int} (h : CircP n L) {i k : Nat} (hi : i < L.length) (hk : k < L.length) (hne : i ≠ k) : arcD n L i k ≠ 0 := by
  have e := h.arcD_eq hi hk
  have h1 := h.2 i hi
  have h2 := h.2 k hk
  unfold FineC at h1 h2
  have h3 : L.getD i 0 ≠ L.getD k 0 := fun g => hne ((h.ne hi hk).1 g)
  split at e <;> omega
theorem CircP.row_zero {n : Int} {L : List Int} (h : CircP n L) {i : Nat} (hi : i < L.length) (C : List Int) (h0 : C.getD 0 0 = 0) : ∀ k, k ≤ L.length → (arcRow n L i C k).getD 0 0 = 0
  | 0, _ => h0
  | k + 1, hk => by
    have ih := h.row_zero hi C h0 k (by omega)
    show (arcStep n L i k _).getD 0 0 = 0
    unfold arcStep
    split
    · exact ih
    · rename_i hne
      have hp := h.arcD_pos hi (show k < L.length by omega) hne
      rcases Nat.lt_or_ge (arcD n L i k) (arcRow n L i C k).length with g | g
      · rw [getD_set g, if_neg (fun e => hp e.symm)]
        exact ih
      · rw [List.set_eq_of_length_le g]
        exact ih
theorem CircP.to_zero {n : Int} {L : List Int} (h : CircP n L) : ∀ i, i ≤ L.length → (arcTo n L i).getD 0 0 = 0
  | 0, _ => by
    show (List.replicate n.toNat (0 : Int)).getD 0 0 = 0
    rw [List.getD_eq_getElem?_getD, List.getElem?_replicate]
    split <;> rfl
  | i + 1, hi => h.row_zero (by omega) _ (h.to_zero i (by omega)) L.length (Nat.le_refl _)
theorem CircP.zero {n : Int} {L : List Int} (h : CircP n L) : (arcsL n L).getD 0 0 = 0 := h.to_zero _ (Nat.le_refl _)

/-- An arc occurs twice. -/
def badB (n : Int) (L : List Int) : Bool := (arcsL n L).any fun v => decide (1 < v)
theorem badB_iff {n : Int} {L : List Int} : badB n L = true ↔ ∃ d, d < n.toNat ∧ 1 < (arcsL n L).getD d 0 := by
  unfold badB
  rw [List.any_eq_true]
  constructor
  · rintro ⟨v, hv, h⟩
    obtain ⟨d, hd, rfl⟩ := List.mem_iff_getElem.1 hv
    refine ⟨d, by rw [arcsL_len] at hd; exact hd, ?_⟩
    rw [List.getD_eq_getElem?_getD, List.getElem?_eq_getElem hd]
    simpa using h
  · rintro ⟨d, hd, h⟩
    rw [← arcsL_len n L] at hd
    refine ⟨(arcsL n L)[d], List.getElem_mem hd, ?_⟩
    rw [List.getD_eq_getElem?_getD, List.getElem?_eq_getElem hd] at h
    simpa using h
theorem badB_yes {n : Int} {L : List Int} {d : Nat} (hd : d < n.toNat) (h : 1 < (arcsL n L).getD d 0) : badB n L = true := badB_iff.2 ⟨d, hd, h⟩
theorem badB_not {n : Int} {L : List Int} (hP : CircP n L) (h : ∀ d, d < n.toNat → 0 < d → ¬ 1 < (arcsL n L).getD d 0) : badB n L = false := by
  rcases g : badB n L with _ | _
  · rfl
  · obtain ⟨d, hd, h1⟩ := badB_iff.1 g
    rcases Nat.eq_zero_or_pos d with rfl | h0
    · rw [hP.zero] at h1; omega
    · exact absurd h1 (h d hd h0)

theorem CircP.snoc {n : Int} {H : List Int} (h : CircP n H) {x : Int} (h1 : lastL H < x) (h2 : x < n) (h8 : H.length < 8) : CircP n (H ++ [x]) := by
  have hlen : (H ++ [x]).length = H.length + 1 := by rw [List.length_append, List.length_singleton]
  have hlo : ∀ j, j < H.length → (H ++ [x]).getD j 0 = H.getD j 0 := fun j hj => by
    rw [List.getD_eq_getElem?_getD, List.getElem?_append_left hj, List.getD_eq_getElem?_getD]
  have hhi : (H ++ [x]).getD H.length 0 = x := by
    rw [List.getD_eq_getElem?_getD, List.getElem?_append_right (Nat.le_refl _), Nat.sub_self]; rfl
  refine ⟨⟨h.1.1, by omega, by omega⟩, fun j hj => ?_⟩
  rcases Nat.lt_or_ge j H.length with g | g
  · have := h.2 j g
    unfold FineC at this ⊢
    rw [hlo j g]
    refine ⟨this.1, this.2.1, fun h0 => ?_⟩
    rw [hlo (j - 1) (by omega)]
    exact this.2.2 h0
  · obtain rfl : j = H.length := by omega
    have := h.2 (H.length - 1) (by have := h.1.2; omega)
    unfold lastL at h1
    unfold FineC at this ⊢
    rw [hhi]
    refine ⟨by have := h.1.1; omega, h2, fun h0 => ?_⟩
    rw [hlo _ (by omega)]
    exact h1

/-- The first list of k marks that begins with these and on which no arc occurs twice. -/
def df (n : Int) (k : Nat) : Nat → List Int → Option (List Int)
  | 0, H => if H.length = k then some H else none
  | f + 1, H => if H.length = k then some H else firstSome (fun j => if badB n (H ++ [lastL H + 1 + (j : Int)]) = true then none else df n k f (H ++ [lastL H + 1 + (j : Int)])) 0 (n - 1 - lastL H).toNat
theorem df_end {n : Int} {k f : Nat} {H : List Int} (h : H.length = k) : df n k f H = some H := by
  cases f <;> (unfold df; rw [if_pos h])
theorem df_more {n : Int} {k f : Nat} {H : List Int} (h : ¬ H.length = k) : df n k (f + 1) H = firstSome (fun j => if badB n (H ++ [lastL H + 1 + (j : Int)]) = true then none else df n k f (H ++ [lastL H + 1 + (j : Int)])) 0 (n - 1 - lastL H).toNat := by
  conv => lhs; unfold df
  rw [if_neg h]
theorem df_none {n : Int} {k : Nat} {H : List Int} (h : ¬ H.length = k) : df n k 0 H = none := by
  unfold df
  rw [if_neg h]

/-- The difference sets that the search finds. -/
def setL (k : Nat) : List Int := [[], [], [0, 1], [0, 1, 3], [0, 1, 3, 9], [0, 1, 4, 14, 16], [0, 1, 3, 8, 12, 18]].getD k []
def circN (k : Nat) : Int := (k : Int) * ((k : Int) - 1) + 1
theorem df_sets : ∀ k, k < 7 → 2 ≤ k → df (circN k) k 31 [0, 1] = some (setL k) := by decide +kernel
theorem sets_ok : ∀ k, k < 7 → 2 ≤ k → badB (circN k) [0, 1] = false ∧ circB (circN k) [0, 1] = true ∧ circN k = ((k * (k - 1) + 1 : Nat) : Int) ∧ k * (k - 1) + 1 ≤ 31 := by decide +kernel
theorem sets_dif : ∀ k, k < 7 → 2 ≤ k → (setL k).length = k ∧ circB (circN k) (setL k) = true ∧ difB (circN k) (setL k) = true := by decide +kernel
def findA (k : Int) : List Int := if 2 ≤ k ∧ k ≤ 6 then setL k.toNat else []
theorem findA_in {k : Nat} (h : 2 ≤ k ∧ k ≤ 6) : findA (k : Int) = setL k := by unfold findA; rw [if_pos (by omega), Int.toNat_natCast]
theorem findA_out {k : Int} (h : ¬ (2 ≤ k ∧ k ≤ 6)) : findA k = [] := if_neg h
theorem findA_len (k : Int) : (findA k).length ≤ 6 := by
  by_cases h : 2 ≤ k ∧ k ≤ 6
  · obtain ⟨m, rfl⟩ := Int.eq_ofNat_of_zero_le (a := k) (by omega)
    rw [findA_in (by omega), (sets_dif m (by omega) (by omega)).1]; omega
  · rw [findA_out h]; simp
theorem last_two : lastL [0, 1] = 1 := rfl
end Go.Proofs.Ytfokchmmeflhiaa
