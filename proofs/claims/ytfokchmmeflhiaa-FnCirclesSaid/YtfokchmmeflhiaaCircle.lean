/-
  Marks on a circle: what makes them valid; how often each arc occurs, counted pair by pair; sets that measure every arc once. Ints and lists only, no program's walk.
-/
import Derived.Test.YtfokchmmeflhiaaAsc
namespace Go.Proofs.Ytfokchmmeflhiaa

/-- The mark at j is fine. -/
def FineC (n : Int) (L : List Int) (j : Nat) : Prop := (0 ≤ L.getD j 0 ∧ L.getD j 0 ≤ 59) ∧ L.getD j 0 < n ∧ (0 < j → L.getD (j - 1) 0 < L.getD j 0)
def CircP (n : Int) (L : List Int) : Prop := ((1 ≤ n ∧ n ≤ 60) ∧ (1 ≤ L.length ∧ L.length ≤ 8)) ∧ ∀ j, j < L.length → FineC n L j
instance (n : Int) (L : List Int) (j : Nat) : Decidable (FineC n L j) := by unfold FineC; infer_instance
instance (n : Int) (L : List Int) : Decidable (CircP n L) := by unfold CircP; infer_instance
def circB (n : Int) (L : List Int) : Bool := decide (CircP n L)
theorem circB_P {n : Int} {L : List Int} (h : circB n L = true) : CircP n L := of_decide_eq_true h
theorem circB_yes {n : Int} {L : List Int} (h0 : (1 ≤ n ∧ n ≤ 60) ∧ (1 ≤ L.length ∧ L.length ≤ 8)) (h : ∀ j, j < L.length → FineC n L j) : circB n L = true := decide_eq_true ⟨h0, h⟩
theorem circB_no {n : Int} {L : List Int} {j : Nat} (hj : j < L.length) (h : ¬ FineC n L j) : circB n L = false := decide_eq_false fun g => h (g.2 j hj)
theorem circB_out {n : Int} {L : List Int} (h : ¬ ((1 ≤ n ∧ n ≤ 60) ∧ (1 ≤ L.length ∧ L.length ≤ 8))) : circB n L = false := decide_eq_false fun g => h g.1
theorem asc_up {L : List Int} (h : ∀ j, 0 < j → j < L.length → L.getD (j - 1) 0 < L.getD j 0) : ∀ d i, i + d < L.length → L.getD i 0 + d ≤ L.getD (i + d) 0
  | 0, i, _ => by simp
  | d + 1, i, hd => by
    have h1 := asc_up h d i (by omega)
    have h2 := h (i + (d + 1)) (by omega) hd
    rw [show i + (d + 1) - 1 = i + d by omega] at h2
    omega
theorem circP_ends {n : Int} {L : List Int} (h0 : (1 ≤ n ∧ n ≤ 60) ∧ (1 ≤ L.length ∧ L.length ≤ 8)) (ha : ∀ j, 0 < j → j < L.length → L.getD (j - 1) 0 < L.getD j 0) (h1 : 0 ≤ L.getD 0 0) (hl : L.getD (L.length - 1) 0 < n) : CircP n L := by
  refine ⟨h0, fun j hj => ?_⟩
  have a := asc_up ha j 0 (by omega)
  have b := asc_up ha (L.length - 1 - j) j (by omega)
  have e : j + (L.length - 1 - j) = L.length - 1 := by omega
  rw [e] at b
  rw [Nat.zero_add] at a
  exact ⟨by omega, by omega, fun g => ha j g hj⟩
theorem circB_asc {n : Int} {L : List Int} (h0 : (1 ≤ n ∧ n ≤ 60) ∧ (1 ≤ L.length ∧ L.length ≤ 8)) : circB n L = (ascB L && (decide (0 ≤ L.getD 0 0) && decide (L.getD (L.length - 1) 0 < n))) := by
  rw [Bool.eq_iff_iff, Bool.and_eq_true, Bool.and_eq_true, decide_eq_true_iff, decide_eq_true_iff]
  constructor
  · intro h
    have hP := circB_P h
    exact ⟨decide_eq_true fun j hj g => (hP.2 j hj).2.2 g, (hP.2 0 (by omega)).1.1, (hP.2 (L.length - 1) (by omega)).2.1⟩
  · intro ⟨h, h1, hl⟩
    exact decide_eq_true (circP_ends h0 (fun j g hj => (of_decide_eq_true h : AscP L) j hj g) h1 hl)
theorem CircP.asc {n : Int} {L : List Int} (h : CircP n L) {i k : Nat} (hik : i < k) (hk : k < L.length) : L.getD i 0 < L.getD k 0 := by
  have := asc_up (fun j g hj => (h.2 j hj).2.2 g) (k - i) i (by omega)
  rw [show i + (k - i) = k by omega] at this
  omega
theorem CircP.ne {n : Int} {L : List Int} (h : CircP n L) {i k : Nat} (hi : i < L.length) (hk : k < L.length) : (L.getD i 0 = L.getD k 0) ↔ i = k := by
  constructor
  · intro e
    rcases Nat.lt_trichotomy i k with g | g | g
    · have := h.asc g hk; omega
    · exact g
    · have := h.asc g hi; omega
  · rintro rfl; rfl

/-! ### The arcs -/
/-- The arc from the mark at i to the mark at k. -/
def arcD (n : Int) (L : List Int) (i k : Nat) : Nat := ((L.getD k 0 - L.getD i 0 + n) % n).toNat
theorem CircP.arc {n : Int} {L : List Int} (h : CircP n L) {i k : Nat} (hi : i < L.length) (hk : k < L.length) :
    0 ≤ L.getD k 0 - L.getD i 0 + n ∧ (L.getD k 0 - L.getD i 0 + n).tmod n = (arcD n L i k : Int) ∧ (arcD n L i k : Int) < n := by
  have h1 := h.2 i hi
  have h2 := h.2 k hk
  unfold FineC at h1 h2
  have h0 : 0 ≤ L.getD k 0 - L.getD i 0 + n := by omega
  have hn := h.1.1.1
  have g0 := Int.emod_nonneg (L.getD k 0 - L.getD i 0 + n) (b := n) (by omega)
  have g1 := Int.emod_lt_of_pos (L.getD k 0 - L.getD i 0 + n) (b := n) (by omega)
  refine ⟨h0, ?_, ?_⟩
  · rw [Int.tmod_eq_emod_of_nonneg h0]
    unfold arcD
    omega
  · unfold arcD
    omega
def arcStep (n : Int) (L : List Int) (i k : Nat) (C : List Int) : List Int := if i = k then C else C.set (arcD n L i k) (C.getD (arcD n L i k) 0 + 1)
def arcRow (n : Int) (L : List Int) (i : Nat) (C : List Int) : Nat → List Int
  | 0 => C
  | k + 1 => arcStep n L i k (arcRow n L i C k)
def arcTo (n : Int) (L : List Int) : Nat → List Int
  | 0 => List.replicate n.toNat 0
  | i + 1 => arcRow n L i (arcTo n L i) L.length
def arcsL (n : Int) (L : List Int) : List Int := arcTo n L L.length
def arcsA (n : Int) (L : List Int) : List Int := if circB n L = true then arcsL n L else []
theorem arcsA_yes {n : Int} {L : List Int} (h : circB n L = true) : arcsA n L = arcsL n L := if_pos h
theorem arcsA_no {n : Int} {L : List Int} (h : circB n L = false) : arcsA n L = [] := by unfold arcsA; rw [h]; rfl
theorem arcStep_len (n : Int) (L : List Int) (i k : Nat) (C : List Int) : (arcStep n L i k C).length = C.length := by
  unfold arcStep
  split
  · rfl
  · rw [List.length_set]
theorem arcRow_len (n : Int) (L : List Int) (i : Nat) (C : List Int) : ∀ k, (arcRow n L i C k).length = C.length
  | 0 => rfl
  | k + 1 => (arcStep_len n L i k _).trans (arcRow_len n L i C k)
theorem arcTo_len (n : Int) (L : List Int) : ∀ i, (arcTo n L i).length = n.toNat
  | 0 => List.length_replicate
  | i + 1 => (arcRow_len n L i _ _).trans (arcTo_len n L i)
theorem arcsL_len (n : Int) (L : List Int) : (arcsL n L).length = n.toNat := arcTo_len n L _
theorem arcsA_len (n : Int) (L : List Int) : (arcsA n L).length ≤ 60 := by
  rcases h : circB n L with _ | _
  · rw [arcsA_no h]; simp
  · rw [arcsA_yes h, arcsL_len]
    have := (circB_P h).1.1
    omega
/-- Small counts. -/
def Upto (C : List Int) (b : Int) : Prop := ∀ d, 0 ≤ C.getD d 0 ∧ C.getD d 0 ≤ b
theorem getD_set {C : List Int} {x : Int} {d e : Nat} (hd : d < C.length) : (C.set d x).getD e 0 = if e = d then x else C.getD e 0 := by
  rw [List.getD_eq_getElem?_getD, List.getElem?_set]
  by_cases h : e = d
  · subst h
    rw [if_pos rfl, if_pos hd, if_pos rfl]; rfl
  · rw [if_neg (fun g => h g.symm), if_neg h, List.getD_eq_getElem?_getD]
theorem Upto.more {C : List Int} {b c : Int} (h : Upto C b) (hc : b ≤ c) : Upto C c := fun d => ⟨(h d).1, Int.le_trans (h d).2 hc⟩
theorem Upto.step {C : List Int} {b : Int} (h : Upto C b) (n : Int) (L : List Int) (i k : Nat) : Upto (arcStep n L i k C) (b + 1) := by
  unfold arcStep
  split
  · exact h.more (by omega)
  · intro d
    rcases Nat.lt_or_ge (arcD n L i k) C.length with g | g
    · rw [getD_set g]
      have h1 := h (arcD n L i k)
      have h2 := h d
      split <;> omega
    · rw [List.set_eq_of_length_le g]
      have h2 := h d
      omega
theorem Upto.row {C : List Int} {b : Int} (h : Upto C b) (n : Int) (L : List Int) (i : Nat) : ∀ k, Upto (arcRow n L i C k) (b + k)
  | 0 => h.more (by simp)
  | k + 1 => ((h.row n L i k).step n L i k).more (by omega)
theorem upto_to (n : Int) (L : List Int) (hl : L.length ≤ 8) : ∀ i, Upto (arcTo n L i) (8 * i)
  | 0 => fun d => by
    show 0 ≤ (List.replicate n.toNat 0).getD d 0 ∧ (List.replicate n.toNat 0).getD d 0 ≤ _
    have e : (List.replicate n.toNat (0 : Int)).getD d 0 = 0 := by
      rw [List.getD_eq_getElem?_getD, List.getElem?_replicate]
      split <;> rfl
    rw [e]; omega
  | i + 1 => ((upto_to n L hl i).row n L i L.length).more (by omega)
/-- Every arc is measured once. -/
def difB (n : Int) (L : List Int) : Bool := circB n L && decide (1 < n ∧ ∀ d, d < n.toNat → 0 < d → (arcsL n L).getD d 0 = 1)
theorem difB_no {n : Int} {L : List Int} (h : circB n L = false) : difB n L = false := by unfold difB; rw [h]; rfl
theorem difB_one {n : Int} {L : List Int} (h : ¬ 1 < n) : difB n L = false := by unfold difB; rw [decide_eq_false (fun g => h g.1), Bool.and_false]
theorem difB_at {n : Int} {L : List Int} {d : Nat} (hd : d < n.toNat) (h0 : 0 < d) (h : (arcsL n L).getD d 0 ≠ 1) : difB n L = false := by unfold difB; rw [decide_eq_false (fun g => h (g.2 d hd h0)), Bool.and_false]
theorem difB_yes {n : Int} {L : List Int} (hc : circB n L = true) (h1 : 1 < n) (h : ∀ d, d < n.toNat → 0 < d → (arcsL n L).getD d 0 = 1) : difB n L = true := by unfold difB; rw [hc, decide_eq_true ⟨h1, h⟩]; rfl
theorem difB_P {n : Int} {L : List Int} (h : difB n L = true) : circB n L = true ∧ 1 < n ∧ ∀ d, d < n.toNat → 0 < d → (arcsL n L).getD d 0 = 1 := by
  unfold difB at h
  rw [Bool.and_eq_true] at h
  exact ⟨h.1, of_decide_eq_true h.2⟩
end Go.Proofs.Ytfokchmmeflhiaa
