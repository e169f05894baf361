/-
  How often each arc occurs, counted over all pairs of marks: it does not hang on the marks' order; turning moves no arc, stretching moves the arcs one to one. Ints and lists only, no program's walk.
-/
import Derived.Test.YtfokchmmeflhiaaCircFind
import Derived.Test.YtfokchmmeflhiaaCircMove
namespace Go.Proofs.Ytfokchmmeflhiaa

/-- The pair has this arc. -/
def hit (n a b d : Int) : Nat := if a ≠ b ∧ (b - a + n) % n = d then 1 else 0
def hitsRow (n a : Int) (L : List Int) (d : Int) : Nat := (L.map fun b => hit n a b d).sum
def hits (n : Int) (L : List Int) (d : Int) : Nat := (L.map fun a => hitsRow n a L d).sum
theorem hits_perm {n : Int} {L M : List Int} (h : L.Perm M) (d : Int) : hits n L d = hits n M d := by
  unfold hits
  have e : (fun a => hitsRow n a L d) = fun a => hitsRow n a M d := by
    funext a
    exact (h.map _).sum_nat
  rw [e]
  exact (h.map _).sum_nat
/-- A map that takes arcs d to g d. -/
theorem hits_map {n : Int} {L : List Int} {f : Int → Int} {d e : Int} (h : ∀ a ∈ L, ∀ b ∈ L, hit n (f a) (f b) e = hit n a b d) : hits n (L.map f) e = hits n L d := by
  unfold hits
  rw [List.map_map]
  congr 1
  refine List.map_congr_left fun a ha => ?_
  show hitsRow n (f a) (L.map f) e = hitsRow n a L d
  unfold hitsRow
  rw [List.map_map]
  congr 1
  exact List.map_congr_left fun b hb => h a ha b hb

/-- The pair (i, k) of places has this arc. -/
def hitAt (n : Int) (L : List Int) (i k d : Nat) : Nat := if i ≠ k ∧ arcD n L i k = d then 1 else 0
theorem CircP.hitAt {n : Int} {L : List Int} (h : CircP n L) {i k : Nat} (hi : i < L.length) (hk : k < L.length) (d : Nat) : hitAt n L i k d = hit n (L.getD i 0) (L.getD k 0) (d : Int) := by
  unfold Go.Proofs.Ytfokchmmeflhiaa.hitAt hit
  have e1 : (i ≠ k) ↔ (L.getD i 0 ≠ L.getD k 0) := not_congr (h.ne hi hk).symm
  have e2 : (arcD n L i k = d) ↔ ((L.getD k 0 - L.getD i 0 + n) % n = (d : Int)) := by
    have := (h.arc hi hk)
    have h2 := Int.tmod_eq_emod_of_nonneg (b := n) this.1
    rw [this.2.1] at h2
    rw [← h2]
    omega
  by_cases g : i ≠ k ∧ arcD n L i k = d
  · rw [if_pos g, if_pos ⟨e1.1 g.1, e2.1 g.2⟩]
  · rw [if_neg g, if_neg fun g' => g ⟨e1.2 g'.1, e2.2 g'.2⟩]
theorem arcStep_get {n : Int} {L : List Int} {i k : Nat} {C : List Int} (hD : arcD n L i k < C.length) (d : Nat) : (arcStep n L i k C).getD d 0 = C.getD d 0 + (hitAt n L i k d : Nat) := by
  unfold arcStep hitAt
  by_cases h : i = k
  · rw [if_pos h, if_neg (fun g => g.1 h)]; simp
  · rw [if_neg h, getD_set hD]
    by_cases e : d = arcD n L i k
    · rw [if_pos e, if_pos ⟨h, e.symm⟩, e]; rfl
    · rw [if_neg e, if_neg (fun g => e g.2.symm)]; simp
theorem sum_take {f : Int → Nat} {L : List Int} {k : Nat} (h : k < L.length) : ((L.take (k + 1)).map f).sum = ((L.take k).map f).sum + f (L.getD k 0) := by
  rw [List.take_succ_eq_append_getElem h, List.map_append, List.sum_append, List.getD_eq_getElem?_getD, List.getElem?_eq_getElem h]
  simp
theorem CircP.row_get {n : Int} {L : List Int} (h : CircP n L) {i : Nat} (hi : i < L.length) {C : List Int} (hC : C.length = n.toNat) (d : Nat) :
    ∀ k, k ≤ L.length → (arcRow n L i C k).getD d 0 = C.getD d 0 + (((L.take k).map fun b => hit n (L.getD i 0) b d).sum : Nat)
  | 0, _ => by simp [arcRow]
  | k + 1, hk => by
    have ih := h.row_get hi hC d k (by omega)
    have ha := (h.arc hi (show k < L.length by omega)).2.2
    show (arcStep n L i k _).getD d 0 = _
    rw [arcStep_get (by rw [arcRow_len, hC]; omega), ih, h.hitAt hi (by omega), sum_take (by omega)]
    omega
theorem CircP.to_get {n : Int} {L : List Int} (h : CircP n L) (d : Nat) : ∀ i, i ≤ L.length → (arcTo n L i).getD d 0 = (((L.take i).map fun a => hitsRow n a L d).sum : Nat)
  | 0, _ => by
    show (List.replicate n.toNat (0 : Int)).getD d 0 = _
    rw [List.getD_eq_getElem?_getD, List.getElem?_replicate]
    split <;> simp
  | i + 1, hi => by
    have ih := h.to_get d i (by omega)
    show (arcRow n L i (arcTo n L i) L.length).getD d 0 = _
    rw [h.row_get (by omega) (arcTo_len n L i) d L.length (Nat.le_refl _), ih, List.take_length, sum_take (by omega)]
    rw [Int.natCast_add]
    rfl
theorem CircP.get {n : Int} {L : List Int} (h : CircP n L) (d : Nat) : (arcsL n L).getD d 0 = (hits n L d : Nat) := by
  have := h.to_get d L.length (Nat.le_refl _)
  rw [List.take_length] at this
  exact this
/-- Two lists of counts are the same if each count is. -/
theorem arcs_same {n : Int} {L M : List Int} (hL : CircP n L) (hM : CircP n M) (h : ∀ d : Nat, hits n L d = hits n M d) : arcsL n L = arcsL n M := by
  refine List.ext_getElem (by rw [arcsL_len, arcsL_len]) fun d h1 h2 => ?_
  have e1 := hL.get d
  have e2 := hM.get d
  rw [List.getD_eq_getElem?_getD, List.getElem?_eq_getElem h1] at e1
  rw [List.getD_eq_getElem?_getD, List.getElem?_eq_getElem h2] at e2
  rw [h d] at e1
  exact e1.trans e2.symm

/-! ### The sum of the counts -/
def sumI (L : List Int) : Int := L.foldr (fun x y => x + y) 0
theorem sumI_set : ∀ {C : List Int} {d : Nat}, d < C.length → sumI (C.set d (C.getD d 0 + 1)) = sumI C + 1
  | x :: C, 0, _ => by show (x + 1) + sumI C = (x + sumI C) + 1; omega
  | x :: C, d + 1, h => by
    have ih := sumI_set (C := C) (d := d) (by simpa using h)
    show x + sumI (C.set d (C.getD d 0 + 1)) = (x + sumI C) + 1
    rw [ih]; omega
theorem sumI_app : ∀ (A B : List Int), sumI (A ++ B) = sumI A + sumI B
  | [], B => by show sumI B = 0 + sumI B; omega
  | x :: A, B => by
    show x + sumI (A ++ B) = (x + sumI A) + sumI B
    rw [sumI_app A B]; omega
theorem sumI_take {C : List Int} {k : Nat} (h : k < C.length) : sumI (C.take (k + 1)) = sumI (C.take k) + C.getD k 0 := by
  rw [List.take_succ_eq_append_getElem h, sumI_app, List.getD_eq_getElem?_getD, List.getElem?_eq_getElem h]
  show _ + (C[k] + 0) = _ + C[k]
  omega
theorem CircP.row_sum {n : Int} {L : List Int} (h : CircP n L) {i : Nat} (hi : i < L.length) {C : List Int} (hC : C.length = n.toNat) :
    ∀ k, k ≤ L.length → sumI (arcRow n L i C k) = sumI C + k - (if i < k then 1 else 0)
  | 0, _ => by simp [arcRow]
  | k + 1, hk => by
    have ih := h.row_sum hi hC k (by omega)
    have ha := (h.arc hi (show k < L.length by omega)).2.2
    show sumI (arcStep n L i k _) = _
    unfold arcStep
    by_cases e : i = k
    · rw [if_pos e, ih, if_neg (by omega), if_pos (by omega)]; omega
    · rw [if_neg e, sumI_set (by rw [arcRow_len, hC]; omega), ih]
      by_cases g : i < k
      · rw [if_pos g, if_pos (by omega)]; omega
      · rw [if_neg g, if_neg (by omega)]; omega
theorem sumI_zeros : ∀ m : Nat, sumI (List.replicate m 0) = 0
  | 0 => rfl
  | m + 1 => by
    rw [List.replicate_succ]
    show 0 + sumI (List.replicate m 0) = 0
    rw [sumI_zeros m]; rfl
theorem CircP.to_sum {n : Int} {L : List Int} (h : CircP n L) : ∀ i : Nat, i ≤ L.length → sumI (arcTo n L i) = (i : Int) * ((L.length : Int) - 1)
  | 0, _ => by
    show sumI (List.replicate n.toNat 0) = _
    rw [sumI_zeros]; simp
  | i + 1, hi => by
    have ih := h.to_sum i (by omega)
    show sumI (arcRow n L i (arcTo n L i) L.length) = _
    rw [h.row_sum (by omega) (arcTo_len n L i) L.length (Nat.le_refl _), ih, if_pos (by omega), Int.natCast_add, Int.add_mul]
    simp
    omega
theorem CircP.sum {n : Int} {L : List Int} (h : CircP n L) : sumI (arcsL n L) = (L.length : Int) * ((L.length : Int) - 1) := h.to_sum L.length (Nat.le_refl _)
/-- A difference set of k marks has the length k (k - 1) + 1. -/
theorem ones_sum {C : List Int} (h0 : C.getD 0 0 = 0) (h : ∀ d, d < C.length → 0 < d → C.getD d 0 = 1) : ∀ m : Nat, m + 1 ≤ C.length → sumI (C.take (m + 1)) = m
  | 0, hm => by rw [sumI_take (by omega), h0]; simp [sumI]
  | m + 1, hm => by
    rw [sumI_take (by omega), ones_sum h0 h m (by omega), h (m + 1) (by omega) (by omega)]
    omega
theorem dif_len {n : Int} {L : List Int} (h : difB n L = true) : (L.length : Int) * ((L.length : Int) - 1) = n - 1 := by
  obtain ⟨hc, h1, hd⟩ := difB_P h
  have hP := circB_P hc
  rw [← hP.sum]
  have e := ones_sum hP.zero (by rw [arcsL_len]; exact hd) (n.toNat - 1) (by rw [arcsL_len]; omega)
  rw [show n.toNat - 1 + 1 = (arcsL n L).length by rw [arcsL_len]; omega, List.take_length] at e
  rw [e]; omega
end Go.Proofs.Ytfokchmmeflhiaa
