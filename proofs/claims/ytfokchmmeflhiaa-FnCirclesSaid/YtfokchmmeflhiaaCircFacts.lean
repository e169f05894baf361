/-
  What the law on circles needs of one circle. Ints and lists only, no program's walk.
-/
import Derived.Test.YtfokchmmeflhiaaCircInv
namespace Go.Proofs.Ytfokchmmeflhiaa

theorem sumI_bound {C : List Int} {b : Int} (h : Upto C b) : ∀ k : Nat, k ≤ C.length → 0 ≤ sumI (C.take k) ∧ sumI (C.take k) ≤ b * k
  | 0, _ => by simp [sumI]
  | k + 1, hk => by
    have ih := sumI_bound h k (by omega)
    have h1 := h k
    rw [sumI_take (by omega), Int.natCast_add, Int.mul_add]
    have : b * ((1 : Nat) : Int) = b := by simp
    omega
theorem circle_facts {N : Nat} {L : List Int} (hP : CircP N L) (hN : N ≤ 31) {r s : Int} (hr : 0 ≤ r ∧ r < N) :
    ∃ (C T S : List Int) (d : Bool) (t p : Nat), arcsA N L = C ∧ C.length = N ∧ (∀ k, k ≤ N → 0 ≤ sumI (C.take k) ∧ sumI (C.take k) ≤ 3000) ∧ (∀ k, 0 ≤ C.getD k 0 ∧ C.getD k 0 ≤ 64) ∧ sumI C = (t : Int) ∧
      (L.length : Int) - 1 = (p : Int) ∧ (L.length : Int) * (p : Int) = (t : Int) ∧ t ≤ 64 ∧ difB N L = d ∧ turnA N L r = T ∧ T.length ≤ 8 ∧ difB N T = d ∧ arcsA N T = C ∧ strA N L s = S ∧ S.length ≤ 8 ∧
      (S = [] ∨ (0 < S.length ∧ difB N S = d)) ∧ (d = true → (t : Int) = (N : Int) - 1) := by
  have hc : circB N L = true := decide_eq_true hP
  have hl := hP.1.2
  obtain ⟨p, hp⟩ : ∃ p, L.length = p + 1 := ⟨L.length - 1, by omega⟩
  have hpi : (L.length : Int) - 1 = (p : Int) := by omega
  have hti : (L.length : Int) * (p : Int) = ((L.length * p : Nat) : Int) := by rw [Int.natCast_mul]
  have ht : L.length * p ≤ 8 * 8 := Nat.mul_le_mul hl.2 (by omega)
  have hup : Upto (arcsL N L) 64 := (upto_to N L hl.2 L.length).more (by omega)
  have hT := turn_circ (b := r) hP
  have hcT : circB N (sortL (movL N 1 r L)) = true := decide_eq_true hT
  have hlen : (arcsL (N : Int) L).length = N := by rw [arcsL_len]; omega
  refine ⟨arcsL N L, turnA N L r, strA N L s, difB N L, L.length * p, p, arcsA_yes hc, hlen, fun k hk => ?_, hup, ?_, hpi, hti, by omega, rfl, rfl, turnA_len _ _ _, ?_, ?_, rfl, strA_len _ _ _, ?_, ?_⟩
  · have := sumI_bound hup k (by omega)
    omega
  · rw [hP.sum, hpi, hti]
  · rw [turnA_yes hc hr, turn_dif hP]
  · rw [turnA_yes hc hr, arcsA_yes hcT, turn_arcs hP]
  · by_cases h1 : 1 ≤ s ∧ s < N
    · by_cases h2 : Int.gcd s N = 1
      · refine .inr ?_
        rw [strA_yes hc h1 h2]
        exact ⟨by rw [sortL_length, movL_len]; omega, str_dif hP (by omega) h1 h2⟩
      · exact .inl (strA_gcd h2)
    · exact .inl (strA_out h1)
  · intro h
    have := dif_len h
    rw [hpi, hti] at this
    exact this
theorem find_facts {m : Nat} (h : 2 ≤ m ∧ m ≤ 6) : ∃ (F : List Int) (t p M : Nat), findA (m : Int) = F ∧ F.length = m ∧ (m : Int) - 1 = (p : Int) ∧ (m : Int) * (p : Int) = (t : Int) ∧ (t : Int) + 1 = (M : Int) ∧ M ≤ 31 ∧ difB M F = true := by
  obtain ⟨-, -, s3, s4⟩ := sets_ok m (by omega) (by omega)
  obtain ⟨d1, -, d3⟩ := sets_dif m (by omega) (by omega)
  rw [s3] at d3
  refine ⟨setL m, m * (m - 1), m - 1, m * (m - 1) + 1, findA_in h, d1, by omega, by rw [Int.natCast_mul], by omega, s4, d3⟩
end Go.Proofs.Ytfokchmmeflhiaa
