/-
  Valid sets: in ascending order, the first at least 1, the last at most 1000. No program's walk.
-/
import Derived.Test.YtdnjpekclmiliaaSetOk
namespace Go.Proofs.Ytdnjpekclmiliaa

def InOrder (L : List Int) : Prop := ∀ i, i + 1 < L.length → L.getD i 0 ≤ L.getD (i + 1) 0
theorem inOrder_le {L : List Int} (h : InOrder L) : ∀ d i, i + d < L.length → L.getD i 0 ≤ L.getD (i + d) 0
  | 0, i, _ => Int.le_refl _
  | d + 1, i, hd => by
    have h1 := inOrder_le h d i (by omega)
    have h2 := h (i + d) (by omega)
    have e : i + (d + 1) = i + d + 1 := rfl
    rw [e]
    omega
theorem setB_asc {L : List Int} (hl : 1 ≤ L.length ∧ L.length ≤ 8) (h : InOrder L) : setB L = decide (1 ≤ L.getD 0 0 ∧ L.getD (L.length - 1) 0 ≤ 1000) := by
  by_cases g : 1 ≤ L.getD 0 0 ∧ L.getD (L.length - 1) 0 ≤ 1000
  · rw [decide_eq_true g]
    refine setB_yes hl fun j hj => ⟨⟨?_, ?_⟩, fun h0 => ?_⟩
    · have := inOrder_le h j 0 (by omega)
      rw [Nat.zero_add] at this
      omega
    · have := inOrder_le h (L.length - 1 - j) j (by omega)
      rw [show j + (L.length - 1 - j) = L.length - 1 by omega] at this
      omega
    · have := h (j - 1) (by omega)
      rw [show j - 1 + 1 = j by omega] at this
      exact this
  · rw [decide_eq_false g]
    by_cases g0 : 1 ≤ L.getD 0 0
    · exact setB_no (j := L.length - 1) (by omega) fun k => g ⟨g0, k.1.2⟩
    · exact setB_no (j := 0) (by omega) fun k => g0 k.1.1
theorem setB_desc {L : List Int} (h : ¬ InOrder L) : setB L = false := by
  unfold setB
  refine decide_eq_false fun g => h fun i hi => ?_
  have := (g.2 (i + 1) hi).2 (by omega)
  simpa using this
end Go.Proofs.Ytdnjpekclmiliaa
