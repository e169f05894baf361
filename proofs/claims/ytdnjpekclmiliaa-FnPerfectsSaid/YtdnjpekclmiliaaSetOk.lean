/-
  Valid sets of weights; the contract of the model's check. Nothing is written.
-/
import Derived.Test.YtdnjpekclmiliaaRange
namespace Go.Proofs.Ytdnjpekclmiliaa
open Go.ChangeShapes Go.WideShapes Go.ChangeAt Go.RowKit Go.PlainAid

/-- The weight at j is in the range and not less than the one before. -/
def FineAt (L : List Int) (j : Nat) : Prop := (1 ≤ L.getD j 0 ∧ L.getD j 0 ≤ 1000) ∧ (0 < j → L.getD (j - 1) 0 ≤ L.getD j 0)
def SetP (L : List Int) : Prop := (1 ≤ L.length ∧ L.length ≤ 8) ∧ ∀ j, j < L.length → FineAt L j
instance (L : List Int) (j : Nat) : Decidable (FineAt L j) := by unfold FineAt; infer_instance
instance (L : List Int) : Decidable (SetP L) := by unfold SetP; infer_instance
def setB (L : List Int) : Bool := decide (SetP L)
theorem setB_yes {L : List Int} (h0 : 1 ≤ L.length ∧ L.length ≤ 8) (h : ∀ j, j < L.length → FineAt L j) : setB L = true := decide_eq_true ⟨h0, h⟩
theorem setB_no {L : List Int} {j : Nat} (hj : j < L.length) (h : ¬ FineAt L j) : setB L = false := decide_eq_false fun g => h (g.2 j hj)
theorem setB_len {L : List Int} (h : ¬ (1 ≤ L.length ∧ L.length ≤ 8)) : setB L = false := decide_eq_false fun g => h g.1
theorem setB_P {L : List Int} (h : setB L = true) : SetP L := of_decide_eq_true h

theorem specSet_any (A : Option Addr) (c n : Nat) (L : List Int) (w : World) (hn : L.length = n) (hm : n ≤ 1000000000) (h : IntRow w A L) :
    Calls Try.prog 32 #[.slice A n c] w (Quiet (setB L) w) := by
  have hend : (∀ j, j < n → FineAt L j) → setB L = decide (1 ≤ (n : Int) ∧ (n : Int) ≤ 8) := fun g => by
    by_cases e : 1 ≤ L.length ∧ L.length ≤ 8
    · rw [setB_yes e (by rw [hn]; exact g), decide_eq_true (by omega)]
    · rw [setB_len e, decide_eq_false (by omega)]
  have hno : ∀ j, j < n → ¬ FineAt L j → setB L = false := fun j hj => setB_no (by omega)
  go_enter Try.func32, Try.ntmps32
  go_wp2
  go_loopw [3] (fun i wr => ∃ k q : Nat, k ≤ n ∧ i = .int .i64 k ∧ (∀ j, j < k → FineAt L j) ∧ wr = w.drewN q) (fun i _ => n - (intOf i).toNat)
  case atStart => exact ⟨0, 0, by omega, rfl, fun j hj => by omega, rfl⟩
  case round =>
    obtain ⟨k, q, hk, rfl, hf, rfl⟩ := hrel
    replace h := h.keep (below_drewN (Below.refl w.heap.size w) q)
    have hq : Hid (∀ nq, ∃ p, (w.drewN q).drewN nq = w.drewN p) := fun nq => ⟨q + nq, World.drewN_drewN ..⟩
    generalize w.drewN q = wr at h hq ⊢
    by_cases hlt : k < n
    · obtain ⟨x, rfl, -, hx⟩ := h k (by omega)
      have hI2 := fun W => (in_any (L.getD k 0) 1 1000 W).mono (R' := fun e w' => e = .returned (.bool (decide (1 ≤ L.getD k 0 ∧ L.getD k 0 ≤ 1000))) ∧ w' = W) fun _ _ h => ⟨h.1, h.2.symm⟩
      have hk1 : ∀ p : Nat, k = p + 1 → wr.cell? (x.add p) = some (.int .i64 (L.getD p 0)) := fun p e => by
        obtain ⟨y, hy, -, hc⟩ := h p (by omega)
        injection hy with hy
        subst hy
        exact hc
      clear h
      by_cases g1 : 1 ≤ L.getD k 0 ∧ L.getD k 0 ≤ 1000
      · rw [decide_eq_true g1] at hI2
        by_cases hz : k = 0
        · have hfin : ∀ j, j < k + 1 → FineAt L j := fun j hj => by
            obtain rfl : j = k := by omega
            exact ⟨g1, fun e => by omega⟩
          have h0 : decide (0 < k) = false := decide_eq_false (by omega)
          clear hk1 hno hend hz hf
          generalize L.getD k 0 = z at hx hI2 g1
          go_wp2
          go_quiet (first | (go_at_call 34; refine Calls.quiet_of_same (hI2 _)))
          go_wp2
          go_roundw
          case rel => obtain ⟨p, hp⟩ := hq.out nq
                      exact ⟨k + 1, p, by omega, by go_num, hfin, hp⟩
          case measure => simp [intOf]; omega
        · obtain ⟨p, hp⟩ : ∃ p, k = p + 1 := ⟨k - 1, by omega⟩
          have hx2 := hk1 p hp
          have h0 : decide (0 < k) = true := decide_eq_true (by omega)
          have hpi : (k : Int) - 1 = (p : Int) := by omega
          have hpn : (p : Int) < n := by omega
          have hkp : k - 1 = p := by omega
          clear hk1
          by_cases g2 : L.getD p 0 ≤ L.getD k 0
          · have hfin : ∀ j, j < k + 1 → FineAt L j := fun j hj => by
              rcases Nat.lt_or_ge j k with h1 | h1
              · exact hf j h1
              · obtain rfl : j = k := by omega
                exact ⟨g1, fun _ => by rw [hkp]; exact g2⟩
            have g3 : ¬ L.getD k 0 < L.getD p 0 := by omega
            generalize L.getD k 0 = z at hx hI2 g1 g2 g3
            generalize L.getD p 0 = y at hx2 g2 g3
            clear hno hend hz hp hf hkp g2
            go_wp2
            go_quiet (first | (go_at_call 34; refine Calls.quiet_of_same (hI2 _)))
            go_wp2
            go_roundw
            case rel => obtain ⟨p, hp⟩ := hq.out nq
                        exact ⟨k + 1, p, by omega, by go_num, hfin, hp⟩
            case measure => simp [intOf]; omega
          · have he := hno k hlt fun g => g2 (by have := g.2 (by omega); rw [hkp] at this; exact this)
            rw [he]
            have g3 : L.getD k 0 < L.getD p 0 := by omega
            generalize L.getD k 0 = z at hx hI2 g1 g2 g3
            generalize L.getD p 0 = y at hx2 g2 g3
            clear hno hend hf he hz hp hkp g2
            go_wp2
            go_quiet (first | (go_at_call 34; refine Calls.quiet_of_same (hI2 _)))
            go_wp2
            go_ret
            exact ⟨rfl, hq.out nq⟩
      · have he := hno k hlt fun g => g1 g.1
        rw [he]
        rw [decide_eq_false g1] at hI2
        generalize L.getD k 0 = z at hx hI2
        clear hno hend hf he hk1 g1
        go_wp2
        go_quiet (first | (go_at_call 34; refine Calls.quiet_of_same (hI2 _)))
        go_wp2
        go_ret
        exact ⟨rfl, hq.out nq⟩
    · obtain rfl : k = n := by omega
      have hI := in_any k 1 8 wr
      rw [← hend hf] at hI
      clear hend hno hf h
      go_wp2_with fail
      refine hI.mono ?_
      rintro e w1 ⟨rfl, rfl⟩
      go_wp2_with fail
      go_ret
      exact ⟨rfl, hq.out 0⟩
end Go.Proofs.Ytdnjpekclmiliaa
