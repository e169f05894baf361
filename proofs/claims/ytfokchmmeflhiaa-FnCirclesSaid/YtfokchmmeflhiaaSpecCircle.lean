/-
  The contract of the model's check of a circle. Nothing is written.
-/
import Derived.Test.YtfokchmmeflhiaaCircle
import Derived.Test.YtfokchmmeflhiaaRange
import Derived.BigQuiet
import Derived.Lib.Hide
namespace Go.Proofs.Ytfokchmmeflhiaa
open Go.ChangeShapes Go.WideShapes Go.ChangeAt Go.RowKit Go.PlainAid

set_option maxHeartbeats 800000 in
theorem specCircle_any (N : Int) (A : Option Addr) (c n : Nat) (L : List Int) (w : World) (hn : L.length = n) (hm : n ≤ 1000000000) (h : IntRow w A L) :
    Calls Try.prog 19 #[.int .i64 N, .slice A n c] w (Quiet (circB N L) w) := by
  have hno : ∀ j, j < n → ¬ FineC N L j → circB N L = false := fun j hj => circB_no (by omega)
  go_enter Try.func19, Try.ntmps19
  go_wp2
  go_loopw [5] (fun i wr => ∃ k q : Nat, k ≤ n ∧ i = .int .i64 k ∧ (∀ j, j < k → FineC N L j) ∧ wr = w.drewN q) (fun i _ => n - (intOf i).toNat)
  case atStart => exact ⟨0, 0, by omega, rfl, fun j hj => by omega, rfl⟩
  case round =>
    obtain ⟨k, q, hk, rfl, hf, rfl⟩ := hrel
    replace h := h.keep (below_drewN (Below.refl w.heap.size w) q)
    have hq : Hid (∀ nq, ∃ p, (w.drewN q).drewN nq = w.drewN p) := fun nq => ⟨q + nq, World.drewN_drewN ..⟩
    generalize w.drewN q = wr at h hq ⊢
    by_cases hlt : k < n
    · obtain ⟨x, rfl, -, hx⟩ := h k (by omega)
      have hI2 := fun W => (in_any (L.getD k 0) 0 59 W).mono (R' := fun e w' => e = .returned (.bool (decide (0 ≤ L.getD k 0 ∧ L.getD k 0 ≤ 59))) ∧ w' = W) fun _ _ h => ⟨h.1, h.2.symm⟩
      have hk1 : ∀ p : Nat, k = p + 1 → wr.cell? (x.add p) = some (.int .i64 (L.getD p 0)) := fun p e => by
        obtain ⟨y, hy, -, hc⟩ := h p (by omega)
        injection hy with hy
        subst hy
        exact hc
      clear h
      by_cases g1 : 0 ≤ L.getD k 0 ∧ L.getD k 0 ≤ 59
      · rw [decide_eq_true g1] at hI2
        by_cases g2 : L.getD k 0 < N
        · have g2' : decide (N ≤ L.getD k 0) = false := decide_eq_false (by omega)
          by_cases hz : k = 0
          · have hfin : ∀ j, j < k + 1 → FineC N L j := fun j hj => by
              obtain rfl : j = k := by omega
              exact ⟨g1, g2, fun e => by omega⟩
            have h0 : decide (0 < k) = false := decide_eq_false (by omega)
            clear hk1 hno hz hf g2
            generalize L.getD k 0 = z at hx hI2 g1 g2'
            go_wp2
            go_quiet (first | (go_at_call 35; refine Calls.quiet_of_same (hI2 _)))
            go_wp2
            go_roundw
            case rel => obtain ⟨p, hp⟩ := hq.out nq
                        exact ⟨k + 1, p, by omega, by go_num, hfin, hp⟩
            case measure => simp [intOf]; omega
          · obtain ⟨p, hp⟩ : ∃ p, k = p + 1 := ⟨k - 1, by omega⟩
            have hx2 := hk1 p hp
            have h0 : decide (0 < k) = true := decide_eq_true (by omega)
            have hpi : (k : Int) - 1 = (p : Int) := by omega
            have hpn : (p : Int) < n := by omega
            have hkp : k - 1 = p := by omega
            clear hk1
            by_cases g3 : L.getD p 0 < L.getD k 0
            · have hfin : ∀ j, j < k + 1 → FineC N L j := fun j hj => by
                rcases Nat.lt_or_ge j k with h1 | h1
                · exact hf j h1
                · obtain rfl : j = k := by omega
                  exact ⟨g1, g2, fun _ => by rw [hkp]; exact g3⟩
              have g4 : ¬ L.getD k 0 ≤ L.getD p 0 := by omega
              generalize L.getD k 0 = z at hx hI2 g1 g2 g2' g3 g4
              generalize L.getD p 0 = y at hx2 g3 g4
              clear hno hz hp hf hkp g3 g2
              go_wp2
              go_quiet (first | (go_at_call 35; refine Calls.quiet_of_same (hI2 _)))
              go_wp2
              go_roundw
              case rel => obtain ⟨p, hp⟩ := hq.out nq
                          exact ⟨k + 1, p, by omega, by go_num, hfin, hp⟩
              case measure => simp [intOf]; omega
            · have he := hno k hlt fun g => g3 (by have := g.2.2 (by omega); rw [hkp] at this; exact this)
              rw [he]
              have g4 : L.getD k 0 ≤ L.getD p 0 := by omega
              generalize L.getD k 0 = z at hx hI2 g1 g2 g2' g3 g4
              generalize L.getD p 0 = y at hx2 g3 g4
              clear hno hf he hz hp hkp g3 g2
              go_wp2
              go_quiet (first | (go_at_call 35; refine Calls.quiet_of_same (hI2 _)))
              go_wp2
              go_ret
              exact ⟨rfl, hq.out nq⟩
        · have he := hno k hlt fun g => g2 g.2.1
          have g2' : N ≤ L.getD k 0 := by omega
          rw [he]
          generalize L.getD k 0 = z at hx hI2 g1 g2 g2'
          clear hno hf he hk1 g2
          go_wp2
          go_quiet (first | (go_at_call 35; refine Calls.quiet_of_same (hI2 _)))
          go_wp2
          go_ret
          exact ⟨rfl, hq.out nq⟩
      · have he := hno k hlt fun g => g1 g.1
        rw [he]
        rw [decide_eq_false g1] at hI2
        generalize L.getD k 0 = z at hx hI2
        clear hno hf he hk1 g1
        go_wp2
        go_quiet (first | (go_at_call 35; refine Calls.quiet_of_same (hI2 _)))
        go_wp2
        go_ret
        exact ⟨rfl, hq.out nq⟩
    · obtain rfl : k = n := by omega
      have hI := in_any N 1 60 wr
      have hJ := in_any k 1 8 wr
      clear hno h
      by_cases e1 : 1 ≤ N ∧ N ≤ 60
      · rw [decide_eq_true e1] at hI
        by_cases e : 1 ≤ L.length ∧ L.length ≤ 8
        · rw [decide_eq_true (by omega)] at hJ
          have hy : circB N L = true := circB_yes ⟨e1, e⟩ (by rw [hn]; exact hf)
          clear hf e
          go_wp2_with fail
          refine hI.mono ?_
          rintro e w1 ⟨rfl, rfl⟩
          clear hI
          go_wp2_with fail
          refine hJ.mono ?_
          rintro e w1 ⟨rfl, rfl⟩
          clear hJ
          go_wp2_with fail
          go_ret
          exact ⟨by rw [hy]; rfl, hq.out 0⟩
        · rw [decide_eq_false (by omega)] at hJ
          have hy : circB N L = false := circB_out fun g => e g.2
          clear hf e
          go_wp2_with fail
          refine hI.mono ?_
          rintro e w1 ⟨rfl, rfl⟩
          clear hI
          go_wp2_with fail
          refine hJ.mono ?_
          rintro e w1 ⟨rfl, rfl⟩
          clear hJ
          go_wp2_with fail
          go_ret
          exact ⟨by rw [hy]; rfl, hq.out 0⟩
      · rw [decide_eq_false e1] at hI
        have hy : circB N L = false := circB_out fun g => e1 g.1
        clear hf hJ
        go_wp2_with fail
        refine hI.mono ?_
        rintro e w1 ⟨rfl, rfl⟩
        clear hI
        go_wp2_with fail
        go_ret
        exact ⟨by rw [hy]; rfl, hq.out 0⟩
end Go.Proofs.Ytfokchmmeflhiaa
