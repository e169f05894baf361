/-
  The contract of the model's difference set of so many marks. Only new memory is written.
-/
import Derived.Test.YtfokchmmeflhiaaSpecCFind
namespace Go.Proofs.Ytfokchmmeflhiaa
open Go.ChangeShapes Go.WideShapes Go.ChangeAt Go.RowKit Go.PlainAid

set_option maxRecDepth 100000 in
theorem specFSet_any (k : Int) (w : World) : Calls Try.prog 27 #[.int .i64 k] w (Copied (findA k) w) := by
  by_cases h1 : 2 ≤ k ∧ k ≤ 6
  · have hI := in_to true k 2 6 w (decide_eq_true h1)
    obtain ⟨K, rfl⟩ := Int.eq_ofNat_of_zero_le (a := k) (by omega)
    rw [findA_in (by omega)]
    obtain ⟨s1, s2, s3, s4⟩ := sets_ok K (by omega) (by omega)
    have hd := df_sets K (by omega) (by omega)
    obtain ⟨t, ht⟩ : ∃ t, K * (K - 1) = t := ⟨_, rfl⟩
    rw [ht] at s3 s4
    rw [s3] at s1 s2 hd
    obtain ⟨p, hp⟩ : ∃ p, K - 1 = p := ⟨_, rfl⟩
    rw [hp] at ht
    have hpi : (K : Int) - 1 = (p : Int) := by omega
    have hti : (K : Int) * (p : Int) = (t : Int) := by rw [← ht, Int.natCast_mul]
    obtain ⟨N, hN⟩ : ∃ N, t + 1 = N := ⟨_, rfl⟩
    have hNi : (t : Int) + 1 = (N : Int) := by omega
    rw [hN] at s1 s2 hd s4
    have O := (Own.none w).lit [0, 1] 2 rfl (by decide)
    have hF := specFinds_any 31 N K [0, 1] w.heap.size 2 w _ [] s4 (by omega) (circB_P s2) (by show 2 ≤ K; omega) (by rw [last_two]; omega) O
    rw [s1, if_neg (by decide), hd] at hF
    have ht30 : (t : Int) ≤ 30 := by omega
    generalize setL K = X at hF ⊢
    clear s1 s2 s3 hd ht hp O hN s4
    go_enter Try.func27, Try.ntmps27
    go_wp2_with fail
    refine hI.mono ?_
    rintro e w1 ⟨rfl, rfl⟩
    clear hI
    go_wp2_with fail
    refine hF.mono ?_
    clear hF
    rintro e w3 ⟨A3, c3, rfl, O3⟩
    have hc := O3.copied
    clear O3
    go_wp2_with fail
    go_ret
    exact hc
  · have hI := in_to false k 2 6 w (decide_eq_false h1)
    have hc := (Own.none w).empty.copied
    rw [findA_out h1]
    go_enter Try.func27, Try.ntmps27
    go_wp2_with fail
    refine hI.mono ?_
    rintro e w1 ⟨rfl, rfl⟩
    clear hI
    go_wp2_with fail
    go_ret
    exact hc
end Go.Proofs.Ytfokchmmeflhiaa
