/-
  The contracts of the program's shortest ruler without a length twice, and of its fewest marks that measure each length. Only new memory is written.
-/
import Derived.Test.YtokengeaiknmhaaShort
import Derived.Test.YtokengeaiknmhaaImplFind
namespace Go.Proofs.Ytokengeaiknmhaa
open Go.ChangeShapes Go.WideShapes Go.ChangeAt Go.RowKit Go.PlainAid

set_option maxRecDepth 100000 in
set_option maxHeartbeats 2000000 in
theorem implShortest_any (n : Int) (w : World) : Calls Try.prog 16 #[.int .i64 n] w (Copied (shortA n) w) := by
  have kb := Below.refl w.heap.size w
  by_cases h1 : n < 1
  · rw [shortA_out (by omega)]
    go_enter Try.func16, Try.ntmps16
    go_wp2_with fail
    go_ret
    exact nil_copied kb
  by_cases h5 : 5 < n
  · rw [shortA_out (by omega)]
    go_enter Try.func16, Try.ntmps16
    go_wp2_with fail
    go_ret
    exact nil_copied kb
  obtain ⟨k, rfl⟩ := Int.eq_ofNat_of_zero_le (a := n) (by omega)
  obtain ⟨g1, g2⟩ := fr_golomb k (by omega) (by omega)
  have ht := topOf_le k (by omega)
  rw [shortA_in (by omega)]
  generalize shortL k = X at g2 ⊢
  generalize topOf k = T at g1 g2 ht
  have hN := nil_is_nil
  have hS := row_not_nil
  go_enter Try.func16, Try.ntmps16
  go_wp2_with fail
  go_loopw [11] (fun i wr => ∃ j : Nat, j ≤ T ∧ i = .int .i64 j ∧ Below w.heap.size w wr) (fun i _ => 12 - (intOf i).toNat)
  case atStart => exact ⟨0, by omega, rfl, kb⟩
  case round =>
    clear kb
    obtain ⟨j, hj, rfl, kb⟩ := hrel
    have O := own_one ((Own.none w).keep kb) 0
    have hj61 : (j : Int) < 61 := by omega
    have hF := findG_any j k j [0] _ w _ [] (by omega) (by omega) (by decide) (by simp; omega) (by decide +kernel) (by rw [last_nought]; omega) (by decide +kernel) O
    go_wp2_with fail
    refine hF.mono ?_
    clear hF O
    by_cases hlt : j < T
    · rw [g1 j hlt]
      rintro e w3 ⟨rfl, O3⟩
      have kb3 := O3.bel
      clear O3 g1 g2
      go_wp2_with fail
      go_roundw
      case rel => exact ⟨j + 1, by omega, by go_num, kb3⟩
      case measure => simp [intOf]; omega
    · obtain rfl : j = T := by omega
      rw [g2]
      rintro e w3 ⟨g3, c3, rfl, O3⟩
      have hc := (O3.perm (List.Perm.swap _ _ _)).tl.copied
      clear O3 g1 g2
      go_wp2_with fail
      go_ret
      exact hc

set_option maxRecDepth 100000 in
set_option maxHeartbeats 2000000 in
theorem implFewest_any (m : Int) (w : World) : Calls Try.prog 18 #[.int .i64 m] w (SaysI (fewA m) w) := by
  have kb := Below.refl w.heap.size w
  by_cases h1 : m < 1
  · rw [fewA_out (by omega)]
    go_enter Try.func18, Try.ntmps18
    go_wp2_with fail
    go_ret
    exact ⟨rfl, kb⟩
  by_cases h5 : 13 < m
  · rw [fewA_out (by omega)]
    go_enter Try.func18, Try.ntmps18
    go_wp2_with fail
    go_ret
    exact ⟨rfl, kb⟩
  obtain ⟨k, rfl⟩ := Int.eq_ofNat_of_zero_le (a := m) (by omega)
  obtain ⟨g1, g2⟩ := fr_few k (by omega) (by omega)
  have ht := fewOf_le k (by omega) (by omega)
  rw [fewA_in (by omega)]
  generalize fewOf k = T at g1 g2 ht ⊢
  have hN := nil_is_nil
  have hS := row_not_nil
  go_enter Try.func18, Try.ntmps18
  go_wp2_with fail
  go_loopw [3] (fun i wr => ∃ j : Nat, 2 ≤ j ∧ j ≤ T ∧ i = .int .i64 j ∧ Below w.heap.size w wr) (fun i _ => 12 - (intOf i).toNat)
  case atStart => exact ⟨2, by omega, by omega, rfl, kb⟩
  case round =>
    clear kb
    obtain ⟨j, hj2, hj, rfl, kb⟩ := hrel
    have O := own_one ((Own.none w).keep kb) 0
    have hj8 : (j : Int) ≤ 8 := by omega
    have hF := findM_any k j k [0] _ w _ [] (by omega) (by omega) (by decide) (by simp; omega) (by decide +kernel) (by rw [last_nought]; omega) (by decide +kernel) O
    by_cases hlt : j < T
    · rw [g1 j hlt hj2] at hF
      clear g1 g2 O
      go_wp2_with fail
      refine hF.mono ?_
      clear hF
      rintro e w3 ⟨rfl, O3⟩
      have kb3 := O3.bel
      clear O3
      go_wp2_with fail
      go_roundw
      case rel => exact ⟨j + 1, by omega, by omega, by go_num, kb3⟩
      case measure => simp [intOf]; omega
    · obtain rfl : j = T := by omega
      obtain ⟨L, hL⟩ := Option.isSome_iff_exists.1 g2
      rw [hL] at hF
      clear g1 g2 O hL
      go_wp2_with fail
      refine hF.mono ?_
      clear hF
      rintro e w3 ⟨g3, c3, rfl, O3⟩
      have kb3 := O3.bel
      clear O3
      go_wp2_with fail
      go_ret
      exact ⟨rfl, kb3⟩
end Go.Proofs.Ytokengeaiknmhaa
