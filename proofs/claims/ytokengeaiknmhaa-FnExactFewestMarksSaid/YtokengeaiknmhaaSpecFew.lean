/-
  The contract of the model's fewest marks that measure each length: all sets of marks by their bits. Only new memory is written.
-/
import Derived.Test.YtokengeaiknmhaaFewSet
import Derived.Test.YtokengeaiknmhaaFewBits
import Derived.Test.YtokengeaiknmhaaSpecLen
import Derived.OwnWalk
namespace Go.Proofs.Ytokengeaiknmhaa
open Go.ChangeShapes Go.WideShapes Go.ChangeAt Go.RowKit Go.PlainAid

theorem fewOf_le2 : ∀ m, m < 14 → 1 ≤ m → fewOf m ≤ m + 1 := by decide +kernel
set_option maxRecDepth 100000 in
set_option maxHeartbeats 2000000 in
theorem specFewest_any (n : Int) (w : World) : Calls Try.prog 31 #[.int .i64 n] w (SaysI (fewA n) w) := by
  have kb := Below.refl w.heap.size w
  by_cases h1 : 1 ≤ n ∧ n ≤ 13
  · have hI := in_to true n 1 13 w (decide_eq_true h1)
    obtain ⟨i0, hi, hj0, hj1, hj2⟩ := info_parts Try.infoIntT
    obtain ⟨m, rfl⟩ := Int.eq_ofNat_of_zero_le (a := n) (by omega)
    have hm1 : 1 ≤ m ∧ m ≤ 13 := by omega
    have g1 := fun s (hs : s < 2 ^ (m - 1)) h => few_low (m := m) (s := s) (by omega) (by omega) hs h
    obtain ⟨g2, g3, g4⟩ := few_wit m (by omega) (by omega)
    have ht := fewOf_le m (by omega) (by omega)
    have ht2 := fewOf_le2 m (by omega) (by omega)
    have hp := pow_le m (by omega)
    rw [fewA_in hm1]
    obtain ⟨r, hr⟩ : ∃ r, m - 1 = r := ⟨_, rfl⟩
    have hri : (m : Int) - 1 = r := by omega
    have hr64 : r ≤ 12 := by omega
    rw [hr] at g1 g2 hp
    obtain ⟨P, hP⟩ : ∃ P : Nat, 2 ^ r = P := ⟨_, rfl⟩
    have hPi : (2 : Int) ^ r = (P : Int) := by rw [← hP]; simp
    rw [hP] at g1 g2 hp
    have hrm : Hid (m = r + 1) := by show m = r + 1; omega
    clear hP hr h1
    generalize fewOf m = T at g1 g3 ht ht2 ⊢
    generalize witOf m = W at g2 g3 g4
    go_enter Try.func31, Try.ntmps31
    go_wp2_with fail
    refine hI.mono ?_
    rintro e w1 ⟨rfl, rfl⟩
    clear hI
    go_wp2_with fail
    go_loopw [3, 4] (fun v i wr => ∃ (s : Nat) (b : Int), s ≤ P ∧ i = .int .i64 s ∧ v = .int .i64 b ∧ (T : Int) ≤ b ∧ b ≤ 14 ∧ (W < s → b = T) ∧ Below w.heap.size w wr) (fun _ i _ => P - (intOf i).toNat)
    case atStart => exact ⟨0, (m : Int) + 1, by omega, rfl, rfl, by omega, by omega, fun e => by omega, kb⟩
    case round =>
      clear kb
      obtain ⟨s, b, hs, rfl, rfl, hb1, hb2, hbW, kb⟩ := hrel
      by_cases hlt : s < P
      · have O := own_one ((Own.none w).keep kb) 0
        have hsi : (s : Int) < P := by omega
        have g1s := g1 s hlt
        clear g1
        replace hbW : Hid (W < s → b = T) := hbW
        have hsb : s < 9223372036854775808 := by omega
        clear kb
        go_wp2_with fail
        go_loopw [5, 6] (fun v i wr => ∃ k : Nat, 1 ≤ k ∧ k ≤ m ∧ i = .int .i64 k ∧ Own w wr [irow v (bitsTo s (k - 1))]) (fun _ i _ => m - (intOf i).toNat)
        case atStart => exact ⟨1, by omega, by omega, rfl, O⟩
        case round =>
          clear O
          obtain ⟨k, hk1, hk, rfl, O⟩ := hrel
          by_cases hkm : k < m
          · have hbt := bit_of s (k - 1) hsb
            obtain ⟨p, hpp⟩ : ∃ p, k - 1 = p := ⟨_, rfl⟩
            rw [hpp] at hbt O
            have hpi : (k : Int) - 1 = p := by omega
            have hp64 : p ≤ 12 := by omega
            have hke : Hid (k = p + 1) := by show k = p + 1; omega
            have hkmi : (k : Int) < m := by omega
            by_cases ht2 : s / 2 ^ p % 2 = 1
            · rw [ht2] at hbt
              have eY := bitsTo_yes ht2
              rw [← hke.out] at eY
              have hY := (bitsTo_length s p).1
              generalize bitsTo s p = Y at O eY hY
              have h1 := O.hd
              have hsz := O.bel.size
              clear hpp
              go_wp2_with (at_builtin; refine wpList_append_one rfl (.tmp 31) (.tmp 33) 24 rfl w.heap.size 3 i0 (.int .i64 0) Try.underlying24 hi hj0 hj1 hj2 rfl u5 Y.length _ rfl (h1.alloc _) ⟨wr.heap.size, 0, none⟩ 1 _ rfl (new_one _ _ _) rfl (by omega) (by simp; omega) ?_; intro v' w3 hown1 hg1 hb1; replace O := O.iapp hown1 hg1 hb1; rw [← eY] at O; clear hown1 hg1 hb1 eY h1)
              go_roundw
              case rel => exact ⟨k + 1, by omega, by omega, by go_num, by rw [Nat.add_sub_cancel]; exact O⟩
              case measure => simp [intOf]; omega
            · have eY := bitsTo_no ht2
              rw [← hke.out] at eY
              have ht3 : s / 2 ^ p % 2 = 0 := by omega
              rw [ht3] at hbt
              rw [← eY] at O
              clear hpp eY ht2 ht3
              go_wp2_with fail
              go_roundw
              case rel => exact ⟨k + 1, by omega, by omega, by go_num, by rw [Nat.add_sub_cancel]; exact O⟩
              case measure => simp [intOf]; omega
          · obtain rfl : k = m := by omega
            have eJ : bitsTo s (k - 1) ++ [(k : Int)] = setOf k s := rfl
            have hY := (bitsTo_length s (k - 1)).1
            generalize bitsTo s (k - 1) = Y at O eJ hY
            have hJ9 : (setOf k s).length ≤ 20 := by rw [← eJ, List.length_append, List.length_singleton]; omega
            have hwit : Hid (W = s → (setOf k s).length = T ∧ measB (setOf k s) = true) := fun e => by rw [← e]; exact ⟨g3, g4⟩
            generalize setOf k s = J at g1s eJ hJ9 hwit
            have h1 := O.hd
            have hsz := O.bel.size
            clear hrm g3 g4
            replace g1s : Hid (measB J = true → T ≤ J.length) := g1s
            by_cases hlb : (J.length : Int) < b
            · go_wp2_with (at_builtin; refine wpList_append_one rfl (.tmp 35) (.tmp 37) 24 rfl w.heap.size 3 i0 (.int .i64 0) Try.underlying24 hi hj0 hj1 hj2 rfl u5 Y.length _ rfl (h1.alloc _) ⟨wr.heap.size, 0, none⟩ 1 _ rfl (new_one _ _ _) rfl (by omega) (by simp; omega) ?_; intro v' w3 hown1 hg1 hb1; replace O := O.iapp hown1 hg1 hb1; rw [eJ] at O; obtain ⟨A5, c5, hv5⟩ := own_slice O.hd; replace hv5 : v' = .slice A5 J.length c5 := hv5; subst hv5; have kb := O.bel; have rJ := O.row (v := .slice A5 J.length c5) (L := J) List.mem_cons_self rfl rfl; have hM := specMeasures_any A5 c5 _ J w3 rfl (by omega) rJ; clear hown1 hg1 hb1 eJ h1 O rJ)
              with_reducible refine hM.mono ?_
              clear hM
              rintro e w4 ⟨rfl, b4⟩
              replace kb := below_more kb kb.size b4
              clear b4
              rcases hmb : measB J with _ | _
              · have hW2 : W < s + 1 → b = T := fun e => by
                  by_cases e2 : W = s
                  · have := (hwit.out e2).2
                    rw [hmb] at this
                    cases this
                  · exact hbW.out (by omega)
                clear hmb hbW hwit g1s
                go_wp2_with fail
                go_roundw
                case rel => exact ⟨s + 1, b, by omega, by go_num, rfl, hb1, hb2, hW2, kb⟩
                case measure => simp [intOf]; omega
              · have hlow := g1s.out hmb
                have hW2 : W < s + 1 → ((J.length : Nat) : Int) = T := fun e => by
                  by_cases e2 : W = s
                  · have := (hwit.out e2).1
                    omega
                  · have := hbW.out (by omega)
                    omega
                have hlb2 : (T : Int) ≤ (J.length : Int) := by omega
                have hlb3 : (J.length : Int) ≤ 14 := by omega
                clear hmb hbW hwit g1s hlow
                go_wp2_with fail
                go_roundw
                case rel => exact ⟨s + 1, (J.length : Int), by omega, by go_num, rfl, hlb2, hlb3, hW2, kb⟩
                case measure => simp [intOf]; omega
            · have hW2 : W < s + 1 → b = T := fun e => by
                by_cases e2 : W = s
                · have := (hwit.out e2).1
                  omega
                · exact hbW.out (by omega)
              clear hbW hwit g1s
              go_wp2_with (at_builtin; refine wpList_append_one rfl (.tmp 35) (.tmp 37) 24 rfl w.heap.size 3 i0 (.int .i64 0) Try.underlying24 hi hj0 hj1 hj2 rfl u5 Y.length _ rfl (h1.alloc _) ⟨wr.heap.size, 0, none⟩ 1 _ rfl (new_one _ _ _) rfl (by omega) (by simp; omega) ?_; intro v' w3 hown1 hg1 hb1; replace O := O.iapp hown1 hg1 hb1; rw [eJ] at O; obtain ⟨A5, c5, hv5⟩ := own_slice O.hd; replace hv5 : v' = .slice A5 J.length c5 := hv5; subst hv5; have kb := O.bel; clear hown1 hg1 hb1 eJ h1 O)
              go_roundw
              case rel => exact ⟨s + 1, b, by omega, by go_num, rfl, hb1, hb2, hW2, kb⟩
              case measure => simp [intOf]; omega
      · obtain rfl : s = P := by omega
        have e := hbW g2
        rw [e]
        clear g1
        go_wp2_with fail
        go_ret
        exact ⟨rfl, kb⟩
  · have hI := in_to false n 1 13 w (decide_eq_false h1)
    rw [fewA_out h1]
    go_enter Try.func31, Try.ntmps31
    go_wp2_with fail
    refine hI.mono ?_
    rintro e w1 ⟨rfl, rfl⟩
    clear hI
    go_wp2_with fail
    go_ret
    exact ⟨rfl, kb⟩
end Go.Proofs.Ytokengeaiknmhaa
