/-
  The contracts of the program's five functions of chapter 6: what the model answers, only new memory is written.
-/
import Derived.Test.YtdnjpekclmiliaaImpl6
import Derived.Test.YtdnjpekclmiliaaImplChoice
import Derived.Test.YtdnjpekclmiliaaImplLists
namespace Go.Proofs.Ytdnjpekclmiliaa
open Go.ChangeShapes Go.WideShapes Go.ChangeAt Go.RowKit Go.PlainAid

theorem implWays_any (m : Int) (A : Option Addr) (c n : Nat) (L : List Int) (w : World) (hn : L.length = n) (hm : n ≤ 1000000000) (r : IntRow w A L) :
    Calls Try.prog 15 #[.slice A n c, .int .i64 m] w (SaysI (waysU L m) w) := by
  have hU := implChoice_any A c n L w hn hm r
  have hl := chS_len L
  rw [← chS_ways]
  generalize chS L = S at hU hl ⊢
  clear r hn
  obtain ⟨R, hR⟩ : ∃ R, cnt S m = R := ⟨_, rfl⟩
  rw [hR]
  have hR2 : Hid (cnt S m = R) := hR
  clear hR
  obtain ⟨N, hN⟩ : ∃ N, S.length = N := ⟨_, rfl⟩
  unfold Copied at hU
  rw [hN] at hU hl
  go_enter Try.func15, Try.ntmps15
  go_wp2_with fail
  refine hU.mono ?_
  rintro e w1 ⟨B, d, rfl, o, b⟩
  have rS : IntRow w1 B S := by rw [← hN] at o; exact intRow_own o
  clear hU o
  go_wp2_with fail
  go_loopw [5, 11] (fun u i wr => ∃ k : Nat, k ≤ N ∧ i = .int .i64 k ∧ u = .int .i64 (cnt (S.take k) m) ∧ w1 = wr) (fun _ i _ => N - (intOf i).toNat)
  case atStart => exact ⟨0, by omega, rfl, rfl, rfl⟩
  case round =>
    obtain ⟨k, hk, rfl, rfl, rfl⟩ := hrel
    by_cases hlt : k < N
    · obtain ⟨x, rfl, -, hx⟩ := rS k (by omega)
      have hs := cnt_take (S := S) (k := k) (by omega) m
      have hc0 := cnt_nonneg (S.take k) m
      have hc1 := cnt_le (S.take k) m
      have hc2 : (S.take k).length ≤ k := by rw [List.length_take]; omega
      clear rS
      generalize S.getD k 0 = z at hx hs
      by_cases hz : z = m
      · rw [if_pos hz] at hs
        have hs2 : Hid (cnt (S.take k) m + 1 = cnt (S.take (k + 1)) m) := hs.symm
        clear hs
        generalize cnt (S.take k) m = t at hc0 hc1 hs2
        subst hz
        go_wp2
        go_roundw
        case rel => exact ⟨k + 1, by omega, by go_num, by rw [hs2.out], by first | rfl | trivial⟩
        case measure => simp [intOf]; omega
      · rw [if_neg hz, Int.add_zero] at hs
        have hs2 : Hid (cnt (S.take k) m = cnt (S.take (k + 1)) m) := hs.symm
        clear hs
        generalize cnt (S.take k) m = t at hc0 hc1 hs2
        go_wp2
        go_roundw
        case rel => exact ⟨k + 1, by omega, by go_num, by rw [hs2.out], by first | rfl | trivial⟩
        case measure => simp [intOf]; omega
    · obtain rfl : k = N := by omega
      have e : cnt (S.take k) m = R := by rw [← hN, List.take_length]; exact hR2.out
      rw [e]
      clear rS e hR2
      go_wp2
      go_ret
      exact ⟨rfl, b⟩

theorem complete_no {L : List Int} (h : setB L = false) : completeB L = false := by unfold completeB; rw [h]; rfl
theorem perfect_no {L : List Int} (h : completeB L = false) (hs : setB L = true) : perfectB L = false := by rw [perfect_iff (setB_P hs), h]; rfl
theorem perfect_not {L : List Int} (h : setB L = false) : perfectB L = false := by unfold perfectB; rw [h]; rfl

theorem implComplete_any (A : Option Addr) (c n : Nat) (L : List Int) (w : World) (hn : L.length = n) (hm : n ≤ 1000000000) (r : IntRow w A L) :
    Calls Try.prog 14 #[.slice A n c] w (SaysB (completeB L) w) := by
  have hS := implSet_any A c n L w hn hm r
  cases hs : setB L
  · rw [hs] at hS
    rw [complete_no hs]
    clear hs r hn
    go_enter Try.func14, Try.ntmps14
    go_wp2_with fail
    refine hS.mono ?_
    rintro e w1 ⟨rfl, b⟩
    clear hS
    go_wp2_with fail
    go_ret
    exact ⟨rfl, b⟩
  · have hP := setB_P hs
    have hR := fun W (r : IntRow W A L) => implReach_any 1 A c n L W hn hm r
    have hT := fun W (r : IntRow W A L) => implTotal_any A c n L W hn hP r
    rw [hs] at hS
    rw [complete_iff hP]
    generalize reachI L 1 = x at hR ⊢
    generalize sumL L = y at hT ⊢
    obtain ⟨z, hz⟩ : ∃ z, decide (x = y) = z := ⟨_, rfl⟩
    rw [hz]
    have hzb : (x == y) = z := by rw [← hz]; rfl
    clear hs hn hz hP
    go_enter Try.func14, Try.ntmps14
    go_wp2_with fail
    refine hS.mono ?_
    rintro e w1 ⟨rfl, b⟩
    replace r := r.keep b
    clear hS
    go_wp2_with fail
    refine (hR _ r).mono ?_
    rintro e w2 ⟨rfl, b2⟩
    replace r := r.keep b2
    replace b := below_more b b.size b2
    clear hR b2
    go_wp2_with fail
    refine (hT _ r).mono ?_
    rintro e w3 ⟨rfl, rfl⟩
    clear hT r
    go_wp2_with fail
    go_ret
    exact ⟨rfl, b⟩

theorem implPerfect_any (A : Option Addr) (c n : Nat) (L : List Int) (w : World) (hn : L.length = n) (hm : n ≤ 1000000000) (r : IntRow w A L) :
    Calls Try.prog 13 #[.slice A n c] w (SaysB (perfectB L) w) := by
  have hS := implComplete_any A c n L w hn hm r
  cases hs : completeB L
  · have e : perfectB L = false := by
      cases h : setB L
      · exact perfect_not h
      · exact perfect_no hs h
    rw [hs] at hS
    rw [e]
    clear hs r hn e
    go_enter Try.func13, Try.ntmps13
    go_wp2_with fail
    refine hS.mono ?_
    rintro e w1 ⟨rfl, b⟩
    clear hS
    go_wp2_with fail
    go_ret
    exact ⟨rfl, b⟩
  · have hset : setB L = true := by
      cases h : setB L
      · rw [complete_no h] at hs; cases hs
      · rfl
    have hP := setB_P hset
    have hC := fun W (r : IntRow W A L) => implChoice_any A c n L W hn hm r
    have hT := fun W (r : IntRow W A L) => implTotal_any A c n L W hn hP r
    have hl := chS_len L
    obtain ⟨T, hT2, hT8⟩ := set_total hP
    rw [perfect_iff hP, hs, Bool.true_and]
    rw [hs] at hS
    rw [hT2] at hT ⊢
    generalize chS L = S at hC hl ⊢
    obtain ⟨k, hk⟩ : ∃ k, S.length = k := ⟨_, rfl⟩
    rw [hk] at hl ⊢
    have hC2 := fun W r => (hC W r).mono (R' := fun e w' => ∃ B d, e = .returned (.slice B k d) ∧ Below W.heap.size W w') fun e w' h => by
      obtain ⟨B, d, he, -, b⟩ := h
      rw [hk] at he
      exact ⟨B, d, he, b⟩
    obtain ⟨z, hz⟩ : ∃ z, decide ((k : Int) = (T : Int) + 1) = z := ⟨_, rfl⟩
    rw [hz]
    have hzb : ((k : Int) == (T : Int) + 1) = z := by rw [← hz]; rfl
    clear hs hn hz hP hC hk hset hT2
    go_enter Try.func13, Try.ntmps13
    go_wp2_with fail
    refine hS.mono ?_
    rintro e w1 ⟨rfl, b⟩
    replace r := r.keep b
    clear hS
    go_wp2_with fail
    refine (hC2 _ r).mono ?_
    rintro e w2 ⟨B, d, rfl, b2⟩
    replace r := r.keep b2
    replace b := below_more b b.size b2
    clear hC2 b2
    go_wp2_with fail
    refine (hT _ r).mono ?_
    rintro e w3 ⟨rfl, rfl⟩
    clear hT r
    go_wp2_with fail
    go_ret
    exact ⟨rfl, b⟩

theorem found_gives {LL : List (List Int)} {w : World} {X : List Rw} {e : Ending} {w' : World} (h : Found LL w X e w') : GivesSS LL w e w' := by
  obtain ⟨A, c, he, vs, hl, O⟩ := h
  refine ⟨A, c, he, vs, hl, fun p hp => ?_, ?_, O.bel⟩
  · rw [List.append_nil] at hp
    refine O.own p ?_
    rcases List.mem_cons.1 hp with rfl | hp
    · exact List.mem_cons_self
    · exact List.mem_cons_of_mem _ (List.mem_append_left _ hp)
  · have n1 := List.pairwise_cons.1 O.ne
    rw [List.append_nil]
    exact List.pairwise_cons.2 ⟨fun p hp => n1.1 p (List.mem_append_left _ hp), (List.pairwise_append.1 n1.2).1⟩
theorem own_nilRow (w : World) : Own w w [irow (.slice none 0 0) []] := by
  have o : w.ownsRow w.heap.size 3 1 (.slice none 0 0) 0 [] := World.ownsRow_nil _ _ _ _
  exact (Own.none w).add (Below.refl _ _) o

theorem implPL_any (m : Int) (w : World) : Calls Try.prog 11 #[.int .i64 m] w (GivesSS (listsP m) w) := by
  by_cases hm : 1 ≤ m ∧ m ≤ 24
  · obtain ⟨n, rfl⟩ : ∃ n : Nat, m = n := ⟨m.toNat, by omega⟩
    have e : listsP (n : Int) = pfrom 25 n [] 0 := by
      obtain ⟨k, rfl⟩ : ∃ k, n = k + 1 := ⟨n - 1, by omega⟩
      rw [listsP_of (by omega), pfrom_all k (by omega)]
    have hL := (implLists_any 25 n [] 0 (.slice none 0 0) w w [] head_nil (by omega) (by omega) (by omega) (by omega) (own_nilRow w)).mono fun _ _ h => found_gives h
    rw [e]
    have h1 : ¬ (n : Int) < 1 := by omega
    have h2 : ¬ (24 : Int) < n := by omega
    clear e
    generalize pfrom 25 n [] 0 = X at hL ⊢
    go_enter Try.func11, Try.ntmps11
    go_wp2_with fail
    refine hL.mono ?_
    rintro e w1 ⟨A, c, rfl, O⟩
    clear hL
    go_wp2_with fail
    go_ret
    exact ⟨A, c, rfl, O⟩
  · have e : listsP m = [] := by unfold listsP; rw [if_neg hm]
    rw [e]
    have G : GivesSS [] w (.returned (.slice none 0 0)) w := (OwnSS.nil (Own.none w)).gives
    clear e
    by_cases h1 : m < 1
    · clear hm
      go_enter Try.func11, Try.ntmps11
      go_wp2_with fail
      go_ret
      exact G
    · have h2 : (24 : Int) < m := by omega
      clear hm
      go_enter Try.func11, Try.ntmps11
      go_wp2_with fail
      go_ret
      exact G

theorem implOF_any (m : Int) (w : World) : Calls Try.prog 12 #[.int .i64 m] w (GivesSS (listsF m) w) := by
  by_cases hm : 2 ≤ m ∧ m ≤ 100
  · obtain ⟨n, rfl⟩ : ∃ n : Nat, m = n := ⟨m.toNat, by omega⟩
    have e : listsF (n : Int) = facs 7 n [] := listsF_of (by omega)
    have hL := (implFacs_any 7 n [] (.slice none 0 0) w w [] (by omega) (by omega) (by omega) (by
      have : (2 : Nat) ^ 7 = 128 := by decide
      omega) (by decide) (fun h => by omega) (own_nilRow w)).mono fun _ _ h => found_gives h
    rw [e]
    have h1 : ¬ (n : Int) < 2 := by omega
    have h2 : ¬ (100 : Int) < n := by omega
    clear e
    generalize facs 7 n [] = X at hL ⊢
    go_enter Try.func12, Try.ntmps12
    go_wp2_with fail
    refine hL.mono ?_
    rintro e w1 ⟨A, c, rfl, O⟩
    clear hL
    go_wp2_with fail
    go_ret
    exact ⟨A, c, rfl, O⟩
  · have e : listsF m = [] := by unfold listsF; rw [if_neg hm]
    rw [e]
    have G : GivesSS [] w (.returned (.slice none 0 0)) w := (OwnSS.nil (Own.none w)).gives
    clear e
    by_cases h1 : m < 2
    · clear hm
      go_enter Try.func12, Try.ntmps12
      go_wp2_with fail
      go_ret
      exact G
    · have h2 : (100 : Int) < m := by omega
      clear hm
      go_enter Try.func12, Try.ntmps12
      go_wp2_with fail
      go_ret
      exact G

theorem impl6 : Impl6 where
  hW m L A c v hl r := implWays_any m A c _ L v rfl (by omega) r
  hC L A c v hl r := implComplete_any A c _ L v rfl (by omega) r
  hP L A c v hl r := implPerfect_any A c _ L v rfl (by omega) r
  hL m v := implPL_any m v
  hF m v := implOF_any m v
end Go.Proofs.Ytdnjpekclmiliaa
