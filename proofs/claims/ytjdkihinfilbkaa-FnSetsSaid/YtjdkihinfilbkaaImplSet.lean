/-
  The contracts of the program's six functions on sets of weights: what the model answers, only new memory is written.
-/
import Derived.Test.YtjdkihinfilbkaaImplSums
import Derived.Test.YtjdkihinfilbkaaLibInts
import Derived.Test.YtjdkihinfilbkaaLawSet
import Derived.Test.YtjdkihinfilbkaaSetCalls
import Derived.BigRegion
namespace Go.Proofs.Ytjdkihinfilbkaa
open Go.ChangeShapes Go.WideShapes Go.ChangeAt Go.RowKit Go.PlainAid

theorem says_quiet {b : Bool} {w w' : World} {q : Nat} (h : w' = w.drewN q) : SaysB b w (.returned (.bool b)) w' := ⟨rfl, by rw [h]; exact below_drewN (Below.refl _ _) q⟩

set_option maxHeartbeats 1000000 in
theorem implSet_any (A : Option Addr) (c n : Nat) (L : List Int) (w : World) (hn : L.length = n) (hm : n ≤ 1000000000) (r : IntRow w A L) :
    Calls Try.prog 20 #[.slice A n c] w (SaysB (setB L) w) := by
  by_cases h0 : n < 1
  · rw [setB_len (by omega)]
    have h0i : (n : Int) < 1 := by omega
    clear hn r
    go_enter Try.func20, Try.ntmps20
    go_wp2
    go_ret
    exact ⟨rfl, Below.refl _ _⟩
  · by_cases h8 : 8 < n
    · rw [setB_len (by omega)]
      have h0i : ¬ (n : Int) < 1 := by omega
      have h8i : (8 : Int) < n := by omega
      clear hn r
      go_enter Try.func20, Try.ntmps20
      go_wp2
      go_ret
      exact ⟨rfl, Below.refl _ _⟩
    · obtain ⟨b, hb, hI⟩ := sorted_in L A c n w hn (by omega) (by omega) r
      have h0i : ¬ (n : Int) < 1 := by omega
      have h8i : ¬ (8 : Int) < n := by omega
      cases b
      · have e : setB L = false := setB_desc fun h => by have := hb.2 h; cases this
        rw [e]
        clear hb e hn r
        go_enter Try.func20, Try.ntmps20
        go_wp2_with fail
        refine hI.mono ?_
        rintro e w1 ⟨rfl, q, rfl⟩
        clear hI
        go_wp2_with fail
        go_ret
        exact says_quiet rfl
      · have e := setB_asc (L := L) (by omega) (hb.1 rfl)
        rw [e]
        obtain ⟨p, hp⟩ : ∃ p, n = p + 1 := ⟨n - 1, by omega⟩
        have hp2 : L.length - 1 = p := by omega
        rw [hp2]
        have hpi : (n : Int) - 1 = (p : Int) := by omega
        have hpn : (p : Int) < n := by omega
        obtain ⟨x, rfl, -, hx⟩ := r 0 (by omega)
        obtain ⟨y, hy, -, hz⟩ := r p (by omega)
        injection hy with hy
        subst hy
        have hx2 : w.cell? x = some (.int .i64 (L.getD 0 0)) := hx
        clear hb e hn r hp hp2
        generalize L.getD 0 0 = u at hx hx2 ⊢
        generalize L.getD p 0 = v at hz ⊢
        by_cases g0 : 1 ≤ u
        · have e2 : decide (1 ≤ u ∧ v ≤ 1000) = decide (v ≤ 1000) := decide_eq_decide.2 (and_iff_right g0)
          rw [e2]
          clear e2
          go_enter Try.func20, Try.ntmps20
          go_wp2_with fail
          refine hI.mono ?_
          rintro e w1 ⟨rfl, q, rfl⟩
          clear hI
          go_wp2_with fail
          go_ret
          exact says_quiet rfl
        · have e2 : decide (1 ≤ u ∧ v ≤ 1000) = false := decide_eq_false fun h => g0 h.1
          rw [e2]
          clear e2
          go_enter Try.func20, Try.ntmps20
          go_wp2_with fail
          refine hI.mono ?_
          rintro e w1 ⟨rfl, q, rfl⟩
          clear hI
          go_wp2_with fail
          go_ret
          exact says_quiet rfl

theorem sumsV_len (p : Int) (L : List Int) : (sumsV p L).length ≤ 6561 := by
  unfold sumsV
  cases hs : setB L
  · exact Nat.zero_le _
  · have h1 := sums_len p L L.length
    have h2 : (3 : Nat) ^ L.length ≤ 3 ^ 8 := Nat.pow_le_pow_right (by decide) (setB_P hs).1.2
    have h3 : (3 : Nat) ^ 8 = 6561 := by decide
    show (sumsOf (gOf p) L L.length).length ≤ 6561
    omega
theorem sumsV_one (L : List Int) (m : Int) : (sumsV 1 L).contains m = oneB L m := by
  unfold sumsV oneB
  cases hs : setB L
  · rfl
  · exact sums_has false L m
theorem sumsV_two (L : List Int) (m : Int) : (sumsV 2 L).contains m = twoB L m := by
  unfold sumsV twoB
  cases hs : setB L
  · rfl
  · exact sums_has true L m
theorem sumsV_ways (L : List Int) (m : Int) : cnt (sumsV 2 L) m = waysI L m := by
  unfold sumsV waysI
  cases hs : setB L
  · rfl
  · exact cnt_sumsL true L m
theorem rAt_nil (Z : List Int) (h : Z.length = 0) : rAt Z Z.length = 0 := by rw [h]; rfl
theorem sumsV_reach (L : List Int) (p : Int) : rAt (sortL (sumsV p L)) (sumsV p L).length = reachI L p := by
  by_cases hs : setB L = true
  · by_cases hp : 1 ≤ p ∧ p ≤ 2
    · rw [reach_sorted (setB_P hs) hp]
      have e : sumsV p L = sumsL (decide (p = 2)) L := by unfold sumsV sumsL; rw [hs, gOf_of hp]; rfl
      rw [e]
    · have e : sumsV p L = [] := by
        unfold sumsV
        rw [hs, gOf_not hp]
        have hl := (setB_P hs).1
        obtain ⟨k, hk⟩ : ∃ k, L.length = k + 1 := ⟨L.length - 1, by omega⟩
        rw [hk]
        refine List.length_eq_zero_iff.1 ?_
        show (more [] (L.getD k 0) (sumsOf [] L k)).length = 0
        rw [more_length]
        exact Nat.mul_zero _
      have e2 : reachI L p = 0 := by unfold reachI; rw [hs, decide_eq_false hp]; rfl
      rw [e, e2]
      rfl
  · have hf : setB L = false := by cases h : setB L <;> simp_all
    have e : sumsV p L = [] := by unfold sumsV; rw [hf]; rfl
    have e2 : reachI L p = 0 := by unfold reachI; rw [hf]; rfl
    rw [e, e2]
    rfl

theorem implOne_any (m : Int) (A : Option Addr) (c n : Nat) (L : List Int) (w : World) (hn : L.length = n) (hm : n ≤ 1000000000) (r : IntRow w A L) :
    Calls Try.prog 16 #[.slice A n c, .int .i64 m] w (SaysB (oneB L m) w) := by
  have hU := implSums_any 1 A c n L w hn r (implSet_any A c n L w hn hm r)
  have hl := sumsV_len 1 L
  rw [← sumsV_one]
  generalize sumsV 1 L = S at hU hl ⊢
  obtain ⟨z, hz⟩ : ∃ z, S.contains m = z := ⟨_, rfl⟩
  rw [hz]
  replace hz : Hid (S.contains m = z) := hz
  clear r hn
  go_enter Try.func16, Try.ntmps16
  go_wp2_with fail
  refine hU.mono ?_
  rintro e w1 ⟨B, d, rfl, o, b⟩
  have hc := has_own S B d m w1 o (by omega)
  rw [hz.out] at hc
  clear hU o hz
  go_wp2_with fail
  refine hc.mono ?_
  rintro e w2 ⟨rfl, rfl⟩
  clear hc
  go_wp2_with fail
  go_ret
  exact ⟨rfl, b⟩

theorem implTwo_any (m : Int) (A : Option Addr) (c n : Nat) (L : List Int) (w : World) (hn : L.length = n) (hm : n ≤ 1000000000) (r : IntRow w A L) :
    Calls Try.prog 14 #[.slice A n c, .int .i64 m] w (SaysB (twoB L m) w) := by
  have hU := implSums_any 2 A c n L w hn r (implSet_any A c n L w hn hm r)
  have hl := sumsV_len 2 L
  rw [← sumsV_two]
  generalize sumsV 2 L = S at hU hl ⊢
  obtain ⟨z, hz⟩ : ∃ z, S.contains m = z := ⟨_, rfl⟩
  rw [hz]
  replace hz : Hid (S.contains m = z) := hz
  clear r hn
  go_enter Try.func14, Try.ntmps14
  go_wp2_with fail
  refine hU.mono ?_
  rintro e w1 ⟨B, d, rfl, o, b⟩
  have hc := has_own S B d m w1 o (by omega)
  rw [hz.out] at hc
  clear hU o hz
  go_wp2_with fail
  refine hc.mono ?_
  rintro e w2 ⟨rfl, rfl⟩
  clear hc
  go_wp2_with fail
  go_ret
  exact ⟨rfl, b⟩

theorem implWays_any (m : Int) (A : Option Addr) (c n : Nat) (L : List Int) (w : World) (hn : L.length = n) (hm : n ≤ 1000000000) (r : IntRow w A L) :
    Calls Try.prog 15 #[.slice A n c, .int .i64 m] w (SaysI (waysI L m) w) := by
  have hU := implSums_any 2 A c n L w hn r (implSet_any A c n L w hn hm r)
  have hl := sumsV_len 2 L
  rw [← sumsV_ways]
  generalize sumsV 2 L = S at hU hl ⊢
  clear r hn
  obtain ⟨R, hR⟩ : ∃ R, cnt S m = R := ⟨_, rfl⟩
  rw [hR]
  have hR2 : Hid (cnt S m = R) := hR
  clear hR
  obtain ⟨N, hN⟩ : ∃ N, S.length = N := ⟨_, rfl⟩
  unfold Copied at hU
  rw [hN] at hU hl
  go_enter Try.func15, Try.ntmps15
  go_wp2_with fail
  refine hU.mono ?_
  rintro e w1 ⟨B, d, rfl, o, b⟩
  have rS : IntRow w1 B S := by rw [← hN] at o; exact intRow_own o
  clear hU o
  go_wp2_with fail
  go_loopw [5, 11] (fun u i wr => ∃ k : Nat, k ≤ N ∧ i = .int .i64 k ∧ u = .int .i64 (cnt (S.take k) m) ∧ w1 = wr) (fun _ i _ => N - (intOf i).toNat)
  case atStart => exact ⟨0, by omega, rfl, rfl, rfl⟩
  case round =>
    obtain ⟨k, hk, rfl, rfl, rfl⟩ := hrel
    by_cases hlt : k < N
    · obtain ⟨x, rfl, -, hx⟩ := rS k (by omega)
      have hs := cnt_take (S := S) (k := k) (by omega) m
      have hc0 := cnt_nonneg (S.take k) m
      have hc1 := cnt_le (S.take k) m
      have hc2 : (S.take k).length ≤ k := by rw [List.length_take]; omega
      clear rS
      generalize S.getD k 0 = z at hx hs
      by_cases hz : z = m
      · rw [if_pos hz] at hs
        have hs2 : Hid (cnt (S.take k) m + 1 = cnt (S.take (k + 1)) m) := hs.symm
        clear hs
        generalize cnt (S.take k) m = t at hc0 hc1 hs2
        subst hz
        go_wp2
        go_roundw
        case rel => exact ⟨k + 1, by omega, by go_num, by rw [hs2.out], by first | rfl | trivial⟩
        case measure => simp [intOf]; omega
      · rw [if_neg hz, Int.add_zero] at hs
        have hs2 : Hid (cnt (S.take k) m = cnt (S.take (k + 1)) m) := hs.symm
        clear hs
        generalize cnt (S.take k) m = t at hc0 hc1 hs2
        go_wp2
        go_roundw
        case rel => exact ⟨k + 1, by omega, by go_num, by rw [hs2.out], by first | rfl | trivial⟩
        case measure => simp [intOf]; omega
    · obtain rfl : k = N := by omega
      have e : cnt (S.take k) m = R := by rw [← hN, List.take_length]; exact hR2.out
      rw [e]
      clear rS e hR2
      go_wp2
      go_ret
      exact ⟨rfl, b⟩

theorem implReach_any (p : Int) (A : Option Addr) (c n : Nat) (L : List Int) (w : World) (hn : L.length = n) (hm : n ≤ 1000000000) (r : IntRow w A L) :
    Calls Try.prog 12 #[.slice A n c, .int .i64 p] w (SaysI (reachI L p) w) := by
  have hU := implSums_any p A c n L w hn r (implSet_any A c n L w hn hm r)
  have hl := sumsV_len p L
  rw [← sumsV_reach]
  generalize sumsV p L = S at hU hl ⊢
  clear r hn
  obtain ⟨R, hR⟩ : ∃ R, rAt (sortL S) S.length = R := ⟨_, rfl⟩
  rw [hR]
  replace hR : Hid (rAt (sortL S) S.length = R) := hR
  go_enter Try.func12, Try.ntmps12
  go_wp2_with fail
  refine hU.mono ?_
  rintro e w1 ⟨B, d, rfl, o, b⟩
  have O : Own w w1 [irow (.slice B S.length d) S] := ⟨fun q hq => by rw [List.mem_singleton.1 hq]; exact o, List.pairwise_singleton _ _, b⟩
  have hc := sort_own S B d [] O (by omega)
  clear hU o O b
  go_wp2_with fail
  refine hc.mono ?_
  rintro e w2 ⟨rfl, O⟩
  have b := O.bel
  have hlen : (sortL S).length = S.length := sortL_length S
  have rZ : IntRow w2 B (sortL S) := O.row (v := .slice B S.length d) (by simp) rfl hlen.symm
  have r0 := rAt_le (sortL S)
  have r1 := rAt_succ (sortL S)
  have r00 : rAt (sortL S) 0 = 0 := rfl
  clear hc O
  generalize rAt (sortL S) = f at hR r0 r1 r00
  generalize sortL S = Z at rZ hlen r1
  generalize S.length = N at hlen hl hR
  go_wp2_with fail
  go_loopw [6, 16] (fun u i wr => ∃ k : Nat, k ≤ N ∧ i = .int .i64 k ∧ u = .int .i64 (f k) ∧ w2 = wr) (fun _ i _ => N - (intOf i).toNat)
  case atStart => exact ⟨0, by omega, rfl, by rw [r00], rfl⟩
  case round =>
    clear r00
    obtain ⟨k, hk, rfl, rfl, rfl⟩ := hrel
    by_cases hlt : k < N
    · obtain ⟨x, rfl, -, hx⟩ := rZ k (by omega)
      have hs := r1 k
      have hc := r0 k
      clear rZ r0 r1
      generalize Z.getD k 0 = z at hx hs
      by_cases hz : z = f k + 1
      · rw [if_pos hz] at hs
        have hs2 : Hid (f (k + 1) = z) := hs
        clear hs
        generalize f k = t at hc hz
        subst hz
        go_wp2
        go_roundw
        case rel => exact ⟨k + 1, by omega, by go_num, by rw [hs2.out], by first | rfl | trivial⟩
        case measure => simp [intOf]; omega
      · rw [if_neg hz] at hs
        have hs2 : Hid (f (k + 1) = f k) := hs
        clear hs
        generalize f k = t at hc hz hs2
        go_wp2
        go_roundw
        case rel => exact ⟨k + 1, by omega, by go_num, by rw [hs2.out], by first | rfl | trivial⟩
        case measure => simp [intOf]; omega
    · obtain rfl : k = N := by omega
      have e := hR.out
      rw [e]
      clear rZ r0 r1 hR e
      go_wp2
      go_ret
      exact ⟨rfl, b⟩

theorem implLeast_any (A : Option Addr) (c n : Nat) (L : List Int) (w : World) (hn : L.length = n) (hm : n ≤ 1000000000) (r : IntRow w A L) :
    Calls Try.prog 17 #[.slice A n c] w (SaysI (leastI L) w) := by
  have hS := implSet_any A c n L w hn hm r
  have hW := fun W (r : IntRow W A L) => implReach_any 1 A c n L W hn hm r
  cases hs : setB L
  · have e : leastI L = 0 := by unfold leastI; rw [hs]; rfl
    rw [hs] at hS
    rw [e]
    clear e hs r hn hW
    go_enter Try.func17, Try.ntmps17
    go_wp2_with fail
    refine hS.mono ?_
    rintro e w1 ⟨rfl, b⟩
    clear hS
    go_wp2_with fail
    go_ret
    exact ⟨rfl, b⟩
  · have e : leastI L = reachI L 1 + 1 := by unfold leastI; rw [hs]; rfl
    have hb := reachI_le (setB_P hs) 1
    rw [hs] at hS
    rw [e]
    clear e hs hn
    generalize reachI L 1 = v at hW hb ⊢
    go_enter Try.func17, Try.ntmps17
    go_wp2_with fail
    refine hS.mono ?_
    rintro e w1 ⟨rfl, b⟩
    have hW1 := hW _ (r.keep b)
    clear hS hW r
    go_wp2_with fail
    refine hW1.mono ?_
    rintro e w2 ⟨rfl, b2⟩
    replace b := below_more b b.size b2
    clear hW1 b2
    go_wp2_with fail
    go_ret
    exact ⟨rfl, b⟩

theorem impl5 : Impl5 where
  hS L A c v hl r := implSet_any A c _ L v rfl (by omega) r
  hO m L A c v hl r := implOne_any m A c _ L v rfl (by omega) r
  hT m L A c v hl r := implTwo_any m A c _ L v rfl (by omega) r
  hR m L A c v hl r := implReach_any m A c _ L v rfl (by omega) r
  hW m L A c v hl r := implWays_any m A c _ L v rfl (by omega) r
  hL L A c v hl r := implLeast_any A c _ L v rfl (by omega) r
end Go.Proofs.Ytjdkihinfilbkaa
