/-
  The contracts of the model's five functions on sets of weights that answer by the table of ways. Nothing but new memory is written.
-/
import Derived.Test.YtjdkihinfilbkaaSetVals
namespace Go.Proofs.Ytjdkihinfilbkaa
open Go.ChangeShapes Go.WideShapes Go.ChangeAt Go.RowKit Go.PlainAid

theorem specOne_any (m : Int) (A : Option Addr) (c n : Nat) (L : List Int) (w : World) (hn : L.length = n) (hm : n ≤ 1000000000) (h : IntRow w A L) :
    Calls Try.prog 22 #[.slice A n c, .int .i64 m] w (SaysB (oneB L m) w) := by
  have hS := specSet_any A c n L w hn hm h
  cases hs : setB L
  · have e : oneB L m = false := by unfold oneB; rw [hs]; rfl
    rw [hs] at hS
    rw [e]
    clear e hs h hn
    go_enter Try.func22, Try.ntmps22
    go_wp2_with fail
    refine hS.mono ?_
    rintro e w1 ⟨rfl, q, rfl⟩
    have b := below_drewN (Below.refl w.heap.size w) q
    clear hS
    go_wp2_with fail
    go_ret
    exact ⟨rfl, b⟩
  · have hP := setB_P hs
    have hW := fun W (r : IntRow W A L) => specWays_any false m A c n L W hn hP r
    have e : oneB L m = decide (0 < wysL false L m) := by unfold oneB; rw [hs]; rfl
    rw [hs] at hS
    rw [e]
    clear e hs hn hP
    generalize wysL false L m = v at hW ⊢
    go_enter Try.func22, Try.ntmps22
    go_wp2_with fail
    refine hS.mono ?_
    rintro e w1 ⟨rfl, q, rfl⟩
    have b := below_drewN (Below.refl w.heap.size w) q
    have hW1 := hW _ (h.keep b)
    clear hS hW h
    generalize w.drewN q = w1 at b hW1 ⊢
    go_wp2_with fail
    refine hW1.mono ?_
    rintro e w2 ⟨rfl, b2⟩
    replace b := below_more b b.size b2
    clear hW1 b2
    go_wp2_with fail
    go_ret
    exact ⟨rfl, b⟩

theorem specTwo_any (m : Int) (A : Option Addr) (c n : Nat) (L : List Int) (w : World) (hn : L.length = n) (hm : n ≤ 1000000000) (h : IntRow w A L) :
    Calls Try.prog 23 #[.slice A n c, .int .i64 m] w (SaysB (twoB L m) w) := by
  have hS := specSet_any A c n L w hn hm h
  cases hs : setB L
  · have e : twoB L m = false := by unfold twoB; rw [hs]; rfl
    rw [hs] at hS
    rw [e]
    clear e hs h hn
    go_enter Try.func23, Try.ntmps23
    go_wp2_with fail
    refine hS.mono ?_
    rintro e w1 ⟨rfl, q, rfl⟩
    have b := below_drewN (Below.refl w.heap.size w) q
    clear hS
    go_wp2_with fail
    go_ret
    exact ⟨rfl, b⟩
  · have hP := setB_P hs
    have hW := fun W (r : IntRow W A L) => specWays_any true m A c n L W hn hP r
    have e : twoB L m = decide (0 < wysL true L m) := by unfold twoB; rw [hs]; rfl
    rw [hs] at hS
    rw [e]
    clear e hs hn hP
    generalize wysL true L m = v at hW ⊢
    go_enter Try.func23, Try.ntmps23
    go_wp2_with fail
    refine hS.mono ?_
    rintro e w1 ⟨rfl, q, rfl⟩
    have b := below_drewN (Below.refl w.heap.size w) q
    have hW1 := hW _ (h.keep b)
    clear hS hW h
    generalize w.drewN q = w1 at b hW1 ⊢
    go_wp2_with fail
    refine hW1.mono ?_
    rintro e w2 ⟨rfl, b2⟩
    replace b := below_more b b.size b2
    clear hW1 b2
    go_wp2_with fail
    go_ret
    exact ⟨rfl, b⟩

theorem specWaysOf_any (m : Int) (A : Option Addr) (c n : Nat) (L : List Int) (w : World) (hn : L.length = n) (hm : n ≤ 1000000000) (h : IntRow w A L) :
    Calls Try.prog 25 #[.slice A n c, .int .i64 m] w (SaysI (waysI L m) w) := by
  have hS := specSet_any A c n L w hn hm h
  cases hs : setB L
  · have e : waysI L m = 0 := by unfold waysI; rw [hs]; rfl
    rw [hs] at hS
    rw [e]
    clear e hs h hn
    go_enter Try.func25, Try.ntmps25
    go_wp2_with fail
    refine hS.mono ?_
    rintro e w1 ⟨rfl, q, rfl⟩
    have b := below_drewN (Below.refl w.heap.size w) q
    clear hS
    go_wp2_with fail
    go_ret
    exact ⟨rfl, b⟩
  · have hP := setB_P hs
    have hW := fun W (r : IntRow W A L) => specWays_any true m A c n L W hn hP r
    have e : waysI L m = wysL true L m := by unfold waysI; rw [hs]; rfl
    rw [hs] at hS
    rw [e]
    clear e hs hn hP
    generalize wysL true L m = v at hW ⊢
    go_enter Try.func25, Try.ntmps25
    go_wp2_with fail
    refine hS.mono ?_
    rintro e w1 ⟨rfl, q, rfl⟩
    have b := below_drewN (Below.refl w.heap.size w) q
    have hW1 := hW _ (h.keep b)
    clear hS hW h
    generalize w.drewN q = w1 at b hW1 ⊢
    go_wp2_with fail
    refine hW1.mono ?_
    rintro e w2 ⟨rfl, b2⟩
    replace b := below_more b b.size b2
    clear hW1 b2
    go_wp2_with fail
    go_ret
    exact ⟨rfl, b⟩

theorem reachF_step {f : Int → Int} {t : Nat} {n : Int} : reachF f (t + 1) n = if 0 < f (n + 1) then reachF f t (n + 1) else n := rfl

theorem specReach_any (p : Int) (A : Option Addr) (c n : Nat) (L : List Int) (w : World) (hn : L.length = n) (hm : n ≤ 1000000000) (h : IntRow w A L) :
    Calls Try.prog 24 #[.slice A n c, .int .i64 p] w (SaysI (reachI L p) w) := by
  have hS := specSet_any A c n L w hn hm h
  cases hs : setB L
  · have e : reachI L p = 0 := by unfold reachI; rw [hs]; rfl
    rw [hs] at hS
    rw [e]
    clear e hs h hn
    go_enter Try.func24, Try.ntmps24
    go_wp2_with fail
    refine hS.mono ?_
    rintro e w1 ⟨rfl, q, rfl⟩
    have b := below_drewN (Below.refl w.heap.size w) q
    clear hS
    go_wp2_with fail
    go_ret
    exact ⟨rfl, b⟩
  · have hP := setB_P hs
    have hI := fun W => in_any p 1 2 W
    rw [hs] at hS
    by_cases hp : 1 ≤ p ∧ p ≤ 2
    · obtain ⟨T, hT, hT8⟩ := set_total hP
      have hU := fun W (r : IntRow W A L) => specSums_any (decide (p = 2)) A c n L T W hn hP hT r
      obtain ⟨M, hM⟩ : ∃ M, M = 2 * T + 1 := ⟨_, rfl⟩
      have tl : (tab T (wysL (decide (p = 2)) L)).length = M := by rw [tab_length, hM]
      have q1 : (M : Int) / 2 = T := by omega
      have q2 : (M : Int).tdiv 2 = T := by rw [Int.tdiv_eq_ediv_of_nonneg (by omega)]; exact q1
      have e : reachI L p = reachF (wysL (decide (p = 2)) L) T 0 := by
        unfold reachI reachOf
        rw [hs, decide_eq_true hp, hT]
        rfl
      rw [decide_eq_true hp] at hI
      rw [e]
      have hbnd := wysL_le hP (decide (p = 2))
      unfold Copied at hU
      rw [tl] at hU
      have hget : ∀ (a : Nat) (z : Int), (a : Int) = z + T → z ≤ T → (tab T (wysL (decide (p = 2)) L)).getD a 0 = wysL (decide (p = 2)) L z := fun a z h1 h2 => tab_at h1 h2
      generalize wysL (decide (p = 2)) L = f at hU hget tl hbnd ⊢
      generalize tab T f = X at hU hget tl
      have hTi : (T : Int) ≤ 8000 := by omega
      have hMT : (M : Int) = 2 * (T : Int) + 1 := by omega
      replace hMT : Hid ((M : Int) = 2 * (T : Int) + 1) := hMT
      obtain ⟨R, hR0⟩ : ∃ R, reachF f T 0 = R := ⟨_, rfl⟩
      rw [hR0]
      have h00 : Hid (reachF f (T - 0) ((0 : Nat) : Int) = R) := by rw [Nat.sub_zero]; exact hR0
      clear hR0
      clear e hs hn hP hp hT hM hT8
      go_enter Try.func24, Try.ntmps24
      go_wp2_with fail
      refine hS.mono ?_
      rintro e w1 ⟨rfl, q, rfl⟩
      have b := below_drewN (Below.refl w.heap.size w) q
      have hU1 := hU _ (h.keep b)
      clear hS hU h
      generalize w.drewN q = w1 at b hU1 ⊢
      go_wp2_with fail
      refine (hI _).mono ?_
      rintro e w2 ⟨rfl, rfl⟩
      clear hI
      go_wp2_with fail
      refine hU1.mono ?_
      rintro e w2 ⟨Y, d, rfl, o, b2⟩
      rw [← tl] at o
      have r := intRow_own o
      replace b := below_more b b.size b2
      clear hU1 o b2
      go_wp2_with fail
      go_loopw [7] (fun i wr => ∃ k : Nat, k ≤ T ∧ i = .int .i64 k ∧ reachF f (T - k) k = R ∧ w2 = wr) (fun i _ => T - (intOf i).toNat)
      case atStart => exact ⟨0, by omega, rfl, h00.out, rfl⟩
      case round =>
        clear h00
        obtain ⟨k, hk, rfl, hR, rfl⟩ := hrel
        by_cases hlt : k < T
        · have hMT2 := hMT.out
          have v := hbnd ((k : Int) + 1)
          obtain ⟨a, ha⟩ : ∃ a : Nat, (a : Int) = ((k : Int) + 1) + T := ⟨k + 1 + T, by omega⟩
          have hg := hget a _ ha (by omega)
          obtain ⟨y, rfl, -, hy⟩ := r a (by omega)
          rw [hg] at hy
          have haM : (a : Int) < M := by omega
          have ha2 : (T : Int) + k + 1 = a := by omega
          have hlt2 : (k : Int) < T := by omega
          obtain ⟨t, ht⟩ : ∃ t, T - k = t + 1 := ⟨T - k - 1, by omega⟩
          rw [ht, reachF_step] at hR
          have ht2 : T - (k + 1) = t := by omega
          by_cases hp : 0 < f ((k : Int) + 1)
          · rw [if_pos hp] at hR
            have hR2 : Hid (reachF f (T - (k + 1)) ((k + 1 : Nat) : Int) = R) := by
              rw [ht2]; exact hR
            clear hR ht ht2 hg hget r ha hMT2 hbnd
            generalize f ((k : Int) + 1) = fv at hy v hp
            go_wp2
            go_roundw
            case rel => exact ⟨k + 1, by omega, by go_num, hR2, by first | rfl | trivial⟩
            case measure => simp [intOf]; omega
          · rw [if_neg hp] at hR
            subst hR
            clear ht ht2 hg hget r ha hMT2 hbnd
            generalize f ((k : Int) + 1) = fv at hy v hp
            go_wp2
            go_ret
            exact ⟨rfl, b⟩
        · obtain rfl : k = T := by omega
          rw [Nat.sub_self] at hR
          replace hR : (k : Int) = R := hR
          subst hR
          clear hget r hMT hbnd
          go_wp2
          go_ret
          exact ⟨rfl, b⟩
    · have e : reachI L p = 0 := by unfold reachI; rw [hs, decide_eq_false hp]; rfl
      rw [decide_eq_false hp] at hI
      rw [e]
      clear e hs h hn hP hp
      go_enter Try.func24, Try.ntmps24
      go_wp2_with fail
      refine hS.mono ?_
      rintro e w1 ⟨rfl, q, rfl⟩
      have b := below_drewN (Below.refl w.heap.size w) q
      clear hS
      go_wp2_with fail
      refine (hI _).mono ?_
      rintro e w2 ⟨rfl, rfl⟩
      clear hI
      go_wp2_with fail
      go_ret
      exact ⟨rfl, b⟩

theorem reachI_le {L : List Int} (h : SetP L) (p : Int) : 0 ≤ reachI L p ∧ reachI L p ≤ 8000 := by
  obtain ⟨T, hT, hT8⟩ := set_total h
  unfold reachI reachOf
  split
  · have := reachF_le (wysL (decide (p = 2)) L) (sumL L).toNat 0
    rw [hT] at this ⊢
    omega
  · omega

theorem specLeast_any (A : Option Addr) (c n : Nat) (L : List Int) (w : World) (hn : L.length = n) (hm : n ≤ 1000000000) (h : IntRow w A L) :
    Calls Try.prog 26 #[.slice A n c] w (SaysI (leastI L) w) := by
  have hS := specSet_any A c n L w hn hm h
  have hW := fun W (r : IntRow W A L) => specReach_any 1 A c n L W hn hm r
  cases hs : setB L
  · have e : leastI L = 0 := by unfold leastI; rw [hs]; rfl
    rw [hs] at hS
    rw [e]
    clear e hs h hn hW
    go_enter Try.func26, Try.ntmps26
    go_wp2_with fail
    refine hS.mono ?_
    rintro e w1 ⟨rfl, q, rfl⟩
    have b := below_drewN (Below.refl w.heap.size w) q
    clear hS
    go_wp2_with fail
    go_ret
    exact ⟨rfl, b⟩
  · have e : leastI L = reachI L 1 + 1 := by unfold leastI; rw [hs]; rfl
    have hb := reachI_le (setB_P hs) 1
    rw [hs] at hS
    rw [e]
    clear e hs hn
    generalize reachI L 1 = v at hW hb ⊢
    go_enter Try.func26, Try.ntmps26
    go_wp2_with fail
    refine hS.mono ?_
    rintro e w1 ⟨rfl, q, rfl⟩
    have b := below_drewN (Below.refl w.heap.size w) q
    have hW1 := hW _ (h.keep b)
    clear hS hW h
    generalize w.drewN q = w1 at b hW1 ⊢
    go_wp2_with fail
    refine hW1.mono ?_
    rintro e w2 ⟨rfl, b2⟩
    replace b := below_more b b.size b2
    clear hW1 b2
    go_wp2_with fail
    go_ret
    exact ⟨rfl, b⟩
end Go.Proofs.Ytjdkihinfilbkaa
