/-
  The contracts of the model's functions on perfect sets that answer by the table of ways. Nothing but new memory is written.
-/
import Derived.Test.YtdnjpekclmiliaaUSums
import Derived.Test.YtdnjpekclmiliaaSays
import Derived.Test.YtdnjpekclmiliaaRange
namespace Go.Proofs.Ytdnjpekclmiliaa
open Go.ChangeShapes Go.WideShapes Go.ChangeAt Go.RowKit Go.PlainAid

theorem set_num {L : List Int} (h : SetP L) : ∃ T : Nat, NumP L T ∧ T ≤ 8000 := by
  have b : ∀ z ∈ L, 0 ≤ z ∧ z ≤ 1000 := getD_all (P := fun z => 0 ≤ z ∧ z ≤ 1000) fun j hj => by have := (h.2 j hj).1; omega
  have := sumL_take_le (by decide) b L.length 8 h.1.2
  rw [sumL_all] at this
  have hT : sumL L = ((sumL L).toNat : Nat) := by omega
  exact ⟨(sumL L).toNat, ⟨by have := h.1; omega, fun j hj => (h.2 j hj).1, hT⟩, by omega⟩
/-- The ways of every sum up to the total. -/
def waysU (L : List Int) (m : Int) : Int := if setB L then (if 0 ≤ m ∧ m ≤ sumL L then uw L m else 0) else 0
def allU (P : Int → Bool) (L : List Int) : Bool := (List.range ((sumL L).toNat + 1)).all fun n => P (uw L n)
def completeB (L : List Int) : Bool := setB L && allU (fun v => decide (1 ≤ v)) L
def oneWay (L : List Int) : Bool := allU (fun v => decide (v = 1)) L
def perfectB (L : List Int) : Bool := setB L && oneWay L
theorem allU_yes {P : Int → Bool} {L : List Int} {T : Nat} (hT : sumL L = T) (h : ∀ n : Nat, n ≤ T → P (uw L n) = true) : allU P L = true := by
  unfold allU
  rw [List.all_eq_true]
  intro n hn
  have := List.mem_range.1 hn
  exact h n (by omega)
theorem allU_no {P : Int → Bool} {L : List Int} {T n : Nat} (hT : sumL L = T) (hn : n ≤ T) (h : P (uw L n) = false) : allU P L = false := by
  cases e : allU P L
  · rfl
  · unfold allU at e
    rw [List.all_eq_true] at e
    have := e n (List.mem_range.2 (by omega))
    rw [h] at this
    cases this
theorem num_bd {L : List Int} {T : Nat} (h : NumP L T) : ∀ n, 0 ≤ uw L n ∧ uw L n ≤ 16777216 := fun n => by
  have key : ∀ (d k : Nat) (f : Int → Int), L.length - k ≤ d → k ≤ L.length → UState L k f → UState L L.length (uw L) := fun d => by
    induction d with
    | zero =>
      intro k f h1 h2 hU
      obtain rfl : k = L.length := by omega
      have e := ustate_end hU
      rw [e] at hU
      exact hU
    | succ d ih =>
      intro k f h1 h2 hU
      rcases Nat.lt_or_ge k L.length with h3 | h3
      · have h4 := h.at_ k h3
        have h5 := runAt_eq h3
        exact ih _ _ (by omega) (runAt_le h2) (ustate_next hU h3 (by omega))
      · obtain rfl : k = L.length := by omega
        have e := ustate_end hU
        rw [e] at hU
        exact hU
  have hU := key L.length 0 dlt (by omega) (by omega) (ustate_start L)
  have := hU.bd n
  have := two_pow_24 h.len
  omega

theorem specSumWays_any (m : Int) (A : Option Addr) (c n : Nat) (L : List Int) (w : World) (hn : L.length = n) (hm : n ≤ 1000000000) (h : IntRow w A L) :
    Calls Try.prog 16 #[.slice A n c, .int .i64 m] w (SaysI (waysU L m) w) := by
  have hS := specSet_any A c n L w hn hm h
  cases hs : setB L
  · have e : waysU L m = 0 := by unfold waysU; rw [hs]; rfl
    rw [hs] at hS
    rw [e]
    clear e hs h hn
    go_enter Try.func16, Try.ntmps16
    go_wp2_with fail
    refine hS.mono ?_
    rintro e w1 ⟨rfl, q, rfl⟩
    have b := below_drewN (Below.refl w.heap.size w) q
    clear hS
    go_wp2_with fail
    go_ret
    exact ⟨rfl, b⟩
  · obtain ⟨T, hN, hT⟩ := set_num (setB_P hs)
    have hU := fun W (r : IntRow W A L) => specUWays_any A c n L T W hn hN r
    have hsum := hN.sum
    rw [hs] at hS
    obtain ⟨M, hM⟩ : ∃ M, M = T + 1 := ⟨_, rfl⟩
    have tl : (tabN T (uw L)).length = M := by rw [tabN_length, hM]
    unfold Copied at hU
    rw [tl] at hU
    have hM1 : (M : Int) - 1 = T := by omega
    have hTi : (0 : Int) ≤ T ∧ (T : Int) ≤ 8000 := by omega
    by_cases hin : 0 ≤ m ∧ m ≤ (T : Int)
    · obtain ⟨a, ha⟩ : ∃ a : Nat, m = (a : Int) := ⟨m.toNat, by omega⟩
      subst ha
      have e : waysU L a = uw L a := by unfold waysU; rw [hs, hsum, if_pos rfl, if_pos hin]
      have hI := fun W => in_to true (a : Int) 0 T W (decide_eq_true hin)
      have hget : (tabN T (uw L)).getD a 0 = uw L a := tabN_get (by omega)
      rw [e]
      have haM : a < M := by omega
      have haMi : (a : Int) < M := by omega
      generalize uw L (a : Int) = v at hget ⊢
      generalize tabN T (uw L) = X at hU tl hget
      clear e hs hn hN hsum hM hT hin
      go_enter Try.func16, Try.ntmps16
      go_wp2_with fail
      refine hS.mono ?_
      rintro e w1 ⟨rfl, q, rfl⟩
      have b := below_drewN (Below.refl w.heap.size w) q
      have hU1 := hU _ (h.keep b)
      clear hS hU h
      generalize w.drewN q = w1 at b hU1 ⊢
      go_wp2_with fail
      refine hU1.mono ?_
      rintro e w2 ⟨Y, d, rfl, o, b2⟩
      rw [← tl] at o
      obtain ⟨y, rfl, -, hy⟩ := intRow_own o a (by omega)
      rw [hget] at hy
      replace b := below_more b b.size b2
      clear hU1 o b2 hget tl
      go_wp2_with fail
      with_reducible refine (hI _).mono ?_
      rintro e w3 ⟨rfl, rfl⟩
      clear hI
      go_wp2_with fail
      go_ret
      exact ⟨rfl, b⟩
    · have e : waysU L m = 0 := by unfold waysU; rw [hs, hsum, if_pos rfl, if_neg hin]
      have hI := fun W => in_to false m 0 T W (decide_eq_false hin)
      rw [e]
      generalize tabN T (uw L) = X at hU tl
      clear e hs hn hN hsum hM hT hin tl
      go_enter Try.func16, Try.ntmps16
      go_wp2_with fail
      refine hS.mono ?_
      rintro e w1 ⟨rfl, q, rfl⟩
      have b := below_drewN (Below.refl w.heap.size w) q
      have hU1 := hU _ (h.keep b)
      clear hS hU h
      generalize w.drewN q = w1 at b hU1 ⊢
      go_wp2_with fail
      refine hU1.mono ?_
      rintro e w2 ⟨Y, d, rfl, o, b2⟩
      replace b := below_more b b.size b2
      clear hU1 o b2
      go_wp2_with fail
      with_reducible refine (hI _).mono ?_
      rintro e w3 ⟨rfl, rfl⟩
      clear hI
      go_wp2_with fail
      go_ret
      exact ⟨rfl, b⟩

theorem specComplete_any (A : Option Addr) (c n : Nat) (L : List Int) (w : World) (hn : L.length = n) (hm : n ≤ 1000000000) (h : IntRow w A L) :
    Calls Try.prog 19 #[.slice A n c] w (SaysB (completeB L) w) := by
  have hS := specSet_any A c n L w hn hm h
  cases hs : setB L
  · have e : completeB L = false := by unfold completeB; rw [hs]; rfl
    rw [hs] at hS
    rw [e]
    clear e hs h hn
    go_enter Try.func19, Try.ntmps19
    go_wp2_with fail
    refine hS.mono ?_
    rintro e w1 ⟨rfl, q, rfl⟩
    have b := below_drewN (Below.refl w.heap.size w) q
    clear hS
    go_wp2_with fail
    go_ret
    exact ⟨rfl, b⟩
  · obtain ⟨T, hN, hT⟩ := set_num (setB_P hs)
    have hU := fun W (r : IntRow W A L) => specUWays_any A c n L T W hn hN r
    have e : completeB L = allU (fun v => decide (1 ≤ v)) L := by unfold completeB; rw [hs]; rfl
    have hyes := allU_yes (P := fun v => decide (1 ≤ v)) hN.sum
    have hno := fun n => allU_no (P := fun v => decide (1 ≤ v)) (n := n) hN.sum
    have hbd := num_bd hN
    rw [hs] at hS
    rw [e]
    generalize allU (fun v => decide (1 ≤ v)) L = B at hyes hno ⊢
    obtain ⟨M, hM⟩ : ∃ M, M = T + 1 := ⟨_, rfl⟩
    have tl : (tabN T (uw L)).length = M := by rw [tabN_length, hM]
    have hget : ∀ k : Nat, k < M → (tabN T (uw L)).getD k 0 = uw L k := fun k hk => tabN_get (by omega)
    unfold Copied at hU
    rw [tl] at hU
    generalize tabN T (uw L) = X at hU tl hget
    generalize uw L = f at hyes hno hbd hget
    have hMl : (M : Int) ≤ 24001 := by omega
    have hMH : Hid (M = T + 1) := hM
    clear e hs hn hN hM
    go_enter Try.func19, Try.ntmps19
    go_wp2_with fail
    refine hS.mono ?_
    rintro e w1 ⟨rfl, q, rfl⟩
    have b := below_drewN (Below.refl w.heap.size w) q
    have hU1 := hU _ (h.keep b)
    clear hS hU h
    generalize w.drewN q = w1 at b hU1 ⊢
    go_wp2_with fail
    refine hU1.mono ?_
    rintro e w2 ⟨Y, d, rfl, o, b2⟩
    rw [← tl] at o
    have r := intRow_own o
    replace b := below_more b b.size b2
    clear hU1 o b2
    go_wp2_with fail
    go_loopw [4] (fun i wr => ∃ k : Nat, k ≤ M ∧ i = .int .i64 k ∧ (∀ j : Nat, j < k → 1 ≤ f j) ∧ w2 = wr) (fun i _ => M - (intOf i).toNat)
    case atStart => exact ⟨0, by omega, rfl, fun j hj => by omega, rfl⟩
    case round =>
      obtain ⟨k, hk, rfl, hf, rfl⟩ := hrel
      by_cases hlt : k < M
      · obtain ⟨y, rfl, -, hy⟩ := r k (by omega)
        rw [hget k hlt] at hy
        have hv := hbd k
        by_cases h1 : 1 ≤ f k
        · have hf2 : Hid (∀ j : Nat, j < k + 1 → 1 ≤ f j) := fun j hj => by
            rcases Nat.lt_or_ge j k with h3 | h3
            · exact hf j h3
            · obtain rfl : j = k := by omega
              exact h1
          clear hf hyes hno hbd hget r tl
          generalize f (k : Int) = v at hy hv h1
          go_wp2
          go_roundw
          case rel => exact ⟨k + 1, by omega, by go_num, hf2.out, by first | rfl | trivial⟩
          case measure => simp [intOf]; omega
        · have hB : B = false := hno k (by have := hMH.out; omega) (decide_eq_false h1)
          clear hf hyes hno hbd hget r tl
          generalize f (k : Int) = v at hy hv h1
          subst hB
          go_wp2
          go_ret
          exact ⟨rfl, b⟩
      · have hB : B = true := hyes fun j hj => decide_eq_true (hf j (by have := hMH.out; omega))
        clear hf hyes hno hbd hget r tl
        subst hB
        obtain rfl : k = M := by omega
        go_wp2
        go_ret
        exact ⟨rfl, b⟩

theorem specOneWay_any (A : Option Addr) (c n : Nat) (L : List Int) (T : Nat) (w : World) (hn : L.length = n) (hN : NumP L T) (h : IntRow w A L) :
    Calls Try.prog 35 #[.slice A n c] w (SaysB (oneWay L) w) := by
  have hU := specUWays_any A c n L T w hn hN h
  have e : oneWay L = allU (fun v => decide (v = 1)) L := rfl
  have hyes := allU_yes (P := fun v => decide (v = 1)) hN.sum
  have hno := fun n => allU_no (P := fun v => decide (v = 1)) (n := n) hN.sum
  have hbd := num_bd hN
  have hTl := hN.tot
  rw [e]
  generalize allU (fun v => decide (v = 1)) L = B at hyes hno ⊢
  obtain ⟨M, hM⟩ : ∃ M, M = T + 1 := ⟨_, rfl⟩
  have tl : (tabN T (uw L)).length = M := by rw [tabN_length, hM]
  have hget : ∀ k : Nat, k < M → (tabN T (uw L)).getD k 0 = uw L k := fun k hk => tabN_get (by omega)
  unfold Copied at hU
  rw [tl] at hU
  generalize tabN T (uw L) = X at hU tl hget
  generalize uw L = f at hyes hno hbd hget
  have hMl : (M : Int) ≤ 24001 := by omega
  have hMH : Hid (M = T + 1) := hM
  clear e hn hN hM h
  go_enter Try.func35, Try.ntmps35
  go_wp2_with fail
  refine hU.mono ?_
  rintro e w2 ⟨Y, d, rfl, o, b⟩
  rw [← tl] at o
  have r := intRow_own o
  clear hU o
  go_wp2_with fail
  go_loopw [4] (fun i wr => ∃ k : Nat, k ≤ M ∧ i = .int .i64 k ∧ (∀ j : Nat, j < k → f j = 1) ∧ w2 = wr) (fun i _ => M - (intOf i).toNat)
  case atStart => exact ⟨0, by omega, rfl, fun j hj => by omega, rfl⟩
  case round =>
    obtain ⟨k, hk, rfl, hf, rfl⟩ := hrel
    by_cases hlt : k < M
    · obtain ⟨y, rfl, -, hy⟩ := r k (by omega)
      rw [hget k hlt] at hy
      by_cases h1 : f k = 1
      · have hf2 : Hid (∀ j : Nat, j < k + 1 → f j = 1) := fun j hj => by
          rcases Nat.lt_or_ge j k with h3 | h3
          · exact hf j h3
          · obtain rfl : j = k := by omega
            exact h1
        rw [h1] at hy
        clear hf hyes hno hbd hget r tl h1
        go_wp2
        go_roundw
        case rel => exact ⟨k + 1, by omega, by go_num, hf2.out, by first | rfl | trivial⟩
        case measure => simp [intOf]; omega
      · have hB : B = false := hno k (by have := hMH.out; omega) (decide_eq_false h1)
        clear hf hyes hno hbd hget r tl
        generalize f (k : Int) = v at hy h1
        subst hB
        go_wp2
        go_ret
        exact ⟨rfl, b⟩
    · have hB : B = true := hyes fun j hj => decide_eq_true (hf j (by have := hMH.out; omega))
      clear hf hyes hno hbd hget r tl
      subst hB
      obtain rfl : k = M := by omega
      go_wp2
      go_ret
      exact ⟨rfl, b⟩

theorem specPerfect_any (A : Option Addr) (c n : Nat) (L : List Int) (w : World) (hn : L.length = n) (hm : n ≤ 1000000000) (h : IntRow w A L) :
    Calls Try.prog 20 #[.slice A n c] w (SaysB (perfectB L) w) := by
  have hS := specSet_any A c n L w hn hm h
  cases hs : setB L
  · have e : perfectB L = false := by unfold perfectB; rw [hs]; rfl
    rw [hs] at hS
    rw [e]
    clear e hs h hn
    go_enter Try.func20, Try.ntmps20
    go_wp2_with fail
    refine hS.mono ?_
    rintro e w1 ⟨rfl, q, rfl⟩
    have b := below_drewN (Below.refl w.heap.size w) q
    clear hS
    go_wp2_with fail
    go_ret
    exact ⟨rfl, b⟩
  · obtain ⟨T, hN, hT⟩ := set_num (setB_P hs)
    have hU := fun W (r : IntRow W A L) => specOneWay_any A c n L T W hn hN r
    have e : perfectB L = oneWay L := by unfold perfectB; rw [hs]; rfl
    rw [hs] at hS
    rw [e]
    generalize oneWay L = B at hU ⊢
    clear e hs hn hN
    go_enter Try.func20, Try.ntmps20
    go_wp2_with fail
    refine hS.mono ?_
    rintro e w1 ⟨rfl, q, rfl⟩
    have b := below_drewN (Below.refl w.heap.size w) q
    have hU1 := hU _ (h.keep b)
    clear hS hU h
    generalize w.drewN q = w1 at b hU1 ⊢
    go_wp2_with fail
    refine hU1.mono ?_
    rintro e w2 ⟨rfl, b2⟩
    replace b := below_more b b.size b2
    clear hU1 b2
    go_wp2_with fail
    go_ret
    exact ⟨rfl, b⟩
end Go.Proofs.Ytdnjpekclmiliaa
