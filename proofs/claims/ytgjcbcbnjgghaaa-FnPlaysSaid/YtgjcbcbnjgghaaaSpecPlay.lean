/-
  The contracts of the model's functions on play: the check, a step, the whole path. Only new memory is written.
-/
import Derived.Test.YtgjcbcbnjgghaaaPlay
import Derived.Test.YtgjcbcbnjgghaaaOwnMore
import Derived.Test.YtgjcbcbnjgghaaaOwnOne
import Derived.Test.YtgjcbcbnjgghaaaSpillOne
import Derived.OwnWalk
import Derived.Lib.Hide
import Derived.BigRegion
import Derived.BigQuiet
import Derived.Deep.RegionLaw
namespace Go.Proofs.Ytgjcbcbnjgghaaa
open Go.ChangeShapes Go.WideShapes Go.ChangeAt Go.RowKit Go.PlainAid

theorem playOk_h {h s : Int} (g : ¬ (0 ≤ h ∧ h ≤ 100)) : playOk h s = false := by unfold playOk; rw [decide_eq_false g]; rfl
theorem playOk_s {h s : Int} (g : 0 ≤ h ∧ h ≤ 100) : playOk h s = decide (-10000 ≤ s ∧ s ≤ 10000) := by unfold playOk; rw [decide_eq_true g]; rfl

theorem specOk_to (x : Bool) (h s : Int) (w : World) (e : playOk h s = x) : Calls Try.prog 18 #[.int .i64 h, .int .i64 s] w fun e w' => e = .returned (.bool x) ∧ w = w' := by
  subst e
  by_cases g : 0 ≤ h ∧ h ≤ 100
  · have hP := in_to true h 0 100 w (decide_eq_true g)
    have hS := in_to (decide (-10000 ≤ s ∧ s ≤ 10000)) s (-10000) 10000 w rfl
    rw [playOk_s g]
    generalize decide (-10000 ≤ s ∧ s ≤ 10000) = z at hS ⊢
    clear g
    go_enter Try.func18, Try.ntmps18
    go_wp2_with fail
    refine hP.mono ?_
    rintro en w2 ⟨rfl, rfl⟩
    go_wp2_with fail
    refine hS.mono ?_
    rintro en w2 ⟨rfl, rfl⟩
    go_wp2_with fail
    go_ret
    exact ⟨rfl, rfl⟩
  · have hP := in_to false h 0 100 w (decide_eq_false g)
    rw [playOk_h g]
    clear g
    go_enter Try.func18, Try.ntmps18
    go_wp2_with fail
    refine hP.mono ?_
    rintro en w2 ⟨rfl, rfl⟩
    go_wp2_with fail
    go_ret
    exact ⟨rfl, rfl⟩

theorem specStep_any (h s x : Int) (w : World) : Calls Try.prog 19 #[.int .i64 h, .int .i64 s, .int .i64 x] w (TellsI (stepV h s x) w) := by
  by_cases g1 : 0 ≤ h ∧ h ≤ 100
  · have hP := in_to true h 0 100 w (decide_eq_true g1)
    by_cases g2 : -20000 ≤ s ∧ s ≤ 20000
    · have hS := in_to true s (-20000) 20000 w (decide_eq_true g2)
      by_cases g3 : -20000 ≤ x ∧ x ≤ 20000
      · have hX := in_to true x (-20000) 20000 w (decide_eq_true g3)
        rw [stepV_yes ⟨g1, g2, g3⟩]
        go_enter Try.func19, Try.ntmps19
        go_wp2_with fail
        refine hP.mono ?_
        rintro en w2 ⟨rfl, rfl⟩
        go_wp2_with fail
        refine hS.mono ?_
        rintro en w2 ⟨rfl, rfl⟩
        go_wp2_with fail
        refine hX.mono ?_
        rintro en w2 ⟨rfl, rfl⟩
        go_wp2_with fail
        all_goals
          go_ret
          exact ⟨ret_int (by unfold dragV; repeat' split
                             all_goals omega), rfl⟩
      · have hX := in_to false x (-20000) 20000 w (decide_eq_false g3)
        rw [stepV_no (fun g => g3 g.2.2)]
        go_enter Try.func19, Try.ntmps19
        go_wp2_with fail
        refine hP.mono ?_
        rintro en w2 ⟨rfl, rfl⟩
        go_wp2_with fail
        refine hS.mono ?_
        rintro en w2 ⟨rfl, rfl⟩
        go_wp2_with fail
        refine hX.mono ?_
        rintro en w2 ⟨rfl, rfl⟩
        go_wp2_with fail
        go_ret
        exact ⟨rfl, rfl⟩
    · have hS := in_to false s (-20000) 20000 w (decide_eq_false g2)
      rw [stepV_no (fun g => g2 g.2.1)]
      go_enter Try.func19, Try.ntmps19
      go_wp2_with fail
      refine hP.mono ?_
      rintro en w2 ⟨rfl, rfl⟩
      go_wp2_with fail
      refine hS.mono ?_
      rintro en w2 ⟨rfl, rfl⟩
      go_wp2_with fail
      go_ret
      exact ⟨rfl, rfl⟩
  · have hP := in_to false h 0 100 w (decide_eq_false g1)
    rw [stepV_no (fun g => g1 g.1)]
    go_enter Try.func19, Try.ntmps19
    go_wp2_with fail
    refine hP.mono ?_
    rintro en w2 ⟨rfl, rfl⟩
    go_wp2_with fail
    go_ret
    exact ⟨rfl, rfl⟩

/-- A list with a number out of the range, and one all of whose numbers are in it. -/
theorem inp_no {L : List Int} {n : Nat} (hn : L.length = n) (ha : allIn (-10000) 10000 L = false) (h : ∀ j, j < n → -10000 ≤ L.getD j 0 ∧ L.getD j 0 ≤ 10000) : False := by
  have := allIn_iff.2 (fun j (hj : j < L.length) => h j (by omega))
  rw [ha] at this
  cases this

set_option maxRecDepth 100000 in
set_option maxHeartbeats 1000000 in
theorem specAll_any (h s : Int) (A : Option Addr) (c n : Nat) (L : List Int) (w : World) (hn : L.length = n) (hm : n ≤ 1000000000) (r : IntRow w A L) :
    Calls Try.prog 20 #[.int .i64 h, .int .i64 s, .slice A n c] w (Copied (pathA h s L) w) := by
  obtain ⟨i0, hi, hj0, hj1, hj2⟩ := info_parts Try.infoIntT
  have hE := ((Own.none w).empty).copied
  obtain ⟨X, hX⟩ : ∃ X, pathA h s L = X := ⟨_, rfl⟩
  rw [hX]
  replace hX := Lib.hid hX
  rcases ha : allIn (-10000) 10000 L with _ | _
  · obtain rfl : X = [] := hX.out.symm.trans (pathA_no (fun g => by rw [(playP_iff.1 g).2.2] at ha; cases ha))
    clear hX
    have hno := Lib.hid (inp_no hn ha)
    clear ha
    go_enter Try.func20, Try.ntmps20
    go_wp2_with fail
    go_loopw [7] (fun i wr => ∃ k : Nat, k ≤ n ∧ i = .int .i64 k ∧ Hid (∀ j, j < k → -10000 ≤ L.getD j 0 ∧ L.getD j 0 ≤ 10000) ∧ w = wr) (fun i _ => n - (intOf i).toNat)
    case atStart => exact ⟨0, by omega, rfl, Lib.hid (fun j hj => by omega), rfl⟩
    case round =>
      obtain ⟨k, hk, rfl, hall, rfl⟩ := hrel
      by_cases hlt : k < n
      · have hki : (k : Int) < n := by omega
        obtain ⟨x, rfl, hx0, hx⟩ := r k (by omega)
        obtain ⟨z, hz⟩ : ∃ z, L.getD k 0 = z := ⟨_, rfl⟩
        rw [hz] at hx
        replace hz := Lib.hid hz
        by_cases g : -10000 ≤ z ∧ z ≤ 10000
        · have hZ := in_to true z (-10000) 10000 w (decide_eq_true g)
          have hall2 : Hid (∀ j, j < k + 1 → -10000 ≤ L.getD j 0 ∧ L.getD j 0 ≤ 10000) := Lib.hid fun j hj => by
            rcases Nat.lt_or_ge j k with h1 | h1
            · exact hall.out j h1
            · obtain rfl : j = k := by omega
              rw [hz.out]; exact g
          clear hall r
          go_wp2_with fail
          refine hZ.mono ?_
          rintro en w2 ⟨rfl, rfl⟩
          go_wp2_with fail
          go_roundw
          case rel => exact ⟨k + 1, by omega, by go_num, hall2, trivial⟩
          case measure => simp [intOf]; omega
        · have hZ := in_to false z (-10000) 10000 w (decide_eq_false g)
          clear hall r
          go_wp2_with fail
          refine hZ.mono ?_
          rintro en w2 ⟨rfl, rfl⟩
          clear hZ
          go_wp2_with fail
          go_ret
          exact hE
      · obtain rfl : k = n := by omega
        exact (hno.out hall.out).elim
  · have hall := Lib.hid (allIn_iff.1 ha)
    go_enter Try.func20, Try.ntmps20
    go_wp2_with fail
    go_loopw [7] (fun i wr => ∃ k : Nat, k ≤ n ∧ i = .int .i64 k ∧ w = wr) (fun i _ => n - (intOf i).toNat)
    case atStart => exact ⟨0, by omega, rfl, rfl⟩
    case round =>
      obtain ⟨k, hk, rfl, rfl⟩ := hrel
      by_cases hlt : k < n
      · have hki : (k : Int) < n := by omega
        obtain ⟨x, rfl, hx0, hx⟩ := r k (by omega)
        have hz := hall.out k (by omega)
        generalize L.getD k 0 = z at hx hz
        have hZ := in_to true z (-10000) 10000 w (decide_eq_true hz)
        clear hall r ha
        go_wp2_with fail
        refine hZ.mono ?_
        rintro en w2 ⟨rfl, rfl⟩
        go_wp2_with fail
        go_roundw
        case rel => exact ⟨k + 1, by omega, by go_num, trivial⟩
        case measure => simp [intOf]; omega
      · obtain rfl : k = n := by omega
        have hki : ¬ (k : Int) < k := by omega
        rcases ho : playOk h s with _ | _
        · obtain rfl : X = [] := hX.out.symm.trans (pathA_no (fun g => by rw [(playP_iff.1 g).1] at ho; cases ho))
          clear hX
          have hO := specOk_to false h s w ho
          clear hall r ha ho
          go_wp2_with fail
          refine hO.mono ?_
          rintro en w2 ⟨rfl, rfl⟩
          clear hO
          go_wp2_with fail
          go_ret
          exact hE
        · have hO := specOk_to true h s w ho
          by_cases h6 : 60 < k
          · obtain rfl : X = [] := hX.out.symm.trans (pathA_no (fun g => by have := g.2.1; omega))
            clear hX
            have h6i : (60 : Int) < k := by omega
            clear hall r ha ho h6 hn
            go_wp2_with fail
            refine hO.mono ?_
            rintro en w2 ⟨rfl, rfl⟩
            clear hO
            go_wp2_with fail
            go_ret
            exact hE
          · have g : playP h s L := playP_iff.2 ⟨ho, by omega, ha⟩
            obtain rfl : X = pathTo h s L k := hX.out.symm.trans ((pathA_yes g).trans (by rw [hn]))
            clear hX
            have h6i : ¬ (60 : Int) < k := by omega
            have hsi := Lib.hid (sh_in g)
            have O := own_one (Own.none w) s
            have hS := fun a z W => specStep_any h a z W
            clear hall ha ho hE g
            replace r := Lib.hid r
            replace hn := Lib.hid hn
            go_wp2_with fail
            refine hO.mono ?_
            rintro en w2 ⟨rfl, rfl⟩
            clear hO
            go_wp2_with fail
            go_loopw [8, 9] (fun v i wr => ∃ j : Nat, j ≤ k ∧ i = .int .i64 j ∧ Own w wr [irow v (pathTo h s L j)]) (fun _ i _ => k - (intOf i).toNat)
            case atStart => exact ⟨0, by omega, rfl, O⟩
            case round =>
              clear O
              obtain ⟨j, hj, rfl, O⟩ := hrel
              by_cases hlt : j < k
              · have hjk : (j : Int) < k := by omega
                have hl := pathTo_len h s L j
                have hsucc := Lib.hid (pathTo_succ h s L j)
                have hget := pathTo_get (h := h) (s := s) (L := L) (Nat.le_refl j)
                obtain ⟨g, c2, hv⟩ := own_form O (by omega)
                rw [hl] at hv
                subst hv
                have hc := O.cell hl (show j < j + 1 by omega)
                rw [hget] at hc
                obtain ⟨x, rfl, hx0, hx⟩ := r.out j (by rw [hn.out]; exact hlt)
                replace hx := (O.bel.cell (by rw [addr_add_block]; exact hx0)).trans hx
                replace hS := hS (sh h s L j) (L.getD j 0)
                have hsz := O.bel.size
                generalize pathTo h s L j = P at O hl hsucc
                generalize sh h s L j = a at hc hS hsucc
                generalize L.getD j 0 = z at hx hS hsucc
                generalize stepV h a z = t at hS hsucc
                replace hl := Lib.hid hl
                have hin : (j : Int) < (j : Int) + 1 := by omega
                have Od := O.drew 1
                clear r hget hx0 hsi
                go_wp2_with fail
                go_region_law (first
                  | (refine step_append_spill _ rfl (.tmp 41) (.tmp 52) 24 rfl w.heap.size 3 i0 (.int .i64 0) Try.underlying24 hi hj0 hj1 hj2 rfl _ (j + 1) _ rfl (h1.alloc _) ⟨w2.heap.size, 0, none⟩ 1 (.int .i64 t) rfl (new_one w2 _ _) rfl (by omega) (by simp; omega) ?_; intro v' w3 o1 g1 a1 _)
                  | (go_simp; go_at_call 19; refine (hS _).mono ?_; rintro en w2 ⟨rfl, hw⟩; have O2 : Own w w2 [irow (.slice (some ⟨g, 0, none⟩) (j + 1) c2) P] := (by subst hw; exact Od); have h1 : w2.ownsRow w.heap.size 3 1 (.slice (some ⟨g, 0, none⟩) (j + 1) c2) (j + 1) (ints P) := (by have o := O2.hd; rw [← hl.out]; rw [← hl.out] at o; exact o); have hs2 := O2.bel.size; clear hw))
                all_goals
                  have o2 : w3.ownsRow w.heap.size 3 1 v' (P.length + 1) (ints P ++ [.int .i64 t]) := by rw [hl.out]; exact o1
                  have O3 := O2.iapp o2 g1 a1
                  rw [← hsucc.out] at O3
                  clear o1 o2 g1 a1 O2 hc Od O hx h1 hs2 hsucc
                  go_wp2_with fail
                  go_roundw
                  case rel => exact ⟨j + 1, by omega, by go_num, O3⟩
                  case measure => simp [intOf]; omega
              · obtain rfl : j = k := by omega
                have hjj : ¬ (j : Int) < j := by omega
                have hc := O.copied
                clear O r hS
                go_wp2_with fail
                go_ret
                exact hc
end Go.Proofs.Ytgjcbcbnjgghaaa
