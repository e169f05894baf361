/-
  The contract of the program's map of lengths. Only new memory is written.
-/
import Derived.Test.YtokengeaiknmhaaCounted
import Derived.Test.YtokengeaiknmhaaImplRuler
import Derived.OwnWalk
namespace Go.Proofs.Ytokengeaiknmhaa
open Go.ChangeShapes Go.WideShapes Go.ChangeAt Go.RowKit Go.PlainAid Go.Maps

set_option maxRecDepth 100000 in
set_option maxHeartbeats 2000000 in
theorem implCounts_any (A : Option Addr) (c n : Nat) (L : List Int) (w : World) (hn : L.length = n) (hm : n ≤ 9223372036854775807) (hc : n ≤ c) (h : IntRow w A L) :
    Calls Try.prog 35 #[.slice A n c] w (Counts L w) := by
  have hmm := @run_makeMap Try.prog
  have hR := implRuler_any A c n L w hn hm h
  go_enter Try.func35, Try.ntmps35
  go_wp2_with fail
  refine hR.mono ?_
  rintro e w1 ⟨rfl, q, rfl⟩
  have kb := below_drewN (Below.refl w.heap.size w) q
  generalize w.drewN q = w1 at kb ⊢
  clear hR
  rcases hb : rulB L with _ | _
  · clear h
    go_wp2
    go_ret
    exact .inl ⟨hb, rfl, kb⟩
  · have hP := rulB_P hb
    have hn8 := hP.1.1
    rw [hn] at hn8
    have M0 := mapSt_made kb
    have hbH : Hid (rulB L = true) := hb
    clear hb kb
    go_wp2_with fail
    go_loopw [14] (fun i wr => ∃ k : Nat, k ≤ n ∧ i = .int .i64 k ∧ MapSt w wr w1.heap.size (lensTo L k)) (fun i _ => n - (intOf i).toNat)
    case atStart => exact ⟨0, by omega, rfl, M0⟩
    case round =>
      clear M0
      obtain ⟨k, hk, rfl, M⟩ := hrel
      by_cases hlt : k < n
      · rw [← lensAt_zero] at M
        obtain ⟨x, rfl, hx0, hx1⟩ := h k (by omega)
        have hx := (M.bel.cell (by rw [addr_add_block]; exact hx0)).trans hx1
        have hkc : k ≤ c := by omega
        have hkci : (k : Int) ≤ c := by omega
        have hkn : (k : Int) < n := by omega
        have hb1 := (hP.2 k (by omega)).1
        obtain ⟨z, hz⟩ : ∃ z, L.getD k 0 = z := ⟨_, rfl⟩
        rw [hz] at hx hb1
        replace hz : Hid (L.getD k 0 = z) := hz
        clear hx1
        go_wp2_with fail
        go_loopw [23] (fun i wr => ∃ j : Nat, j ≤ k ∧ i = .int .i64 j ∧ MapSt w wr w1.heap.size (lensAt L k j)) (fun i _ => k - (intOf i).toNat)
        case atStart => exact ⟨0, by omega, rfl, M⟩
        case round =>
          clear M hx
          obtain ⟨j, hj, rfl, M⟩ := hrel
          by_cases hjk : j < k
          · obtain ⟨y, hxy, -, hy1⟩ := h j (by omega)
            injection hxy with hxy
            subst hxy
            have d := hP.diff hjk (by omega)
            have es := lensAt_succ (L := L) (k := k) (i := j) (by omega)
            have hy := (M.bel.cell (by rw [addr_add_block]; exact hx0)).trans hy1
            have cl := lensAt_length (L := L) (k := k) (i := j) (by omega) (by omega) (by omega)
            rw [hz.out] at d es
            obtain ⟨v, hv⟩ : ∃ v : Nat, z - L.getD j 0 = v := ⟨(z - L.getD j 0).toNat, by omega⟩
            rw [hv] at d es
            have hb2 := (hP.2 j (by omega)).1
            have hd2 : 0 ≤ (v : Int) ∧ (v : Int) ≤ 60 := by omega
            have hjn : (j : Int) < n := by omega
            have hji : (j : Int) < k := by omega
            clear h hP hx0 hy1 d
            generalize L.getD j 0 = y at hy hv hb2
            generalize lensAt L k j = C at M cl es
            have hcl := List.count_le_length (a := (v : Int)) (l := C)
            go_wp2_with (first
              | (at_lookup; refine wpList_look_counts rfl _ _ _ rfl rfl M rfl (v : Int) rfl (by omega) ?_)
              | (at_mapUpdate; refine wpList_count_more rfl _ _ _ _ rfl rfl M rfl (v : Int) rfl hd2 rfl (by omega) ?_; intro w3 M3; rw [← es] at M3)
              | fail)
            go_roundw
            case rel => exact ⟨j + 1, by omega, by go_num, M3⟩
            case measure => simp [intOf]; omega
          · obtain rfl : j = k := by omega
            rw [lensAt_all] at M
            clear h hP
            go_wp2_with fail
            go_roundw
            case rel => exact ⟨j + 1, by omega, by go_num, M⟩
            case measure => simp [intOf]; omega
      · obtain rfl : k = n := by omega
        rw [← hn] at M
        clear h hP
        go_wp2_with fail
        go_ret
        exact .inr ⟨hbH.out, _, rfl, M⟩
end Go.Proofs.Ytokengeaiknmhaa
