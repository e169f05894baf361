/-
  The contracts of the program's checks of coins and loads. Nothing is written.
-/
import Derived.Test.YtacfblhmijabgaaLoads
namespace Go.Proofs.Ytacfblhmijabgaa
open Go.ChangeShapes Go.WideShapes Go.ChangeAt Go.RowKit Go.PlainAid

theorem implCoins_any (A : Option Addr) (c n : Nat) (L : List Int) (w : World) (hn : L.length = n) (hm : n ≤ 1000000000) (h : IntRow w A L) :
    Calls Try.prog 19 #[.slice A n c] w (SaysB (coinsB L) w) := by
  by_cases h0 : (n : Int) < 1
  · have hb : coinsB L = false := by unfold coinsB; rw [hn, decide_eq_false (by omega), Bool.and_false]
    rw [hb]
    clear hb h hn
    go_enter Try.func19, Try.ntmps19
    go_wp2
    go_ret
    exact ⟨rfl, Below.refl _ _⟩
  · by_cases h1 : (12 : Int) < n
    · have hb : coinsB L = false := by unfold coinsB; rw [hn, decide_eq_false (by omega), Bool.and_false]
      rw [hb]
      clear hb h hn
      go_enter Try.func19, Try.ntmps19
      go_wp2
      go_ret
      exact ⟨rfl, Below.refl _ _⟩
    · go_enter Try.func19, Try.ntmps19
      go_wp2
      go_loopw [15] (fun i wr => ∃ k : Nat, k ≤ n ∧ i = .int .i64 k ∧ (∀ j, j < k → 0 ≤ L.getD j 0 ∧ L.getD j 0 ≤ 10000) ∧ w = wr) (fun i _ => n - (intOf i).toNat)
      case atStart => exact ⟨0, by omega, rfl, fun j hj => by omega, rfl⟩
      case round =>
        obtain ⟨k, hk, rfl, hall, rfl⟩ := hrel
        by_cases hlt : k < n
        · obtain ⟨x, rfl, -, hc⟩ := h k (by omega)
          by_cases g0 : L.getD k 0 < 0
          · have hb : coinsB L = false := by unfold coinsB; rw [allIn_no (j := k) (by omega) (by omega)]; rfl
            have hend : SaysB (coinsB L) w (.returned (.bool false)) w := ⟨by rw [hb], Below.refl _ _⟩
            clear h hall hb
            generalize L.getD k 0 = z at hc g0
            go_wp2
            go_ret
            exact hend
          · by_cases g1 : 10000 < L.getD k 0
            · have hb : coinsB L = false := by unfold coinsB; rw [allIn_no (j := k) (by omega) (by omega)]; rfl
              have hend : SaysB (coinsB L) w (.returned (.bool false)) w := ⟨by rw [hb], Below.refl _ _⟩
              clear h hall hb
              generalize L.getD k 0 = z at hc g0 g1
              go_wp2
              go_ret
              exact hend
            · have hall2 : ∀ j, j < k + 1 → 0 ≤ L.getD j 0 ∧ L.getD j 0 ≤ 10000 := fun j hj => by
                rcases Nat.lt_or_ge j k with hj2 | hj2
                · exact hall j hj2
                · obtain rfl : j = k := by omega
                  omega
              clear h hall
              generalize L.getD k 0 = z at hc g0 g1
              go_wp2
              go_roundw
              case rel => exact ⟨k + 1, by omega, by go_num, hall2, by first | rfl | trivial⟩
              case measure => simp [intOf]; omega
        · obtain rfl : k = n := by omega
          have ha : coinsB L = true := by
            unfold coinsB
            rw [allIn_iff.2 (by rw [hn]; exact hall), hn, decide_eq_true (by omega)]; rfl
          have hend : SaysB (coinsB L) w (.returned (.bool true)) w := ⟨by rw [ha], Below.refl _ _⟩
          clear h hall ha hn
          go_wp2
          go_ret
          exact hend

theorem implSigns_any (A : Option Addr) (c n : Nat) (L : List Int) (w : World) (hn : L.length = n) (hm : n ≤ 1000000000) (h : IntRow w A L) :
    Calls Try.prog 33 #[.slice A n c] w (Tells (signsB L) w) := by
  go_enter Try.func33, Try.ntmps33
  go_wp2
  go_loopw [7] (fun i wr => ∃ k : Nat, k ≤ n ∧ i = .int .i64 k ∧ (∀ j, j < k → -1 ≤ L.getD j 0 ∧ L.getD j 0 ≤ 1) ∧ w = wr) (fun i _ => n - (intOf i).toNat)
  case atStart => exact ⟨0, by omega, rfl, fun j hj => by omega, rfl⟩
  case round =>
    obtain ⟨k, hk, rfl, hall, rfl⟩ := hrel
    by_cases hlt : k < n
    · obtain ⟨x, rfl, -, hc⟩ := h k (by omega)
      by_cases hin : L.getD k 0 = 1 ∨ L.getD k 0 = 0 ∨ L.getD k 0 = -1
      · have hall2 : ∀ j, j < k + 1 → -1 ≤ L.getD j 0 ∧ L.getD j 0 ≤ 1 := fun j hj => by
          rcases Nat.lt_or_ge j k with hj2 | hj2
          · exact hall j hj2
          · obtain rfl : j = k := by omega
            omega
        clear h hall
        generalize L.getD k 0 = z at hc hin
        rcases hin with rfl | rfl | rfl
        all_goals
          go_wp2
          go_roundw
          case rel => exact ⟨k + 1, by omega, by go_num, hall2, by first | rfl | trivial⟩
          case measure => simp [intOf]; omega
      · have hb : signsB L = false := allIn_no (j := k) (by omega) (by omega)
        have hend : Tells (signsB L) w (.returned (.bool false)) w := ⟨by rw [hb], rfl⟩
        clear h hall hb
        generalize L.getD k 0 = z at hc hin
        have z1 : (z != 1) = true := by simp; omega
        have z2 : (z != 0) = true := by simp; omega
        have z3 : (z != -1) = true := by simp; omega
        clear hin
        go_wp2
        go_ret
        exact hend
    · obtain rfl : k = n := by omega
      have ha : signsB L = true := allIn_iff.2 (by rw [hn]; exact hall)
      have hend : Tells (signsB L) w (.returned (.bool true)) w := ⟨by rw [ha], rfl⟩
      clear h hall ha hn
      go_wp2
      go_ret
      exact hend

theorem implLoad_any (m : Int) (A : Option Addr) (c n : Nat) (L : List Int) (w : World) (hn : L.length = n) (hm : n ≤ 1000000000) (h : IntRow w A L) :
    Calls Try.prog 22 #[.int .i64 m, .slice A n c] w (Tells (loadB m L) w) := by
  by_cases h0 : 1 ≤ m
  · by_cases h1 : m ≤ 12
    · by_cases h2 : (n : Int) = m
      · have hS := implSigns_any A c n L w hn hm h
        have hb : loadB m L = signsB L := by unfold loadB; rw [decide_eq_true ⟨h0, h1⟩, hn, decide_eq_true h2]; rfl
        have hend : Tells (loadB m L) w (.returned (.bool (signsB L))) w := ⟨by rw [hb], rfl⟩
        clear h hn hb
        generalize signsB L = b at hS hend
        go_enter Try.func22, Try.ntmps22
        go_wp2_with fail
        refine hS.mono ?_
        rintro e w' ⟨rfl, rfl⟩
        go_wp2_with fail
        go_ret
        exact hend
      · have hb : loadB m L = false := by unfold loadB; rw [hn, decide_eq_false h2, Bool.and_false, Bool.false_and]
        have hend : Tells (loadB m L) w (.returned (.bool false)) w := ⟨by rw [hb], rfl⟩
        clear h hn hb
        go_enter Try.func22, Try.ntmps22
        go_wp2_with fail
        go_ret
        exact hend
    · have hb : loadB m L = false := by unfold loadB; rw [decide_eq_false (fun g => h1 g.2)]; rfl
      have hend : Tells (loadB m L) w (.returned (.bool false)) w := ⟨by rw [hb], rfl⟩
      clear h hn hb
      go_enter Try.func22, Try.ntmps22
      go_wp2_with fail
      go_ret
      exact hend
  · have hb : loadB m L = false := by unfold loadB; rw [decide_eq_false (fun g => h0 g.1)]; rfl
    have hend : Tells (loadB m L) w (.returned (.bool false)) w := ⟨by rw [hb], rfl⟩
    clear h hn hb
    go_enter Try.func22, Try.ntmps22
    go_wp2_with fail
    go_ret
    exact hend
end Go.Proofs.Ytacfblhmijabgaa
