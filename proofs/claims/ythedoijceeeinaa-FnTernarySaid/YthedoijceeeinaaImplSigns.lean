/-
  The contract of the program's check of the numbers of a load. Nothing is written.
-/
import Derived.Test.YthedoijceeeinaaSigns
namespace Go.Proofs.Ythedoijceeeinaa
open Go.ChangeShapes Go.WideShapes Go.ChangeAt Go.RowKit Go.PlainAid

theorem implSigns_any (A : Option Addr) (c n : Nat) (L : List Int) (w : World) (hn : L.length = n) (hm : n ≤ 1000000000) (h : IntRow w A L) :
    Calls Try.prog 34 #[.slice A n c] w (Tells (signsB L) w) := by
  go_enter Try.func34, Try.ntmps34
  go_wp2
  go_loopw [7] (fun i wr => ∃ k : Nat, k ≤ n ∧ i = .int .i64 k ∧ (∀ j, j < k → -1 ≤ L.getD j 0 ∧ L.getD j 0 ≤ 1) ∧ w = wr) (fun i _ => n - (intOf i).toNat)
  case atStart => exact ⟨0, by omega, rfl, fun j hj => by omega, rfl⟩
  case round =>
    obtain ⟨k, hk, rfl, hall, rfl⟩ := hrel
    by_cases hlt : k < n
    · obtain ⟨x, rfl, -, hc⟩ := h k (by omega)
      by_cases hin : L.getD k 0 = 1 ∨ L.getD k 0 = 0 ∨ L.getD k 0 = -1
      · have hall2 : ∀ j, j < k + 1 → -1 ≤ L.getD j 0 ∧ L.getD j 0 ≤ 1 := fun j hj => by
          rcases Nat.lt_or_ge j k with hj2 | hj2
          · exact hall j hj2
          · obtain rfl : j = k := by omega
            omega
        clear h hall
        generalize L.getD k 0 = z at hc hin
        rcases hin with rfl | rfl | rfl
        all_goals
          go_wp2
          go_roundw
          case rel => exact ⟨k + 1, by omega, by go_num, hall2, by first | rfl | trivial⟩
          case measure => simp [intOf]; omega
      · have hb : signsB L = false := allIn_no (j := k) (by omega) (by omega)
        have hend : Tells (signsB L) w (.returned (.bool false)) w := ⟨by rw [hb], rfl⟩
        clear h hall hb
        generalize L.getD k 0 = z at hc hin
        have z1 : (z != 1) = true := by simp; omega
        have z2 : (z != 0) = true := by simp; omega
        have z3 : (z != -1) = true := by simp; omega
        clear hin
        go_wp2
        go_ret
        exact hend
    · obtain rfl : k = n := by omega
      have ha : signsB L = true := allIn_iff.2 (by rw [hn]; exact hall)
      have hend : Tells (signsB L) w (.returned (.bool true)) w := ⟨by rw [ha], rfl⟩
      clear h hall ha hn
      go_wp2
      go_ret
      exact hend
end Go.Proofs.Ythedoijceeeinaa
