/-
  The contract of the model's check of the numbers of a load. Nothing is written.
-/
import Derived.Test.YthedoijceeeinaaRange
namespace Go.Proofs.Ythedoijceeeinaa
open Go.ChangeShapes Go.WideShapes Go.ChangeAt Go.RowKit Go.PlainAid

def signsB (L : List Int) : Bool := allIn (-1) 1 L

theorem specSigns_any (A : Option Addr) (c n : Nat) (L : List Int) (w : World) (hn : L.length = n) (hm : n ≤ 1000000000) (h : IntRow w A L) :
    Calls Try.prog 31 #[.slice A n c] w (Tells (signsB L) w) := by
  go_enter Try.func31, Try.ntmps31
  go_wp2
  go_loopw [3] (fun i wr => ∃ k : Nat, k ≤ n ∧ i = .int .i64 k ∧ (∀ j, j < k → -1 ≤ L.getD j 0 ∧ L.getD j 0 ≤ 1) ∧ wr = w) (fun i _ => n - (intOf i).toNat)
  case atStart => exact ⟨0, by omega, rfl, fun j hj => by omega, rfl⟩
  case round =>
    obtain ⟨k, hk, rfl, hall, rfl⟩ := hrel
    by_cases hlt : k < n
    · obtain ⟨x, rfl, -, hc⟩ := h k (by omega)
      by_cases hin : -1 ≤ L.getD k 0 ∧ L.getD k 0 ≤ 1
      · have hI := in_to true (L.getD k 0) (-1) 1 wr (decide_eq_true hin)
        have hall2 : ∀ j, j < k + 1 → -1 ≤ L.getD j 0 ∧ L.getD j 0 ≤ 1 := fun j hj => by
          rcases Nat.lt_or_ge j k with hj2 | hj2
          · exact hall j hj2
          · obtain rfl : j = k := by omega
            exact hin
        clear h hall hin
        generalize L.getD k 0 = z at hc hI
        go_wp2_with fail
        refine hI.mono ?_
        rintro e w' ⟨rfl, rfl⟩
        clear hI hc
        go_wp2
        go_roundw
        case rel => exact ⟨k + 1, by omega, by go_num, hall2, by first | rfl | trivial⟩
        case measure => simp [intOf]; omega
      · have hI := in_to false (L.getD k 0) (-1) 1 wr (decide_eq_false hin)
        have hb : signsB L = false := allIn_no (j := k) (by omega) hin
        have hend : Tells (signsB L) wr (.returned (.bool false)) wr := ⟨by rw [hb], rfl⟩
        clear h hall hin hb
        generalize L.getD k 0 = z at hc hI
        go_wp2_with fail
        refine hI.mono ?_
        rintro e w' ⟨rfl, rfl⟩
        clear hI hc
        go_wp2
        go_ret
        exact hend
    · obtain rfl : k = n := by omega
      have ha : signsB L = true := allIn_iff.2 (by rw [hn]; exact hall)
      have hend : Tells (signsB L) wr (.returned (.bool true)) wr := ⟨by rw [ha], rfl⟩
      clear h hall ha hn
      go_wp2
      go_ret
      exact hend
end Go.Proofs.Ythedoijceeeinaa
