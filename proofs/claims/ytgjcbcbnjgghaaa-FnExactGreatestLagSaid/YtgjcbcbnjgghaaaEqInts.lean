/-
  The contract of the exact laws' own comparison of slices of ints: equal slices compare equal. No condition but that the slices are short.
-/
import Derived.Test.YtgjcbcbnjgghaaaInts
namespace Go.Proofs.Ytgjcbcbnjgghaaa
open Go.ChangeShapes Go.WideShapes Go.ChangeAt Go.RowKit Go.PlainAid

theorem eqInts_same (A A' : Option Addr) (n c c' : Nat) (L : List Int) (w : World) (hn : L.length = n) (hm : n ≤ 1000000000) (h : IntRow w A L) (h' : IntRow w A' L) :
    Calls Try.prog 22 #[.slice A n c, .slice A' n c'] w (Quiet true w) := by
  go_enter Try.func22, Try.ntmps22
  go_wp2
  go_loopw [5] (fun i wr => ∃ k q : Nat, k ≤ n ∧ i = .int .i64 k ∧ wr = w.drewN q) (fun i _ => n - (intOf i).toNat)
  case atStart => exact ⟨0, 0, by omega, rfl, rfl⟩
  case round =>
    obtain ⟨k, q, hk, rfl, rfl⟩ := hrel
    by_cases hlt : k < n
    · obtain ⟨x, rfl, -, hc⟩ := h k (by omega)
      obtain ⟨y, rfl, -, hc'⟩ := h' k (by omega)
      clear h h'
      generalize L.getD k 0 = z at hc hc'
      go_wp2
      go_quiet (fail)
      go_wp2
      go_roundw
      case rel => exact ⟨k + 1, _, by omega, by go_num, rfl⟩
      case measure => simp [intOf]; omega
    · clear h h'
      go_wp2
      go_ret
      exact ⟨rfl, _, rfl⟩
end Go.Proofs.Ytgjcbcbnjgghaaa
