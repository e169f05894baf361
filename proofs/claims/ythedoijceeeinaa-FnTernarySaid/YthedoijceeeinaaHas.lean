/-
  The contract of the laws' own question whether a list has a number, for one that it does not have. Nothing but draws.
-/
import Derived.Test.YthedoijceeeinaaInts
namespace Go.Proofs.Ythedoijceeeinaa
open Go.ChangeShapes Go.WideShapes Go.ChangeAt Go.RowKit Go.PlainAid

theorem has_not (A : Option Addr) (n c : Nat) (y : Int) (L : List Int) (w : World) (hn : L.length = n) (hm : n ≤ 1000000000) (h : IntRow w A L) (hy : ∀ z ∈ L, ¬ z = y) :
    Calls Try.prog 13 #[.slice A n c, .int .i64 y] w (Quiet false w) := by
  have hy2 : ∀ k, k < n → ¬ L.getD k 0 = y := fun k hk => hy _ (by rw [List.getD_eq_getElem?_getD, List.getElem?_eq_getElem (by omega)]; exact List.getElem_mem (by omega))
  clear hy
  go_enter Try.func13, Try.ntmps13
  go_wp2
  go_loopw [5] (fun i wr => ∃ k q : Nat, k ≤ n ∧ i = .int .i64 k ∧ wr = w.drewN q) (fun i _ => n - (intOf i).toNat)
  case atStart => exact ⟨0, 0, by omega, rfl, rfl⟩
  case round =>
    obtain ⟨k, q, hk, rfl, rfl⟩ := hrel
    by_cases hlt : k < n
    · obtain ⟨x, rfl, -, hc⟩ := h k (by omega)
      have hz := hy2 k hlt
      clear h hy2
      generalize L.getD k 0 = z at hc hz
      go_wp2
      go_roundw
      case rel => exact ⟨k + 1, _, by omega, by go_num, rfl⟩
      case measure => simp [intOf]; omega
    · clear h hy2
      go_wp2
      go_ret
      exact ⟨rfl, _, rfl⟩
end Go.Proofs.Ythedoijceeeinaa
