/-
  The contract of the laws' own question whether a list has a number, for one that it has. Nothing but draws.
-/
import Derived.Test.YtmbhldpbgcfnmaaInts
namespace Go.Proofs.Ytmbhldpbgcfnmaa
open Go.ChangeShapes Go.WideShapes Go.ChangeAt Go.RowKit Go.PlainAid

theorem has_yes (A : Option Addr) (n c : Nat) (y : Int) (L : List Int) (w : World) (hn : L.length = n) (hm : n ≤ 1000000000) (h : IntRow w A L) (hy : y ∈ L) :
    Calls Try.prog 15 #[.slice A n c, .int .i64 y] w (Quiet true w) := by
  obtain ⟨j, hj, hz⟩ : ∃ j, j < n ∧ L.getD j 0 = y := by
    obtain ⟨j, hj, e⟩ := List.getElem_of_mem hy
    exact ⟨j, by omega, by rw [List.getD_eq_getElem?_getD, List.getElem?_eq_getElem hj]; exact e⟩
  clear hy
  go_enter Try.func15, Try.ntmps15
  go_wp2
  go_loopw [5] (fun i wr => ∃ k q : Nat, k ≤ j ∧ i = .int .i64 k ∧ wr = w.drewN q) (fun i _ => n - (intOf i).toNat)
  case atStart => exact ⟨0, 0, by omega, rfl, rfl⟩
  case round =>
    obtain ⟨k, q, hk, rfl, rfl⟩ := hrel
    obtain ⟨x, rfl, -, hc⟩ := h k (by omega)
    have hki : (k : Int) < n := by omega
    by_cases hlt : L.getD k 0 = y
    · rw [hlt] at hc
      clear h hz hlt
      go_wp2
      go_ret
      exact ⟨rfl, _, rfl⟩
    · have hkj : k < j := by
        rcases Nat.lt_or_ge k j with g | g
        · exact g
        · obtain rfl : k = j := by omega
          exact absurd hz hlt
      clear h hz
      generalize L.getD k 0 = z at hc hlt
      go_wp2
      go_roundw
      case rel => exact ⟨k + 1, _, by omega, by go_num, rfl⟩
      case measure => simp [intOf]; omega
end Go.Proofs.Ytmbhldpbgcfnmaa
