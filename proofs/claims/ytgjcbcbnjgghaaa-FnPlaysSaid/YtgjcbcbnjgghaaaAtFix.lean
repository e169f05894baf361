/-
  The contract of the laws' own number from 0 to 255 taken from the code: the same one in every world that has grown out of the first.
-/
import Derived.Test.YtgjcbcbnjgghaaaAt
namespace Go.Proofs.Ytgjcbcbnjgghaaa
open Go.ChangeShapes Go.WideShapes Go.ChangeAt Go.RowKit Go.PlainAid

theorem at_fix (p : Nat) (a : Option Addr) (len cap : Nat) (i : Int) (w : World) (hm : len ≤ 1048576) (h0 : 0 ≤ i) (h1 : i ≤ 1000000) (h : Bytes w p a len) :
    ∃ z : Int, 0 ≤ z ∧ z ≤ 255 ∧ ∀ v, Below p w v → Calls Try.prog 12 #[.slice a len cap, .int .i64 i] v fun e w' => e = .returned (.int .i64 z) ∧ ∃ q, w' = v.drewN q := by
  rcases Nat.eq_zero_or_pos len with rfl | hp
  · refine ⟨0, by decide, by decide, fun v b => ?_⟩
    clear h hm b
    go_enter Try.func12, Try.ntmps12
    go_wp2_with fail
    go_ret
    exact ⟨rfl, 0, rfl⟩
  · have e : ∃ j : Nat, (i * 5 + 1).tmod (len : Int) = j ∧ j < len := by
      have g0 := Int.tmod_nonneg (len : Int) (show 0 ≤ i * 5 + 1 by omega)
      have g1 := Int.tmod_lt_of_pos (i * 5 + 1) (b := (len : Int)) (by omega)
      exact ⟨((i * 5 + 1).tmod (len : Int)).toNat, by omega, by omega⟩
    obtain ⟨j, hj, hlt⟩ := e
    obtain ⟨x, z, rfl, hb, hx, z0, z1⟩ := h j hlt
    refine ⟨z, z0, z1, fun v b => ?_⟩
    replace hx := (b.cell (by rw [addr_add_block]; exact hb)).trans hx
    have hpi : (0 : Int) < len := by omega
    have hne : ¬ (len : Int) = 0 := by omega
    have hli : (len : Int) ≤ 1048576 := by omega
    clear h hm b hb
    go_enter Try.func12, Try.ntmps12
    go_wp2_with fail
    go_ret
    exact ⟨rfl, 0, rfl⟩
end Go.Proofs.Ytgjcbcbnjgghaaa
