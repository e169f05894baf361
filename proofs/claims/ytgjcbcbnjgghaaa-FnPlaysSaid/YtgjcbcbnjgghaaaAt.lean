/-
  The contract of the laws' own number from 0 to 255 taken from the code. Nothing but draws.
-/
import Derived.Test.YtgjcbcbnjgghaaaInts
namespace Go.Proofs.Ytgjcbcbnjgghaaa
open Go.ChangeShapes Go.WideShapes Go.ChangeAt Go.RowKit Go.PlainAid

/-- A number from 0 to 255 is answered, the world is as it was but for draws. -/
def AtByte (w : World) (e : Ending) (w' : World) : Prop := ∃ z : Int, 0 ≤ z ∧ z ≤ 255 ∧ e = .returned (.int .i64 z) ∧ ∃ q, w' = w.drewN q

theorem at_val (p : Nat) (a : Option Addr) (len cap : Nat) (i : Int) (w : World) (hm : len ≤ 1048576) (h0 : 0 ≤ i) (h1 : i ≤ 1000000) (h : Bytes w p a len) :
    Calls Try.prog 12 #[.slice a len cap, .int .i64 i] w (AtByte w) := by
  rcases Nat.eq_zero_or_pos len with rfl | hp
  · clear h hm
    go_enter Try.func12, Try.ntmps12
    go_wp2_with fail
    go_ret
    exact ⟨0, by decide, by decide, rfl, 0, rfl⟩
  · have e : ∃ j : Nat, (i * 5 + 1).tmod (len : Int) = j ∧ j < len := by
      have g0 := Int.tmod_nonneg (len : Int) (show 0 ≤ i * 5 + 1 by omega)
      have g1 := Int.tmod_lt_of_pos (i * 5 + 1) (b := (len : Int)) (by omega)
      exact ⟨((i * 5 + 1).tmod (len : Int)).toNat, by omega, by omega⟩
    obtain ⟨j, hj, hlt⟩ := e
    obtain ⟨x, z, rfl, -, hx, z0, z1⟩ := h j hlt
    have hpi : (0 : Int) < len := by omega
    have hne : ¬ (len : Int) = 0 := by omega
    have hli : (len : Int) ≤ 1048576 := by omega
    clear h hm
    go_enter Try.func12, Try.ntmps12
    go_wp2_with fail
    go_ret
    exact ⟨z, z0, z1, rfl, 0, rfl⟩
end Go.Proofs.Ytgjcbcbnjgghaaa
