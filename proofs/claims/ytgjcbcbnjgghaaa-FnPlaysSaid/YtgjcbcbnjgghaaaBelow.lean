/-
  Contracts of the draws' functions in verifier/spec: a number drawn below n is from 0 to n - 1, and 0 where n is not above 0; a new draw begins with its cursor. The cursor stands, nothing else is written.
-/
import Derived.Test.YtgjcbcbnjgghaaaByte
namespace Go.Proofs.Ytgjcbcbnjgghaaa
open Go.ChangeShapes Go.WideShapes Go.ChangeAt Go.RowKit

theorem below_mod (x n : Int) (h : 0 < n) : (n ≤ 0 → x % n = 0) ∧ (0 < n → 0 ≤ x % n ∧ x % n < n) :=
  ⟨fun h' => by omega, fun _ => ⟨Int.emod_nonneg _ (by omega), Int.emod_lt_of_pos _ h⟩⟩

theorem below_any (n : Int) (p len cap : Nat) (a : Option Addr) (w : World) (C : Cur w p a len cap) :
    Calls Try.prog 28 #[.pointer (some ⟨p, 0, none⟩), .int .i64 n] w (Drawn (fun x => (n ≤ 0 → x = 0) ∧ (0 < n → 0 ≤ x ∧ x < n)) w p a len cap) := by
  by_cases hn : n ≤ 0
  · go_enter Try.func28, Try.ntmps28
    go_wp2_with fail
    go_ret
    exact ⟨0, ⟨fun _ => rfl, fun h => by omega⟩, rfl, C, World.grownBy.refl w _⟩
  · have hp : 0 < n := by omega
    by_cases h2 : n ≤ 256
    · go_enter Try.func28, Try.ntmps28
      go_wp2_with (go_at_call 34; refine (byte_any p len cap a _ C).mono ?_; rintro e w' ⟨x, ⟨x0, x1⟩, rfl, C', g'⟩)
      go_ret
      exact ⟨x % n, below_mod x n hp, rfl, C', g'⟩
    · go_enter Try.func28, Try.ntmps28
      go_wp2_with fail
      refine (byte_any p len cap a _ C).mono ?_
      rintro e w1 ⟨x, ⟨x0, x1⟩, rfl, C1, g1⟩
      go_wp2_with fail
      refine (byte_any p len cap a _ C1).mono ?_
      rintro e w2 ⟨y, ⟨y0, y1⟩, rfl, C2, g2⟩
      go_wp2_with fail
      refine (byte_any p len cap a _ C2).mono ?_
      rintro e w3 ⟨z, ⟨z0, z1⟩, rfl, C3, g3⟩
      go_wp2_with fail
      refine (byte_any p len cap a _ C3).mono ?_
      rintro e w4 ⟨v, ⟨v0, v1⟩, rfl, C4, g4⟩
      go_wp2_with fail
      go_ret
      exact ⟨_, below_mod (x * 16777216 + y * 65536 + z * 256 + v) n hp, rfl, C4, grown_trans (grown_trans (grown_trans g1 g2) g3) g4⟩

/-- What a new draw does: a cursor in a block of its own, the last that there is; nothing else has turned. -/
def DrawNew (w : World) (a : Option Addr) (len cap : Nat) (e : Ending) (w' : World) : Prop :=
  e = .returned (.pointer (some ⟨w.heap.size, 0, none⟩)) ∧ Cur w' w.heap.size a len cap ∧ Below w.heap.size w w' ∧ w'.heap.size = w.heap.size + 1

theorem new_end (a : Option Addr) (len cap : Nat) (w : World) (hl : len ≤ 1048576) (hr : Bytes w w.heap.size a len) (g : Int) :
    DrawNew w a len cap (.returned (.pointer (some ⟨w.heap.size, 0, none⟩))) (w.alloc (.cells #[.slice a len cap, .int .i64 0, .int .i64 g] 47)) :=
  ⟨rfl, ⟨hl, ⟨0, g, by omega, heap_alloc_new w _⟩, hr.keep fun k hk => Below.heap_alloc w _ k hk⟩, (Below.refl _ _).alloc (Nat.le_refl _) _, by simp⟩

theorem new_any (a : Option Addr) (len cap : Nat) (w : World) (hl : len ≤ 1048576) (hr : Bytes w w.heap.size a len) :
    Calls Try.prog 27 #[.slice a len cap] w (DrawNew w a len cap) := by
  have HE := new_end a len cap w hl hr
  go_enter Try.func27, Try.ntmps27
  go_wp2
  go_loop [3, 4] (fun h i => ∃ (k : Nat) (g : Int), k ≤ len ∧ h = .int .i64 g ∧ i = .int .i64 k) (fun _ i => len - (intOf i).toNat)
  case atStart => exact ⟨0, _, by omega, rfl, rfl⟩
  case round =>
    obtain ⟨k, g, hk, rfl, rfl⟩ := hrel
    by_cases hlt : k < len
    · obtain ⟨x, z, rfl, hx, hc, h0, h1⟩ := hr k hlt
      clear hr
      by_cases h4 : (k : Int) < 4000
      · go_wp2
        go_round
        case rel => exact ⟨k + 1, _, by omega, rfl, by go_num⟩
        case measure => simp [intOf]; omega
      · go_wp2
        go_ret
        exact HE g
    · go_wp2
      go_ret
      exact HE g
end Go.Proofs.Ytgjcbcbnjgghaaa
