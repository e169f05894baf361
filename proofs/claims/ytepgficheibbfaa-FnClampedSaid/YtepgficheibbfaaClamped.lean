/-
  The law on clamped numbers: its draw answers three ints; the law returns true. No condition.
-/
import Derived.Test.YtepgficheibbfaaNumber
import Derived.Test.YtepgficheibbfaaClamp
namespace Go.Proofs.Ytepgficheibbfaa
open Go.ChangeShapes Go.WideShapes Go.ChangeAt Go.RowKit

def DrawnThree (B : Nat) (w : World) (e : Ending) (w' : World) : Prop := ∃ n a b : Int, e = .returned (.tuple #[.int .i64 n, .int .i64 a, .int .i64 b]) ∧ Below B w w'

theorem drawClamp_any (B : Nat) (a : Option Addr) (len cap : Nat) (w : World) (hB : B = w.heap.size) (hl : len ≤ 1048576) (hr : Bytes w w.heap.size a len) :
    Calls Try.prog 9 #[.slice a len cap] w (DrawnThree B w) := by
  go_enter Try.func9, Try.ntmps9
  go_wp2_with fail
  refine (new_any a len cap w hl hr).mono ?_
  rintro e w0 ⟨rfl, C0, b0, s0⟩
  have bel : ∀ w2 : World, w0.grownBy w2 (some w.heap.size) → Below B w w2 := fun w2 g => hB ▸ b0.trans (below_of_grown g (Nat.le_refl _) (by omega))
  clear b0 s0 hr hl hB
  generalize w.heap.size = p at C0 bel ⊢
  go_wp2_with fail
  refine (once_any 4 p len cap a _ C0).mono ?_
  rintro e w1 ⟨q, rfl, C1, g1⟩
  cases q
  · go_wp2_with fail
    refine (below_any 40 p len cap a _ C1).mono ?_
    rintro e w2 ⟨x, ⟨-, hx⟩, rfl, C2, g2⟩
    obtain ⟨x0, x1⟩ := hx (by omega)
    clear hx
    go_wp2_with fail
    refine (below_any 80 p len cap a _ C2).mono ?_
    rintro e w3 ⟨y, ⟨-, hy⟩, rfl, C3, g3⟩
    obtain ⟨y0, y1⟩ := hy (by omega)
    clear hy
    go_wp2_with fail
    refine (below_any 30 p len cap a _ C3).mono ?_
    rintro e w4 ⟨z, ⟨-, hz⟩, rfl, C4, g4⟩
    obtain ⟨z0, z1⟩ := hz (by omega)
    clear hz
    go_wp2_with fail
    go_ret3
    exact ⟨_, _, _, rfl, bel _ (grown_trans (grown_trans (grown_trans g1 g2) g3) g4)⟩
  · go_wp2_with fail
    refine (number_any p len cap a _ C1).mono ?_
    rintro e w2 ⟨x, -, rfl, C2, g2⟩
    go_wp2_with fail
    refine (number_any p len cap a _ C2).mono ?_
    rintro e w3 ⟨y, -, rfl, C3, g3⟩
    go_wp2_with fail
    refine (number_any p len cap a _ C3).mono ?_
    rintro e w4 ⟨z, -, rfl, C4, g4⟩
    go_wp2_with fail
    go_ret3
    exact ⟨_, _, _, rfl, bel _ (grown_trans (grown_trans (grown_trans g1 g2) g3) g4)⟩

theorem clamp_to (n lo hi r : Int) (w : World) (h : clampI n lo hi = r) :
    Calls Try.prog 10 #[.int .i64 n, .int .i64 lo, .int .i64 hi] w fun e w' => e = .returned (.int .i64 r) ∧ w = w' := h ▸ impl_clamp n lo hi w

theorem clamped_small (a : Option Addr) (len cap : Nat) (w : World) (hl : len ≤ 1048576) (hr : Bytes w w.heap.size a len) :
    Calls Try.prog 3 #[.slice a len cap] w fun e w' => e = .returned (.bool true) ∧ Below w.heap.size w w' := by
  have hb : ¬ (1048576 : Int) < len := by omega
  go_enter Try.func3, Try.ntmps3
  go_wp2_with (go_at_call 8; go_in)
  refine (drawClamp_any w.heap.size a len cap w rfl hl hr).mono ?_
  rintro e w1 ⟨n, lo, hi, rfl, b1⟩
  have k5 : clampI 7 3 5 = 5 := by decide
  clear hl hr hb
  by_cases h1 : hi < lo
  · have k1 : clampI n lo hi = lo := by unfold clampI; rw [if_pos (Or.inl h1)]
    have K1 := fun w => clamp_to n lo hi lo w k1
    have K5 := fun w => clamp_to 7 3 5 5 w k5
    clear k1 k5
    go_wp2_with (first | (go_at_call 10; (with_reducible refine (K1 _).mono ?_); rintro e w' ⟨rfl, rfl⟩) | (go_at_call 10; (with_reducible refine (K5 _).mono ?_); rintro e w' ⟨rfl, rfl⟩))
    go_ret
    exact ⟨rfl, b1⟩
  · obtain ⟨r, k1, r1, r2, rc⟩ : ∃ r, clampI n lo hi = r ∧ lo ≤ r ∧ r ≤ hi ∧ (n < lo ∨ (¬ n < lo ∧ hi < n) ∨ (¬ n < lo ∧ ¬ hi < n ∧ r = n)) := by
      refine ⟨_, rfl, ?_⟩
      unfold clampI
      repeat' split
      all_goals omega
    have k2 : clampI r lo hi = r := by unfold clampI; rw [if_neg (by omega), if_neg (by omega)]
    have K1 := fun w => clamp_to n lo hi r w k1
    have K2 := fun w => clamp_to r lo hi r w k2
    have K5 := fun w => clamp_to 7 3 5 5 w k5
    clear k1 k2 k5
    rcases rc with h2 | ⟨h2, h3⟩ | ⟨h2, h3, rfl⟩
    all_goals
      go_wp2_with (first | (go_at_call 10; (with_reducible refine (K1 _).mono ?_); rintro e w' ⟨rfl, rfl⟩) | (go_at_call 10; (with_reducible refine (K2 _).mono ?_); rintro e w' ⟨rfl, rfl⟩) | (go_at_call 10; (with_reducible refine (K5 _).mono ?_); rintro e w' ⟨rfl, rfl⟩))
      go_ret
      exact ⟨rfl, b1⟩

theorem clamped_big (a : Option Addr) (len cap : Nat) (w : World) (hl : 1048576 < len) (hm : len ≤ 9223372036854775807) :
    Calls Try.prog 3 #[.slice a len cap] w fun e w' => e = .returned (.bool true) ∧ Below w.heap.size w w' := by
  have hb : (1048576 : Int) < len := by omega
  go_enter Try.func3, Try.ntmps3
  go_wp2_with (go_at_call 8; go_in)
  go_ret
  exact ⟨rfl, Below.refl _ _⟩
end Go.Proofs.Ytepgficheibbfaa
