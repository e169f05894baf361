/-
  The draw of arms and an object: from 1 to 20, from 0 to 59. Nothing that was there before is written.
-/
import Derived.Test.YtngegifiekjfbaaBelow
import Derived.Test.YtngegifiekjfbaaFracOk
import Derived.Deep.DeepCutAuto
import Derived.OwnWalk
import Derived.Lib.Hide
namespace Go.Proofs.Ytngegifiekjfbaa
open Go.ChangeShapes Go.WideShapes Go.ChangeAt Go.RowKit Go.PlainAid

/-- Small arms and a small object. -/
def SmallA (a b n : Int) : Prop := (1 ≤ a ∧ a ≤ 20) ∧ (1 ≤ b ∧ b ≤ 20) ∧ (0 ≤ n ∧ n ≤ 59)
/-- What the law's draw answers. -/
def DrawnA (w : World) (en : Ending) (w' : World) : Prop := ∃ a b n : Int, SmallA a b n ∧ en = .returned (.tuple #[.int .i64 a, .int .i64 b, .int .i64 n]) ∧ Below w.heap.size w w'

theorem drawArms_any (a : Option Addr) (len cap : Nat) (w : World) (hl : len ≤ 1048576) (hr : Bytes w w.heap.size a len) :
    Calls Try.prog 11 #[.slice a len cap] w (DrawnA w) := by
  go_enter Try.func11, Try.ntmps11
  go_wp2_with fail
  refine (new_any a len cap _ hl hr).mono ?_
  clear hr
  rintro e w1 ⟨rfl, C1, b1, s1⟩
  have hz := C1.lt
  obtain ⟨p, hp⟩ : ∃ p, w.heap.size = p := ⟨_, rfl⟩
  rw [hp] at C1 b1 hz ⊢
  replace hp := Lib.hid hp
  go_wp2_with fail
  refine (below_any 20 p len cap a _ C1).mono ?_
  rintro e w2 ⟨u, ⟨-, hu⟩, rfl, C2, g1⟩
  obtain ⟨u0, u1⟩ := hu (by omega)
  clear hu C1
  go_wp2_with fail
  refine (below_any 20 p len cap a _ C2).mono ?_
  rintro e w3 ⟨v, ⟨-, hv⟩, rfl, C3, g2⟩
  obtain ⟨v0, v1⟩ := hv (by omega)
  clear hv C2
  go_wp2_with fail
  refine (below_any 60 p len cap a _ C3).mono ?_
  rintro e w4 ⟨n, ⟨-, hn⟩, rfl, C4, g3⟩
  obtain ⟨n0, n1⟩ := hn (by omega)
  clear hn C3 C4
  have g := grown_trans (grown_trans g1 g2) g3
  clear g1 g2 g3
  have hok : SmallA (1 + u) (1 + v) n := ⟨by omega, by omega, by omega⟩
  go_wp2_with fail
  go_ret3
  have hp := hp.out
  refine ⟨_, _, _, hok, rfl, ?_⟩
  rw [hp]
  exact b1.trans (below_of_grown g (Nat.le_refl _) (by omega))
end Go.Proofs.Ytngegifiekjfbaa
