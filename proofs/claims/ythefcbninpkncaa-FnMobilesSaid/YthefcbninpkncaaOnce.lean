/-
  The contract of a draw's coin: 'once' answers some bool. The cursor stands, nothing else is written.
-/
import Derived.Test.YthefcbninpkncaaBelow
namespace Go.Proofs.Ythefcbninpkncaa
open Go.ChangeShapes Go.WideShapes Go.ChangeAt Go.RowKit

/-- What 'once' does: some bool. -/
def DrawnBool (w : World) (p : Nat) (a : Option Addr) (len cap : Nat) (e : Ending) (w' : World) : Prop :=
  ∃ b : Bool, e = .returned (.bool b) ∧ Cur w' p a len cap ∧ w.grownBy w' (some p)

theorem once_any (n : Int) (p len cap : Nat) (a : Option Addr) (w : World) (C : Cur w p a len cap) :
    Calls Try.prog 47 #[.pointer (some ⟨p, 0, none⟩), .int .i64 n] w (DrawnBool w p a len cap) := by
  go_enter Try.func47, Try.ntmps47
  go_wp2_with (go_at_call 46; refine (below_any n p len cap a _ C).mono ?_; rintro e w' ⟨x, hx, rfl, C', g'⟩; clear hx)
  go_ret
  exact ⟨_, rfl, C', g'⟩

end Go.Proofs.Ythefcbninpkncaa
