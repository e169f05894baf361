/-
  The law that the program's decimal text is the model's: for every int, where the library's table is as its initialiser lays it (what the tied card ties).
-/
import Derived.Test.YtepgficheibbfaaDoorLaid
namespace Go.Proofs.YtepgficheibbfaaDoor
open Go.ChangeShapes Go.WideShapes Go.ChangeAt Go.RowKit Go.PlainAid

theorem exactFmt_walk (n : Int) (w : World) (h0 : -9223372036854775808 ≤ n) (h1 : n ≤ 9223372036854775807) (htab : Tab w) :
    Calls Tryd.prog 6 #[.int .i64 n] w fun e w' => e = .returned (.bool true) ∧ Below w.heap.size w w' := by
  have hS := specFmt_any n w h0 h1
  have hI := fun W T => implFmt_any n W h0 h1 T
  unfold Text at hS hI
  generalize decS n = x at hS hI
  go_enter Tryd.func6, Tryd.ntmps6
  go_wp2_with fail
  refine hS.mono ?_
  rintro e w1 ⟨rfl, b1⟩
  go_wp2_with fail
  refine (hI w1 (tab_keep htab b1)).mono ?_
  rintro e w2 ⟨rfl, b2⟩
  have b : Below w.heap.size w w2 := b1.trans (b2.mono b1.size)
  clear htab hS hI b1 b2
  go_wp2
  go_ret
  exact ⟨rfl, b⟩
end Go.Proofs.YtepgficheibbfaaDoor
