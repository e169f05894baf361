/-
  A row of one int is built; an empty row is answered. No program's walk.
-/
import Derived.Test.YtgjcbcbnjgghaaaOwn
namespace Go.Proofs.Ytgjcbcbnjgghaaa
open Go.ChangeShapes Go.WideShapes Go.ChangeAt Go.RowKit Go.PlainAid

theorem own_one {w wr : World} {R : List Rw} (h : Own w wr R) (x : Int) : Own w (wr.alloc (.cells #[.int .i64 x] 3)) (irow (.slice (some ⟨wr.heap.size, 0, none⟩) 1 1) [x] :: R) :=
  h.add ((Below.refl _ _).alloc (Nat.le_refl _) _) (World.ownsRow_lit wr #[.int .i64 x] 1 (Nat.le_refl _) (by decide) rfl)
theorem nil_copied {w wr : World} (h : Below w.heap.size w wr) : Copied [] w (.returned (.slice none 0 0)) wr :=
  ⟨none, 0, rfl, World.ownsRow_nil _ _ _ _, h⟩
end Go.Proofs.Ytgjcbcbnjgghaaa
