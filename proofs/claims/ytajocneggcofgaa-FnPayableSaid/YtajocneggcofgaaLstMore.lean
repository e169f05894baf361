/-
  A list of ints that a draw appends to: one number to begin with, its form, its cells. No program's walk.
-/
import Derived.Test.YtajocneggcofgaaLst
import Derived.Test.YtajocneggcofgaaVarRow
namespace Go.Proofs.Ytajocneggcofgaa
open Go.ChangeShapes Go.WideShapes Go.ChangeAt Go.RowKit Go.PlainAid

theorem lst_one {w : World} {p : Nat} {a : Option Addr} {len cap : Nat} (C : Cur w p a len cap) (z : Int) : LSt w p a len cap (.slice (some ⟨w.heap.size, 0, .none⟩) 1 1) [z] (w.alloc (.cells #[.int .i64 z] 3)) :=
  ⟨C.alloc _, ownsRow_whole (Nat.le_refl _) rfl (by decide), World.grownBy_alloc w _ _⟩
theorem lst_form {w wr : World} {p : Nat} {a : Option Addr} {len cap : Nat} {v : Value} {xs : List Int} (h : LSt w p a len cap v xs wr) {k : Nat} (hk : xs.length = k + 1) : ∃ g c, v = .slice (some ⟨g, 0, none⟩) (k + 1) c := by
  have o := h.own
  obtain ⟨g, c, hv, -, -⟩ := o.form (by omega)
  exact ⟨g, c, by rw [hv, hk]⟩
theorem lst_cell {w wr : World} {p : Nat} {a : Option Addr} {len cap g c k : Nat} {xs : List Int} (h : LSt w p a len cap (.slice (some ⟨g, 0, none⟩) (k + 1) c) xs wr) (hk : xs.length = k + 1) {z : Int} (hz : Hid (xs.getD k 0 = z)) : wr.cell? ⟨g, k, none⟩ = some (.int .i64 z) := by
  have o := h.own
  rw [hk] at o
  rw [← hz.out]
  exact (o.cellAt k (by omega)).trans (ints_get (by omega))
end Go.Proofs.Ytajocneggcofgaa
