/-
  A struct of two structs of two cells each, by value, opened: the value written out, each cell with its reading. No program's walk.
-/
import Derived.Lib.SmallJoins
import Derived.Test.YtploanbnbkhciaaChecked
namespace Go.Proofs.Ytploanbnbkhciaa
open Go.ChangeShapes Go.WideShapes Go.ChangeAt Go.RowKit Go.Joins
variable {H : Type} {enc : TypeId × Value → H} {P : Program} {w : World} {base : Nat} {spare : Nat → Bool} {held : Bool}

theorem open_agg22 {r : Reach} {b0 : Nat} {t : TypeId} {f0 f1 g0 g1 : Field} {v : Value} {d : DataW H} {p : List MemPlace} (hs : P.underlying t = some (.struct #[f0, f1]))
    (s0 : P.underlying f0.type = some (.struct #[g0, g1])) (s1 : P.underlying f1.type = some (.struct #[g0, g1])) (ho : f0.offset = 0 ∧ f1.offset = 2 ∧ g0.offset = 0 ∧ g1.offset = 1)
    (hC : P.cellsOf t = 4 ∧ P.cellsOf f0.type = 2 ∧ P.cellsOf f1.type = 2 ∧ P.cellsOf g0.type = 1 ∧ P.cellsOf g1.type = 1)
    (hv : Value.okWide P w r b0 t v) (h : DataW.Trod enc P w base spare held t v d p) :
    ∃ (v0 v1 v2 v3 : Value) (y0 y1 y2 y3 : DataW H × List MemPlace) (n m : Nat), v = .agg #[v0, v1, v2, v3] ∧ d = .agg [.agg [y0.1, y1.1], .agg [y2.1, y3.1]] ∧ p = (y0.2 ++ y1.2) ++ (y2.2 ++ y3.2) ∧
      DataW.trod enc P w base spare held n g0.type [v0] = some y0 ∧ DataW.trod enc P w base spare held n g1.type [v1] = some y1 ∧
      DataW.trod enc P w base spare held m g0.type [v2] = some y2 ∧ DataW.trod enc P w base spare held m g1.type [v3] = some y3 := by
  obtain ⟨o0, o1, o2, o3⟩ := ho
  obtain ⟨k, k0, k1, k2, k3⟩ := hC
  obtain ⟨cs, rfl, hsz⟩ := okWide_struct hs hv
  obtain ⟨c0, c1, c2, c3, rfl⟩ := array4 (hsz.trans k)
  obtain ⟨fuel, hf⟩ := h
  obtain ⟨y, z, n, hx, _, h0, h1⟩ := trod_struct2 hs hf
  have h0' : DataW.trod enc P w base spare held n f0.type [c0, c1] = some y := by simpa [Value.cells, o0, k0] using h0
  have h1' : DataW.trod enc P w base spare held n f1.type [c2, c3] = some z := by simpa [Value.cells, o1, k1] using h1
  obtain ⟨y0, y1, n0, hy, _, a0, a1⟩ := trod_struct2 s0 h0'
  obtain ⟨y2, y3, n1, hz, _, b0, b1⟩ := trod_struct2 s1 h1'
  simp only [Prod.mk.injEq] at hx
  subst hy hz
  exact ⟨c0, c1, c2, c3, y0, y1, y2, y3, n0, n1, rfl, hx.1, hx.2, by simpa [o2, k2] using a0, by simpa [o3, k3] using a1, by simpa [o2, k2] using b0, by simpa [o3, k3] using b1⟩
end Go.Proofs.Ytploanbnbkhciaa
