/-
  Slices of pourings (jugs, and the list of acts that lead to them) of the call's own, and their lists. No program's walk.
-/
import Derived.Test.YtmoncfplcmdpcaaJugRow
import Derived.Test.YtmoncfplcmdpcaaJugDist
namespace Go.Proofs.Ytmoncfplcmdpcaa
open Go.ChangeShapes Go.WideShapes Go.ChangeAt Go.RowKit Go.PlainAid

/-- A pouring: its contents, its list, the slice that the list lies in. -/
abbrev Pg := (Int × Int) × List Int × Value
abbrev pagg (a b x y : Int) (s : Value) : Value := .agg #[.int .i64 a, .int .i64 b, .int .i64 x, .int .i64 y, s]
def pcells (a b : Int) (M : List Pg) : List Value := M.flatMap fun m => [.int .i64 a, .int .i64 b, .int .i64 m.1.1, .int .i64 m.1.2, m.2.2]
theorem pcells_app (a b : Int) (M : List Pg) (m : Pg) : pcells a b (M ++ [m]) = pcells a b M ++ [.int .i64 a, .int .i64 b, .int .i64 m.1.1, .int .i64 m.1.2, m.2.2] := by
  unfold pcells
  rw [List.flatMap_append, List.flatMap_singleton]
theorem pcells_len (a b : Int) : ∀ M : List Pg, (pcells a b M).length = M.length * 5
  | [] => rfl
  | m :: M => by
    have : pcells a b (m :: M) = [.int .i64 a, .int .i64 b, .int .i64 m.1.1, .int .i64 m.1.2, m.2.2] ++ pcells a b M := rfl
    rw [this, List.length_append, pcells_len a b M, List.length_cons]
    simp only [List.length_cons, List.length_nil]
    omega
theorem pcells_get (a b : Int) : ∀ (M : List Pg) (k : Nat) (m : Pg), M[k]? = some m →
    (pcells a b M)[k * 5]? = some (.int .i64 a) ∧ (pcells a b M)[k * 5 + 1]? = some (.int .i64 b) ∧ (pcells a b M)[k * 5 + 2]? = some (.int .i64 m.1.1) ∧ (pcells a b M)[k * 5 + 3]? = some (.int .i64 m.1.2) ∧ (pcells a b M)[k * 5 + 4]? = some m.2.2
  | [], _, _, h => by simp at h
  | m0 :: M, 0, m, h => by
    injection h with h
    subst h
    exact ⟨rfl, rfl, rfl, rfl, rfl⟩
  | m0 :: M, k + 1, m, h => by
    have ih := pcells_get a b M k m h
    have e : pcells a b (m0 :: M) = [.int .i64 a, .int .i64 b, .int .i64 m0.1.1, .int .i64 m0.1.2, m0.2.2] ++ pcells a b M := rfl
    rw [e]
    refine ⟨?_, ?_, ?_, ?_, ?_⟩
    · rw [List.getElem?_append_right (by simp; omega), show (k + 1) * 5 - [(Value.int .i64 a), .int .i64 b, .int .i64 m0.1.1, .int .i64 m0.1.2, m0.2.2].length = k * 5 by simp; omega]; exact ih.1
    · rw [List.getElem?_append_right (by simp; omega), show (k + 1) * 5 + 1 - [(Value.int .i64 a), .int .i64 b, .int .i64 m0.1.1, .int .i64 m0.1.2, m0.2.2].length = k * 5 + 1 by simp; omega]; exact ih.2.1
    · rw [List.getElem?_append_right (by simp; omega), show (k + 1) * 5 + 2 - [(Value.int .i64 a), .int .i64 b, .int .i64 m0.1.1, .int .i64 m0.1.2, m0.2.2].length = k * 5 + 2 by simp; omega]; exact ih.2.2.1
    · rw [List.getElem?_append_right (by simp; omega), show (k + 1) * 5 + 3 - [(Value.int .i64 a), .int .i64 b, .int .i64 m0.1.1, .int .i64 m0.1.2, m0.2.2].length = k * 5 + 3 by simp; omega]; exact ih.2.2.2.1
    · rw [List.getElem?_append_right (by simp; omega), show (k + 1) * 5 + 4 - [(Value.int .i64 a), .int .i64 b, .int .i64 m0.1.1, .int .i64 m0.1.2, m0.2.2].length = k * 5 + 4 by simp; omega]; exact ih.2.2.2.2
/-- A slice of pourings. -/
def prow (v : Value) (a b : Int) (M : List Pg) : Rw := ⟨52, 5, v, M.length, pcells a b M⟩
/-- The slices of their lists. -/
def lrows (M : List Pg) : List Rw := M.map fun m => irow m.2.2 m.2.1
theorem lrows_app (M : List Pg) (m : Pg) : lrows (M ++ [m]) = lrows M ++ [irow m.2.2 m.2.1] := by unfold lrows; rw [List.map_append]; rfl
/-- What is said of them without their slices. -/
def bare (M : List Pg) : List ((Int × Int) × List Int) := M.map fun m => (m.1, m.2.1)
theorem bare_app (M : List Pg) (m : Pg) : bare (M ++ [m]) = bare M ++ [(m.1, m.2.1)] := by unfold bare; rw [List.map_append]; rfl
theorem bare_len (M : List Pg) : (bare M).length = M.length := by unfold bare; rw [List.length_map]

/-- Rows of a later world are rows of an earlier one. -/
theorem Own.early {w w1 wr : World} {R : List Rw} (h : Own w1 wr R) (b : Below w.heap.size w w1) : Own w wr R := by
  have := ((Own.none w).keep b).join h
  rw [List.append_nil] at this
  exact this

/-- What a state's further pourings are answered as. -/
def NextR (a b : Int) (N : List ((Int × Int) × List Int)) (w : World) (e : Ending) (w' : World) : Prop :=
  ∃ v M, bare M = N ∧ e = .returned v ∧ Own w w' (prow v a b M :: lrows M)
theorem bare_get {M : List Pg} {k : Nat} {m : Pg} (h : M[k]? = some m) : (bare M)[k]? = some (m.1, m.2.1) := by unfold bare; rw [List.getElem?_map, h]; rfl
end Go.Proofs.Ytmoncfplcmdpcaa
