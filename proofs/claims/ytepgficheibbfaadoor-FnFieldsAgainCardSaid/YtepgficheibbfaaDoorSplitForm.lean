/-
  The two functions that split a line, together: the same fields, as slices of the call's own.
-/
import Derived.Test.YtepgficheibbfaaDoorImplSplit
namespace Go.Proofs.YtepgficheibbfaaDoor
open Go.ChangeShapes Go.WideShapes Go.ChangeAt Go.RowKit Go.PlainAid

theorem specSplit_any (s : ByteArray) (w : World) (hm : s.size ≤ 9223372036854775807) : Calls Tryd.prog 17 #[.string s] w (Split w.heap.size s w) := by
  by_cases h : 600 < s.size
  · exact specSplit_long s w h hm
  · exact specSplit_short s w (by omega)
theorem implSplit_any (s : ByteArray) (w : World) (hm : s.size ≤ 9223372036854775807) : Calls Tryd.prog 16 #[.string s] w (Split w.heap.size s w) := by
  by_cases h : 600 < s.size
  · exact implSplit_long s w h hm
  · exact implSplit_short s w (by omega)

def SplitForm (B : Nat) (b : Bool) (xs : List ByteArray) (w : World) (e : Ending) (w' : World) : Prop :=
  ∃ A c, e = .returned (.tuple #[.slice A xs.length c, .bool b]) ∧ w'.ownsRow B 9 1 (.slice A xs.length c) xs.length (xs.map Value.string) ∧ Below B w w'
theorem split_form {B : Nat} {s : ByteArray} {w : World} {e : Ending} {w' : World} (h : Split B s w e w') : SplitForm B (okS s) (xsOf s) w e w' := by
  obtain ⟨v, he, hown, hb⟩ := h
  obtain ⟨A, c, rfl⟩ := own_form hown
  exact ⟨A, c, he, hown, hb⟩

end Go.Proofs.YtepgficheibbfaaDoor
