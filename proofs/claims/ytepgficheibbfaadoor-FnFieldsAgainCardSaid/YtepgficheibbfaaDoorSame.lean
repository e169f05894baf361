/-
  The contract of the laws' own comparison of two slices of strings: equal ones compare equal.
-/
import Derived.Test.YtepgficheibbfaaDoorRows
import Derived.Test.YtepgficheibbfaaDoorBase
import Derived.WalkKit
import Derived.ProofKit
import Derived.OpenShut
import Derived.PlainAid
import Derived.Deep.QuietTactic
import Derived.BigQuiet
import Derived.Deep.AppendLies
namespace Go.Proofs.YtepgficheibbfaaDoor
open Go.ChangeShapes Go.WideShapes Go.ChangeAt Go.RowKit Go.PlainAid

/-- The slice reads as these strings. -/
def StrRow (w : World) (A : Option Addr) (n : Nat) (xs : List ByteArray) : Prop :=
  ∀ j, j < n → ∃ x, A = some x ∧ w.cell? (x.add j) = some (.string (xs.getD j ByteArray.empty))

theorem add_zero_block (g j : Nat) : (⟨g, 0, none⟩ : Addr).add j = ⟨g, j, none⟩ := by unfold Addr.add; split <;> simp_all

theorem strRow_own {w : World} {base n c : Nat} {T : TypeId} {A : Option Addr} {xs : List ByteArray} (h : w.ownsRow base T 1 (.slice A n c) n (xs.map Value.string)) : StrRow w A n xs := fun j hj => by
  obtain ⟨g, cap, hv, _⟩ := h.form (by omega)
  have hA : A = some ⟨g, 0, none⟩ := by injection hv
  subst hA
  have hl : xs.length = n := by have := h.1; simpa using this
  have hx : (xs.map Value.string)[j]? = some (.string (xs.getD j ByteArray.empty)) := by
    rw [List.getElem?_map, List.getD_eq_getElem?_getD, List.getElem?_eq_getElem (by omega)]; rfl
  exact ⟨_, rfl, h.cells (g := g) rfl j _ hx⟩

theorem strRow_below {B : Nat} {w w' : World} {base n c : Nat} {T : TypeId} {A : Option Addr} {xs : List ByteArray} (h : w.ownsRow base T 1 (.slice A n c) n (xs.map Value.string)) (hb : Below B w w') (hB : w.heap.size ≤ B) : StrRow w' A n xs := fun j hj => by
  obtain ⟨x, hA, hc⟩ := strRow_own h j hj
  have hlt := lt_of_cell hc
  exact ⟨x, hA, (hb.cell (by omega)).trans hc⟩

def Quiet (b : Bool) (w : World) (e : Ending) (w' : World) : Prop := e = .returned (.bool b) ∧ ∃ q, w' = w.drewN q

theorem sameTexts_same (A A' : Option Addr) (n c c' : Nat) (xs : List ByteArray) (w : World) (hn : n ≤ 1000000) (h : StrRow w A n xs) (h' : StrRow w A' n xs) :
    Calls Tryd.prog 18 #[.slice A n c, .slice A' n c'] w (Quiet true w) := by
  go_enter Tryd.func18, Tryd.ntmps18
  go_wp2
  go_loopw [5] (fun i wr => ∃ k q : Nat, k ≤ n ∧ i = .int .i64 k ∧ wr = w.drewN q) (fun i _ => n - (intOf i).toNat)
  case atStart => exact ⟨0, 0, by omega, rfl, rfl⟩
  case round =>
    obtain ⟨k, q, hk, rfl, rfl⟩ := hrel
    by_cases hlt : k < n
    · obtain ⟨x, rfl, hc⟩ := h k hlt
      obtain ⟨y, rfl, hc'⟩ := h' k hlt
      clear h h'
      generalize xs.getD k ByteArray.empty = z at hc hc'
      go_wp2
      go_quiet (fail)
      go_wp2
      go_roundw
      case rel => exact ⟨k + 1, _, by omega, by go_num, rfl⟩
      case measure => simp [intOf]; omega
    · clear h h'
      go_wp2
      go_ret
      exact ⟨rfl, _, rfl⟩

end Go.Proofs.YtepgficheibbfaaDoor
