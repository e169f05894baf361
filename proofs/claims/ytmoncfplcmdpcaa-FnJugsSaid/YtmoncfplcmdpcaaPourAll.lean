/-
  What a pouring of a list of acts answers. No program's walk.
-/
import Derived.Test.YtmoncfplcmdpcaaJugBox
import Derived.Test.YtmoncfplcmdpcaaInts
namespace Go.Proofs.Ytmoncfplcmdpcaa
open Go.ChangeShapes Go.WideShapes Go.ChangeAt Go.RowKit Go.PlainAid

/-- What a pouring of a list of acts answers. -/
def paR (a b x y : Int) (L : List Int) : Option (Int × Int) := if okJ a b x y = true ∧ L.length ≤ 100 then run (stp a b) (x, y) L else none
def paS (a b x y : Int) (L : List Int) : Int × Int := (paR a b x y L).getD (x, y)
def paO (a b x y : Int) (L : List Int) : Bool := (paR a b x y L).isSome
theorem pa_yes {a b x y : Int} {L : List Int} {t : Int × Int} (h : okJ a b x y = true) (hl : L.length ≤ 100) (hr : run (stp a b) (x, y) L = some t) : paS a b x y L = t ∧ paO a b x y L = true := by
  unfold paS paO paR
  rw [if_pos ⟨h, hl⟩, hr]
  exact ⟨rfl, rfl⟩
theorem pa_no {a b x y : Int} {L : List Int} (h : okJ a b x y = true → L.length ≤ 100 → run (stp a b) (x, y) L = none) : paS a b x y L = (x, y) ∧ paO a b x y L = false := by
  have e : paR a b x y L = none := by
    unfold paR
    split
    · rename_i g
      exact h g.1 g.2
    · rfl
  unfold paS paO
  rw [e]
  exact ⟨rfl, rfl⟩
theorem run_take {S : Type} {st : S → Int → Option S} {s : S} {L : List Int} {k : Nat} (hk : k < L.length) {t : S} (h : run st s (L.take k) = some t) : run st s (L.take (k + 1)) = st t (L.getD k 0) := by
  rw [List.take_succ_eq_append_getElem hk, run_snoc, h, List.getD_eq_getElem?_getD, List.getElem?_eq_getElem hk]
  rfl
theorem run_stuck {S : Type} {st : S → Int → Option S} {s : S} {L : List Int} {k : Nat} (h : run st s (L.take k) = none) : run st s L = none := by
  rw [← List.take_append_drop k L, run_app, h]
  rfl
theorem pour_stp {a b : Int} {s : Int × Int} {act : Int} : (pO a b s.1 s.2 act = true ∧ stp a b s act = some (pS a b s.1 s.2 act)) ∨ (pO a b s.1 s.2 act = false ∧ stp a b s act = none) := by
  unfold stp
  rcases h : pO a b s.1 s.2 act with _ | _
  · exact .inr ⟨rfl, rfl⟩
  · refine .inl ⟨rfl, ?_⟩
    have : okJ a b s.1 s.2 = true := by
      unfold pO at h
      rw [Bool.and_eq_true] at h
      exact h.1
    unfold pS
    rw [if_pos rfl, if_pos this]
theorem pour_bad {a b x y act : Int} (h : okJ a b x y = false) : pO a b x y act = false := by unfold pO; rw [h]; rfl
end Go.Proofs.Ytmoncfplcmdpcaa
