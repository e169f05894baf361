/-
  The contracts of the model's two functions that answer lists of lists.
-/
import Derived.Test.YtdnjpekclmiliaaSpecLists
import Derived.Test.YtdnjpekclmiliaaPerfFacts
import Derived.Test.YtdnjpekclmiliaaRange
import Derived.OwnWalk
namespace Go.Proofs.Ytdnjpekclmiliaa
open Go.ChangeShapes Go.WideShapes Go.ChangeAt Go.RowKit Go.PlainAid

theorem GivesRows.below {LL : List (List Int)} {w wr : World} {e : Ending} {w' : World} (b : Below w.heap.size w wr) (h : GivesRows LL wr e w') : GivesSS LL w e w' := (GivesRows.from b h).gives

theorem specPL_any (m : Int) (w : World) : Calls Try.prog 21 #[.int .i64 m] w (GivesSS (listsP m) w) := by
  have hI := in_any m 1 24 w
  have b := (Below.refl w.heap.size w).alloc (Nat.le_refl _) (.cells #[] 3)
  by_cases hm : 1 ≤ m ∧ m ≤ 24
  · obtain ⟨n, rfl⟩ : ∃ n : Nat, m = n := ⟨m.toNat, by omega⟩
    have e : listsP (n : Int) = plists 25 n [] 0 := listsP_of (by omega)
    have hL := (specLists_any 25 n [] 0 ⟨w.heap.size, 0, none⟩ 0 0 (w.alloc (.cells #[] 3)) rfl head_nil (by omega) (by omega) (by omega) (fun j hj => absurd hj (Nat.not_lt_zero j))).mono fun _ _ h => GivesRows.below b h
    rw [decide_eq_true hm] at hI
    rw [e]
    clear e hm
    generalize plists 25 n [] 0 = X at hL ⊢
    go_enter Try.func21, Try.ntmps21
    go_wp2_with fail
    refine hI.mono ?_
    rintro e w1 ⟨rfl, rfl⟩
    clear hI
    go_wp2_with fail
    refine hL.mono ?_
    rintro e w1 ⟨A, c, rfl, O⟩
    clear hL
    go_wp2_with fail
    go_ret
    exact ⟨A, c, rfl, O⟩
  · have e : listsP m = [] := by unfold listsP; rw [if_neg hm]
    have G : GivesSS [] w (.returned (.slice (some ⟨w.heap.size, 0, none⟩) 0 0)) (w.alloc (.cells #[] 27)) := (OwnSS.empty (Own.none w)).gives
    rw [decide_eq_false hm] at hI
    rw [e]
    clear e hm
    go_enter Try.func21, Try.ntmps21
    go_wp2_with fail
    refine hI.mono ?_
    rintro e w1 ⟨rfl, rfl⟩
    clear hI
    go_wp2_with fail
    go_ret
    exact G

theorem specOF_any (m : Int) (w : World) : Calls Try.prog 25 #[.int .i64 m] w (GivesSS (listsF m) w) := by
  have hI := in_any m 2 100 w
  have b := (Below.refl w.heap.size w).alloc (Nat.le_refl _) (.cells #[] 3)
  by_cases hm : 2 ≤ m ∧ m ≤ 100
  · obtain ⟨n, rfl⟩ : ∃ n : Nat, m = n := ⟨m.toNat, by omega⟩
    have e : listsF (n : Int) = facs 7 n [] := listsF_of (by omega)
    have hL := (specFacs_any 7 n [] ⟨w.heap.size, 0, none⟩ 0 0 (w.alloc (.cells #[] 3)) rfl (by omega) (by omega) (by omega) (by
      have : (2 : Nat) ^ 7 = 128 := by decide
      omega) (by omega) (fun j hj => absurd hj (Nat.not_lt_zero j))).mono fun _ _ h => GivesRows.below b h
    rw [decide_eq_true hm] at hI
    rw [e]
    clear e hm
    generalize facs 7 n [] = X at hL ⊢
    go_enter Try.func25, Try.ntmps25
    go_wp2_with fail
    refine hI.mono ?_
    rintro e w1 ⟨rfl, rfl⟩
    clear hI
    go_wp2_with fail
    refine hL.mono ?_
    rintro e w1 ⟨A, c, rfl, O⟩
    clear hL
    go_wp2_with fail
    go_ret
    exact ⟨A, c, rfl, O⟩
  · have e : listsF m = [] := by unfold listsF; rw [if_neg hm]
    have G : GivesSS [] w (.returned (.slice (some ⟨w.heap.size, 0, none⟩) 0 0)) (w.alloc (.cells #[] 27)) := (OwnSS.empty (Own.none w)).gives
    rw [decide_eq_false hm] at hI
    rw [e]
    clear e hm
    go_enter Try.func25, Try.ntmps25
    go_wp2_with fail
    refine hI.mono ?_
    rintro e w1 ⟨rfl, rfl⟩
    clear hI
    go_wp2_with fail
    go_ret
    exact G
end Go.Proofs.Ytdnjpekclmiliaa
