/-
  The contract of the program's copy of a slice of ints, an empty one and nil too. Only new memory is written.
-/
import Derived.Test.YtmoncfplcmdpcaaAppendAny
import Derived.Test.YtmoncfplcmdpcaaOwnMore
namespace Go.Proofs.Ytmoncfplcmdpcaa
open Go.ChangeShapes Go.WideShapes Go.ChangeAt Go.RowKit Go.PlainAid

theorem implCopyRow_any (A : Option Addr) (c n : Nat) (H : List Int) (w : World) (hn : H.length = n) (hm : n ≤ 1000000000) (hA : A = none → n = 0 ∧ c = 0) (h : IntRow w A H) :
    Calls Try.prog 34 #[.slice A n c] w (Copied H w) := by
  obtain ⟨i0, hi, hz0, hz1, hz2⟩ := info_parts Try.infoIntT
  have hN : ∀ ad, A = some ad → ∀ j u, (ints H)[j]? = some u → w.cell? (ad.add j) = some u := fun ad he j u hu => by
    have hj : j < H.length := by
      have := (List.getElem?_eq_some_iff.1 hu).1
      rw [ints_length] at this
      exact this
    obtain ⟨x, hx, -, hc⟩ := h j hj
    rw [he] at hx
    injection hx with hx
    subst hx
    rw [ints_get hj] at hu
    rw [hc]; exact hu
  have h1 := ints_one H
  have h2 := ints_length H
  have hadd : ∀ v' w', w'.ownsRow w.heap.size 3 1 v' (0 + n) ([] ++ ints H) → w.grownBy w' (Value.ownBlock (.slice none 0 0)) → Copied H w (.returned v') w' := fun v' w' o1 g1 => by
    rw [List.nil_append, Nat.zero_add] at o1
    subst hn
    exact own_copied rfl o1 ((Below.refl w.heap.size w).grown g1 (Nat.le_refl _) (fun k e => by cases e))
  rw [hn] at h2
  clear h
  generalize ints H = xs at hN h1 h2 hadd
  clear hn
  go_enter Try.func34, Try.ntmps34
  go_wp2_with (at_builtin; refine wpList_append_any _ rfl (.const (.slice none 0 0)) (.tmp 3) 25 rfl w.heap.size 3 i0 (.int .i64 0) 1 8 Try.underlying25 hi hz0 hz1 hz2 rfl (by decide) (.slice none 0 0) 0 [] rfl (World.ownsRow_nil _ _ _ _) A n c xs rfl (by rw [h2, Nat.mul_one]) hA hN h1 (by unfold maxLen; omega) (by omega) (Nat.le_refl _) ?_; intro v1 w1 o1 g1 a1; have O1 := hadd v1 w1 o1 g1; clear o1 g1 a1)
  go_ret
  exact O1
end Go.Proofs.Ytmoncfplcmdpcaa
