/-
  The contract of the model's pans for a number: the powers of three, in memory of the call's own.
-/
import Derived.Test.YthedoijceeeinaaTern
import Derived.Test.YthedoijceeeinaaSays
import Derived.OwnWalk
namespace Go.Proofs.Ythedoijceeeinaa
open Go.ChangeShapes Go.WideShapes Go.ChangeAt Go.RowKit Go.PlainAid

/-- The powers of three at the places of these digits. -/
def powsTo (D : List Int) (x : Int) : Nat → List Int
  | 0 => []
  | k + 1 => if D.getD k 0 = x then powsTo D x k ++ [(3 : Int) ^ k] else powsTo D x k
theorem powsTo_length (D : List Int) (x : Int) : ∀ k, (powsTo D x k).length ≤ k
  | 0 => Nat.le_refl _
  | k + 1 => by
    have ih := powsTo_length D x k
    show (if D.getD k 0 = x then powsTo D x k ++ [(3 : Int) ^ k] else powsTo D x k).length ≤ k + 1
    split
    · rw [List.length_append]; simp; omega
    · omega
def powsL (D : List Int) (x : Int) : List Int := powsTo D x D.length
theorem pow3_le : ∀ {k : Nat}, k ≤ 10 → 1 ≤ (3 : Int) ^ k ∧ (3 : Int) ^ k ≤ 59049 := by
  intro k hk
  have : k = 0 ∨ k = 1 ∨ k = 2 ∨ k = 3 ∨ k = 4 ∨ k = 5 ∨ k = 6 ∨ k = 7 ∨ k = 8 ∨ k = 9 ∨ k = 10 := by omega
  rcases this with rfl | rfl | rfl | rfl | rfl | rfl | rfl | rfl | rfl | rfl | rfl <;> decide

def panX (n x : Int) : List Int := if 1 ≤ n then powsL (digsL n) x else []
def panB (n : Int) : Bool := decide (1 ≤ n ∧ n ≤ 29524)
theorem digs_pos {f : Nat} {n : Int} (h : ¬ n = 0) : 0 < (digs (f + 1) n).length := by rw [digs_step f h]; simp

theorem specPans_any (n : Int) (w : World) : Calls Try.prog 24 #[.int .i64 n] w (GivesSSB (panX n (-1)) (panX n 1) (panB n) w) := by
  obtain ⟨i0, hi, hz0, hz1, hz2⟩ := info_parts Try.infoIntT
  have hT0 := (Own.none w).empty.empty.swap
  have es : (w.alloc (.cells #[] 3)).heap.size = w.heap.size + 1 := by simp
  rw [es] at hT0
  by_cases hn : n < 1
  · have e1 : ∀ x, panX n x = [] := fun x => by unfold panX; rw [if_neg (by omega)]
    have e2 : panB n = false := by unfold panB; rw [decide_eq_false (by omega)]
    rw [e1, e1, e2]
    have hend := hT0.gives false
    clear e1 e2 hT0 es
    go_enter Try.func24, Try.ntmps24
    go_wp2_with fail
    go_ret3
    exact hend
  · have hD := specDigits_any n ((w.alloc (.cells #[] 3)).alloc (.cells #[] 3))
    have e1 : ∀ x, panX n x = powsTo (digsL n) x (digsL n).length := fun x => by unfold panX powsL; rw [if_pos (by omega)]
    have e2 : panB n = decide (0 < (digsL n).length) := by
      unfold panB digsL
      by_cases h : n ≤ 29524
      · rw [if_pos (by omega), decide_eq_true (by omega), decide_eq_true (by have : 0 < (digs 10 n).length := digs_pos (by omega); omega)]
      · rw [if_neg (by omega), decide_eq_false (by omega)]; rfl
    have hl : ((digsL n).length : Int) ≤ 10 := by
      have : (digsL n).length ≤ 10 := digsL_length n
      omega
    rw [e1, e1, e2]
    generalize digsL n = D at hD hl
    clear e1 e2 es
    have hend : ∀ u v W, Own w W [irow u (powsTo D (-1) D.length), irow v (powsTo D 1 D.length)] → GivesSSB (powsTo D (-1) D.length) (powsTo D 1 D.length) (decide (0 < D.length)) w (.returned (.tuple #[u, v, .bool (decide (0 < D.length))])) W := fun u v W h => h.gives _
    go_enter Try.func24, Try.ntmps24
    go_wp2_with fail
    refine hD.mono ?_
    rintro e w1 ⟨Y, d, rfl, o, b⟩
    have hT1 : Own w w1 [irow (.slice (some ⟨w.heap.size, 0, none⟩) 0 0) [], irow (.slice (some ⟨w.heap.size + 1, 0, none⟩) 0 0) [], irow (.slice Y D.length d) D] := (hT0.add b o).perm (by exact List.perm_append_comm (l₁ := [_]) (l₂ := [_, _]))
    clear hD hT0 o b
    go_wp2_with fail
    go_loopw [5, 6, 8, 9] (fun u v p i wr => ∃ k : Nat, k ≤ D.length ∧ i = .int .i64 k ∧ p = .int .i64 ((3 : Int) ^ k) ∧ Own w wr [irow u (powsTo D (-1) k), irow v (powsTo D 1 k), irow (.slice Y D.length d) D]) (fun _ _ _ i _ => D.length - (intOf i).toNat)
    case atStart => exact ⟨0, by omega, rfl, rfl, hT1⟩
    case round =>
      clear hT1
      obtain ⟨k, hk, rfl, rfl, hT⟩ := hrel
      by_cases hlt : k < D.length
      · obtain ⟨x, rfl, hx0, hx⟩ := hT.row (v := .slice Y D.length d) (by simp) rfl rfl k hlt
        have l1 : ((powsTo D (-1) k).length : Int) ≤ 10 := by have := powsTo_length D (-1) k; omega
        have l2 : ((powsTo D 1 k).length : Int) ≤ 10 := by have := powsTo_length D 1 k; omega
        have e1 : powsTo D (-1) (k + 1) = if D.getD k 0 = -1 then powsTo D (-1) k ++ [(3 : Int) ^ k] else powsTo D (-1) k := rfl
        have e2 : powsTo D 1 (k + 1) = if D.getD k 0 = 1 then powsTo D 1 k ++ [(3 : Int) ^ k] else powsTo D 1 k := rfl
        have hp : (3 : Int) ^ (k + 1) = 3 * (3 : Int) ^ k := by rw [Int.pow_succ, Int.mul_comm]
        have hb := pow3_le (k := k) (by omega)
        have hsz := hT.bel.size
        clear hend
        generalize D.getD k 0 = z at hx e1 e2
        generalize powsTo D (-1) k = P at hT l1 e1
        generalize powsTo D 1 k = Q at hT l2 e2
        generalize (3 : Int) ^ k = p at hp hb e1 e2
        have h1 := hT.hd
        have h2 := hT.swap.hd
        by_cases z1 : z = -1
        · subst z1
          rw [if_pos rfl] at e1
          rw [if_neg (by decide)] at e2
          go_wp2_with (at_builtin; refine wpList_append_one rfl (.tmp 30) (.tmp 32) 25 rfl w.heap.size 3 i0 (.int .i64 0) Try.underlying25 hi hz0 hz1 hz2 rfl u5 P.length _ rfl (h1.alloc _) ⟨wr.heap.size, 0, none⟩ 1 _ rfl (new_one _ _ _) rfl (by omega) (by simp; omega) ?_; intro v' w2 hown1 hg1 hb1)
          have R := hT.iapp hown1 hg1 hb1
          rw [← e1, ← e2] at R
          clear hown1 hg1 hb1 hT e1 e2 h1 h2
          go_wp2
          go_roundw
          case rel => exact ⟨k + 1, by omega, by go_num, by rw [hp], R⟩
          case measure => simp [intOf]; omega
        · by_cases z2 : z = 1
          · subst z2
            rw [if_neg (by decide)] at e1
            rw [if_pos rfl] at e2
            go_wp2_with (at_builtin; refine wpList_append_one rfl (.tmp 36) (.tmp 38) 25 rfl w.heap.size 3 i0 (.int .i64 0) Try.underlying25 hi hz0 hz1 hz2 rfl u6 Q.length _ rfl (h2.alloc _) ⟨wr.heap.size, 0, none⟩ 1 _ rfl (new_one _ _ _) rfl (by omega) (by simp; omega) ?_; intro v' w2 hown1 hg1 hb1)
            have R := (hT.swap.iapp hown1 hg1 hb1).swap
            rw [← e1, ← e2] at R
            clear hown1 hg1 hb1 hT e1 e2 h1 h2
            go_wp2
            go_roundw
            case rel => exact ⟨k + 1, by omega, by go_num, by rw [hp], R⟩
            case measure => simp [intOf]; omega
          · rw [if_neg z1] at e1
            rw [if_neg z2] at e2
            rw [← e1, ← e2] at hT
            clear e1 e2 h1 h2
            go_wp2
            go_roundw
            case rel => exact ⟨k + 1, by omega, by go_num, by rw [hp], hT⟩
            case measure => simp [intOf]; omega
      · obtain rfl : k = D.length := by omega
        have he := fun u v h => hend u v wr h
        have hT2 : Own w wr _ := (hT.perm (List.perm_append_comm (l₁ := [_, _]) (l₂ := [_]))).tl
        replace he := he _ _ hT2
        clear hend hT hT2
        go_wp2
        go_ret3
        exact he
end Go.Proofs.Ythedoijceeeinaa
