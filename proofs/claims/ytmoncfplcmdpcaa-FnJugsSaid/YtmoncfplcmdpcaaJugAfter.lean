/-
  The contracts of the program's act on jugs. Only new memory is written.
-/
import Derived.Test.YtmoncfplcmdpcaaJugBox
import Derived.RegionTactic
import Derived.BigRegion
namespace Go.Proofs.Ytmoncfplcmdpcaa
open Go.ChangeShapes Go.WideShapes Go.ChangeAt Go.RowKit Go.PlainAid

theorem after_any (a b x y act : Int) (w : World) (h : okJ a b x y = true) : Calls Try.prog 30 #[jagg a b x y, .int .i64 act] w (GivesJ a b (aft a b x y act).1 (aft a b x y act).2 w) := by
  rw [okJ_iff] at h
  obtain ⟨h1, h2, h3, h4⟩ := h
  by_cases a1 : act = 1
  · subst a1
    go_enter Try.func30, Try.ntmps30
    go_wp2_with fail
    (try simp only [Exit.inBlock, Exit.then])
    refine bodyPost_ret (v := jagg a b a y) ?_ rfl ⟨rfl, ?_⟩
    · rw [results_cell_one rfl]
      go_simp
    · repeat' (first | exact Below.refl _ _ | refine Below.setCell ?_ (by simp <;> omega) _ | refine Below.alloc ?_ (by simp <;> omega) _)
  by_cases a2 : act = 2
  · subst a2
    clear a1
    go_enter Try.func30, Try.ntmps30
    go_wp2_with fail
    (try simp only [Exit.inBlock, Exit.then])
    refine bodyPost_ret (v := jagg a b x b) ?_ rfl ⟨rfl, ?_⟩
    · rw [results_cell_one rfl]
      go_simp
    · repeat' (first | exact Below.refl _ _ | refine Below.setCell ?_ (by simp <;> omega) _ | refine Below.alloc ?_ (by simp <;> omega) _)
  by_cases a3 : act = 3
  · subst a3
    clear a1 a2
    go_enter Try.func30, Try.ntmps30
    go_wp2_with fail
    (try simp only [Exit.inBlock, Exit.then])
    refine bodyPost_ret (v := jagg a b 0 y) ?_ rfl ⟨rfl, ?_⟩
    · rw [results_cell_one rfl]
      go_simp
    · repeat' (first | exact Below.refl _ _ | refine Below.setCell ?_ (by simp <;> omega) _ | refine Below.alloc ?_ (by simp <;> omega) _)
  by_cases a4 : act = 4
  · subst a4
    clear a1 a2 a3
    go_enter Try.func30, Try.ntmps30
    go_wp2_with fail
    (try simp only [Exit.inBlock, Exit.then])
    refine bodyPost_ret (v := jagg a b x 0) ?_ rfl ⟨rfl, ?_⟩
    · rw [results_cell_one rfl]
      go_simp
    · repeat' (first | exact Below.refl _ _ | refine Below.setCell ?_ (by simp <;> omega) _ | refine Below.alloc ?_ (by simp <;> omega) _)
  by_cases a5 : act = 5
  · subst a5
    clear a1 a2 a3 a4
    have e : aft a b x y 5 = (x - mn x (b - y), y + mn x (b - y)) := rfl
    rw [e]
    have hm : (if b - y < x then b - y else x) = mn x (b - y) := rfl
    have hr : 0 ≤ mn x (b - y) ∧ mn x (b - y) ≤ 20 := by unfold mn; split <;> omega
    generalize mn x (b - y) = m at hm hr
    clear e
    go_enter Try.func30, Try.ntmps30
    go_wp2_with fail
    (try simp only [Exit.inBlock, Exit.then])
    refine bodyPost_ret (v := jagg a b (x - m) (y + m)) ?_ rfl ⟨rfl, ?_⟩
    · rw [results_cell_one rfl]
      go_simp
    · repeat' (first | exact Below.refl _ _ | refine Below.setCell ?_ (by simp <;> omega) _ | refine Below.alloc ?_ (by simp <;> omega) _)
  by_cases a6 : act = 6
  · subst a6
    clear a1 a2 a3 a4 a5
    have e : aft a b x y 6 = (x + mn y (a - x), y - mn y (a - x)) := rfl
    rw [e]
    have hm : (if a - x < y then a - x else y) = mn y (a - x) := rfl
    have hr : 0 ≤ mn y (a - x) ∧ mn y (a - x) ≤ 20 := by unfold mn; split <;> omega
    generalize mn y (a - x) = m at hm hr
    clear e
    go_enter Try.func30, Try.ntmps30
    go_wp2_with fail
    (try simp only [Exit.inBlock, Exit.then])
    refine bodyPost_ret (v := jagg a b (x + m) (y - m)) ?_ rfl ⟨rfl, ?_⟩
    · rw [results_cell_one rfl]
      go_simp
    · repeat' (first | exact Below.refl _ _ | refine Below.setCell ?_ (by simp <;> omega) _ | refine Below.alloc ?_ (by simp <;> omega) _)
  have e : aft a b x y act = (x, y) := by
    unfold aft
    rw [if_neg a1, if_neg a2, if_neg a3, if_neg a4, if_neg a5, if_neg a6]
  rw [e]
  clear e
  have z1 : (act == 1) = false := by simp [a1]
  have z2 : (act == 2) = false := by simp [a2]
  have z3 : (act == 3) = false := by simp [a3]
  have z4 : (act == 4) = false := by simp [a4]
  have z5 : (act == 5) = false := by simp [a5]
  have z6 : (act == 6) = false := by simp [a6]
  go_enter Try.func30, Try.ntmps30
  go_wp2_with fail
  (try simp only [Exit.inBlock, Exit.then])
  refine bodyPost_ret (v := jagg a b x y) ?_ rfl ⟨rfl, ?_⟩
  · rw [results_cell_one rfl]
    go_simp
  · repeat' (first | exact Below.refl _ _ | refine Below.setCell ?_ (by simp <;> omega) _ | refine Below.alloc ?_ (by simp <;> omega) _)

end Go.Proofs.Ytmoncfplcmdpcaa
