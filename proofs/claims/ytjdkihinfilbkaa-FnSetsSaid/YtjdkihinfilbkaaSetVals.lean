/-
  The contracts of the model's other functions on sets of weights. Nothing but new memory is written.
-/
import Derived.Test.YtjdkihinfilbkaaSetSums
namespace Go.Proofs.Ytjdkihinfilbkaa
open Go.ChangeShapes Go.WideShapes Go.ChangeAt Go.RowKit Go.PlainAid

def oneB (L : List Int) (n : Int) : Bool := setB L && decide (0 < wysL false L n)
def twoB (L : List Int) (n : Int) : Bool := setB L && decide (0 < wysL true L n)
def waysI (L : List Int) (n : Int) : Int := if setB L then wysL true L n else 0
def reachOf (two : Bool) (L : List Int) : Int := reachF (wysL two L) (sumL L).toNat 0
def reachI (L : List Int) (p : Int) : Int := if setB L && decide (1 ≤ p ∧ p ≤ 2) then reachOf (decide (p = 2)) L else 0
def leastI (L : List Int) : Int := if setB L then reachI L 1 + 1 else 0

theorem set_total {L : List Int} (h : SetP L) : ∃ T : Nat, sumL L = T ∧ T ≤ 8000 := by
  have := set_sum h L.length
  rw [sumL_all] at this
  exact ⟨(sumL L).toNat, by omega, by omega⟩
theorem wysL_le {L : List Int} (h : SetP L) (two : Bool) (n : Int) : 0 ≤ wysL two L n ∧ wysL two L n ≤ 6561 := by
  refine ⟨wys_nonneg _ _ _ _, Int.le_trans (wys_le _ _ _ _) ?_⟩
  have : L.length = 1 ∨ L.length = 2 ∨ L.length = 3 ∨ L.length = 4 ∨ L.length = 5 ∨ L.length = 6 ∨ L.length = 7 ∨ L.length = 8 := by have := h.1; omega
  rcases this with e | e | e | e | e | e | e | e <;> (rw [e]; decide)
theorem wysL_far {L : List Int} (h : SetP L) (two : Bool) (n : Int) (hn : n < -(sumL L) ∨ sumL L < n) : wysL two L n = 0 :=
  wysL_out two L (fun j hj => by have := set_pos h j hj; omega) n hn

theorem specWays_any (two : Bool) (m : Int) (A : Option Addr) (c n : Nat) (L : List Int) (w : World) (hn : L.length = n) (hP : SetP L) (h : IntRow w A L) :
    Calls Try.prog 34 #[.slice A n c, .bool two, .int .i64 m] w (SaysI (wysL two L m) w) := by
  obtain ⟨T, hT, hT8⟩ := set_total hP
  have hS := specSums_any two A c n L T w hn hP hT h
  have hfar := wysL_far hP two m
  obtain ⟨M, hM⟩ : ∃ M, M = 2 * T + 1 := ⟨_, rfl⟩
  have tl : (tab T (wysL two L)).length = M := by rw [tab_length, hM]
  have q1 : (M : Int) / 2 = T := by omega
  have q2 : (M : Int).tdiv 2 = T := by rw [Int.tdiv_eq_ediv_of_nonneg (by omega)]; exact q1
  have hrow : ∀ (a : Nat) (Y : Option Addr) (W : World), IntRow W Y (tab T (wysL two L)) → (a : Int) = m + T → m ≤ T → ∃ y, Y = some y ∧ W.cell? (y.add a) = some (.int .i64 (wysL two L m)) := fun a Y W r h1 h2 => by
    by_cases h3 : a < M
    · obtain ⟨y, hy, -, hc⟩ := r a (by rw [tl]; exact h3)
      rw [tab_at h1 h2] at hc
      exact ⟨y, hy, hc⟩
    · omega
  clear h hP
  generalize wysL two L m = v at hfar hrow ⊢
  unfold Copied at hS
  rw [tl] at hS
  generalize tab T (wysL two L) = X at hS hrow tl
  have hTi : (T : Int) ≤ 8000 := by omega
  have hT0 : (0 : Int) ≤ T := by omega
  by_cases hin : -(T : Int) ≤ m ∧ m ≤ T
  · obtain ⟨a, ha⟩ : ∃ a : Nat, (a : Int) = m + T := ⟨(m + T).toNat, by omega⟩
    have ha2 : (T : Int) + m = a := by omega
    have haM : a < M := by omega
    have haMi : (a : Int) < M := by omega
    have hI := fun W => in_to true m (-(T : Int)) T W (decide_eq_true hin)
    have hm1 := hin.1
    have hm2 := hin.2
    clear hfar hin hM hT hT8
    go_enter Try.func34, Try.ntmps34
    go_wp2_with fail
    refine hS.mono ?_
    rintro e w1 ⟨Y, d, rfl, o, b⟩
    rw [← tl] at o
    obtain ⟨y, rfl, hy⟩ := hrow a Y w1 (intRow_own o) ha hm2
    clear hS hrow o tl ha
    go_wp2_with fail
    refine (hI _).mono ?_
    rintro e w2 ⟨rfl, rfl⟩
    clear hI
    go_wp2_with fail
    go_ret
    exact ⟨rfl, b⟩
  · have hI := fun W => in_to false m (-(T : Int)) T W (decide_eq_false hin)
    rw [hfar (by omega)]
    clear hfar hin hM hT hT8 hrow
    go_enter Try.func34, Try.ntmps34
    go_wp2_with fail
    refine hS.mono ?_
    rintro e w1 ⟨Y, d, rfl, o, b⟩
    clear hS o
    go_wp2_with fail
    refine (hI _).mono ?_
    rintro e w2 ⟨rfl, rfl⟩
    clear hI
    go_wp2_with fail
    go_ret
    exact ⟨rfl, b⟩
end Go.Proofs.Ytjdkihinfilbkaa
