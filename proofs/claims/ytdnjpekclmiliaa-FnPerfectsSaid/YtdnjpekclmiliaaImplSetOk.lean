/-
  The contract of the program's check of a set of weights: only draws.
-/
import Derived.Test.YtdnjpekclmiliaaLibOrder
import Derived.BigRegion
namespace Go.Proofs.Ytdnjpekclmiliaa
open Go.ChangeShapes Go.WideShapes Go.ChangeAt Go.RowKit Go.PlainAid

theorem says_quiet {b : Bool} {w w' : World} {q : Nat} (h : w' = w.drewN q) : SaysB b w (.returned (.bool b)) w' := ⟨rfl, by rw [h]; exact below_drewN (Below.refl _ _) q⟩

set_option maxHeartbeats 1000000 in
theorem implSet_any (A : Option Addr) (c n : Nat) (L : List Int) (w : World) (hn : L.length = n) (hm : n ≤ 1000000000) (r : IntRow w A L) :
    Calls Try.prog 30 #[.slice A n c] w (SaysB (setB L) w) := by
  by_cases h0 : n < 1
  · rw [setB_len (by omega)]
    have h0i : (n : Int) < 1 := by omega
    clear hn r
    go_enter Try.func30, Try.ntmps30
    go_wp2
    go_ret
    exact ⟨rfl, Below.refl _ _⟩
  · by_cases h8 : 8 < n
    · rw [setB_len (by omega)]
      have h0i : ¬ (n : Int) < 1 := by omega
      have h8i : (8 : Int) < n := by omega
      clear hn r
      go_enter Try.func30, Try.ntmps30
      go_wp2
      go_ret
      exact ⟨rfl, Below.refl _ _⟩
    · obtain ⟨b, hb, hI⟩ := sorted_in L A c n w hn (by omega) (by omega) r
      have h0i : ¬ (n : Int) < 1 := by omega
      have h8i : ¬ (8 : Int) < n := by omega
      cases b
      · have e : setB L = false := setB_desc fun h => by have := hb.2 h; cases this
        rw [e]
        clear hb e hn r
        go_enter Try.func30, Try.ntmps30
        go_wp2_with fail
        refine hI.mono ?_
        rintro e w1 ⟨rfl, q, rfl⟩
        clear hI
        go_wp2_with fail
        go_ret
        exact says_quiet rfl
      · have e := setB_asc (L := L) (by omega) (hb.1 rfl)
        rw [e]
        obtain ⟨p, hp⟩ : ∃ p, n = p + 1 := ⟨n - 1, by omega⟩
        have hp2 : L.length - 1 = p := by omega
        rw [hp2]
        have hpi : (n : Int) - 1 = (p : Int) := by omega
        have hpn : (p : Int) < n := by omega
        obtain ⟨x, rfl, -, hx⟩ := r 0 (by omega)
        obtain ⟨y, hy, -, hz⟩ := r p (by omega)
        injection hy with hy
        subst hy
        have hx2 : w.cell? x = some (.int .i64 (L.getD 0 0)) := hx
        clear hb e hn r hp hp2
        generalize L.getD 0 0 = u at hx hx2 ⊢
        generalize L.getD p 0 = v at hz ⊢
        by_cases g0 : 1 ≤ u
        · have e2 : decide (1 ≤ u ∧ v ≤ 1000) = decide (v ≤ 1000) := decide_eq_decide.2 (and_iff_right g0)
          rw [e2]
          clear e2
          go_enter Try.func30, Try.ntmps30
          go_wp2_with fail
          refine hI.mono ?_
          rintro e w1 ⟨rfl, q, rfl⟩
          clear hI
          go_wp2_with fail
          go_ret
          exact says_quiet rfl
        · have e2 : decide (1 ≤ u ∧ v ≤ 1000) = false := decide_eq_false fun h => g0 h.1
          rw [e2]
          clear e2
          go_enter Try.func30, Try.ntmps30
          go_wp2_with fail
          refine hI.mono ?_
          rintro e w1 ⟨rfl, q, rfl⟩
          clear hI
          go_wp2_with fail
          go_ret
          exact says_quiet rfl
end Go.Proofs.Ytdnjpekclmiliaa
