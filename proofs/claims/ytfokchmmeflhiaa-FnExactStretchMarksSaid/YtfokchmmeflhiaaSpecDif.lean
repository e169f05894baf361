/-
  The contract of the model's check of a difference set. Only new memory is written.
-/
import Derived.Test.YtfokchmmeflhiaaSpecArcs
namespace Go.Proofs.Ytfokchmmeflhiaa
open Go.ChangeShapes Go.WideShapes Go.ChangeAt Go.RowKit Go.PlainAid

set_option maxRecDepth 100000 in
theorem specDif_any (N : Int) (A : Option Addr) (c n : Nat) (L : List Int) (w : World) (hn : L.length = n) (hm : n ≤ 1000000000) (h : IntRow w A L) :
    Calls Try.prog 26 #[.int .i64 N, .slice A n c] w (SaysB (difB N L) w) := by
  have hA := specArcs_any N A c n L w hn hm h
  clear h
  obtain ⟨X, hX⟩ : ∃ X, difB N L = X := ⟨_, rfl⟩
  rw [hX]
  replace hX := Lib.hid hX
  obtain ⟨C, hC⟩ : ∃ C, arcsA N L = C := ⟨_, rfl⟩
  rw [hC] at hA
  have hl : C.length ≤ 60 := by rw [← hC]; exact arcsA_len N L
  go_enter Try.func26, Try.ntmps26
  go_wp2_with fail
  refine hA.mono ?_
  clear hA
  rintro e w1 ⟨B, c1, rfl, o, kb⟩
  have r := intRow_own o
  clear o
  obtain ⟨m, hml⟩ : ∃ m, C.length = m := ⟨_, rfl⟩
  rw [hml]
  rw [hml] at hl
  go_wp2_with fail
  go_loopw [6] (fun i wr => ∃ k : Nat, 1 ≤ k ∧ (k ≤ m ∨ k = 1) ∧ i = .int .i64 k ∧ (∀ d, d < k → 0 < d → C.getD d 0 = 1) ∧ w1 = wr) (fun i _ => m - (intOf i).toNat)
  case atStart => exact ⟨1, by omega, by omega, rfl, fun d h1 h2 => by omega, rfl⟩
  case round =>
    obtain ⟨k, hk1, hk, rfl, hf, rfl⟩ := hrel
    by_cases hlt : k < m
    · obtain ⟨x, rfl, -, hx⟩ := r k (by omega)
      have hki : (k : Int) < m := by omega
      have hcirc : circB N L = true := by
        rcases g : circB N L with _ | _
        · rw [arcsA_no g] at hC
          subst hC
          simp at hml
          omega
        · rfl
      by_cases g : C.getD k 0 = 1
      · have hf2 : ∀ d, d < k + 1 → 0 < d → C.getD d 0 = 1 := fun d h1 h2 => by
          by_cases e : d = k
          · subst e; exact g
          · exact hf d (by omega) h2
        rw [g] at hx
        clear hf g r
        go_wp2_with fail
        go_roundw
        case rel => exact ⟨k + 1, by omega, by omega, by go_num, hf2, trivial⟩
        case measure => simp [intOf]; omega
      · have hz : (C.getD k 0 != 1) = true := bne_iff_ne.2 g
        rw [arcsA_yes hcirc] at hC
        have hno : difB N L = false := difB_at (d := k) (by rw [← arcsL_len N L, hC, hml]; exact hlt) (by omega) (by rw [hC]; exact g)
        obtain rfl : X = false := hX.out.symm.trans hno
        clear hf g r hno hC hX
        generalize C.getD k 0 = z at hx hz
        go_wp2_with fail
        go_ret
        exact ⟨rfl, kb⟩
    · have hki : ¬ (k : Int) < m := by omega
      clear r
      by_cases h1 : 1 < m
      · have hcirc : circB N L = true := by
          rcases g : circB N L with _ | _
          · rw [arcsA_no g] at hC
            subst hC
            simp at hml
            omega
          · rfl
        rw [arcsA_yes hcirc] at hC
        have hM : N.toNat = m := by rw [← arcsL_len N L, hC, hml]
        obtain rfl : X = true := hX.out.symm.trans (difB_yes hcirc (by omega) fun d h1 h2 => by rw [hC]; exact hf d (by omega) h2)
        have hmi : (1 : Int) < m := by omega
        have hd : decide (1 < m) = true := decide_eq_true h1
        clear hf hC hM hX
        go_wp2_with fail
        go_ret
        exact ⟨by first | rfl | (rw [← hd]; rfl), kb⟩
      · have hno : difB N L = false := by
          rcases g : circB N L with _ | _
          · exact difB_no g
          · rw [arcsA_yes g] at hC
            have hM : N.toNat = m := by rw [← arcsL_len N L, hC, hml]
            exact difB_one (by omega)
        obtain rfl : X = false := hX.out.symm.trans hno
        have hd : decide (1 < m) = false := decide_eq_false h1
        have hmi : ¬ (1 : Int) < m := by omega
        clear hf hno hC hX
        go_wp2_with fail
        go_ret
        exact ⟨by first | rfl | (rw [← hd]; rfl), kb⟩
end Go.Proofs.Ytfokchmmeflhiaa
