/-
  The contract of the program's check of a difference set. Only new memory is written.
-/
import Derived.Test.YtfokchmmeflhiaaImplArcs
import Derived.Test.YtfokchmmeflhiaaCapOwn
namespace Go.Proofs.Ytfokchmmeflhiaa
open Go.ChangeShapes Go.WideShapes Go.ChangeAt Go.RowKit Go.PlainAid

set_option maxRecDepth 100000 in
theorem implDif_any (N : Int) (A : Option Addr) (c n : Nat) (L : List Int) (w : World) (hn : L.length = n) (hm : n ≤ 1000000000) (h : IntRow w A L) :
    Calls Try.prog 13 #[.int .i64 N, .slice A n c] w (SaysB (difB N L) w) := by
  have hS := implCircle_any N A c n L w hn hm h
  have hA := fun W (r : IntRow W A L) => implArcs_any N A c n L W hn hm r
  obtain ⟨X, hX⟩ : ∃ X, difB N L = X := ⟨_, rfl⟩
  rw [hX]
  replace hX := Lib.hid hX
  go_enter Try.func13, Try.ntmps13
  rcases hb : circB N L with _ | _
  · rw [hb] at hS
    obtain rfl : X = false := hX.out.symm.trans (difB_no hb)
    clear hA h hX
    go_wp2_with fail
    refine hS.mono ?_
    clear hS
    rintro e w1 ⟨rfl, q, rfl⟩
    go_wp2_with fail
    go_ret
    exact ⟨rfl, below_drewN (Below.refl _ _) q⟩
  · rw [hb] at hS
    by_cases h1 : N = 1
    · subst h1
      obtain rfl : X = false := hX.out.symm.trans (difB_one (by omega))
      clear hA h hX
      go_wp2_with fail
      refine hS.mono ?_
      clear hS
      rintro e w1 ⟨rfl, q, rfl⟩
      go_wp2_with fail
      go_ret
      exact ⟨rfl, below_drewN (Below.refl _ _) q⟩
    · have hz : (N == 1) = false := by simp [h1]
      have hP := circB_P hb
      obtain ⟨M, rfl⟩ := Int.eq_ofNat_of_zero_le (a := N) (by have := hP.1.1.1; omega)
      have hM : 2 ≤ M ∧ M ≤ 60 := by have := hP.1.1; omega
      obtain ⟨C, hC⟩ : ∃ C, arcsL (M : Int) L = C := ⟨_, rfl⟩
      have hl : C.length = M := by rw [← hC, arcsL_len]; omega
      rw [arcsA_yes hb, hC] at hA
      clear hP
      go_wp2_with fail
      refine hS.mono ?_
      clear hS
      rintro e w1 ⟨rfl, q, rfl⟩
      have kb := below_drewN (Below.refl w.heap.size w) q
      replace h := h.keep kb
      generalize w.drewN q = w1 at kb h ⊢
      go_wp2_with fail
      refine (hA _ h).mono ?_
      clear hA h
      rintro e w2 ⟨B, c1, rfl, o, kb1⟩
      have hcap := cap_own (hl ▸ o : w2.ownsRow w1.heap.size 3 1 (.slice B M c1) M (ints C))
      obtain ⟨g, c2, hv, -, -⟩ := o.form (by omega)
      injection hv with hv
      subst hv
      have r := fun j (hj : j < C.length) => (o.cellAt j (by omega)).trans (ints_get hj)
      replace kb := below_more kb kb.size kb1
      clear o kb1
      rw [hl] at r ⊢
      obtain ⟨m, rfl⟩ : ∃ m, M = m + 1 := ⟨M - 1, by omega⟩
      have hfull : Hid (∀ d, d < ((m + 1 : Nat) : Int).toNat ↔ d < m + 1) := fun d => by omega
      go_wp2_with fail
      go_loopw [20] (fun i wr => ∃ k : Nat, k ≤ m ∧ i = .int .i64 k ∧ (∀ d, d < k + 1 → 0 < d → C.getD d 0 = 1) ∧ w2 = wr) (fun i _ => m - (intOf i).toNat)
      case atStart => exact ⟨0, by omega, rfl, fun d h1 h2 => by omega, rfl⟩
      case round =>
        obtain ⟨k, hk, rfl, hf, rfl⟩ := hrel
        by_cases hlt : k < m
        · have hx := r (k + 1) (by omega)
          rw [Nat.add_comm] at hx
          have hki : (k : Int) < m := by omega
          by_cases g1 : C.getD (1 + k) 0 = 1
          · have hf2 : ∀ d, d < k + 1 + 1 → 0 < d → C.getD d 0 = 1 := fun d h1 h2 => by
              by_cases e : d = 1 + k
              · subst e; exact g1
              · exact hf d (by omega) h2
            rw [g1] at hx
            clear hf g1 r
            go_wp2_with fail
            go_roundw
            case rel => exact ⟨k + 1, by omega, by go_num, hf2, trivial⟩
            case measure => simp [intOf]; omega
          · have hz2 : (C.getD (1 + k) 0 != 1) = true := bne_iff_ne.2 g1
            have hno : difB ((m + 1 : Nat) : Int) L = false := difB_at (d := 1 + k) ((hfull.out _).2 (by omega)) (by omega) (by rw [hC]; exact g1)
            obtain rfl : X = false := hX.out.symm.trans hno
            clear hf g1 r hno hC hX
            generalize C.getD (1 + k) 0 = z at hx hz2
            go_wp2_with fail
            go_ret
            exact ⟨rfl, kb⟩
        · obtain rfl : k = m := by omega
          obtain rfl : X = true := hX.out.symm.trans (difB_yes hb (by omega) fun d h1 h2 => by rw [hC]; exact hf d ((hfull.out _).1 h1) h2)
          clear hf hC hX r
          go_wp2_with fail
          go_ret
          exact ⟨rfl, kb⟩
end Go.Proofs.Ytfokchmmeflhiaa
