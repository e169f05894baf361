/-
  The contract of the program's check of a ruler. Nothing is written.
-/
import Derived.Test.YtokengeaiknmhaaRuler
namespace Go.Proofs.Ytokengeaiknmhaa
open Go.ChangeShapes Go.WideShapes Go.ChangeAt Go.RowKit Go.PlainAid

theorem addr_add_nought (x : Addr) : x.add 0 = x := by unfold Addr.add; split <;> simp_all
theorem implRuler_any (A : Option Addr) (c n : Nat) (L : List Int) (w : World) (hn : L.length = n) (hm : n ≤ 9223372036854775807) (h : IntRow w A L) :
    Calls Try.prog 21 #[.slice A n c] w (Quiet (rulB L) w) := by
  obtain ⟨b, hb⟩ : ∃ b, rulB L = b := ⟨_, rfl⟩
  rw [hb]
  replace hb : Hid (rulB L = b) := hb
  by_cases hl : 1 ≤ L.length ∧ L.length ≤ 8
  · obtain ⟨x, rfl, -, hx⟩ := h 0 (by omega)
    rw [addr_add_nought] at hx
    have g1 : ¬ (n : Int) < 1 := by omega
    have g2 : ¬ 8 < (n : Int) := by omega
    have g0 : (0 : Int) < n := by omega
    by_cases h0 : L.getD 0 0 = 0
    · rw [h0] at hx
      go_enter Try.func21, Try.ntmps21
      go_wp2
      go_loopw [3] (fun i wr => ∃ k q : Nat, 1 ≤ k ∧ k ≤ n ∧ i = .int .i64 k ∧ (∀ j, 0 < j → j < k → L.getD (j - 1) 0 < L.getD j 0) ∧ wr = w.drewN q) (fun i _ => n - (intOf i).toNat)
      case atStart => exact ⟨1, 0, by omega, by omega, rfl, fun j _ _ => by omega, rfl⟩
      case round =>
        obtain ⟨k, q, hk1, hk, rfl, hf, rfl⟩ := hrel
        replace h := h.keep (below_drewN (Below.refl w.heap.size w) q)
        have hq : Hid (∀ nq, ∃ p, (w.drewN q).drewN nq = w.drewN p) := fun nq => ⟨q + nq, World.drewN_drewN ..⟩
        generalize w.drewN q = wr at h hq ⊢
        clear hx
        by_cases hlt : k < n
        · obtain ⟨p, rfl⟩ : ∃ p, k = p + 1 := ⟨k - 1, by omega⟩
          obtain ⟨y, hy, -, hx⟩ := h (p + 1) (by omega)
          injection hy with hy
          subst hy
          obtain ⟨y, hy, -, hx2⟩ := h p (by omega)
          injection hy with hy
          subst hy
          clear h
          obtain ⟨i, hi⟩ : ∃ i, p + 1 = i := ⟨_, rfl⟩
          rw [hi] at hk1 hk hlt hf hx ⊢
          have hpi : (i : Int) - 1 = (p : Int) := by omega
          have hpn : (p : Int) < n := by omega
          have hii : (i : Int) < n := by omega
          have e : i - 1 = p := by omega
          by_cases g3 : L.getD p 0 < L.getD i 0
          · have hf2 : ∀ j, 0 < j → j < i + 1 → L.getD (j - 1) 0 < L.getD j 0 := fun j h1 h2 => by
              by_cases e2 : j = i
              · subst e2; rw [e]; exact g3
              · exact hf j h1 (by omega)
            have g4 : ¬ L.getD i 0 ≤ L.getD p 0 := by omega
            clear hf g3 e h0 hi
            generalize L.getD i 0 = z at hx g4
            generalize L.getD p 0 = y at hx2 g4
            go_wp2
            go_quiet (fail)
            go_wp2
            go_roundw
            case rel => obtain ⟨p, hp⟩ := hq.out nq
                        exact ⟨i + 1, p, by omega, by omega, by go_num, hf2, hp⟩
            case measure => simp [intOf]; omega
          · have hno : rulB L = false := rulB_no (j := i) (by omega) fun g => g3 (by have := g.2 (by omega); rw [e] at this; exact this)
            have g4 : L.getD i 0 ≤ L.getD p 0 := by omega
            clear hf g3 e h0 hi
            generalize L.getD i 0 = z at hx g4
            generalize L.getD p 0 = y at hx2 g4
            go_wp2
            go_quiet (fail)
            go_wp2
            go_ret
            obtain rfl : b = false := hb.out.symm.trans hno
            exact ⟨rfl, hq.out nq⟩
        · obtain rfl : k = n := by omega
          obtain ⟨p, rfl⟩ : ∃ p, k = p + 1 := ⟨k - 1, by omega⟩
          obtain ⟨y, hy, -, hx⟩ := h p (by omega)
          injection hy with hy
          subst hy
          clear h
          have el : L.getD (L.length - 1) 0 = L.getD p 0 := by rw [hn, Nat.add_sub_cancel]
          have hrul : L.getD p 0 ≤ 60 → rulB L = true := fun g => decide_eq_true (rulP_ends hl h0 (by rw [hn]; exact hf) (by rw [el]; exact g))
          have hrno : ¬ L.getD p 0 ≤ 60 → rulB L = false := fun g => rulB_no (j := p) (by omega) fun e => g e.1.2
          obtain ⟨i, hi⟩ : ∃ i, p + 1 = i := ⟨_, rfl⟩
          rw [hi] at hk hlt hf hk1 hn hm g0 g1 g2 ⊢
          have hpi : (i : Int) - 1 = (p : Int) := by omega
          have hpn : (p : Int) < i := by omega
          clear hf el h0 hi
          generalize L.getD p 0 = z at hx hrul hrno
          by_cases g : z ≤ 60
          · have hy := hrul g
            have hd : decide (z ≤ 60) = true := decide_eq_true g
            clear hrul hrno
            go_wp2
            go_ret
            obtain rfl : b = true := hb.out.symm.trans hy
            exact ⟨by first | rfl | (rw [← hd]; rfl), hq.out 0⟩
          · have hy := hrno g
            have hd : decide (z ≤ 60) = false := decide_eq_false g
            clear hrul hrno
            go_wp2
            go_ret
            obtain rfl : b = false := hb.out.symm.trans hy
            exact ⟨by first | rfl | (rw [← hd]; rfl), hq.out 0⟩
    · have hy := rulB_zero h0
      obtain rfl : b = false := hb.out.symm.trans hy
      clear hb hy h hn hl
      generalize L.getD 0 0 = z at hx h0
      have hd : (z == 0) = false := by simp [h0]
      go_enter Try.func21, Try.ntmps21
      go_wp2
      go_ret
      exact ⟨rfl, 0, rfl⟩
  · have hy := rulB_len hl
    obtain rfl : b = false := hb.out.symm.trans hy
    clear hb hy h
    by_cases g1 : (n : Int) < 1
    · go_enter Try.func21, Try.ntmps21
      go_wp2
      go_ret
      exact ⟨rfl, 0, rfl⟩
    · have g2 : 8 < (n : Int) := by omega
      go_enter Try.func21, Try.ntmps21
      go_wp2
      go_ret
      exact ⟨rfl, 0, rfl⟩
end Go.Proofs.Ytokengeaiknmhaa
