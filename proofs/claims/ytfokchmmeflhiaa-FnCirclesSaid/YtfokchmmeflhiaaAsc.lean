/-
  The contract of the program's check that a list is ascending. Nothing is written.
-/
import Derived.Test.YtfokchmmeflhiaaRange
import Derived.BigQuiet
import Derived.Lib.Hide
namespace Go.Proofs.Ytfokchmmeflhiaa
open Go.ChangeShapes Go.WideShapes Go.ChangeAt Go.RowKit Go.PlainAid

/-- Ascending, each greater than the one before. -/
def AscP (L : List Int) : Prop := ∀ j, j < L.length → 0 < j → L.getD (j - 1) 0 < L.getD j 0
instance (L : List Int) : Decidable (AscP L) := by unfold AscP; infer_instance
def ascB (L : List Int) : Bool := decide (AscP L)
theorem implAsc_any (A : Option Addr) (c n : Nat) (L : List Int) (w : World) (hn : L.length = n) (hm : n ≤ 1000000000) (h : IntRow w A L) :
    Calls Try.prog 36 #[.slice A n c] w (Quiet (ascB L) w) := by
  obtain ⟨b, hb⟩ : ∃ b, ascB L = b := ⟨_, rfl⟩
  rw [hb]
  replace hb := Lib.hid hb
  go_enter Try.func36, Try.ntmps36
  go_wp2
  go_loopw [3] (fun i wr => ∃ k q : Nat, 1 ≤ k ∧ (k ≤ n ∨ k = 1) ∧ i = .int .i64 k ∧ (∀ j, 0 < j → j < k → j < n → L.getD (j - 1) 0 < L.getD j 0) ∧ wr = w.drewN q) (fun i _ => n - (intOf i).toNat)
  case atStart => exact ⟨1, 0, by omega, by omega, rfl, fun j _ _ => by omega, rfl⟩
  case round =>
    obtain ⟨k, q, hk1, hk, rfl, hf, rfl⟩ := hrel
    replace h := h.keep (below_drewN (Below.refl w.heap.size w) q)
    have hq : Hid (∀ nq, ∃ p, (w.drewN q).drewN nq = w.drewN p) := fun nq => ⟨q + nq, World.drewN_drewN ..⟩
    generalize w.drewN q = wr at h hq ⊢
    by_cases hlt : k < n
    · obtain ⟨p, hp⟩ : ∃ p, k = p + 1 := ⟨k - 1, by omega⟩
      obtain ⟨y, rfl, -, hx⟩ := h k (by omega)
      obtain ⟨y', hy, -, hx2⟩ := h p (by omega)
      injection hy with hy
      subst hy
      have hpi : (k : Int) - 1 = (p : Int) := by omega
      have hpn : (p : Int) < n := by omega
      have hii : (k : Int) < n := by omega
      have e : k - 1 = p := by omega
      by_cases g3 : L.getD p 0 < L.getD k 0
      · have hf2 : ∀ j, 0 < j → j < k + 1 → j < n → L.getD (j - 1) 0 < L.getD j 0 := fun j h1 h2 h3 => by
          by_cases e2 : j = k
          · subst e2; rw [e]; exact g3
          · exact hf j h1 (by omega) h3
        have g4 : ¬ L.getD k 0 ≤ L.getD p 0 := by omega
        clear hf g3 e hp h
        generalize L.getD k 0 = z at hx g4
        generalize L.getD p 0 = y at hx2 g4
        go_wp2
        go_quiet (fail)
        go_wp2
        go_roundw
        case rel => obtain ⟨p, hp⟩ := hq.out nq
                    exact ⟨k + 1, p, by omega, by omega, by go_num, hf2, hp⟩
        case measure => simp [intOf]; omega
      · have hno : ascB L = false := decide_eq_false fun g => g3 (by have := g k (by omega) (by omega); rw [e] at this; exact this)
        have g4 : L.getD k 0 ≤ L.getD p 0 := by omega
        clear hf g3 e hp h
        generalize L.getD k 0 = z at hx g4
        generalize L.getD p 0 = y at hx2 g4
        go_wp2
        go_quiet (fail)
        go_wp2
        go_ret
        obtain rfl : b = false := hb.out.symm.trans hno
        exact ⟨rfl, hq.out nq⟩
    · have hyes : ascB L = true := decide_eq_true fun j h1 h2 => hf j h2 (by omega) (by omega)
      have hge : ¬ (k : Int) < n := by omega
      obtain rfl : b = true := hb.out.symm.trans hyes
      clear hf h hyes
      go_wp2
      go_ret
      exact ⟨rfl, hq.out 0⟩

theorem addr_add_nil (x : Addr) : x.add 0 = x := by unfold Addr.add; split <;> simp_all
end Go.Proofs.Ytfokchmmeflhiaa
