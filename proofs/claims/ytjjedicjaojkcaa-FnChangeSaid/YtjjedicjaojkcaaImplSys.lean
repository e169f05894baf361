/-
  The contracts of the program's check of a system of coins, and of its sum of a list. Nothing is written.
-/
import Derived.Test.YtjjedicjaojkcaaCoinSys
import Derived.Test.YtjjedicjaojkcaaRange
import Derived.BigQuiet
import Derived.Lib.Hide
namespace Go.Proofs.Ytjjedicjaojkcaa
open Go.ChangeShapes Go.WideShapes Go.ChangeAt Go.RowKit Go.PlainAid

/-- Ascending, each greater than the one before. -/
def AscP (L : List Int) : Prop := ∀ j, j < L.length → 0 < j → L.getD (j - 1) 0 < L.getD j 0
instance (L : List Int) : Decidable (AscP L) := by unfold AscP; infer_instance
def ascB (L : List Int) : Bool := decide (AscP L)
theorem implAsc_any (A : Option Addr) (c n : Nat) (L : List Int) (w : World) (hn : L.length = n) (hm : n ≤ 1000000000) (h : IntRow w A L) :
    Calls Try.prog 37 #[.slice A n c] w (Quiet (ascB L) w) := by
  obtain ⟨b, hb⟩ : ∃ b, ascB L = b := ⟨_, rfl⟩
  rw [hb]
  replace hb := Lib.hid hb
  go_enter Try.func37, Try.ntmps37
  go_wp2
  go_loopw [3] (fun i wr => ∃ k q : Nat, 1 ≤ k ∧ (k ≤ n ∨ k = 1) ∧ i = .int .i64 k ∧ (∀ j, 0 < j → j < k → j < n → L.getD (j - 1) 0 < L.getD j 0) ∧ wr = w.drewN q) (fun i _ => n - (intOf i).toNat)
  case atStart => exact ⟨1, 0, by omega, by omega, rfl, fun j _ _ => by omega, rfl⟩
  case round =>
    obtain ⟨k, q, hk1, hk, rfl, hf, rfl⟩ := hrel
    replace h := h.keep (below_drewN (Below.refl w.heap.size w) q)
    have hq : Hid (∀ nq, ∃ p, (w.drewN q).drewN nq = w.drewN p) := fun nq => ⟨q + nq, World.drewN_drewN ..⟩
    generalize w.drewN q = wr at h hq ⊢
    by_cases hlt : k < n
    · obtain ⟨p, hp⟩ : ∃ p, k = p + 1 := ⟨k - 1, by omega⟩
      obtain ⟨y, rfl, -, hx⟩ := h k (by omega)
      obtain ⟨y', hy, -, hx2⟩ := h p (by omega)
      injection hy with hy
      subst hy
      have hpi : (k : Int) - 1 = (p : Int) := by omega
      have hpn : (p : Int) < n := by omega
      have hii : (k : Int) < n := by omega
      have e : k - 1 = p := by omega
      by_cases g3 : L.getD p 0 < L.getD k 0
      · have hf2 : ∀ j, 0 < j → j < k + 1 → j < n → L.getD (j - 1) 0 < L.getD j 0 := fun j h1 h2 h3 => by
          by_cases e2 : j = k
          · subst e2; rw [e]; exact g3
          · exact hf j h1 (by omega) h3
        have g4 : ¬ L.getD k 0 ≤ L.getD p 0 := by omega
        clear hf g3 e hp h
        generalize L.getD k 0 = z at hx g4
        generalize L.getD p 0 = y at hx2 g4
        go_wp2
        go_quiet (fail)
        go_wp2
        go_roundw
        case rel => obtain ⟨p, hp⟩ := hq.out nq
                    exact ⟨k + 1, p, by omega, by omega, by go_num, hf2, hp⟩
        case measure => simp [intOf]; omega
      · have hno : ascB L = false := decide_eq_false fun g => g3 (by have := g k (by omega) (by omega); rw [e] at this; exact this)
        have g4 : L.getD k 0 ≤ L.getD p 0 := by omega
        clear hf g3 e hp h
        generalize L.getD k 0 = z at hx g4
        generalize L.getD p 0 = y at hx2 g4
        go_wp2
        go_quiet (fail)
        go_wp2
        go_ret
        obtain rfl : b = false := hb.out.symm.trans hno
        exact ⟨rfl, hq.out nq⟩
    · have hyes : ascB L = true := decide_eq_true fun j h1 h2 => hf j h2 (by omega) (by omega)
      have hge : ¬ (k : Int) < n := by omega
      obtain rfl : b = true := hb.out.symm.trans hyes
      clear hf h hyes
      go_wp2
      go_ret
      exact ⟨rfl, hq.out 0⟩

theorem addr_add_nil (x : Addr) : x.add 0 = x := by unfold Addr.add; split <;> simp_all
theorem sysB_asc {L : List Int} (h0 : 1 ≤ L.length ∧ L.length ≤ 6) (h1 : L.getD 0 0 = 1) : sysB L = (ascB L && decide (L.getD (L.length - 1) 0 ≤ 100)) := by
  rw [Bool.eq_iff_iff, Bool.and_eq_true, decide_eq_true_iff]
  constructor
  · intro h
    have hP := sysB_P h
    exact ⟨decide_eq_true fun j hj g => (hP.2 j hj).2 g, (hP.2 (L.length - 1) (by omega)).1.2⟩
  · intro ⟨h, hl⟩
    exact decide_eq_true (sysP_ends h0 h1 (fun j g hj => (of_decide_eq_true h : AscP L) j hj g) hl)
theorem implSys_any (A : Option Addr) (c n : Nat) (L : List Int) (w : World) (hn : L.length = n) (hm : n ≤ 1000000000) (h : IntRow w A L) :
    Calls Try.prog 20 #[.slice A n c] w (Quiet (sysB L) w) := by
  have hA := implAsc_any A c n L w hn hm h
  obtain ⟨b, hb⟩ : ∃ b, sysB L = b := ⟨_, rfl⟩
  rw [hb]
  replace hb := Lib.hid hb
  by_cases hl : 1 ≤ L.length ∧ L.length ≤ 6
  · obtain ⟨x, rfl, -, hx⟩ := h 0 (by omega)
    rw [addr_add_nil] at hx
    have g1 : ¬ (n : Int) < 1 := by omega
    have g2 : ¬ 6 < (n : Int) := by omega
    have g0 : (0 : Int) < n := by omega
    by_cases h0 : L.getD 0 0 = 1
    · rw [h0] at hx
      have hbb := hb.out
      rw [sysB_asc hl h0] at hbb
      obtain ⟨p, hp⟩ : ∃ p, n = p + 1 := ⟨n - 1, by omega⟩
      have hpi : (n : Int) - 1 = (p : Int) := by omega
      have hpn : (p : Int) < n := by omega
      rw [show L.length - 1 = p by omega] at hbb
      replace hbb := Lib.hid hbb
      go_enter Try.func20, Try.ntmps20
      clear hb hp h0
      go_wp2_with fail
      refine hA.mono ?_
      clear hA
      rintro e w1 ⟨rfl, q, rfl⟩
      rcases ha : ascB L with _ | _
      · have hbb2 := hbb.out
        rw [ha, Bool.false_and] at hbb2
        subst hbb2
        clear hbb h ha hx
        go_wp2_with fail
        go_ret
        exact ⟨rfl, q, rfl⟩
      · have hbb2 := hbb.out
        rw [ha, Bool.true_and] at hbb2
        replace h := h.keep (below_drewN (Below.refl w.heap.size w) q)
        obtain ⟨x', hxx, -, hy⟩ := h p (by omega)
        injection hxx with hxx
        subst hxx
        have hq : Hid (∃ p, w.drewN q = w.drewN p) := ⟨q, rfl⟩
        clear hx hbb h ha
        generalize L.getD p 0 = z at hy hbb2
        generalize w.drewN q = w2 at hy hq ⊢
        by_cases g : z ≤ 100
        · obtain rfl : b = true := hbb2.symm.trans (decide_eq_true g)
          have hd : decide (z ≤ 100) = true := decide_eq_true g
          clear hbb2
          go_wp2_with fail
          go_ret
          exact ⟨by first | rfl | (rw [← hd]; rfl), hq.out⟩
        · obtain rfl : b = false := hbb2.symm.trans (decide_eq_false g)
          have hd : decide (z ≤ 100) = false := decide_eq_false g
          clear hbb2
          go_wp2_with fail
          go_ret
          exact ⟨by first | rfl | (rw [← hd]; rfl), hq.out⟩
    · obtain rfl : b = false := hb.out.symm.trans (sysB_one h0)
      clear hb h hn hl hA
      generalize L.getD 0 0 = z at hx h0
      have hd : (z != 1) = true := by simp [h0]
      go_enter Try.func20, Try.ntmps20
      go_wp2_with fail
      go_ret
      exact ⟨rfl, 0, rfl⟩
  · obtain rfl : b = false := hb.out.symm.trans (sysB_len hl)
    clear hb h hA
    by_cases g1 : (n : Int) < 1
    · go_enter Try.func20, Try.ntmps20
      go_wp2_with fail
      go_ret
      exact ⟨rfl, 0, rfl⟩
    · have g2 : 6 < (n : Int) := by omega
      go_enter Try.func20, Try.ntmps20
      go_wp2_with fail
      go_ret
      exact ⟨rfl, 0, rfl⟩

/-- All parts of the sum are small. -/
theorem implTotal_any (A : Option Addr) (c n : Nat) (L : List Int) (w : World) (hn : L.length = n) (hm : n ≤ 1000) (hs : ∀ z ∈ L, 0 ≤ z ∧ z ≤ 1000000) (h : IntRow w A L) :
    Calls Try.prog 33 #[.slice A n c] w (TellsI (sumL L) w) := by
  have hb : ∀ k, 0 ≤ sumL (L.take k) ∧ sumL (L.take k) ≤ 1000000 * (1000 : Nat) := fun k => sumL_take_le (by decide) hs k 1000 (by omega)
  obtain ⟨X, hX⟩ : ∃ X, sumL L = X := ⟨_, rfl⟩
  rw [hX]
  replace hX := Lib.hid hX
  go_enter Try.func33, Try.ntmps33
  go_wp2_with fail
  go_loop [3, 8] (fun s i => ∃ k : Nat, k ≤ n ∧ i = .int .i64 k ∧ s = .int .i64 (sumL (L.take k))) (fun _ i => n - (intOf i).toNat)
  case atStart => exact ⟨0, by omega, rfl, rfl⟩
  case round =>
    obtain ⟨k, hk, rfl, rfl⟩ := hrel
    have h1 := hb k
    by_cases hlt : k < n
    · obtain ⟨x, rfl, -, hx⟩ := h k (by omega)
      have hz := hs (L.getD k 0) (by rw [List.getD_eq_getElem?_getD, List.getElem?_eq_getElem (by omega)]; exact List.getElem_mem _)
      have hst := Lib.hid (sumL_take (L := L) (k := k) (by omega))
      clear h hb hs
      generalize L.getD k 0 = z at hx hz hst
      generalize sumL (L.take k) = s at h1 hst ⊢
      go_wp2_with fail
      go_round
      case rel => exact ⟨k + 1, by omega, by go_num, by rw [hst.out]⟩
      case measure => simp [intOf]; omega
    · obtain rfl : k = n := by omega
      have e : sumL (L.take k) = X := by rw [← hn, sumL_all, hX.out]
      rw [e] at h1 ⊢
      clear h hb hs e
      go_wp2_with fail
      go_ret
      exact ⟨rfl, rfl⟩
end Go.Proofs.Ytjjedicjaojkcaa
