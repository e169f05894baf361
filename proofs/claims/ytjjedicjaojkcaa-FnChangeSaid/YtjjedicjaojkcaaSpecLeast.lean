/-
  The contracts of the model's least number of coins, of its sum, and of its search for the first amount at which greedy change is bad. Only new memory is written.
-/
import Derived.Test.YtjjedicjaojkcaaSpecTab
import Derived.Test.YtjjedicjaojkcaaSpecGreedy
import Derived.Deep.RegionLaw
import Derived.Deep.RegionHeld3
namespace Go.Proofs.Ytjjedicjaojkcaa
open Go.ChangeShapes Go.WideShapes Go.ChangeAt Go.RowKit Go.PlainAid

theorem specFew_any (A : Option Addr) (c n : Nat) (m : Int) (L : List Int) (w : World) (hn : L.length = n) (hm : n ≤ 1000000000) (h : IntRow w A L) :
    Calls Try.prog 25 #[.slice A n c, .int .i64 m] w (SaysI (fewC L m) w) := by
  have hR := specSys_any A c n L w hn hm h
  obtain ⟨X, hX⟩ : ∃ X, fewC L m = X := ⟨_, rfl⟩
  rw [hX]
  replace hX : Hid (fewC L m = X) := hX
  go_enter Try.func25, Try.ntmps25
  go_wp2_with fail
  refine hR.mono ?_
  clear hR
  rintro e w1 ⟨rfl, q, rfl⟩
  have kb := below_drewN (Below.refl w.heap.size w) q
  generalize w.drewN q = w1 at kb ⊢
  rcases hb : sysB L with _ | _
  · obtain rfl : X = -1 := hX.out.symm.trans (fewC_no (by rw [hb]; simp))
    clear h hX hb
    go_wp2_with fail
    go_ret
    exact ⟨rfl, kb⟩
  · by_cases hm2 : 0 ≤ m ∧ m ≤ 1000
    · have hI := in_to true m 0 1000 w1 (decide_eq_true hm2)
      obtain ⟨r, rfl⟩ : ∃ r : Nat, m = (r : Int) := ⟨m.toNat, by omega⟩
      have hr : r ≤ 1000 := by omega
      have hT := specTab_any A c n r L w1 (sysB_P hb) hn hr (h.keep kb)
      rw [fewC_yes hb hr] at hX
      have hg : (tb r fun y => (best L y : Int)).getD r 0 = best L r := tb_get (Nat.le_refl _)
      have hl : (tb r fun y => (best L y : Int)).length = r + 1 := tb_length _ _
      rw [hX.out] at hg
      clear hb hm2 h hX
      generalize (tb r fun y => (best L y : Int)) = T at hT hg hl
      go_wp2_with fail
      refine hI.mono ?_
      clear hI
      rintro e w2 ⟨rfl, rfl⟩
      go_wp2_with fail
      refine hT.mono ?_
      clear hT
      rintro e w2 ⟨B, d, rfl, o, b⟩
      obtain ⟨x, rfl, -, hx⟩ := intRow_own o r (by omega)
      rw [hg] at hx
      rw [hl]
      have hri : (r : Int) < ((r + 1 : Nat) : Int) := by omega
      generalize r + 1 = M at hri
      replace kb := below_more kb kb.size b
      clear hg hl o b
      go_wp2_with fail
      go_ret
      exact ⟨rfl, kb⟩
    · have hI := in_to false m 0 1000 w1 (decide_eq_false hm2)
      obtain rfl : X = -1 := hX.out.symm.trans (fewC_no fun g => hm2 g.2)
      clear h hX hb
      go_wp2_with fail
      refine hI.mono ?_
      rintro e w2 ⟨rfl, rfl⟩
      go_wp2_with fail
      go_ret
      exact ⟨rfl, kb⟩

/-- All parts of the sum are small. -/
theorem specSum_any (A : Option Addr) (c n : Nat) (L : List Int) (w : World) (hn : L.length = n) (hm : n ≤ 1000) (hs : ∀ z ∈ L, 0 ≤ z ∧ z ≤ 1000000) (h : IntRow w A L) :
    Calls Try.prog 39 #[.slice A n c] w (TellsI (sumL L) w) := by
  have hb : ∀ k, 0 ≤ sumL (L.take k) ∧ sumL (L.take k) ≤ 1000000 * (1000 : Nat) := fun k => sumL_take_le (by decide) hs k 1000 (by omega)
  obtain ⟨X, hX⟩ : ∃ X, sumL L = X := ⟨_, rfl⟩
  rw [hX]
  replace hX := Lib.hid hX
  go_enter Try.func39, Try.ntmps39
  go_wp2_with fail
  go_loop [3, 4] (fun s i => ∃ k : Nat, k ≤ n ∧ i = .int .i64 k ∧ s = .int .i64 (sumL (L.take k))) (fun _ i => n - (intOf i).toNat)
  case atStart => exact ⟨0, by omega, rfl, rfl⟩
  case round =>
    obtain ⟨k, hk, rfl, rfl⟩ := hrel
    have h1 := hb k
    by_cases hlt : k < n
    · obtain ⟨x, rfl, -, hx⟩ := h k (by omega)
      have hz := hs (L.getD k 0) (by rw [List.getD_eq_getElem?_getD, List.getElem?_eq_getElem (by omega)]; exact List.getElem_mem _)
      have hst := Lib.hid (sumL_take (L := L) (k := k) (by omega))
      clear h hb hs
      generalize L.getD k 0 = z at hx hz hst
      generalize sumL (L.take k) = s at h1 hst ⊢
      go_wp2_with fail
      go_round
      case rel => exact ⟨k + 1, by omega, by go_num, by rw [hst.out]⟩
      case measure => simp [intOf]; omega
    · obtain rfl : k = n := by omega
      have e : sumL (L.take k) = X := by rw [← hn, sumL_all, hX.out]
      rw [e] at h1 ⊢
      clear h hb hs e
      go_wp2_with fail
      go_ret
      exact ⟨rfl, rfl⟩
end Go.Proofs.Ytjjedicjaojkcaa
