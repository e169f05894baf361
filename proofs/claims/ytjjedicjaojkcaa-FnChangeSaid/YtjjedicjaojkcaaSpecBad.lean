/-
  The contracts of the model's search for the first amount at which greedy change is bad, and of its check whether it is good. Only new memory is written.
-/
import Derived.Test.YtjjedicjaojkcaaSpecLeast
import Derived.Deep.RegionLaw
import Derived.Deep.RegionHeld3
namespace Go.Proofs.Ytjjedicjaojkcaa
open Go.ChangeShapes Go.WideShapes Go.ChangeAt Go.RowKit Go.PlainAid

theorem firstP_step {p : Nat → Bool} {M x : Nat} (hx : x < M) : firstP p (M - x) x = if p x = true then (x : Int) else firstP p (M - (x + 1)) (x + 1) := by
  obtain ⟨t, ht⟩ : ∃ t, M - x = t + 1 := ⟨M - x - 1, by omega⟩
  rw [ht, show M - (x + 1) = t by omega]
  rfl

set_option maxHeartbeats 2000000 in
theorem specBad_any (A : Option Addr) (c n : Nat) (L : List Int) (w : World) (hn : L.length = n) (hm : n ≤ 1000000000) (h : IntRow w A L) :
    Calls Try.prog 27 #[.slice A n c] w (SaysI (badA L) w) := by
  have hR := specSys_any A c n L w hn hm h
  obtain ⟨X, hX⟩ : ∃ X, badA L = X := ⟨_, rfl⟩
  rw [hX]
  replace hX : Hid (badA L = X) := hX
  go_enter Try.func27, Try.ntmps27
  go_wp2_with fail
  refine hR.mono ?_
  clear hR
  rintro e w1 ⟨rfl, q, rfl⟩
  have kb := below_drewN (Below.refl w.heap.size w) q
  generalize w.drewN q = w1 at kb ⊢
  rcases hb : sysB L with _ | _
  · obtain rfl : X = -1 := hX.out.symm.trans (badA_no hb)
    clear h hX hb
    go_wp2_with fail
    go_ret
    exact ⟨rfl, kb⟩
  · by_cases h2 : 2 ≤ n
    · have hP := sysB_P hb
      rw [badA_yes hb (by omega)] at hX
      have hML := most_le hP
      obtain ⟨l, hl⟩ : ∃ l, n = l + 2 := ⟨n - 2, by omega⟩
      obtain ⟨y, rfl, hy0, hy1⟩ := h (l + 1) (by omega)
      obtain ⟨y', hyy, -, hz1⟩ := h l (by omega)
      injection hyy with hyy
      subst hyy
      obtain ⟨a1, a2, a3⟩ := hP.coin (k := l + 1) (by omega)
      obtain ⟨b1, b2, b3⟩ := hP.coin (k := l) (by omega)
      rw [a1] at hy1
      rw [b1] at hz1
      have hms : (cn L (l + 1) : Int) + (cn L l : Int) = (mostC L : Int) := by
        unfold mostC
        rw [hn, hl, show l + 2 - 1 = l + 1 by omega, show l + 2 - 2 = l by omega]
        omega
      have hy := (kb.cell (by rw [addr_add_block]; exact hy0)).trans hy1
      have hz := (kb.cell (by rw [addr_add_block]; exact hy0)).trans hz1
      have hT := fun W r => specTab_any (some y) c n (mostC L) L W hP hn (by omega) r
      have hG := fun (x : Nat) (hx : x ≤ 200) W r => specGreedy_any (some y) c n x L W hn hm r
      have hS := fun (x : Nat) (hx : x ≤ 200) B d W r => specSum_any B d (gL L x).length (gL L x) W rfl (by rw [gL_length]; have := hP.1.1; omega) (gL_small x (by omega)) r
      have hgg : ∀ x : Nat, x ≤ 200 → greA L (x : Int) = gL L x := fun x hx => greA_yes hb (by omega)
      have hgs := fun x => sumL_gL hP x
      generalize hMM : mostC L = m at hX hML hms hT
      have hX2 : Hid (firstP (badAt L) m 1 = X) := by
        have := hX.out
        unfold badL at this
        rw [hMM] at this
        exact this
      obtain ⟨i, hi⟩ : ∃ i, l + 1 = i := ⟨_, rfl⟩
      rw [hi] at hy hms a2 a3
      have hi1 : (n : Int) - 1 = (i : Int) := by omega
      have hi2 : (n : Int) - 2 = (l : Int) := by omega
      have hi3 : (i : Int) < n := by omega
      have hi4 : (l : Int) < n := by omega
      have hn1 : ((n : Int) == 1) = false := by simp; omega
      have hrow := h.keep kb
      clear hX hP a1 b1 hy1 hz1 hl hi hMM hb h
      generalize cn L i = v1 at hy hms a2 a3
      generalize cn L l = v2 at hz hms b2 b3
      go_wp2_with fail
      go_quiet (fail)
      have b := below_drewN (Below.refl w1.heap.size w1) nq
      replace hrow := hrow.keep b
      replace kb := below_more kb kb.size b
      clear b hy hz hi1 hi2 hi3 hi4 hn1
      generalize w1.drewN nq = w2 at hrow kb ⊢
      go_wp2_with fail
      refine (hT _ hrow).mono ?_
      clear hT
      rintro e w3 ⟨B, d, rfl, o, b⟩
      obtain ⟨M, hM⟩ : ∃ M, m + 1 = M := ⟨_, rfl⟩
      have hTl : (tb m fun y => (best L y : Int)).length = M := by rw [tb_length, hM]
      have hTg := fun (x : Nat) (hx : x ≤ m) => tb_get (f := fun y => (best L y : Int)) hx
      have rT := intRow_own o
      replace hrow := hrow.keep b
      replace kb := below_more kb kb.size b
      rw [hTl]
      clear o b
      generalize (tb m fun y => (best L y : Int)) = T at rT hTl hTg
      replace hTl := Lib.hid hTl
      have hX3 : Hid (firstP (badAt L) (M - 1) 1 = X) := by
        have := hX2.out
        rw [show M - 1 = m by omega]
        exact this
      clear hX2
      go_wp2_with fail
      go_loopw [5] (fun i wr => ∃ x : Nat, 1 ≤ x ∧ x ≤ M ∧ i = .int .i64 x ∧ Hid (firstP (badAt L) (M - x) x = X) ∧ IntRow wr (some y) L ∧ IntRow wr B T ∧ Below w.heap.size w wr) (fun i _ => M - (intOf i).toNat)
      case atStart => exact ⟨1, by omega, by omega, rfl, hX3, hrow, rT, kb⟩
      case round =>
        clear hX3 hrow rT kb
        obtain ⟨x, hx1, hx, rfl, hX3, hrow, rT, kb⟩ := hrel
        by_cases hlt : x < M
        · have hxm : (x : Int) ≤ m := by omega
          have hxM : (x : Int) < M := by omega
          obtain ⟨z, rfl, hz0, hz1⟩ := rT x (by have := hTl.out; omega)
          rw [hTg x (by omega)] at hz1
          have hst := hX3.out
          rw [firstP_step hlt] at hst
          have hbad : badAt L x = decide ((gN L x : Int) ≠ (best L x : Int)) := rfl
          replace hst := Lib.hid hst
          clear hX3
          have hG2 := hG x (by omega)
          rw [hgg x (by omega)] at hG2
          have hS2 := hS x (by omega)
          rw [hgs x] at hS2
          generalize gL L x = G at hG2 hS2
          generalize gN L x = g1 at hS2 hbad
          generalize best L x = g2 at hz1 hbad
          generalize badAt L x = t at hst hbad
          clear hgg hgs hS hG hTg hlt
          have hc0 : wr.drew.cell? (z.add x) = some (.int .i64 g2) := hz1
          have hrow0 := hrow.keep (Below.refl wr.heap.size wr).drew
          go_wp2_with fail
          go_region_held3 (fun W => W.cell? (z.add x) = some (.int .i64 g2)) (first | exact hc0 | exact hc3)
            (first | (go_at_call 22; (with_reducible refine (hG2 _ hrow0).mono ?_); rintro e w4 ⟨B4, d4, rfl, o4, b4⟩; have hc3 := (b4.cell (lt_of_cell hc0)).trans hc0; have r4 := intRow_own o4) | (go_at_call 39; (with_reducible refine (hS2 _ _ _ r4).mono ?_); rintro e w5 ⟨rfl, rfl⟩))
          have b5 : Below wr.heap.size wr w4 := (Below.refl wr.heap.size wr).drew.trans b4
          replace hrow := hrow.keep b5
          replace rT := rT.keep b5
          replace kb := below_more kb kb.size b5
          clear b4 b5 hc0 hc3 hz1 hz0 r4 o4 hG2 hS2 hrow0
          by_cases e : (g1 : Int) = (g2 : Int)
          · have e1 : ((g1 : Int) != (g2 : Int)) = false := by simp; omega
            have hX3 : Hid (firstP (badAt L) (M - (x + 1)) (x + 1) = X) := by
              have := hst.out
              rw [hbad, if_neg (by simp; omega)] at this
              exact this
            clear hbad hst e
            go_wp2_with fail
            go_roundw
            case rel => exact ⟨x + 1, by omega, by omega, by go_num, hX3, hrow, rT, kb⟩
            case measure => simp [intOf]; omega
          · have e1 : ((g1 : Int) != (g2 : Int)) = true := by simp; omega
            obtain rfl : X = (x : Int) := by
              have := hst.out
              rw [hbad, if_pos (by simp; omega)] at this
              exact this.symm
            clear hbad hst e
            go_wp2_with fail
            go_ret
            exact ⟨rfl, kb⟩
        · obtain rfl : x = M := by omega
          obtain rfl : X = -1 := by
            have := hX3.out
            rw [Nat.sub_self] at this
            exact this.symm
          have hge : ¬ (x : Int) ≤ m := by omega
          clear hX3 hG hS hgg hgs hTg hrow rT
          go_wp2_with fail
          go_ret
          exact ⟨rfl, kb⟩
    · obtain rfl : X = -1 := hX.out.symm.trans (badA_one (by omega))
      have := (sysB_P hb).1.1
      obtain rfl : n = 1 := by omega
      clear h hX hb
      go_wp2_with fail
      go_ret
      exact ⟨rfl, kb⟩

theorem specGood_any (A : Option Addr) (c n : Nat) (L : List Int) (w : World) (hn : L.length = n) (hm : n ≤ 1000000000) (h : IntRow w A L) :
    Calls Try.prog 26 #[.slice A n c] w (SaysB (goodB L) w) := by
  have hR := specSys_any A c n L w hn hm h
  obtain ⟨X, hX⟩ : ∃ X, goodB L = X := ⟨_, rfl⟩
  rw [hX]
  replace hX : Hid (goodB L = X) := hX
  go_enter Try.func26, Try.ntmps26
  go_wp2_with fail
  refine hR.mono ?_
  clear hR
  rintro e w1 ⟨rfl, q, rfl⟩
  have kb := below_drewN (Below.refl w.heap.size w) q
  generalize w.drewN q = w1 at kb ⊢
  rcases hb : sysB L with _ | _
  · obtain rfl : X = false := hX.out.symm.trans (by unfold goodB; rw [hb]; rfl)
    clear h hX hb
    go_wp2_with fail
    go_ret
    exact ⟨rfl, kb⟩
  · have hB := specBad_any A c n L w1 hn hm (h.keep kb)
    have hX2 : Hid (decide (badA L < 0) = X) := by
      have := hX.out
      unfold goodB at this
      rw [hb, Bool.true_and] at this
      exact this
    clear hX hb h
    generalize badA L = r at hB hX2
    go_wp2_with fail
    refine hB.mono ?_
    clear hB
    rintro e w2 ⟨rfl, b⟩
    replace kb := below_more kb kb.size b
    clear b
    by_cases hr : r < 0
    · obtain rfl : X = true := hX2.out.symm.trans (decide_eq_true hr)
      clear hX2
      go_wp2_with fail
      go_ret
      exact ⟨rfl, kb⟩
    · obtain rfl : X = false := hX2.out.symm.trans (decide_eq_false hr)
      have hr2 : decide (r < 0) = false := decide_eq_false hr
      clear hX2
      go_wp2_with fail
      go_ret
      exact ⟨rfl, kb⟩
end Go.Proofs.Ytjjedicjaojkcaa
