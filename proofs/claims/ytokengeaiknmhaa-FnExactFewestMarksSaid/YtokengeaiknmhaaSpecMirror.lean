/-
  The contract of the model's ruler read from the other end. Only new memory is written.
-/
import Derived.Test.YtokengeaiknmhaaRulerLen
import Derived.Test.YtokengeaiknmhaaSpecRuler
import Derived.Test.YtokengeaiknmhaaSpillOne
import Derived.Test.YtokengeaiknmhaaOwnMore
import Derived.OwnWalk
namespace Go.Proofs.Ytokengeaiknmhaa
open Go.ChangeShapes Go.WideShapes Go.ChangeAt Go.RowKit Go.PlainAid

set_option maxRecDepth 100000 in
set_option maxHeartbeats 2000000 in
theorem specMirror_any (A : Option Addr) (c n : Nat) (L : List Int) (w : World) (hn : L.length = n) (hm : n ≤ 1000000000) (h : IntRow w A L) :
    Calls Try.prog 32 #[.slice A n c] w (Copied (mirA L) w) := by
  obtain ⟨i0, hi, hz0, hz1, hz2⟩ := info_parts Try.infoIntT
  have O0 := (Own.none w).empty
  obtain ⟨m, hri⟩ : ∃ m : Int, (n : Int) - 1 = m := ⟨_, rfl⟩
  have hR := fun W r => specRuler_any A c n L W hn hm r
  obtain ⟨X0, hX0⟩ : ∃ X, mirA L = X := ⟨_, rfl⟩
  rw [hX0]
  replace hX0 : Hid (mirA L = X0) := hX0
  go_enter Try.func32, Try.ntmps32
  go_wp2_with fail
  go_loopw [3, 4] (fun v i wr => ∃ (z : Int) (k : Nat), k ≤ n ∧ z + 1 = k ∧ (rulB L = false → k = n) ∧ i = .int .i64 z ∧ Own w wr [irow v (revd L k)]) (fun _ i _ => (intOf i + 1).toNat)
  case atStart => exact ⟨m, n, by omega, by omega, fun _ => rfl, rfl, by rw [← hn, revd_end]; exact O0⟩
  case round =>
    clear O0
    obtain ⟨z, k, hk, hz, hno, rfl, O⟩ := hrel
    by_cases hk0 : k = 0
    · have hd : decide (0 ≤ z) = false := decide_eq_false (by omega)
      have e : revd L k = mirA L := by
        rcases hb : rulB L with _ | _
        · have hn0 := hno hb
          rw [mirA_no hb, hn0, ← hn, revd_end]
        · rw [mirA_yes hb, hk0, revd_zero]
      rw [e, hX0.out] at O
      have hc := O.copied
      have hlt : z < 0 := by omega
      clear hR h O e hno hz
      go_wp2_with fail
      go_ret
      exact hc
    · obtain ⟨p, rfl⟩ : ∃ p, k = p + 1 := ⟨k - 1, by omega⟩
      obtain rfl : z = (p : Int) := by omega
      have hR1 := hR _ (h.keep O.bel)
      have hd : decide ((0 : Int) ≤ p) = true := decide_eq_true (by omega)
      rcases hb : rulB L with _ | _
      · have e : revd L (p + 1) = mirA L := by rw [mirA_no hb, hno hb, ← hn, revd_end]
        rw [e, hX0.out] at O
        rw [hb] at hR1
        clear hR h e
        go_wp2_with fail
        refine hR1.mono ?_
        rintro e w1 ⟨rfl, q, rfl⟩
        have hc := (O.drew q).copied
        clear hR1 O
        go_wp2_with fail
        go_ret
        exact hc
      · rw [hb] at hR1
        have hP := rulB_P hb
        have hn8 := hP.1.1
        go_wp2_with fail
        refine hR1.mono ?_
        rintro e w1 ⟨rfl, q, rfl⟩
        replace O := O.drew q
        generalize wr.drewN q = w1 at O ⊢
        have h2 := h.keep O.bel
        obtain ⟨r, hr⟩ : ∃ r, n = r + 1 := ⟨n - 1, by omega⟩
        obtain rfl : m = (r : Int) := by omega
        obtain ⟨x, rfl, -, hx⟩ := h2 p (by omega)
        obtain ⟨y, hxy, -, hy⟩ := h2 r (by omega)
        injection hxy with hxy
        subst hxy
        have el : L.getD r 0 = lastL L := by unfold lastL; rw [hn, hr, Nat.add_sub_cancel]
        rw [el] at hy
        have es := revd_step (L := L) (p := p) (by omega)
        have b1 := (hP.2 p (by omega)).1
        have b2 := hP.last
        have hX : (revd L (p + 1)).length ≤ 8 := by rw [revd_length]; omega
        have hrn : (r : Int) < n := by omega
        have hpn : (p : Int) < n := by omega
        have hr8 : (r : Int) ≤ 8 := by omega
        have hw : IntKind.i64.wrap (r : Int) = r := IntWalk.i64_in _ (by omega)
        have hnn : rulB L = false → p = n := fun e => by rw [hb] at e; cases e
        have h1 := O.hd
        have hsz := O.bel.size
        clear hR1 hP h2 el hr hno
        replace hR : Hid (∀ (W : World), IntRow W (some x) L → Calls Try.prog 22 #[.slice (some x) n c] W (Quiet (rulB L) W)) := hR
        generalize revd L (p + 1) = X at O es hX h1
        generalize L.getD p 0 = z at hx es b1
        generalize lastL L = t at hy es b2
        go_wp2_with fail
        have hw2 : IntKind.i64.wrap (t - z) = t - z := IntWalk.i64_in _ (by omega)
        go_region_law (refine step_append_spill _ rfl (.tmp 17) (.tmp 29) 24 rfl w.heap.size 3 i0 (.int .i64 0) Try.underlying24 hi hz0 hz1 hz2 rfl u3 X.length (ints X) rfl (h1.alloc _) ⟨w1.heap.size, 0, none⟩ 1 (.int .i64 (t - z)) rfl (new_one w1 _ _) rfl (by omega) (by simp; omega) ?_; intro v' w3 hown1 hg1 hb1 _; replace O := O.iapp hown1 ⟨hg1.os, hg1.tape, hg1.output, hg1.size, hg1.block⟩ hb1; rw [es] at O; clear hown1 hg1 hb1 h1)
        all_goals
          go_wp2
          go_roundw
          case rel => exact ⟨(p : Int) - 1, p, by omega, by omega, (by intro e; first | exact hnn e | cases e), by first | rfl | go_num, O⟩
          case measure => first | (simp [intOf]; done) | (simp [intOf]; omega)
end Go.Proofs.Ytokengeaiknmhaa
