/-
  The contract of the model's table of lengths, in memory of the call's own.
-/
import Derived.Test.YtokengeaiknmhaaRuler
import Derived.Test.YtokengeaiknmhaaOwnMore
import Derived.OwnWalk
import Derived.BigRegion
namespace Go.Proofs.Ytokengeaiknmhaa
open Go.ChangeShapes Go.WideShapes Go.ChangeAt Go.RowKit Go.PlainAid

set_option maxRecDepth 100000 in
set_option maxHeartbeats 4000000 in
theorem specCounts_any (A : Option Addr) (c n : Nat) (L : List Int) (w : World) (hn : L.length = n) (hP : RulP L) (h : IntRow w A L) :
    Calls Try.prog 38 #[.slice A n c] w (Copied (tab (lens L)) w) := by
  obtain ⟨i0, hi, hz0, hz1, hz2⟩ := info_parts Try.infoIntT
  have hn8 := hP.1.1
  rw [hn] at hn8
  have O0 := Own.none w
  go_enter Try.func38, Try.ntmps38
  go_wp2_with (at_make; refine wpList_make_full _ rfl _ _ 24 rfl w.heap.size 3 i0 (.int .i64 0) 1 Try.underlying24 hi hz0 hz1 .i64 .i64 _ _ 61 rfl rfl rfl rfl (by rw [hz2]; omega) (by unfold maxLen; omega) (Nat.le_refl _) ?_; intro w0 hown0 hgrow0; have M1 := O0.made hown0 hgrow0; clear hown0 hgrow0)
  rw [← tab_nil] at M1
  go_loopw [4] (fun i wr => ∃ k : Nat, k ≤ n ∧ i = .int .i64 k ∧ Own w wr [irow (.slice (some ⟨w.heap.size, 0, none⟩) 61 61) (tab (lensTo L k))]) (fun i _ => n - (intOf i).toNat)
  case atStart => exact ⟨0, by omega, rfl, M1⟩
  case round =>
    clear M1 O0
    obtain ⟨k, hk, rfl, O⟩ := hrel
    by_cases hlt : k < n
    · rw [← lensAt_zero] at O
      go_wp2
      go_loopw [5] (fun i wr => ∃ j : Nat, j ≤ k ∧ i = .int .i64 j ∧ Own w wr [irow (.slice (some ⟨w.heap.size, 0, none⟩) 61 61) (tab (lensAt L k j))]) (fun i _ => k - (intOf i).toNat)
      case atStart => exact ⟨0, by omega, rfl, O⟩
      case round =>
        clear O
        obtain ⟨j, hj, rfl, O⟩ := hrel
        by_cases hjk : j < k
        · obtain ⟨x, rfl, hx0, hx1⟩ := h k (by omega)
          obtain ⟨y, hxy, -, hy1⟩ := h j (by omega)
          injection hxy with hxy
          subst hxy
          have d := hP.diff hjk (by omega)
          have es := lensAt_succ (L := L) (k := k) (i := j) (by omega)
          have hx := (O.bel.cell (by rw [addr_add_block]; exact hx0)).trans hx1
          have hy := (O.bel.cell (by rw [addr_add_block]; exact hx0)).trans hy1
          have cl := lensAt_length (L := L) (k := k) (i := j) (by omega) (by omega) (by omega)
          obtain ⟨v, hv⟩ : ∃ v : Nat, L.getD k 0 - L.getD j 0 = v := ⟨(L.getD k 0 - L.getD j 0).toNat, by omega⟩
          rw [hv] at d es
          have hv61 : v < 61 := by omega
          have hc := O.cell (tab_len _) hv61
          have hct : 0 ≤ (tab (lensAt L k j)).getD v 0 ∧ (tab (lensAt L k j)).getD v 0 ≤ 64 := by
            rw [tab_get _ hv61]
            have := List.count_le_length (a := (v : Int)) (l := lensAt L k j)
            omega
          have hf := (O.store (tab_len _) hv61 0).2.1
          have O2 := (O.store (tab_len _) hv61 ((tab (lensAt L k j)).getD v 0 + 1)).2.2
          rw [tab_snoc _ hv61, ← es] at O2
          replace O2 := O2.drew 1
          have hvi : (v : Int) < 61 := by omega
          have hkn : (k : Int) < n := by omega
          have hjn : (j : Int) < n := by omega
          have hb1 := (hP.2 k (by omega)).1
          have hb2 := (hP.2 j (by omega)).1
          clear h hP O hx0 hx1 hy1 es cl d
          generalize L.getD k 0 = z at hx hv hb1
          generalize L.getD j 0 = y at hy hv hb2
          generalize (tab (lensAt L k j)).getD v 0 = u at hc hct O2
          go_wp2
          go_region
          replace O2 : Own w (wr.setCell ⟨w.heap.size, v, none⟩ (.int .i64 (u + 1))).drew _ := O2
          generalize (wr.setCell ⟨w.heap.size, v, none⟩ (.int .i64 (u + 1))).drew = w3 at O2 ⊢
          clear hc hx hy hf
          go_wp2
          go_roundw
          case rel => exact ⟨j + 1, by omega, by go_num, O2⟩
          case measure => simp [intOf]; omega
        · obtain rfl : j = k := by omega
          rw [lensAt_all] at O
          clear h hP
          go_wp2
          go_roundw
          case rel => exact ⟨j + 1, by omega, by go_num, O⟩
          case measure => simp [intOf]; omega
    · obtain rfl : k = n := by omega
      rw [← hn] at O
      have hc := O.copied
      clear h hP O
      go_wp2
      go_ret
      exact hc
end Go.Proofs.Ytokengeaiknmhaa
