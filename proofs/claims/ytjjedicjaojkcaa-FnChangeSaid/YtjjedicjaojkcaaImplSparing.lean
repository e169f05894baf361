/-
  The contract of the program's table of best choices. Only new memory is written.
-/
import Derived.Test.YtjjedicjaojkcaaImplPay
import Derived.BigQuiet
import Derived.BigRegion
namespace Go.Proofs.Ytjjedicjaojkcaa
open Go.ChangeShapes Go.WideShapes Go.ChangeAt Go.RowKit Go.PlainAid

/-- A way of paying by a table, in memory of its own. -/
def GivesWay (K M : Nat) (T : List Int) (w : World) (e : Ending) (w' : World) : Prop :=
  ∃ g B d, e = .returned (ByFn K g) ∧ Own w w' [vrow g (.slice B M d), irow (.slice B M d) T]

set_option maxHeartbeats 2000000 in
theorem implSparingly_any (A : Option Addr) (c n m : Nat) (L : List Int) (w : World) (hP : SysP L) (hn : L.length = n) (hm : m ≤ 1000) (h : IntRow w A L) :
    Calls Try.prog 34 #[.slice A n c, .int .i64 m] w (GivesWay 43 (m + 1) (tb m fun y => (choi L y : Int)) w) := by
  obtain ⟨i0, hi, hz0, hz1, hz2⟩ := info_parts Try.infoIntT
  obtain ⟨M, hM⟩ : ∃ M : Nat, m + 1 = M := ⟨_, rfl⟩
  have hMi : (m : Int) + 1 = (M : Int) := by omega
  have hn6 := hP.1.1
  rw [hn] at hn6
  have tl : ∀ f : Nat → Int, (tb m f).length = M := fun f => by rw [tb_length, hM]
  go_enter Try.func34, Try.ntmps34
  go_wp2_with (first | (at_make; refine wpList_make_full _ rfl _ _ 24 rfl w.heap.size 3 i0 (.int .i64 0) 1 Try.underlying24 hi hz0 hz1 .i64 .i64 _ _ M rfl rfl rfl rfl (by rw [hz2]; omega) (by unfold maxLen; omega) (Nat.le_refl _) ?_; intro w0 hown0 hgrow0; have M1 := (Own.none w).made hown0 hgrow0; clear hown0 hgrow0) | (at_make; refine wpList_make_full _ rfl _ _ 24 rfl w0.heap.size 3 i0 (.int .i64 0) 1 Try.underlying24 hi hz0 hz1 .i64 .i64 _ _ M rfl rfl rfl rfl (by rw [hz2]; omega) (by unfold maxLen; omega) (Nat.le_refl _) ?_; intro w1 hown1 hgrow1; replace M1 := M1.made hown1 hgrow1; clear hown1 hgrow1))
  have z1 : List.replicate M 0 = tb m (cst L 1) := by rw [← hM]; exact cst_first hP m
  have z2 : List.replicate M 0 = tb m (bst L 1) := by rw [← hM]; exact bst_first L m
  have O : Own w (w1.alloc (.cells #[.slice (some ⟨w0.heap.size, 0, none⟩) M M] 24)) [vrow w1.heap.size (.slice (some ⟨w0.heap.size, 0, none⟩) M M), irow (.slice (some ⟨w0.heap.size, 0, none⟩) M M) (tb m (cst L 1)), irow (.slice (some ⟨w.heap.size, 0, none⟩) M M) (tb m (bst L 1))] := by
    rw [← z1, ← z2]
    exact M1.var (.slice (some ⟨w0.heap.size, 0, none⟩) M M)
  clear M1 z1 z2
  obtain ⟨g, hg⟩ : ∃ g, w1.heap.size = g := ⟨_, rfl⟩
  obtain ⟨B2, hB2⟩ : ∃ B2, w0.heap.size = B2 := ⟨_, rfl⟩
  rw [hg, hB2] at O
  rw [hg, hB2]
  generalize w1.alloc (.cells #[.slice (some ⟨B2, 0, none⟩) M M] 24) = w2 at O ⊢
  clear hg hB2
  go_loopw [7] (fun i wr => ∃ x : Nat, 1 ≤ x ∧ x ≤ M ∧ i = .int .i64 x ∧ Own w wr [vrow g (.slice (some ⟨B2, 0, none⟩) M M), irow (.slice (some ⟨B2, 0, none⟩) M M) (tb m (cst L x)), irow (.slice (some ⟨w.heap.size, 0, none⟩) M M) (tb m (bst L x))]) (fun i _ => M - (intOf i).toNat)
  case atStart => exact ⟨1, by omega, by omega, rfl, O⟩
  case round =>
    clear O
    obtain ⟨x, hx1, hx, rfl, O⟩ := hrel
    by_cases hlt : x < M
    · obtain ⟨p, hp⟩ : ∃ p : Nat, x = p + 1 := ⟨x - 1, by omega⟩
      have hpi : (x : Int) - 1 = (p : Int) := by omega
      have hpM : (p : Int) < M := by omega
      have hxM : (x : Int) < M := by omega
      have hxm : (x : Int) ≤ m := by omega
      have hcp := O.third.cell (tl _) (show p < M by omega)
      rw [tb_get (by omega), bst_below (by omega)] at hcp
      obtain ⟨⟨u, hu⟩, hf, O2⟩ := O.third.store (tl _) hlt ((best L p + 1 : Nat) : Int)
      rw [bst_set (by omega)] at O2
      replace O2 := O2.back
      have hb := best_le hP p
      have e1 : best L p + 1 = minTo L (best L) x 0 := by unfold minTo; rw [hp]; rfl
      have e2 : ((best L p + 1 : Nat) : Int) = (best L p : Int) + 1 := by omega
      rw [e2, e1, cst_cin] at O2
      have O3 := Lib.hid O2
      clear O O2 e1 e2 hp
      have hP' := Lib.hid hP
      generalize hz : best L p = z at hcp hb O3
      clear hz
      go_wp2_with fail
      have O1 := O3.out
      clear O3 hcp hu hf hP
      go_loopw [32] (fun i wr => ∃ k : Nat, k ≤ n ∧ i = .int .i64 k ∧ Own w wr [vrow g (.slice (some ⟨B2, 0, none⟩) M M), irow (.slice (some ⟨B2, 0, none⟩) M M) (tb m (cin L x (chTo L (best L) x k : Nat))), irow (.slice (some ⟨w.heap.size, 0, none⟩) M M) (tb m (bin L x (minTo L (best L) x k)))]) (fun i _ => n - (intOf i).toNat)
      case atStart => exact ⟨0, by omega, rfl, O1⟩
      case round =>
        clear O1
        obtain ⟨k, hk, rfl, O⟩ := hrel
        have hP := hP'.out
        by_cases hkn : k < n
        · obtain ⟨y, rfl, hy0, hy1⟩ := h k (by omega)
          obtain ⟨hc1, hc2, hc3⟩ := hP.coin (k := k) (by omega)
          have hkni : (k : Int) < n := by omega
          rw [hc1] at hy1
          have hy := (O.bel.cell (by rw [addr_add_block]; exact hy0)).trans hy1
          have hms := Lib.hid (minTo_succ L (best L) x k)
          have hcs := Lib.hid (chTo_succ L (best L) x k)
          by_cases hcx : cn L k ≤ x
          · have hcxi : (cn L k : Int) ≤ x := by omega
            obtain ⟨a, ha⟩ : ∃ a, x - cn L k = a := ⟨_, rfl⟩
            have hai : (x : Int) - cn L k = (a : Int) := by omega
            have haM : (a : Int) < M := by omega
            have hca := O.third.cell (tl _) (show a < M by omega)
            rw [tb_get (by omega), bin_below (by omega)] at hca
            have hcxx := O.third.cell (tl _) hlt
            rw [tb_get (by omega), bin_at] at hcxx
            have hr := minTo_range (L := L) k hx1 (best_le hP)
            have hb := best_le hP a
            rw [ha] at hms hcs
            by_cases hlss : best L a + 1 < minTo L (best L) x k
            · have e1 : minTo L (best L) x (k + 1) = best L a + 1 := by rw [hms.out, if_pos ⟨hcx, hlss⟩]
              have e2 : chTo L (best L) x (k + 1) = k := by rw [hcs.out, if_pos ⟨hcx, hlss⟩]
              have hd : decide ((best L a : Int) + 1 < (minTo L (best L) x k : Int)) = true := decide_eq_true (by omega)
              have hstores : ∀ w3, Own w w3 [vrow g (.slice (some ⟨B2, 0, none⟩) M M), irow (.slice (some ⟨B2, 0, none⟩) M M) (tb m (cin L x (chTo L (best L) x k : Nat))), irow (.slice (some ⟨w.heap.size, 0, none⟩) M M) (tb m (bin L x (minTo L (best L) x k)))] →
                  w3.cell? ⟨w.heap.size, a, none⟩ = some (.int .i64 (best L a : Nat)) ∧ (∃ u, w3.cell? ⟨w.heap.size, x, none⟩ = some u) ∧ w3.frozen? ⟨w.heap.size, x, none⟩ = false ∧
                  (w3.setCell ⟨w.heap.size, x, none⟩ (.int .i64 ((best L a : Int) + 1))).cell? ⟨g, 0, none⟩ = some (.slice (some ⟨B2, 0, none⟩) M M) ∧
                  (∃ u, (w3.setCell ⟨w.heap.size, x, none⟩ (.int .i64 ((best L a : Int) + 1))).cell? ⟨B2, x, none⟩ = some u) ∧ (w3.setCell ⟨w.heap.size, x, none⟩ (.int .i64 ((best L a : Int) + 1))).frozen? ⟨B2, x, none⟩ = false ∧
                  Own w ((w3.setCell ⟨w.heap.size, x, none⟩ (.int .i64 ((best L a : Int) + 1))).setCell ⟨B2, x, none⟩ (.int .i64 k)) [vrow g (.slice (some ⟨B2, 0, none⟩) M M), irow (.slice (some ⟨B2, 0, none⟩) M M) (tb m (cin L x (chTo L (best L) x (k + 1) : Nat))), irow (.slice (some ⟨w.heap.size, 0, none⟩) M M) (tb m (bin L x (minTo L (best L) x (k + 1))))] := fun w3 Q => by
                have q1 := Q.third.cell (tl _) (show a < M by omega)
                rw [tb_get (by omega), bin_below (by omega)] at q1
                obtain ⟨q2, q3, Q2⟩ := Q.third.store (tl _) hlt ((best L a + 1 : Nat) : Int)
                rw [bin_set (by omega), ← e1] at Q2
                rw [e1, show ((best L a + 1 : Nat) : Int) = (best L a : Int) + 1 by omega] at Q2
                rw [← e1] at Q2
                replace Q2 := Q2.back
                have q4 := Q2.vcell (g := g) (v := .slice (some ⟨B2, 0, none⟩) M M) (by simp)
                obtain ⟨q5, q6, Q3⟩ := Q2.swap.store (tl _) hlt (k : Int)
                rw [cin_set (by omega), ← e2] at Q3
                rw [e2] at Q3 ⊢
                exact ⟨q1, q2, q3, q4, q5, q6, Q3.swap⟩
              clear e1 e2 hms hcs hP hcx hlss ha h hc1 hy1
              go_wp2_with fail
              go_quiet (fail)
              replace O := O.drew nq
              generalize wr.drewN nq = w3 at O ⊢
              obtain ⟨q1, ⟨u1, q2⟩, q3, q4, ⟨u2, q5⟩, q6, Q⟩ := hstores w3 O
              clear hstores O hca hcxx hy hd
              go_wp2_with fail
              go_roundw
              case rel => exact ⟨k + 1, by omega, by go_num, Q⟩
              case measure => simp [intOf]; omega
            · have e1 : minTo L (best L) x (k + 1) = minTo L (best L) x k := by rw [hms.out, if_neg fun g => hlss g.2]
              have e2 : chTo L (best L) x (k + 1) = chTo L (best L) x k := by rw [hcs.out, if_neg fun g => hlss g.2]
              have hd : decide ((best L a : Int) + 1 < (minTo L (best L) x k : Int)) = false := decide_eq_false (by omega)
              rw [← e1, ← e2] at O
              clear e1 e2 hms hcs hP hcx hlss ha h hc1 hy1
              go_wp2_with fail
              go_quiet (fail)
              replace O := O.drew nq
              generalize wr.drewN nq = w3 at O ⊢
              clear hca hcxx hy hd
              go_wp2_with fail
              go_roundw
              case rel => exact ⟨k + 1, by omega, by go_num, O⟩
              case measure => simp [intOf]; omega
          · have e1 : minTo L (best L) x (k + 1) = minTo L (best L) x k := by rw [hms.out, if_neg fun g => hcx g.1]
            have e2 : chTo L (best L) x (k + 1) = chTo L (best L) x k := by rw [hcs.out, if_neg fun g => hcx g.1]
            have hd : decide (cn L k ≤ x) = false := decide_eq_false (by omega)
            rw [← e1, ← e2] at O
            clear e1 e2 hms hcs hP hcx h hc1 hy1
            go_wp2_with fail
            go_quiet (fail)
            replace O := O.drew nq
            generalize wr.drewN nq = w3 at O ⊢
            clear hy hd
            go_wp2_with fail
            go_roundw
            case rel => exact ⟨k + 1, by omega, by go_num, O⟩
            case measure => simp [intOf]; omega
        · obtain rfl : k = n := by omega
          have e1 : minTo L (best L) x k = best L x := by rw [best_more hP hx1, hn]
          have e2 : chTo L (best L) x k = choi L x := by unfold choi; rw [hn]
          rw [e1, e2, bin_end, cin_end] at O
          clear h hP e1 e2
          go_wp2_with fail
          go_roundw
          case rel => exact ⟨x + 1, by omega, by omega, by go_num, O⟩
          case measure => simp [intOf]; omega
    · obtain rfl : x = M := by omega
      have hge : ¬ (x : Int) ≤ m := by omega
      rw [← hM, cst_all, hM] at O
      have O2 := O.third.tl
      have O3 := Lib.hid O2
      clear O O2 h hP
      go_wp2_with fail
      go_ret
      exact ⟨g, _, _, rfl, O3.out⟩
end Go.Proofs.Ytjjedicjaojkcaa
