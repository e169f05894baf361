/-
  The contract of the model's table of least numbers of coins. Only new memory is written.
-/
import Derived.Test.YtjjedicjaojkcaaSpecSys
import Derived.Test.YtjjedicjaojkcaaCoinWays
import Derived.Test.YtjjedicjaojkcaaOwnMore
import Derived.BigQuiet
import Derived.BigRegion
import Derived.Lib.Hide
namespace Go.Proofs.Ytjjedicjaojkcaa
open Go.ChangeShapes Go.WideShapes Go.ChangeAt Go.RowKit Go.PlainAid

set_option maxHeartbeats 2000000 in
theorem specTab_any (A : Option Addr) (c n m : Nat) (L : List Int) (w : World) (hP : SysP L) (hn : L.length = n) (hm : m ≤ 1000) (h : IntRow w A L) :
    Calls Try.prog 38 #[.slice A n c, .int .i64 m] w (Copied (tb m fun y => (best L y : Int)) w) := by
  obtain ⟨i0, hi, hz0, hz1, hz2⟩ := info_parts Try.infoIntT
  obtain ⟨M, hM⟩ : ∃ M : Nat, m + 1 = M := ⟨_, rfl⟩
  have hMi : (m : Int) + 1 = (M : Int) := by omega
  have hn6 := hP.1.1
  rw [hn] at hn6
  have tl : ∀ f : Nat → Int, (tb m f).length = M := fun f => by rw [tb_length, hM]
  go_enter Try.func38, Try.ntmps38
  go_wp2_with (at_make; refine wpList_make_full _ rfl _ _ 24 rfl w.heap.size 3 i0 (.int .i64 0) 1 Try.underlying24 hi hz0 hz1 .i64 .i64 _ _ M rfl rfl rfl rfl (by rw [hz2]; omega) (by unfold maxLen; omega) (Nat.le_refl _) ?_; intro w0 hown0 hgrow0; have M1 := (Own.none w).made hown0 hgrow0; clear hown0 hgrow0)
  rw [← hM, bst_first L m, hM] at M1
  go_loopw [6] (fun i wr => ∃ x : Nat, 1 ≤ x ∧ x ≤ M ∧ i = .int .i64 x ∧ Own w wr [irow (.slice (some ⟨w.heap.size, 0, none⟩) M M) (tb m (bst L x))]) (fun i _ => M - (intOf i).toNat)
  case atStart => exact ⟨1, by omega, by omega, rfl, M1⟩
  case round =>
    clear M1
    obtain ⟨x, hx1, hx, rfl, O⟩ := hrel
    by_cases hlt : x < M
    · obtain ⟨p, hp⟩ : ∃ p : Nat, x = p + 1 := ⟨x - 1, by omega⟩
      have hpi : (x : Int) - 1 = (p : Int) := by omega
      have hpM : (p : Int) < M := by omega
      have hxM : (x : Int) < M := by omega
      have hxm : (x : Int) ≤ m := by omega
      have hcp := O.cell (tl _) (show p < M by omega)
      rw [tb_get (by omega), bst_below (by omega)] at hcp
      obtain ⟨⟨u, hu⟩, hf, O2⟩ := O.store (tl _) hlt ((best L p + 1 : Nat) : Int)
      rw [bst_set (by omega)] at O2
      have hb := best_le hP p
      have e1 : best L p + 1 = minTo L (best L) x 1 := by rw [minTo_one hP, hp]; rfl
      have e2 : ((best L p + 1 : Nat) : Int) = (best L p : Int) + 1 := by omega
      rw [e2, e1] at O2
      have O3 := Lib.hid O2
      clear O O2 e1 e2
      have hP' := Lib.hid hP
      clear hp
      generalize hz : best L p = z at hcp hb O3
      clear hz
      go_wp2_with fail
      have O1 := O3.out
      clear O3 hcp hu hf hP
      go_loopw [7] (fun i wr => ∃ k : Nat, 1 ≤ k ∧ k ≤ n ∧ i = .int .i64 k ∧ Own w wr [irow (.slice (some ⟨w.heap.size, 0, none⟩) M M) (tb m (bin L x (minTo L (best L) x k)))]) (fun i _ => n - (intOf i).toNat)
      case atStart => exact ⟨1, by omega, by omega, rfl, O1⟩
      case round =>
        clear O1 
        obtain ⟨k, hk1, hk, rfl, O⟩ := hrel
        have hP := hP'.out
        have hdone : (∀ i, k ≤ i → i < L.length → x < cn L i) → Hid (Own w wr [irow (.slice (some ⟨w.heap.size, 0, none⟩) M M) (tb m (bst L (x + 1)))]) := fun hs => by
          have e : minTo L (best L) x k = best L x := by
            rw [best_more hP hx1, ← minTo_stop hs (L.length - k) (by omega), show k + (L.length - k) = L.length by omega]
          rw [e, bin_end] at O
          exact O
        by_cases hkn : k < n
        · obtain ⟨y, rfl, hy0, hy1⟩ := h k (by omega)
          obtain ⟨hc1, hc2, hc3⟩ := hP.coin (k := k) (by omega)
          have hkni : (k : Int) < n := by omega
          rw [hc1] at hy1
          have hy := (O.bel.cell (by rw [addr_add_block]; exact hy0)).trans hy1
          by_cases hcx : cn L k ≤ x
          · have hcxi : (cn L k : Int) ≤ x := by omega
            obtain ⟨a, ha⟩ : ∃ a, x - cn L k = a := ⟨_, rfl⟩
            have hai : (x : Int) - cn L k = (a : Int) := by omega
            have haM : (a : Int) < M := by omega
            have hca := O.cell (tl _) (show a < M by omega)
            rw [tb_get (by omega), bin_below (by omega)] at hca
            have hcxx := O.cell (tl _) hlt
            rw [tb_get (by omega), bin_at] at hcxx
            obtain ⟨-, hf, O2⟩ := O.store (tl _) hlt ((minTo L (best L) x (k + 1) : Nat) : Int)
            rw [bin_set (by omega)] at O2
            have hmm := minTo_min (b := best L) hcx
            rw [ha] at hmm
            have hr := minTo_range (L := L) k hx1 (best_le hP)
            have hb := best_le hP a
            have O3 := Lib.hid O2
            clear O O2 hdone hy1 hc1 h hP
            generalize hv2 : minTo L (best L) x (k + 1) = v2 at O3 hmm
            replace hv2 := Lib.hid hv2
            generalize minTo L (best L) x k = v1 at hcxx hr hmm
            generalize best L a = v0 at hca hb hmm
            generalize cn L k = cv at hy hc2 hc3 hcx hcxi ha hai
            have hif : (if (v0 : Int) + 1 < (v1 : Int) then (v0 : Int) + 1 else (v1 : Int)) = (v2 : Int) := by
              split <;> omega
            have O2 := O3.out.drew 1
            rw [← hif] at O2
            have O4 := Lib.hid O2
            clear O2 O3 hif
            clear hmm ha hcx
            go_wp2_with fail
            go_region
            have O2 := O4.out
            clear O4
            replace O2 : Own w (wr.setCell ⟨w.heap.size, x, none⟩ (.int .i64 (if (v0 : Int) + 1 < (v1 : Int) then (v0 : Int) + 1 else (v1 : Int)))).drew [irow (.slice (some ⟨w.heap.size, 0, none⟩) M M) (tb m (bin L x v2))] := O2
            generalize (wr.setCell ⟨w.heap.size, x, none⟩ (.int .i64 (if (v0 : Int) + 1 < (v1 : Int) then (v0 : Int) + 1 else (v1 : Int)))).drew = w3 at O2 ⊢
            clear hcxx hca hf hy
            go_wp2
            go_roundw
            case rel => exact ⟨k + 1, by omega, by omega, by go_num, by rw [hv2.out]; exact O2⟩
            case measure => simp [intOf]; omega
          · have hcxi : ¬ (cn L k : Int) ≤ x := by omega
            have O3 := hdone fun i h1 h2 => by
              have := hP.mono h1 h2
              omega
            clear O hdone hy1 hc1 h hP
            generalize cn L k = cv at hy hc2 hc3 hcx hcxi
            go_wp2_with fail
            go_roundw
            case rel => exact ⟨x + 1, by omega, by omega, by go_num, O3.out⟩
            case measure => simp [intOf]; omega
        · obtain rfl : k = n := by omega
          have O3 := hdone fun i h1 h2 => by omega
          clear O hdone h hP
          go_wp2_with fail
          go_roundw
          case rel => exact ⟨x + 1, by omega, by omega, by go_num, O3.out⟩
          case measure => simp [intOf]; omega
    · obtain rfl : x = M := by omega
      have hge : ¬ (x : Int) ≤ m := by omega
      rw [← hM, bst_all, hM] at O
      have O2 : Own w wr [irow (.slice (some ⟨w.heap.size, 0, none⟩) (tb m fun y => (best L y : Int)).length x) (tb m fun y => (best L y : Int))] := by rw [tl]; exact O
      have hc := O2.copied
      rw [tl] at hc
      clear O O2 h hP
      go_wp2_with fail
      go_ret
      exact hc
end Go.Proofs.Ytjjedicjaojkcaa
