/-
  The contract of the program's table of payable amounts. Only new memory is written.
-/
import Derived.Test.YtajocneggcofgaaImplPurse
import Derived.Test.YtajocneggcofgaaBools
import Derived.BigQuiet
import Derived.BigRegion
import Derived.Lib.Hide
namespace Go.Proofs.Ytajocneggcofgaa
open Go.ChangeShapes Go.WideShapes Go.ChangeAt Go.RowKit Go.PlainAid

set_option maxHeartbeats 2000000 in
theorem implTable_any (A : Option Addr) (c n m : Nat) (L : List Int) (w : World) (hP : PursP L) (hn : L.length = n) (hm : m ≤ 1000) (h : IntRow w A L) :
    Calls Try.prog 30 #[.slice A n c, .int .i64 m] w (Tabled (m + 1) (payB L) w) := by
  obtain ⟨i0, hi, hz0, hz1, hz2⟩ := info_parts Try.infoBoolT
  obtain ⟨M, hM⟩ : ∃ M : Nat, m + 1 = M := ⟨_, rfl⟩
  have hMi : (m : Int) + 1 = (M : Int) := by omega
  have hM0 : (0 : Int) < M := by omega
  have hn4 := hP.1
  rw [hn] at hn4
  rw [hM]
  go_enter Try.func30, Try.ntmps30
  go_wp2_with (at_make; refine wpList_make_full _ rfl _ _ 35 rfl w.heap.size 4 i0 (.bool false) 1 Try.underlying35 hi hz0 hz1 .i64 .i64 _ _ M rfl rfl rfl rfl (by rw [hz2]; omega) (by unfold maxLen; omega) (Nat.le_refl _) ?_; intro w0 hown0 hgrow0; have M1 := (Own.none w).bmade hown0 hgrow0; obtain ⟨⟨u0, hu0⟩, hf0, M2⟩ := M1.bstore (j := 0) (by omega) true; clear hown0 hgrow0 M1)
  rw [bst_zero L] at M2
  clear hu0 hf0
  go_loopw [16] (fun i wr => ∃ x : Nat, x ≤ M ∧ i = .int .i64 x ∧ Own w wr [brow (.slice (some ⟨w.heap.size, 0, none⟩) M M) M (bst L x)]) (fun i _ => M - (intOf i).toNat)
  case atStart => exact ⟨0, by omega, rfl, M2⟩
  case round =>
    clear M2
    obtain ⟨x, hx, rfl, O⟩ := hrel
    by_cases hlt : x < M
    · have hxM : (x : Int) < M := by omega
      rw [← bin_zero] at O
      have O1 := Lib.hid O
      clear O
      go_wp2_with fail
      go_loopw [21] (fun i wr => ∃ k : Nat, k ≤ n ∧ i = .int .i64 k ∧ Own w wr [brow (.slice (some ⟨w.heap.size, 0, none⟩) M M) M (bin L x k)]) (fun i _ => n - (intOf i).toNat)
      case atStart => exact ⟨0, by omega, rfl, O1.out⟩
      case round =>
        clear O1
        obtain ⟨k, hk, rfl, O⟩ := hrel
        by_cases hkn : k < n
        · obtain ⟨y, rfl, hy0, hy1⟩ := h k (by omega)
          obtain ⟨hc1, hc2, hc3⟩ := hP.coin (k := k) (by omega)
          have hkni : (k : Int) < n := by omega
          rw [hc1] at hy1
          have hy := (O.bel.cell (by rw [addr_add_block]; exact hy0)).trans hy1
          clear hy1 hc1 hy0
          by_cases hcle : cn L k ≤ x
          · obtain ⟨a, ha⟩ : ∃ a, x - cn L k = a := ⟨_, rfl⟩
            have hai : (x : Int) - cn L k = (a : Int) := by omega
            have haM : (a : Int) < M := by omega
            have hca := O.bcell (show a < M by omega)
            rw [bin_below (by omega)] at hca
            have hno := bin_no (L := L) (x := x) (k := k)
            have hyes := bin_yes (L := L) (x := x) (k := k) hcle
            rw [ha] at hno hyes
            rw [decide_eq_true hcle, Bool.true_and] at hno
            rcases h2 : payB L a with _ | _
            · rw [h2] at hca
              have e := hno h2
              rw [e] at O
              have O3 := Lib.hid O
              clear hno hyes h2 e O
              have hcli : (cn L k : Int) ≤ x := by omega
              clear hcle h hP
              generalize cn L k = cv at hy hc2 hc3 hcli ha hai
              go_wp2_with fail
              go_roundw
              case rel => exact ⟨k + 1, by omega, by go_num, O3.out⟩
              case measure => simp [intOf]; omega
            · rw [h2] at hca
              have e := hyes h2
              clear hno hyes h2
              have hcli : (cn L k : Int) ≤ x := by omega
              clear hcle
              generalize cn L k = cv at hy hc2 hc3 hcli ha hai
              obtain ⟨⟨u, hu⟩, hf, O2⟩ := O.bstore hlt true
              rw [e] at O2
              have O3 := Lib.hid O2
              clear O O2 h hP
              go_wp2_with fail
              replace O2 := O3.out
              clear O3
              go_wp2_with fail
              go_roundw
              case rel => exact ⟨k + 1, by omega, by go_num, O2⟩
              case measure => simp [intOf]; omega
          · have e := bin_no (L := L) (x := x) (k := k) (by rw [decide_eq_false hcle, Bool.false_and])
            rw [e] at O
            have O3 := Lib.hid O
            have hcli : ¬ (cn L k : Int) ≤ x := by omega
            clear hcle e O h hP
            generalize cn L k = cv at hy hc2 hc3 hcli
            go_wp2_with fail
            go_roundw
            case rel => exact ⟨k + 1, by omega, by go_num, O3.out⟩
            case measure => simp [intOf]; omega
        · obtain rfl : k = n := by omega
          rw [← hn, bin_end hP] at O
          have hki : ¬ (k : Int) < k := by omega
          clear h hP
          go_wp2_with fail
          go_roundw
          case rel => exact ⟨x + 1, by omega, by go_num, O⟩
          case measure => simp [intOf]; omega
    · obtain rfl : x = M := by omega
      have hge : ¬ (x : Int) < x := by omega
      have hc := (O.bturn fun j hj => bst_all (L := L) hj).tabled (Nat.le_refl x)
      clear O h hP
      go_wp2_with fail
      go_ret
      exact hc
end Go.Proofs.Ytajocneggcofgaa
