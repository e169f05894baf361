/-
  The contract of the program's number of ways. Only new memory is written.
-/
import Derived.Test.YtjjedicjaojkcaaImplSys
import Derived.Test.YtjjedicjaojkcaaCoinWays
import Derived.Test.YtjjedicjaojkcaaOwnMore
import Derived.Test.YtjjedicjaojkcaaRange
import Derived.BigQuiet
import Derived.BigRegion
import Derived.Lib.Hide
namespace Go.Proofs.Ytjjedicjaojkcaa
open Go.ChangeShapes Go.WideShapes Go.ChangeAt Go.RowKit Go.PlainAid

set_option maxHeartbeats 2000000 in
theorem implCount_any (A : Option Addr) (c n : Nat) (m : Int) (L : List Int) (w : World) (hn : L.length = n) (hm : n ≤ 1000000000) (h : IntRow w A L) :
    Calls Try.prog 17 #[.slice A n c, .int .i64 m] w (SaysI (cntA L m) w) := by
  obtain ⟨i0, hi, hz0, hz1, hz2⟩ := info_parts Try.infoIntT
  have hR := implSys_any A c n L w hn hm h
  obtain ⟨X, hX⟩ : ∃ X, cntA L m = X := ⟨_, rfl⟩
  rw [hX]
  replace hX : Hid (cntA L m = X) := hX
  go_enter Try.func17, Try.ntmps17
  go_wp2_with fail
  refine hR.mono ?_
  clear hR
  rintro e w1 ⟨rfl, q, rfl⟩
  have kb := below_drewN (Below.refl w.heap.size w) q
  generalize w.drewN q = w1 at kb ⊢
  have O0 := (Own.none w).keep kb
  rcases hb : sysB L with _ | _
  · obtain rfl : X = 0 := hX.out.symm.trans (cntA_no (by rw [hb]; simp))
    clear h hX hb O0
    go_wp2_with fail
    go_ret
    exact ⟨rfl, kb⟩
  · by_cases hm2 : 0 ≤ m ∧ m ≤ 200
    · obtain ⟨r, rfl⟩ : ∃ r : Nat, m = (r : Int) := ⟨m.toNat, by omega⟩
      have hr : r ≤ 200 := by omega
      have hP := sysB_P hb
      rw [cntA_yes hb hr, hn] at hX
      have hn6 := hP.1.1
      rw [hn] at hn6
      obtain ⟨M, hM⟩ : ∃ M : Nat, r + 1 = M := ⟨_, rfl⟩
      have hMi : (r : Int) + 1 = (M : Int) := by omega
      have hM0 : (0 : Int) < M := by omega
      have tl : ∀ f : Nat → Int, (tb r f).length = M := fun f => by rw [tb_length, hM]
      have g1 : ¬ (r : Int) < 0 := by omega
      have g2 : ¬ 200 < (r : Int) := by omega
      clear hb hm2
      obtain ⟨B, hB⟩ : ∃ B, w1.heap.size = B := ⟨_, rfl⟩
      go_wp2_with (at_make; refine wpList_make_full _ rfl _ _ 24 rfl w1.heap.size 3 i0 (.int .i64 0) 1 Try.underlying24 hi hz0 hz1 .i64 .i64 _ _ M rfl rfl rfl rfl (by rw [hz2]; omega) (by unfold maxLen; omega) (Nat.le_refl _) ?_; intro w0 hown0 hgrow0; have M1 := O0.made hown0 hgrow0; rw [hB] at M1 ⊢; obtain ⟨⟨u0, hu0⟩, hf0, M2⟩ := M1.store (j := 0) (by rw [List.length_replicate]) (by omega) 1; clear hown0 hgrow0 M1)
      rw [← hM, wst_first L r, hM] at M2
      clear hu0 hf0 hB O0 kb
      go_loopw [27] (fun i wr => ∃ k : Nat, k ≤ n ∧ i = .int .i64 k ∧ Own w wr [irow (.slice (some ⟨B, 0, none⟩) M M) (tb r (W L k))]) (fun i _ => n - (intOf i).toNat)
      case atStart => exact ⟨0, by omega, rfl, M2⟩
      case round =>
        clear M2
        obtain ⟨k, hk, rfl, O⟩ := hrel
        by_cases hlt : k < n
        · obtain ⟨y, rfl, hy0, hy1⟩ := h k (by omega)
          obtain ⟨hc1, hc2, hc3⟩ := hP.coin (k := k) (by omega)
          have hkni : (k : Int) < n := by omega
          rw [hc1] at hy1
          have hy := (O.bel.cell (by rw [addr_add_block]; exact hy0)).trans hy1
          rw [← wst_start] at O
          have O1 := Lib.hid O
          have hP' := Lib.hid hP
          obtain ⟨cv, hcv⟩ : ∃ cv, cn L k = cv := ⟨_, rfl⟩
          rw [hcv] at hy hc2 hc3 hy1 O1
          replace hcv := Lib.hid hcv
          replace hy1 := Lib.hid hy1
          clear O hc1 hP
          go_wp2_with fail
          clear hy
          go_loopw [8] (fun i wr => ∃ x : Nat, cv ≤ x ∧ x ≤ cv + M ∧ i = .int .i64 x ∧ Own w wr [irow (.slice (some ⟨B, 0, none⟩) M M) (tb r (wst L k x))]) (fun i _ => cv + M - (intOf i).toNat)
          case atStart => exact ⟨cv, by omega, by omega, rfl, O1.out⟩
          case round =>
            clear O1
            obtain ⟨x, hx1, hx, rfl, O⟩ := hrel
            by_cases hxr : x < M
            · have hxi : (x : Int) ≤ r := by omega
              have hxM : (x : Int) < M := by omega
              obtain ⟨a, ha⟩ : ∃ a, x - cv = a := ⟨_, rfl⟩
              have hai : (x : Int) - cv = (a : Int) := by omega
              have haM : (a : Int) < M := by omega
              have hy := (O.bel.cell (by rw [addr_add_block]; exact hy0)).trans hy1.out
              have hca := O.cell (tl _) (show a < M by omega)
              rw [tb_get (by omega), wst_below (by omega)] at hca
              have hcx := O.cell (tl _) hxr
              rw [tb_get (by omega), wst_at] at hcx
              obtain ⟨-, hf, O2⟩ := O.store (tl _) hxr (W L k x + W L (k + 1) a)
              have e := wst_set (L := L) (k := k) (n := r) (x := x) (by rw [hcv.out]; exact hc2) (by rw [hcv.out]; exact hx1) (by omega)
              rw [hcv.out, ha] at e
              rw [e] at O2
              have b1 := W_fit hP'.out (k := k) (y := x) (by omega) (by omega)
              have b2 := W_fit hP'.out (k := k + 1) (y := a) (by omega) (by omega)
              have O3 := Lib.hid (O2.drew 1)
              clear O O2 e ha
              generalize W L k x = p1 at hcx b1 O3
              generalize W L (k + 1) a = p2 at hca b2 O3
              go_wp2_with fail
              go_region
              replace O3 : Own w (wr.setCell ⟨B, x, none⟩ (.int .i64 (p1 + p2))).drew [irow (.slice (some ⟨B, 0, none⟩) M M) (tb r (wst L k (x + 1)))] := O3.out
              generalize (wr.setCell ⟨B, x, none⟩ (.int .i64 (p1 + p2))).drew = w3 at O3 ⊢
              clear hcx hca hf hy
              go_wp2
              go_roundw
              case rel => exact ⟨x + 1, by omega, by omega, by go_num, O3⟩
              case measure => simp [intOf]; omega
            · have hge : ¬ (x : Int) ≤ r := by omega
              rw [wst_end (by omega)] at O
              clear h hP' hy1
              go_wp2
              go_roundw
              case rel => exact ⟨k + 1, by omega, by go_num, O⟩
              case measure => simp [intOf]; omega
        · obtain rfl : k = n := by omega
          have hg := O.cell (tl _) (show r < M by omega)
          rw [tb_get (Nat.le_refl _), hX.out] at hg
          have kb := O.bel
          have hrM : (r : Int) < M := by omega
          clear O h hP
          go_wp2_with fail
          go_ret
          exact ⟨rfl, kb⟩
    · obtain rfl : X = 0 := hX.out.symm.trans (cntA_no fun g => hm2 g.2)
      clear h hX hb O0
      by_cases g1 : m < 0
      · go_wp2_with fail
        go_ret
        exact ⟨rfl, kb⟩
      · have g2 : 200 < m := by omega
        go_wp2_with fail
        go_ret
        exact ⟨rfl, kb⟩
end Go.Proofs.Ytjjedicjaojkcaa
