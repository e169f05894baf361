/-
  The contract of the model's times. Only new memory is written.
-/
import Derived.Test.YtmbhldpbgcfnmaaGlassTab
import Derived.Test.YtmbhldpbgcfnmaaGlassRow
import Derived.Test.YtmbhldpbgcfnmaaBools
import Derived.Test.YtmbhldpbgcfnmaaSpecFlip
import Derived.Test.YtmbhldpbgcfnmaaSpecRun
import Derived.BigQuiet
import Derived.RegionTactic
import Derived.BigRegion
import Derived.Deep.DeepCutAuto
import Derived.Lib.Hide
namespace Go.Proofs.Ytmbhldpbgcfnmaa
open Go.ChangeShapes Go.WideShapes Go.ChangeAt Go.RowKit Go.PlainAid

set_option maxRecDepth 100000 in
set_option maxHeartbeats 4000000 in
theorem specTimes_nat (a b m : Nat) (w : World) (ha : 1 ≤ a ∧ a ≤ 12) (hb : 1 ≤ b ∧ b ≤ 12) (hm : 1 ≤ m ∧ m ≤ 60) :
    Calls Try.prog 23 #[.int .i64 a, .int .i64 b, .int .i64 m] w (Copied (tms a b (m + 1)) w) := by
  obtain ⟨i0, hi, hz0, hz1, hz2⟩ := info_parts Try.infoIntT
  obtain ⟨i1, hi1, hq0, hq1, hq2⟩ := info_parts Try.infoBoolT
  have ok : okG (a : Int) b 0 0 = true := okG_iff.2 (by omega)
  have hO := fun W => specGlassesOk_any a b 0 0 W
  rw [ok] at hO
  have hI := fun W => in_any m 1 60 W
  rw [show decide ((1 : Int) ≤ m ∧ (m : Int) ≤ 60) = true from decide_eq_true (by omega)] at hI
  obtain ⟨M, hM⟩ : ∃ M, (m + 1) * 169 = M := ⟨_, rfl⟩
  have hMi : ((m : Int) + 1) * 13 * 13 = (M : Int) := by omega
  have hM0 : (0 : Int) < M := by omega
  have hF := fun (u v W : Nat) w => specFlip_any a b u v W w
  have hR := fun (x y : Int) w => specRun_any a b x y w
  have E0 := (Own.none w).empty
  clear ok
  go_enter Try.func23, Try.ntmps23
  go_wp2_with fail
  refine (hO _).mono ?_
  clear hO
  rintro e w2 ⟨rfl, b2⟩
  have O := E0.keep b2
  clear E0 b2
  go_wp2_with fail
  refine (hI _).mono ?_
  clear hI
  rintro e w3 ⟨rfl, rfl⟩
  go_wp2_with (at_make; refine wpList_make_full _ rfl _ _ 51 rfl w2.heap.size 4 i1 (.bool false) 1 Try.underlying51 hi1 hq0 hq1 .i64 .i64 _ _ M rfl rfl rfl rfl (by rw [hq2]; omega) (by unfold maxLen; omega) (Nat.le_refl _) ?_; intro w4 hown0 hgrow0; have M1 := O.bmade hown0 hgrow0; obtain ⟨⟨u0, hu0⟩, hf0, M2⟩ := M1.bstore (j := 0) (by omega) true; clear hown0 hgrow0 M1)
  rw [bt_start a b] at M2
  clear hu0 hf0 O
  generalize w2.heap.size = g at M2 ⊢
  go_loopw [7, 10] (fun u i wr => ∃ T : Nat, T ≤ m + 1 ∧ i = .int .i64 T ∧ Own w wr [brow (.slice (some ⟨g, 0, none⟩) M M) M (bt a b T 0 0), irow u (tms a b T)]) (fun _ i _ => m + 1 - (intOf i).toNat)
  case atStart => exact ⟨0, by omega, rfl, M2⟩
  case round =>
    clear M2
    obtain ⟨T, hT, rfl, O⟩ := hrel
    by_cases hlt : T ≤ m
    · have hTi : (T : Int) ≤ m := by omega
      replace O := Lib.hid O
      go_wp2_with fail
      go_loopw [11, 12] (fun f i wr => ∃ K : Nat, K ≤ 169 ∧ i = .int .i64 K ∧ f = .bool (fnd a b T K) ∧ Own w wr [brow (.slice (some ⟨g, 0, none⟩) M M) M (bt a b T K 0), irow u7 (tms a b T)]) (fun _ i _ => 169 - (intOf i).toNat)
      case atStart => exact ⟨0, by omega, rfl, by rw [fnd_zero], O.out⟩
      case round =>
        clear O
        obtain ⟨K, hK, rfl, rfl, O⟩ := hrel
        by_cases hKl : K < 169
        · have hKi : (K : Int) < 169 := by omega
          obtain ⟨j, hj⟩ : ∃ j, T * 169 + K = j := ⟨_, rfl⟩
          have hji : (T : Int) * 13 * 13 + K = (j : Int) := by omega
          have hjM : j < M := by omega
          have hjMi : (j : Int) < M := by omega
          have hc := O.bcell hjM
          rw [← hj, bt_read hKl, hj] at hc
          by_cases hreach : Reach a b T (K / 13) (K % 13)
          · rw [dec_yes hreach] at hc
            have hle := hreach.le
            have hfy := fnd_yes hreach
            have hY := fun W (hW : W < 4) => bt_yes ha.2 hb.2 hreach hW
            have hN := fun W (hW : W < 4) => bt_no (m := m) ha.2 hb.2 hreach hW
            rw [hM] at hN
            obtain ⟨u, hu⟩ : ∃ u, K / 13 = u := ⟨_, rfl⟩
            obtain ⟨v, hv⟩ : ∃ v, K % 13 = v := ⟨_, rfl⟩
            rw [hu, hv] at hle hY hN
            have hui : (K : Int) / 13 = (u : Int) := by omega
            have hvi : (K : Int) % 13 = (v : Int) := by omega
            have hK3 := fun W (hW : W < 4) => nx_le (c := W) hle.1 hle.2
            have hC := fun W => nx_cast (c := W) ha hb hle.1 hle.2
            replace hY := Lib.hid hY
            replace hN := Lib.hid hN
            replace hC := Lib.hid hC
            replace hK3 := Lib.hid hK3
            replace hfy := Lib.hid hfy
            replace O := Lib.hid O
            clear hreach hu hv
            go_wp2_with fail
            go_region
            have O2 := (O.out.jug a b u v).keep (below_drew (Below.refl _ _))
            clear O
            generalize wr.heap.size = q at O2 ⊢
            generalize (wr.alloc (jobj a b u v 25)).drew = w5 at O2 ⊢
            clear hc
            (try rw [hui])
            (try rw [hvi])
            clear hui hvi
            go_wp2_with fail
            go_loopw [14] (fun i w6 => ∃ W : Nat, W ≤ 4 ∧ i = .int .i64 W ∧ Own w w6 [jrow q a b u v, brow (.slice (some ⟨g, 0, none⟩) M M) M (bt a b T K W), irow u7 (tms a b T)]) (fun i _ => 4 - (intOf i).toNat)
            case atStart => exact ⟨0, by omega, rfl, O2⟩
            case round =>
              clear O2
              obtain ⟨W, hW, rfl, O⟩ := hrel
              by_cases hW4 : W < 4
              · have hWi : (W : Int) ≤ 3 := by omega
                have hY1 := hY.out W hW4
                have hN1 := @(hN.out W hW4)
                have hC1 := hC.out W
                have hK1 := hK3.out W hW4
                have hF1 := fun w => hF u v W w
                generalize flS (a : Int) b u v W = FS at hC1 hF1
                obtain ⟨X, Y⟩ := FS
                dsimp only at hC1 hF1
                have hR1 := fun w => hR X Y w
                rw [hC1.1, hC1.2] at hR1
                generalize nx a b u v W = N at hY1 hN1 hK1 hR1
                obtain ⟨⟨x', y'⟩, n⟩ := N
                dsimp only at hY1 hN1 hK1 hR1
                replace hY1 := Lib.hid hY1
                replace hN1 := Lib.hid @hN1
                clear hC1 hF hR hY hN hC hK3
                obtain ⟨c0, c1, c2, c3⟩ := (O.jbox (q := q) List.mem_cons_self).cells
                go_wp2_with fail
                refine (hF1 _).mono ?_
                clear hF1 c0 c1 c2 c3
                rintro e w7 ⟨rfl, b7⟩
                replace O := O.keep b7
                clear b7
                go_wp2_with fail
                refine (hR1 _).mono ?_
                clear hR1
                rintro e w8 ⟨rfl, b8⟩
                replace O := O.keep b8
                clear b8
                have hx' : x' ≤ 12 ∧ y' ≤ 12 ∧ n ≤ 24 := by omega
                replace O := O.jug a b x' y'
                go_upto_region 21 with fail
                generalize w8.heap.size = q2 at O ⊢
                generalize w8.alloc (jobj a b x' y' 25) = w9 at O ⊢
                by_cases hn0 : 0 < n
                · have hn0i : (0 : Int) < n := by omega
                  by_cases hTn : T + n ≤ m
                  · have hTni : (T : Int) + n ≤ m := by omega
                    have hY2 := hY1.out hn0
                    obtain ⟨j2, hj2⟩ : ∃ j2, (T + n) * 169 + x' * 13 + y' = j2 := ⟨_, rfl⟩
                    rw [hj2] at hY2
                    have hj2i : ((T : Int) + n) * 13 * 13 + x' * 13 + y' = (j2 : Int) := by omega
                    have hj2M : j2 < M := by omega
                    have hj2Mi : (j2 : Int) < M := by omega
                    obtain ⟨c0, c1, c2, c3⟩ := (O.jbox (q := q2) List.mem_cons_self).cells
                    obtain ⟨⟨z, hz⟩, hf, O2⟩ := O.third.bstore hj2M true
                    rw [hY2] at O2
                    have O3 := O2.back.tl
                    clear O O2 hY1 hN1 hY2 hj2
                    go_wp2_with fail
                    go_roundw
                    case rel => exact ⟨W + 1, by omega, by go_num, O3⟩
                    case measure => simp [intOf]; omega
                  · have hTni : ¬ (T : Int) + n ≤ m := by omega
                    have O2 := O.third.bturn (f' := bt a b T K (W + 1)) fun j hj => hN1.out (fun h => hTn h.2) hj
                    have O3 := O2.back.tl
                    clear O O2 hY1 hN1 hTn
                    go_wp2_with fail
                    go_roundw
                    case rel => exact ⟨W + 1, by omega, by go_num, O3⟩
                    case measure => simp [intOf]; omega
                · obtain rfl : n = 0 := by omega
                  have O2 := O.third.bturn (f' := bt a b T K (W + 1)) fun j hj => hN1.out (fun h => hn0 h.1) hj
                  have O3 := O2.back.tl
                  clear O O2 hY1 hN1 hn0
                  go_wp2_with fail
                  go_roundw
                  case rel => exact ⟨W + 1, by omega, by go_num, O3⟩
                  case measure => simp [intOf]; omega
              · obtain rfl : W = 4 := by omega
                rw [bt_four] at O
                have O3 := O.tl
                clear O hF hR hY hN hC hK3
                go_wp2_with fail
                go_roundw
                case rel => exact ⟨K + 1, by omega, by go_num, by rw [hfy.out], O3⟩
                case measure => simp [intOf]; omega
          · rw [dec_no hreach] at hc
            have hf := fnd_no hreach
            have hs := bt_skip hb.2 hreach
            rw [hs] at O
            rw [← hf]
            replace O := Lib.hid O
            clear hreach hf hs hF hR
            go_wp2_with fail
            go_roundw
            case rel => exact ⟨K + 1, by omega, by go_num, rfl, O.out⟩
            case measure => simp [intOf]; omega
        · obtain rfl : K = 169 := by omega
          rw [fnd_all ha.2 hb.2]
          rw [bt_row ha.2 hb.2] at O
          have hKi : ¬ ((169 : Nat) : Int) < 169 := by omega
          clear hF hR
          have hyes := fun h0 : 0 < T => tms_yes (a := a) (b := b) (T := T) h0
          have hno := tms_no (a := a) (b := b) (T := T)
          have hlen := tms_len a b T
          rcases hA : At a b T with _ | _
          · have e := hno (by rw [hA, Bool.and_false])
            rw [← e] at O
            replace O := Lib.hid O
            clear hyes hno hA e hlen
            go_wp2_with fail
            go_roundw
            case rel => exact ⟨T + 1, by omega, by go_num, O.out⟩
            case measure => simp [intOf]; omega
          · by_cases h0 : 0 < T
            · have e := hyes h0 hA
              have h0i : (0 : Int) < T := by omega
              clear hyes hno hA
              replace O := O.swap
              have hown := O.hd
              replace e := Lib.hid e
              generalize tms a b T = Z at O hown e hlen
              have hZ : Z.length ≤ 60 := by omega
              replace hown : wr.ownsRow w.heap.size 3 1 u7 Z.length (ints Z) := hown
              have hws := O.bel.size
              replace O := Lib.hid O
              clear hlen
              go_wp2_with (at_builtin; refine wpList_append_one rfl (.tmp 112) (.tmp 114) 30 rfl w.heap.size 3 i0 (.int .i64 0) Try.underlying30 hi hz0 hz1 hz2 rfl u7 Z.length _ rfl (hown.alloc _) ⟨wr.heap.size, 0, none⟩ 1 _ rfl (new_one _ _ _) rfl (by omega) (by simp; omega) ?_; intro v' w5 hown1 hg1 hb1)
              have O3 := (O.out.iapp hown1 hg1 hb1).swap
              rw [← e.out] at O3
              clear hown1 hg1 hb1 O hown
              go_wp2_with fail
              go_roundw
              case rel => exact ⟨T + 1, by omega, by go_num, O3⟩
              case measure => simp [intOf]; omega
            · obtain rfl : T = 0 := by omega
              have e := hno (by simp)
              rw [← e] at O
              replace O := Lib.hid O
              clear hyes hno hA e hlen h0
              go_wp2_with fail
              go_roundw
              case rel => exact ⟨1, by omega, by go_num, O.out⟩
              case measure => simp [intOf]
    · obtain rfl : T = m + 1 := by omega
      have hTi : ¬ ((m + 1 : Nat) : Int) ≤ m := by omega
      have hend := O.swap.copied
      clear O hF hR
      go_wp2_with fail
      go_ret
      exact hend
end Go.Proofs.Ytmbhldpbgcfnmaa
