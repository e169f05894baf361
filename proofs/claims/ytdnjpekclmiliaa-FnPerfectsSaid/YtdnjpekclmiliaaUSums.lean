/-
  The contract of the model's table of ways in which numbers give a sum, equal ones not told apart: in memory of the call's own.
-/
import Derived.Test.YtdnjpekclmiliaaUWays
import Derived.Test.YtdnjpekclmiliaaOwnMore
import Derived.OwnWalk
import Derived.BigRegion
import Derived.BigQuiet
import Derived.Deep.CutBlock
import Derived.Deep.CutRange
namespace Go.Proofs.Ytdnjpekclmiliaa
open Go.ChangeShapes Go.WideShapes Go.ChangeAt Go.RowKit Go.PlainAid

/-- Numbers that a table is made of. -/
structure NumP (L : List Int) (T : Nat) : Prop where
  len : L.length ≤ 24
  at_ : ∀ j, j < L.length → 1 ≤ L.getD j 0 ∧ L.getD j 0 ≤ 1000
  sum : sumL L = T
theorem getD_all {P : Int → Prop} {L : List Int} (h : ∀ j, j < L.length → P (L.getD j 0)) : ∀ z ∈ L, P z := fun z hz => by
  obtain ⟨j, hj, rfl⟩ := List.mem_iff_getElem.1 hz
  have := h j hj
  rw [List.getD_eq_getElem?_getD, List.getElem?_eq_getElem hj] at this
  exact this
theorem NumP.sumTo {L : List Int} {T : Nat} (h : NumP L T) (k : Nat) : 0 ≤ sumL (L.take k) ∧ sumL (L.take k) ≤ 24000 := by
  have b : ∀ z ∈ L, 0 ≤ z ∧ z ≤ 1000 := getD_all (P := fun z => 0 ≤ z ∧ z ≤ 1000) fun j hj => by have := h.at_ j hj; omega
  have := sumL_take_le (by decide) b k 24 h.len
  omega
theorem NumP.tot {L : List Int} {T : Nat} (h : NumP L T) : T ≤ 24000 := by
  have := h.sumTo L.length
  rw [sumL_all, h.sum] at this
  omega
theorem two_pow_mono (k : Nat) : ∀ d, (2 : Int) ^ k ≤ 2 ^ (k + d)
  | 0 => Int.le_refl _
  | d + 1 => by
    have ih := two_pow_mono k d
    have p : (0 : Int) < 2 ^ (k + d) := Int.pow_pos (by decide)
    have e : (2 : Int) ^ (k + (d + 1)) = 2 ^ (k + d) * 2 := Int.pow_succ ..
    omega
theorem two_pow_24 {k : Nat} (h : k ≤ 24) : (2 : Int) ^ k ≤ 16777216 := by
  have := two_pow_mono k (24 - k)
  rw [show k + (24 - k) = 24 by omega] at this
  exact this

set_option maxRecDepth 100000 in
set_option maxHeartbeats 4000000 in
theorem specUWays_any (A : Option Addr) (c n : Nat) (L : List Int) (T : Nat) (w : World) (hn : L.length = n) (hP : NumP L T) (h : IntRow w A L) :
    Calls Try.prog 33 #[.slice A n c] w (Copied (tabN T (uw L)) w) := by
  obtain ⟨i0, hi, hz0, hz1, hz2⟩ := info_parts Try.infoIntT
  obtain ⟨M, hM⟩ : ∃ M, M = T + 1 := ⟨_, rfl⟩
  have hTi : (0 : Int) ≤ T ∧ (T : Int) ≤ 24000 := by have := hP.tot; omega
  have hMi : (T : Int) + 1 = M := by omega
  have hn24 := hP.len
  rw [hn] at hn24
  have tl : ∀ f, (tabN T f).length = M := fun f => by rw [tabN_length, hM]
  have O0 := Own.none w
  have hMH : Hid (M = T + 1) := hM
  clear hM
  go_enter Try.func33, Try.ntmps33
  go_wp2_with fail
  go_loopw [3, 4] (fun s i wr => ∃ k : Nat, k ≤ n ∧ i = .int .i64 k ∧ s = .int .i64 (sumL (L.take k)) ∧ w = wr) (fun _ i _ => n - (intOf i).toNat)
  case atStart => exact ⟨0, by omega, rfl, by simp [sumL], rfl⟩
  case round =>
    obtain ⟨k, hk, rfl, rfl, rfl⟩ := hrel
    by_cases hlt : k < n
    · obtain ⟨x, rfl, -, hx⟩ := h k (by omega)
      have p := hP.at_ k (by omega)
      have q := hP.sumTo k
      have e := sumL_take (L := L) (k := k) (by omega)
      clear hP h tl O0 hTi hMi hMH
      generalize L.getD k 0 = z at hx p e
      generalize sumL (L.take k) = s at q e
      go_wp2
      go_roundw
      case rel => exact ⟨k + 1, by omega, by go_num, by rw [e], by first | rfl | trivial⟩
      case measure => simp [intOf]; omega
    · obtain rfl : k = n := by omega
      have es : sumL (L.take k) = T := by rw [← hn, sumL_all, hP.sum]
      rw [es]
      clear es hlt hk
      have h0M : 0 < M := by omega
      have h0M2 : (0 : Int) < M := by omega
      go_wp2_with (at_make; refine wpList_make_full _ rfl _ _ 27 rfl w.heap.size 3 i0 (.int .i64 0) 1 Try.underlying27 hi hz0 hz1 .i64 .i64 _ _ M rfl rfl (by first | rfl | exact hMi) (by first | rfl | exact hMi) (by rw [hz2]; omega) (by unfold maxLen; omega) (Nat.le_refl _) ?_; intro w0 hown0 hgrow0; obtain ⟨⟨u0, hu0⟩, hf0, M1⟩ := (O0.made hown0 hgrow0).store (by rw [List.length_replicate]) h0M 1; clear hown0 hgrow0)
      rw [hMH.out, tabN_start T, ← hMH.out] at M1
      clear hu0 hf0
      generalize w0.setCell _ _ = w1 at M1 ⊢
      go_loopw [5, 6] (fun v i wr => ∃ (k' g c' : Nat) (f : Int → Int), k' ≤ k ∧ i = .int .i64 k' ∧ v = .slice (some ⟨g, 0, none⟩) M c' ∧ UState L k' f ∧ Own w wr [irow (.slice (some ⟨g, 0, none⟩) M c') (tabN T f)]) (fun _ i _ => k - (intOf i).toNat)
      case atStart => exact ⟨0, _, _, dlt, by omega, rfl, rfl, ustate_start L, M1⟩
      case round =>
        clear M1 O0 h0M h0M2
        obtain ⟨k', g, c', f, hk', rfl, rfl, hU, O⟩ := hrel
        by_cases hlt : k' < k
        · have hx1 := hP.at_ k' (by omega)
          have hN := ustate_next hU (by omega) (by omega)
          have hrl := runAt_le (L := L) (k := k') (by omega)
          have hr1 := runAt_eq (L := L) (k := k') (by omega)
          have hrat := fun j => runAt_at (L := L) (k := k') (j := j)
          have hrend := runAt_end (L := L) (k := k')
          have hf2 := hU.bd
          have hp2 : (2 : Int) ^ k' ≤ 16777216 := two_pow_24 (by omega)
          have hr0 : 1 ≤ runAt L k' := by omega
          clear hr1
          generalize runAt L k' = r at hN hrl hrat hrend hr0
          have hkr : k' + r ≤ k := by omega
          go_upto_block 4 with fail
          go_cut [7] from 28 to 109 (fun s wx => s = .int .i64 ((k' + r : Nat) : Int) ∧ Own w wx [irow (.slice (some ⟨g, 0, none⟩) M c') (tabN T f)])
          case first =>
            go_wp2_with fail
            go_loopw [7] (fun i wr => ∃ e : Nat, k' ≤ e ∧ e ≤ k' + r ∧ i = .int .i64 e ∧ Own w wr [irow (.slice (some ⟨g, 0, none⟩) M c') (tabN T f)]) (fun i _ => k - (intOf i).toNat)
            case atStart => exact ⟨k', by omega, by omega, rfl, O⟩
            case round =>
              clear O
              obtain ⟨e, he1, he2, rfl, O⟩ := hrel
              by_cases hlt2 : e < k' + r
              · have hr := h.keep O.bel
                have heq := hrat (e - k') (by omega)
                rw [show k' + (e - k') = e by omega] at heq
                obtain ⟨x, rfl, -, hx⟩ := hr e (by omega)
                obtain ⟨y, hy, -, hx2⟩ := hr k' (by omega)
                injection hy with hy
                subst hy
                rw [heq] at hx
                have hd : decide (e < k) = true := decide_eq_true (by omega)
                have hek : e < k := by omega
                have hq : Hid (∀ q, Own w (wr.drewN q) [irow (.slice (some ⟨g, 0, none⟩) M c') (tabN T f)]) := fun q => O.drew q
                clear hr heq O hrat hrend hN h hP hU
                generalize L.getD k' 0 = z at hx hx2
                go_wp2
                go_quiet (fail)
                go_wp2
                go_roundw
                case rel => exact ⟨e + 1, by omega, by omega, by go_num, hq.out _⟩
                case measure => simp [intOf]; omega
              · have he : e = k' + r := by omega
                have heH : Hid (e = k' + r) := he
                by_cases hek : e = k
                · have hd : decide (e < k) = false := decide_eq_false (by omega)
                  have hq : Hid (∀ q, Own w (wr.drewN q) [irow (.slice (some ⟨g, 0, none⟩) M c') (tabN T f)]) := fun q => O.drew q
                  clear O hrat hrend hN h hP hU he hek
                  go_wp2
                  go_quiet (fail)
                  go_wp2
                  go_meet
                  exact ⟨by rw [← heH.out], hq.out _⟩
                · have hr := h.keep O.bel
                  have hne := hrend (by omega)
                  rw [← he] at hne
                  obtain ⟨x, rfl, -, hx⟩ := hr e (by omega)
                  obtain ⟨y, hy, -, hx2⟩ := hr k' (by omega)
                  injection hy with hy
                  subst hy
                  have hd : decide (e < k) = true := decide_eq_true (by omega)
                  have hek : e < k := by omega
                  have hq : Hid (∀ q, Own w (wr.drewN q) [irow (.slice (some ⟨g, 0, none⟩) M c') (tabN T f)]) := fun q => O.drew q
                  clear hr O hrat hrend hN h hP hU he
                  generalize L.getD k' 0 = z at hx2 hne
                  generalize L.getD e 0 = z2 at hx hne
                  have hb : (z2 == z) = false := by simp [hne]
                  go_wp2
                  go_quiet (fail)
                  go_wp2
                  go_meet
                  exact ⟨by rw [← heH.out], hq.out _⟩
          case rest =>
            obtain ⟨rfl, O⟩ := hcut
            obtain ⟨e, he⟩ : ∃ e, k' + r = e := ⟨_, rfl⟩
            rw [he] at hN ⊢
            have hek : (e : Int) - k' = r := by omega
            have hke : k' < e := by omega
            have hek2 : e ≤ k := by omega
            have hfb : ∀ n, 0 ≤ f n ∧ f n ≤ 16777216 := fun n => by have := hf2 n; omega
            have hneg := hU.neg
            have hr24 : r ≤ 24 := by omega
            obtain ⟨x0, rfl, hx0, hx2⟩ := h k' (by omega)
            clear hU hf2 hp2 he hkr hrat hrend hrl hP h hr0
            have hend : tabN T (part f (L.getD k' 0) r ((M : Nat) : Int)) = tabN T (conv f (L.getD k' 0) r) := tabN_congr fun m _ h2 => by
              rw [show ((M : Nat) : Int) = (T : Int) + 1 by omega]
              exact part_end (by omega) r h2
            generalize L.getD k' 0 = z at hx1 hN hx2 hend
            replace hend : Hid (tabN T (part f z r ((M : Nat) : Int)) = tabN T (conv f z r)) := hend
            replace hN : Hid (UState L e (conv f z r)) := hN
            go_wp2_with (at_make; refine wpList_make_full _ rfl _ _ 27 rfl wc.heap.size 3 i0 (.int .i64 0) 1 Try.underlying27 hi hz0 hz1 .i64 .i64 _ _ M rfl rfl (by first | rfl | exact hMi) (by first | rfl | exact hMi) (by rw [hz2]; omega) (by unfold maxLen; omega) (Nat.le_refl _) ?_; intro w2 hown0 hgrow0; replace O := O.made hown0 hgrow0; clear hown0 hgrow0)
            rw [hMH.out, ← tabN_none, ← hMH.out] at O
            have e0 : tabN T (fun _ => 0) = tabN T (part f z r ((0 : Nat) : Int)) := tabN_congr fun m _ _ => (part_zero hneg z r m).symm
            rw [e0] at O
            clear e0 hneg
            generalize wc.heap.size = g2 at O ⊢
            go_loopw [9] (fun i wr => ∃ b : Nat, b ≤ M ∧ i = .int .i64 b ∧ Own w wr [irow (.slice (some ⟨g2, 0, none⟩) M M) (tabN T (part f z r b)), irow (.slice (some ⟨g, 0, none⟩) M c') (tabN T f)]) (fun i _ => M - (intOf i).toNat)
            case atStart => exact ⟨0, by omega, rfl, O⟩
            case round =>
              clear O
              obtain ⟨b, hb, rfl, O⟩ := hrel
              by_cases hbM : b < M
              · have hbT : (b : Int) ≤ T := by omega
                have O1 : Own w wr [irow (.slice (some ⟨g2, 0, none⟩) M M) (tabN T (fun y => part f z r b y + pin f z b 0 y)), irow (.slice (some ⟨g, 0, none⟩) M c') (tabN T f)] := by
                  have e1 : tabN T (fun y => part f z r b y + pin f z b 0 y) = tabN T (part f z r b) := tabN_congr fun m _ _ => by
                    show part f z r b m + 0 = _
                    omega
                  rw [e1]
                  exact O
                have hstep : ∀ m, part f z r ((b + 1 : Nat) : Int) m = part f z r b m + pin f z b (r + 1) m := fun m => by
                  rw [show ((b + 1 : Nat) : Int) = (b : Int) + 1 by omega]
                  exact part_step f z r b m
                clear O
                go_wp2_with fail
                go_loopw [10] (fun i wr => ∃ j : Nat, j ≤ r + 1 ∧ i = .int .i64 j ∧ Own w wr [irow (.slice (some ⟨g2, 0, none⟩) M M) (tabN T (fun y => part f z r b y + pin f z b j y)), irow (.slice (some ⟨g, 0, none⟩) M c') (tabN T f)]) (fun i _ => (r + 1) - (intOf i).toNat)
                case atStart => exact ⟨0, by omega, rfl, O1⟩
                case round =>
                  clear O1
                  obtain ⟨j, hj, rfl, O⟩ := hrel
                  by_cases hjr : j ≤ r
                  · have hcb := O.swap.cell (tl f) hbM
                    rw [tabN_get (by have := hMH.out; omega)] at hcb
                    by_cases hz : f b = 0
                    · have e1 : tabN T (fun y => part f z r b y + pin f z b j y) = tabN T (part f z r ((b + 1 : Nat) : Int)) := tabN_congr fun m _ _ => by
                        show part f z r b m + pin f z b j m = _
                        rw [hstep, pin_zero hz, pin_zero hz]
                      rw [e1] at O
                      rw [hz] at hcb
                      have hjri : (j : Int) ≤ r := by omega
                      clear e1 hstep hend hN hfb hz hx2 hx0
                      go_wp2
                      go_roundw
                      case rel => exact ⟨b + 1, by omega, by go_num, O⟩
                      case measure => simp [intOf]; omega
                    · have hv := hfb (b : Int)
                      have hfp : 0 < f (b : Int) := by omega
                      have hj24 : (j : Int) ≤ 24 := by omega
                      have hjri : (j : Int) ≤ r := by omega
                      have hp0 : 0 ≤ (j : Int) * z := Int.mul_nonneg (by omega) (by omega)
                      have hp1 : (j : Int) * z ≤ 24 * 1000 := Int.mul_le_mul hj24 hx1.2 (by omega) (by omega)
                      obtain ⟨p, hp⟩ : ∃ p : Nat, (j : Int) * z = p := ⟨((j : Int) * z).toNat, by omega⟩
                      have hpl : (p : Int) ≤ 24000 := by omega
                      have hx := (O.bel.cell (by rw [addr_add_block]; exact hx0)).trans hx2
                      by_cases ht : (b : Int) + p ≤ T
                      · obtain ⟨a, ha⟩ : ∃ a : Nat, (b : Int) + p = a := ⟨b + p, by omega⟩
                        have haM : a < M := by omega
                        have haMi : (a : Int) < M := by omega
                        have ea : (a : Int) = (b : Int) + (j : Int) * z := by omega
                        have n1 := part_bd hfb z r (b : Int) ((b : Int) + (j : Int) * z)
                        have n2 := pin_bd hfb z (b : Int) j ((b : Int) + (j : Int) * z)
                        have hca := O.cell (tl _) haM
                        rw [tabN_get (by have := hMH.out; omega), ea] at hca
                        have hf1 := (O.store (tl _) haM 0).2.1
                        have O2 := (O.store (tl _) haM (part f z r b ((b : Int) + (j : Int) * z) + pin f z b j ((b : Int) + (j : Int) * z) + f (b : Int))).2.2
                        rw [tabN_set ea] at O2
                        have e1 : tabN T (putN (fun y => part f z r b y + pin f z b j y) ((b : Int) + (j : Int) * z) (part f z r b ((b : Int) + (j : Int) * z) + pin f z b j ((b : Int) + (j : Int) * z) + f (b : Int))) = tabN T (fun y => part f z r b y + pin f z b (j + 1) y) := tabN_congr fun m _ _ => pin_put f z r (b : Int) j m
                        rw [e1] at O2
                        replace O2 := O2.drew 1
                        clear e1 hstep hend hN hfb hz hx2 hx0 O ea hp0 hp1
                        generalize part f z r b ((b : Int) + (j : Int) * z) = n1v at hca O2 n1
                        generalize pin f z b j ((b : Int) + (j : Int) * z) = n2v at hca O2 n2
                        generalize f (b : Int) = fv at hcb hv hfp O2
                        obtain ⟨nv, hnv⟩ : ∃ nv, n1v + n2v = nv := ⟨_, rfl⟩
                        have hnb : 0 ≤ nv ∧ nv ≤ 900000000 := by omega
                        have hca2 : wr.cell? ⟨g2, a, none⟩ = some (.int .i64 nv) := by rw [← hnv]; exact hca
                        rw [hnv] at O2
                        clear hnv hca n1 n2
                        go_wp2
                        go_region
                        replace O2 : Own w (wr.setCell ⟨g2, a, none⟩ (.int .i64 (nv + fv))).drew _ := O2
                        generalize (wr.setCell ⟨g2, a, none⟩ (.int .i64 (nv + fv))).drew = w3 at O2 ⊢
                        clear hcb hca2 hx hf1
                        go_wp2
                        go_roundw
                        case rel => exact ⟨j + 1, by omega, by go_num, O2⟩
                        case measure => simp [intOf]; omega
                      · have e1 : tabN T (fun y => part f z r b y + pin f z b j y) = tabN T (fun y => part f z r b y + pin f z b (j + 1) y) := tabN_congr fun m _ h2 => by
                          show part f z r b m + pin f z b j m = part f z r b m + pin f z b (j + 1) m
                          rw [pin_out (by omega)]
                        rw [e1] at O
                        clear e1 hstep hend hN hfb hz hx2 hx0 hp0 hp1
                        generalize f (b : Int) = fv at hcb hv hfp
                        go_wp2
                        go_roundw
                        case rel => exact ⟨j + 1, by omega, by go_num, O⟩
                        case measure => simp [intOf]; omega
                  · obtain rfl : j = r + 1 := by omega
                    have e1 : tabN T (fun y => part f z r b y + pin f z b (r + 1) y) = tabN T (part f z r ((b + 1 : Nat) : Int)) := tabN_congr fun m _ _ => (hstep m).symm
                    rw [e1] at O
                    clear e1 hstep hend hN hfb hx2 hx0
                    go_wp2
                    go_roundw
                    case rel => exact ⟨b + 1, by omega, by go_num, O⟩
                    case measure => simp [intOf]; omega
              · obtain rfl : b = M := by omega
                rw [hend.out] at O
                have O2 := (O.perm (.swap _ _ _)).tl
                have hN2 := hN.out
                have hbT : ¬ ((b : Nat) : Int) ≤ T := by omega
                clear hend hN hfb hx2 O
                replace hN2 : Hid (UState L e (conv f z r)) := hN2
                go_wp2
                go_roundw
                case rel => exact ⟨e, g2, b, _, by omega, rfl, rfl, hN2.out, O2⟩
                case measure => simp [intOf]; omega
        · obtain rfl : k' = k := by omega
          rw [← hn] at hU
          have e := ustate_end hU
          rw [e] at O
          clear hP h hU e
          have ho := O.copied
          go_wp2
          go_ret
          exact ho
end Go.Proofs.Ytdnjpekclmiliaa
