/-
  The contract of the model's table of ways: every sum's ways, in memory of the call's own.
-/
import Derived.Test.YtjdkihinfilbkaaSetOk
import Derived.Test.YtjdkihinfilbkaaTab
import Derived.Test.YtjdkihinfilbkaaOwnMore
import Derived.OwnWalk
import Derived.BigRegion
namespace Go.Proofs.Ytjdkihinfilbkaa
open Go.ChangeShapes Go.WideShapes Go.ChangeAt Go.RowKit Go.PlainAid

theorem set_pos {L : List Int} (h : SetP L) : ∀ j, j < L.length → 1 ≤ L.getD j 0 ∧ L.getD j 0 ≤ 1000 := fun j hj => (h.2 j hj).1
theorem getD_mem_all {P : Int → Prop} {L : List Int} (h : ∀ j, j < L.length → P (L.getD j 0)) : ∀ z ∈ L, P z := fun z hz => by
  obtain ⟨j, hj, rfl⟩ := List.mem_iff_getElem.1 hz
  have := h j hj
  rw [List.getD_eq_getElem?_getD, List.getElem?_eq_getElem hj] at this
  exact this
theorem set_sum {L : List Int} (h : SetP L) (k : Nat) : 0 ≤ sumL (L.take k) ∧ sumL (L.take k) ≤ 8000 := by
  have b : ∀ z ∈ L, 0 ≤ z ∧ z ≤ 1000 := getD_mem_all (P := fun z => 0 ≤ z ∧ z ≤ 1000) fun j hj => by have := set_pos h j hj; omega
  have := sumL_take_le (by decide) b k 8 h.1.2
  omega
theorem sumL_mono {L : List Int} (h : ∀ j, j < L.length → 0 ≤ L.getD j 0) : ∀ d k, k + d ≤ L.length → sumL (L.take k) ≤ sumL (L.take (k + d))
  | 0, k, _ => Int.le_refl _
  | d + 1, k, hk => by
    have ih := sumL_mono h d k (by omega)
    have e := sumL_take (L := L) (k := k + d) (by omega)
    have := h (k + d) (by omega)
    have e2 : k + (d + 1) = k + d + 1 := rfl
    rw [e2, e]
    omega
theorem wys_start (two : Bool) (L : List Int) (T : Nat) : (List.replicate (2 * T + 1) (0 : Int)).set T 1 = tab T (wys two L 0) := by
  rw [← tab_none, tab_set (n := 0) (by omega)]
  refine tab_congr fun n _ _ => ?_
  unfold put
  show (if n = 0 then (1 : Int) else 0) = if n = 0 then 1 else 0
  rfl
/-- What a round of the table needs of the ways so far, with the weight x. -/
structure Round (f : Int → Int) (x : Int) (T : Nat) (s : Int) : Prop where
  x1 : 1 ≤ x
  s0 : 0 ≤ s
  st : s + x ≤ T
  nn : ∀ n, 0 ≤ f n ∧ f n ≤ 2187
  out : ∀ n, n < -s ∨ s < n → f n = 0
theorem round_of {two : Bool} {L : List Int} {T k : Nat} (h : SetP L) (hT : sumL L = T) (hk : k < L.length) : Round (wys two L k) (L.getD k 0) T (sumL (L.take k)) where
  x1 := (set_pos h k hk).1
  s0 := (set_sum h k).1
  st := by
    have e1 := sumL_take hk
    have e2 := sumL_all L
    have := sumL_mono (L := L) (fun j hj => by have := set_pos h j hj; omega) (L.length - (k + 1)) (k + 1) (by omega)
    rw [show k + 1 + (L.length - (k + 1)) = L.length by omega] at this
    omega
  nn n := by
    refine ⟨wys_nonneg _ _ _ _, Int.le_trans (wys_le _ _ _ _) ?_⟩
    have : k = 0 ∨ k = 1 ∨ k = 2 ∨ k = 3 ∨ k = 4 ∨ k = 5 ∨ k = 6 ∨ k = 7 := by have := h.1.2; omega
    rcases this with rfl | rfl | rfl | rfl | rfl | rfl | rfl | rfl <;> decide
  out n hn := wys_out two L (fun j hj => by have := set_pos h j hj; omega) k n (by omega) hn
theorem round_end {two : Bool} {L : List Int} {T k : Nat} {s : Int} (h : Round (wys two L k) (L.getD k 0) T s) {M : Nat} (hM : M = 2 * T + 1) : tab T (stp two (wys two L k) (L.getD k 0) ((M : Int) - T)) = tab T (wys two L (k + 1)) :=
  tab_congr fun n _ _ => by
    rw [stp_end fun m hm => h.out m (by have := h.st; have := h.x1; omega)]
    rw [wys_succ]
theorem round_start {two : Bool} {f : Int → Int} {T : Nat} {x s : Int} (h : Round f x T s) : tab T f = tab T (stp two f x (((0 : Nat) : Int) - T)) :=
  tab_congr fun n _ _ => (stp_start (fun m hm => h.out m (by have := h.st; have := h.x1; omega)) n).symm

set_option maxRecDepth 100000 in
set_option maxHeartbeats 4000000 in
theorem specSums_any (two : Bool) (A : Option Addr) (c n : Nat) (L : List Int) (T : Nat) (w : World) (hn : L.length = n) (hP : SetP L) (hT : sumL L = T) (h : IntRow w A L) :
    Calls Try.prog 35 #[.slice A n c, .bool two] w (Copied (tab T (wysL two L)) w) := by
  obtain ⟨i0, hi, hz0, hz1, hz2⟩ := info_parts Try.infoIntT
  obtain ⟨M, hM⟩ : ∃ M, M = 2 * T + 1 := ⟨_, rfl⟩
  have hTi : (0 : Int) ≤ T ∧ (T : Int) ≤ 8000 := by
    have := set_sum hP L.length
    rw [sumL_all, hT] at this
    exact this
  have hMi : 2 * (T : Int) + 1 = M := by omega
  have hn8 := hP.1
  rw [hn] at hn8
  have tl : ∀ f, (tab T f).length = M := fun f => by rw [tab_length, hM]
  have O0 := Own.none w
  have hMH : Hid (M = 2 * T + 1) := hM
  clear hM
  go_enter Try.func35, Try.ntmps35
  go_wp2_with fail
  go_loopw [5, 6] (fun s i wr => ∃ k : Nat, k ≤ n ∧ i = .int .i64 k ∧ s = .int .i64 (sumL (L.take k)) ∧ w = wr) (fun _ i _ => n - (intOf i).toNat)
  case atStart => exact ⟨0, by omega, rfl, by simp [sumL], rfl⟩
  case round =>
    obtain ⟨k, hk, rfl, rfl, rfl⟩ := hrel
    by_cases hlt : k < n
    · obtain ⟨x, rfl, -, hx⟩ := h k (by omega)
      have p := set_pos hP k (by omega)
      have q := set_sum hP k
      have e := sumL_take (L := L) (k := k) (by omega)
      clear hP hT h tl O0 hTi hMi hMH
      generalize L.getD k 0 = z at hx p e
      generalize sumL (L.take k) = s at q e
      go_wp2
      go_roundw
      case rel => exact ⟨k + 1, by omega, by go_num, by rw [e], by first | rfl | trivial⟩
      case measure => simp [intOf]; omega
    · obtain rfl : k = n := by omega
      have es : sumL (L.take k) = T := by rw [← hn, sumL_all, hT]
      rw [es]
      clear es hlt hk
      have hTM : T < M := by omega
      have hTM2 : (T : Int) < M := by omega
      go_wp2_with (at_make; refine wpList_make_full _ rfl _ _ 24 rfl w.heap.size 3 i0 (.int .i64 0) 1 Try.underlying24 hi hz0 hz1 .i64 .i64 _ _ M rfl rfl (by first | rfl | exact hMi) (by first | rfl | exact hMi) (by rw [hz2]; omega) (by unfold maxLen; omega) (Nat.le_refl _) ?_; intro w0 hown0 hgrow0; obtain ⟨⟨u0, hu0⟩, hf0, M1⟩ := (O0.made hown0 hgrow0).store (by rw [List.length_replicate]) hTM 1; clear hown0 hgrow0)
      rw [hMH.out, wys_start two L T, ← hMH.out] at M1
      clear hu0 hf0
      generalize w0.setCell _ _ = w1 at M1 ⊢
      go_loopw [7, 8] (fun v i wr => ∃ k' g c' : Nat, k' ≤ k ∧ i = .int .i64 k' ∧ v = .slice (some ⟨g, 0, none⟩) M c' ∧ Own w wr [irow (.slice (some ⟨g, 0, none⟩) M c') (tab T (wys two L k'))]) (fun _ i _ => k - (intOf i).toNat)
      case atStart => exact ⟨0, _, _, by omega, rfl, rfl, M1⟩
      case round =>
        clear M1 O0 hTM hTM2
        obtain ⟨k', g, c', hk', rfl, rfl, O⟩ := hrel
        by_cases hlt : k' < k
        · have hR := round_of (two := two) (k := k') hP hT (by omega)
          obtain ⟨x, rfl, hx0, hx1⟩ := h k' (by omega)
          have hend := round_end hR hMH.out
          have hstart := round_start (two := two) hR
          have hE : (wr.alloc (.cells #[] 3)).ownsRow wr.heap.size 3 1 (.slice (some ⟨wr.heap.size, 0, none⟩) 0 0) 0 [] := World.ownsRow_made wr #[] 0 (Nat.le_refl _) (by decide) rfl
          generalize L.getD k' 0 = z at hx1 hR hend hstart
          generalize sumL (L.take k') = s at hR
          replace hend : Hid (tab T (stp two (wys two L k') z ((M : Int) - T)) = tab T (wys two L (k' + 1))) := hend
          generalize wys two L k' = f at hR hend hstart O
          have hsz := O.bel.size
          clear hP hT h hn
          go_wp2_with (at_builtin; refine wpList_append_own _ rfl (.tmp 36) (.tmp 37) 24 rfl wr.heap.size 3 i0 (.int .i64 0) 1 8 Try.underlying24 hi hz0 hz1 hz2 rfl (by decide) (.slice (some ⟨wr.heap.size, 0, none⟩) 0 0) 0 [] rfl hE ⟨g, 0, none⟩ M c' (ints (tab T f)) rfl (by rw [ints_length, tl, Nat.mul_one]) (O.news (tl f) _) (ints_one _) (by unfold maxLen; omega) (by omega) (by simp) ?_; intro v' w2 hown1 hgrow1 _; replace O := O.spread (tl f) hown1 hgrow1; clear hown1 hgrow1)
          obtain ⟨g2, c2, hv⟩ := own_form O (by rw [tl]; omega)
          rw [tl] at hv
          subst hv
          have O1 : Own w w2 [irow (.slice (some ⟨g2, 0, none⟩) M c2) (tab T (stp two f z (((0 : Nat) : Int) - T))), irow (.slice (some ⟨g, 0, none⟩) M c') (tab T f)] := by rw [← hstart]; exact O
          clear O hE hstart hsz
          go_loopw [10] (fun i wr => ∃ j : Nat, j ≤ M ∧ i = .int .i64 j ∧ Own w wr [irow (.slice (some ⟨g2, 0, none⟩) M c2) (tab T (stp two f z ((j : Int) - T))), irow (.slice (some ⟨g, 0, none⟩) M c') (tab T f)]) (fun i _ => M - (intOf i).toNat)
          case atStart => exact ⟨0, by omega, rfl, O1⟩
          case round =>
            clear O1
            obtain ⟨j, hj, rfl, O⟩ := hrel
            by_cases hjM : j < M
            · have hMH2 := hMH.out
              have hcj := O.swap.cell (tl f) hjM
              rw [tab_get (by omega)] at hcj
              by_cases hz : f ((j : Int) - T) = 0
              · have e : tab T (stp two f z (((j + 1 : Nat) : Int) - T)) = tab T (stp two f z ((j : Int) - T)) := tab_congr fun m _ _ => by
                  rw [show ((j + 1 : Nat) : Int) - T = ((j : Int) - T) + 1 by omega]
                  exact stp_none hz m
                rw [hz] at hcj
                rw [← e] at O
                clear hR hend hz hMH2 hx1 e
                go_wp2
                go_roundw
                case rel => exact ⟨j + 1, by omega, by go_num, O⟩
                case measure => simp [intOf]; omega
              · have hin : -s ≤ (j : Int) - T ∧ (j : Int) - T ≤ s := by
                  by_cases q : -s ≤ (j : Int) - T ∧ (j : Int) - T ≤ s
                  · exact q
                  · exact absurd (hR.out _ (by omega)) hz
                have hst := hR.st
                have hs0 := hR.s0
                have hz1 := hR.x1
                have hv1 := hR.nn ((j : Int) - T)
                obtain ⟨a, ha⟩ : ∃ a : Nat, (j : Int) + z = a := ⟨((j : Int) + z).toNat, by omega⟩
                obtain ⟨b, hb⟩ : ∃ b : Nat, (j : Int) - z = b := ⟨((j : Int) - z).toNat, by omega⟩
                have haM : a < M := by omega
                have hbM : b < M := by omega
                have hx := (O.bel.cell (by rw [addr_add_block]; exact hx0)).trans hx1
                have hca := O.cell (tl _) haM
                rw [tab_at (n := (j : Int) - T + z) (by omega) (by omega)] at hca
                have hn1 := stp_le (two := two) (x := z) (b := (j : Int) - T) hR.nn ((j : Int) - T + z)
                have hf1 := (O.store (tl _) haM 0).2.1
                have hzn : ¬ f ((j : Int) - T) = 0 := hz
                have O2 := (O.store (tl _) haM (stp two f z ((j : Int) - T) ((j : Int) - T + z) + f ((j : Int) - T))).2.2
                rw [tab_set (n := (j : Int) - T + z) (by omega)] at O2
                replace O2 := O2.drew 1
                have haMi : (a : Int) < M := by omega
                have hbMi : (b : Int) < M := by omega
                have ej : ((j + 1 : Nat) : Int) - T = ((j : Int) - T) + 1 := by omega
                cases two
                · have e : tab T (put (stp false f z ((j : Int) - T)) ((j : Int) - T + z) (stp false f z ((j : Int) - T) ((j : Int) - T + z) + f ((j : Int) - T))) = tab T (stp false f z (((j + 1 : Nat) : Int) - T)) := tab_congr fun m _ _ => by
                    rw [ej]
                    exact (stp_one m).symm
                  rw [e] at O2
                  clear e hend hR hin hst hs0 hx0 hx1 hMH2 tl hn8 O ej hbM hbMi hb hz1
                  generalize f ((j : Int) - T) = fv at hcj hv1 hzn hz O2
                  generalize stp false f z ((j : Int) - T) ((j : Int) - T + z) = nv at hca hn1 O2
                  go_wp2
                  go_region
                  replace O2 : Own w (wr.setCell ⟨g2, a, none⟩ (.int .i64 (nv + fv))).drew _ := O2
                  generalize (wr.setCell ⟨g2, a, none⟩ (.int .i64 (nv + fv))).drew = w3 at O2 ⊢
                  clear hcj hca hx hf1
                  go_wp2
                  go_roundw
                  case rel => exact ⟨j + 1, by omega, by go_num, O2⟩
                  case measure => simp [intOf]; omega
                · have hn2 := stp_le (two := true) (x := z) (b := (j : Int) - T) hR.nn ((j : Int) - T - z)
                  have e : tab T (put (put (stp true f z ((j : Int) - T)) ((j : Int) - T + z) (stp true f z ((j : Int) - T) ((j : Int) - T + z) + f ((j : Int) - T))) ((j : Int) - T - z) (stp true f z ((j : Int) - T) ((j : Int) - T - z) + f ((j : Int) - T))) = tab T (stp true f z (((j + 1 : Nat) : Int) - T)) := tab_congr fun m _ _ => by
                    rw [ej]
                    exact (stp_two hz1 m).symm
                  have e2 : put (stp true f z ((j : Int) - T)) ((j : Int) - T + z) (stp true f z ((j : Int) - T) ((j : Int) - T + z) + f ((j : Int) - T)) ((j : Int) - T - z) = stp true f z ((j : Int) - T) ((j : Int) - T - z) := by
                    unfold put
                    rw [if_neg (by omega)]
                  have hbn : (b : Int) = (j : Int) - T - z + T := by omega
                  have hbT : (j : Int) - T - z ≤ T := by omega
                  clear hR hin hst hs0 hMH2 hn8 O ej hz1
                  generalize hp : put (stp true f z ((j : Int) - T)) ((j : Int) - T + z) (stp true f z ((j : Int) - T) ((j : Int) - T + z) + f ((j : Int) - T)) = F1 at O2 e e2
                  generalize hX : tab T (stp true f z (((j + 1 : Nat) : Int) - T)) = X at e
                  replace hX : Hid (tab T (stp true f z (((j + 1 : Nat) : Int) - T)) = X) := hX
                  generalize hg : stp true f z ((j : Int) - T) ((j : Int) - T + z) = nv at hca hn1 O2 hp
                  generalize stp true f z ((j : Int) - T) ((j : Int) - T - z) = nb at hn2 e e2
                  have htl := tl F1
                  have htl2 := tl f
                  have hcj2 : ∀ W R, Own w W [R, irow (.slice (some ⟨g, 0, none⟩) M c') (tab T f)] → W.cell? ⟨g, j, none⟩ = some (.int .i64 (f ((j : Int) - T))) := fun W R O => by
                    have := O.swap.cell htl2 hjM
                    rw [tab_get (by have := hMH.out; omega)] at this
                    exact this
                  generalize f ((j : Int) - T) = fv at hcj hv1 hzn hz O2 e hcj2 hp
                  clear hp hg
                  go_wp2
                  go_region
                  replace O2 : Own w (wr.setCell ⟨g2, a, none⟩ (.int .i64 (nv + fv))).drew _ := O2
                  generalize (wr.setCell ⟨g2, a, none⟩ (.int .i64 (nv + fv))).drew = w3 at O2 ⊢
                  clear hcj hca hx hf1
                  have hx := (O2.bel.cell (by rw [addr_add_block]; exact hx0)).trans hx1
                  have hcj := hcj2 _ _ O2
                  have hcb := O2.cell htl hbM
                  rw [tab_at hbn hbT, e2] at hcb
                  have O3 := (O2.store htl hbM (nb + fv)).2.2
                  have hf2 := (O2.store htl hbM 0).2.1
                  rw [tab_set hbn, e] at O3
                  replace O3 := O3.drew 1
                  clear hx0 hx1 hcj2 O2 e e2 hbn hbT htl htl2 ha haM haMi hn1
                  go_wp2
                  go_region
                  replace O3 : Own w (w3.setCell ⟨g2, b, none⟩ (.int .i64 (nb + fv))).drew _ := O3
                  generalize (w3.setCell ⟨g2, b, none⟩ (.int .i64 (nb + fv))).drew = w4 at O3 ⊢
                  clear hcj hcb hx hf2
                  go_wp2
                  go_roundw
                  case rel => exact ⟨j + 1, by omega, by go_num, by rw [hX.out]; exact O3⟩
                  case measure => simp [intOf]; omega
            · obtain rfl : j = M := by omega
              rw [hend.out] at O
              clear hend hR hx0 hx1 hjM hj
              go_wp2
              go_roundw
              case rel => exact ⟨k' + 1, g2, c2, by omega, by go_num, rfl, O.swap.tl⟩
              case measure => simp [intOf]; omega
        · obtain rfl : k' = k := by omega
          have hc := O.copied
          rw [← hn] at hc
          clear h hP hT O hlt hk'
          go_wp2
          go_ret
          exact hc
end Go.Proofs.Ytjdkihinfilbkaa
