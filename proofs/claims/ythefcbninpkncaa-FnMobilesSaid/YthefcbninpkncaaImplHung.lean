/-
  The contract of the program's count of the places that each part hangs from. Only new memory is written.
-/
import Derived.Test.YthefcbninpkncaaImplPart
namespace Go.Proofs.Ythefcbninpkncaa
open Go.ChangeShapes Go.WideShapes Go.ChangeAt Go.RowKit Go.PlainAid

set_option maxRecDepth 100000 in
set_option maxHeartbeats 3000000 in
theorem implHung (A : Option Addr) (n c : Nat) (L : List PartT) (w : World) (hn : L.length = n) (n1 : 1 ≤ n) (n15 : n ≤ 15) (r : PartRow w A L) (P : ∀ j, j < n → PtOk n j (ptget L j)) :
    Calls Try.prog 40 #[.slice A n c] w (SaysB (mok L) w) := by
  obtain ⟨i0, hi, hz0, hz1, hz2⟩ := info_parts Try.infoIntT
  obtain ⟨z, hz⟩ : ∃ z, mok L = z := ⟨_, rfl⟩
  rw [hz]
  have n0 := Own.none w
  go_enter Try.func40, Try.ntmps40
  go_wp2_with (at_make; refine wpList_make_full _ rfl _ _ 51 rfl w.heap.size 3 i0 (.int .i64 0) 1 Try.underlying51 hi hz0 hz1 .i64 .i64 _ _ n rfl rfl rfl rfl (by rw [hz2]; omega) (by unfold maxLen; omega) (Nat.le_refl _) ?_; intro w1 hown0 hgrow0)
  have O0 := n0.made hown0 hgrow0
  rw [← usedL_zero L n] at O0
  clear hown0 hgrow0 n0
  generalize w.heap.size = g at O0 ⊢
  go_loopw [13] (fun i wr => ∃ k : Nat, k ≤ n ∧ i = .int .i64 k ∧ Own w wr [irow (.slice (some ⟨g, 0, none⟩) n n) (usedL L n k)]) (fun i _ => n - (intOf i).toNat)
  case atStart => exact ⟨0, by omega, rfl, O0⟩
  case round =>
    clear O0
    obtain ⟨k, hk, rfl, O⟩ := hrel
    by_cases hlt : k < n
    · have rk := r.keep O.bel
      obtain ⟨x, rfl, pt⟩ := rk.ptAt (j := k) (by omega)
      have hP := P k hlt
      have hW := fun (W : World) (pt : PtAt W (x.add (k * 5)) (ptget L k)) => isWt_any _ _ W pt
      by_cases hl : (ptget L k).left = -1
      · have U2 := used_wt (n := n) hl (by unfold PtOk at hP; rw [if_pos hl] at hP; exact hP.1)
        rw [← U2] at O
        rw [decide_eq_true hl] at hW
        go_wp2_with fail
        refine (hW _ pt).mono ?_
        rintro e w9 ⟨rfl, rfl⟩
        clear pt hP hW U2 hl
        go_wp2_with fail
        go_roundw
        case rel => exact ⟨k + 1, by omega, by go_num, O⟩
        case measure => simp [intOf]; omega
      · rw [decide_eq_false hl] at hW
        unfold PtOk at hP
        rw [if_neg hl] at hP
        unfold BmOk at hP
        obtain ⟨h0, h1, -⟩ := hP
        obtain ⟨a, hXl⟩ := Int.eq_ofNat_of_zero_le (show 0 ≤ (ptget L k).left by omega)
        obtain ⟨b, hXr⟩ := Int.eq_ofNat_of_zero_le (show 0 ≤ (ptget L k).right by omega)
        have ha : a < n := by omega
        have hb : b < n := by omega
        have hlen : (usedL L n k).length = n := by simp [usedL]
        have hlen1 : (usedA L n k a).length = n := by simp [usedA]
        have g1 := usedL_get (L := L) (k := k) ha
        have g2 := usedA_get (L := L) (k := k) (a := a) hb
        have l1 := cnt_le L a k
        have l2 := cnt_le L b k
        have k1 := O.cell hlen ha
        obtain ⟨-, f1, O1⟩ := O.store hlen ha ((cnt L a k : Int) + 1)
        rw [used_one] at O1
        rw [g1] at k1
        have k2 := O1.cell hlen1 hb
        obtain ⟨-, f2, O2⟩ := O1.store hlen1 hb ((cnt L b k : Int) + (if a = b then 1 else 0) + 1)
        rw [used_two hXl hXr] at O2
        rw [g2] at k2
        obtain ⟨x', hx', pt1⟩ := (r.keep O1.bel).ptAt (j := k) (by omega)
        injection hx' with hx'
        subst hx'
        obtain ⟨p0, p1, p2, p3, p4⟩ := pt
        obtain ⟨q0, q1, q2, q3, q4⟩ := pt1
        have hW2 := hW wr ⟨p0, p1, p2, p3, p4⟩
        rw [hXl] at p0 q0
        rw [hXr] at p1 q1
        obtain ⟨s, hs⟩ : ∃ s : Nat, cnt L a k = s := ⟨_, rfl⟩
        obtain ⟨d, hd⟩ : ∃ d : Int, (cnt L b k : Int) + (if a = b then 1 else 0) = d := ⟨_, rfl⟩
        have hd2 : 0 ≤ d ∧ d ≤ 40 := by rw [← hd]; split <;> omega
        rw [hs] at k1 k2 f2 O2 l1 q0 q1
        rw [hd] at k2 O2
        generalize hW3 : wr.setCell ⟨g, a, none⟩ (.int .i64 ((s : Int) + 1)) = W3 at k2 f2 O2 q0 q1
        clear hW O O1 g1 g2 hlen hlen1 l2 hs hd hXl hXr hz p2 p3 p4 q2 q3 q4 rk r P hl h0 h1
        go_wp2_with fail
        refine hW2.mono ?_
        rintro e w9 ⟨rfl, rfl⟩
        clear hW2
        go_upto_region 8 with fail
        (try rw [hW3])
        clear hW3 k1 f1 p0 p1
        go_wp2_with fail
        go_roundw
        case rel => exact ⟨k + 1, by omega, by go_num, O2⟩
        case measure => simp [intOf]; omega
    · obtain rfl : k = n := by omega
      by_cases h1 : k = 1
      · obtain rfl : z = true := by
          rw [← hz]
          exact mok_yes ⟨by omega, by omega, by rw [hn]; exact P, by rw [hn]; exact fun t a b => by omega⟩
        subst h1
        clear hz
        go_wp2_with fail
        refine wp_loop_rounds 1 ?_
        rw [rounds_succ]
        go_wp2_with fail
        go_ret
        exact ⟨rfl, O.bel⟩
      · skip
        go_wp2_with fail
        go_loopw [44] (fun i w2 => ∃ j : Nat, j + 1 ≤ k ∧ i = .int .i64 j ∧ (∀ t, 1 ≤ t → t < j + 1 → cnt L t k = 1) ∧ w2 = wr) (fun i _ => k - (intOf i).toNat)
        case atStart => exact ⟨0, by omega, rfl, (fun t h1 h2 => by omega), rfl⟩
        case round =>
          obtain ⟨j, hj, rfl, Q, rfl⟩ := hrel
          by_cases hjk : j + 1 < k
          · have c1 := O.cell (by simp [usedL]) hjk
            rw [usedL_get hjk] at c1
            rw [Nat.add_comm j 1] at c1
            by_cases one : cnt L (1 + j) k = 1
            · rw [one] at c1
              have Q2 : ∀ t, 1 ≤ t → t < j + 1 + 1 → cnt L t k = 1 := fun t a b => by
                by_cases e : t = 1 + j
                · subst e; exact one
                · exact Q t a (by omega)
              clear one hz
              go_wp2_with fail
              go_roundw
              case rel => exact ⟨j + 1, by omega, by go_num, Q2, trivial⟩
              case measure => simp [intOf]; omega
            · obtain rfl : z = false := by
                rw [← hz]
                exact mok_no fun m => one (by have := m.once (1 + j) (by omega) (by omega); rwa [hn] at this)
              have one2 : ¬ ((cnt L (1 + j) k : Nat) : Int) = 1 := by omega
              generalize cnt L (1 + j) k = t at c1 one2
              clear hz one
              go_wp2_with fail
              go_ret
              exact ⟨rfl, O.bel⟩
          · obtain rfl : z = true := by
              rw [← hz]
              exact mok_yes ⟨by omega, by omega, by rw [hn]; exact P, by rw [hn]; exact fun t a b => Q t b (by omega)⟩
            clear hz
            go_wp2_with fail
            go_ret
            exact ⟨rfl, O.bel⟩
end Go.Proofs.Ythefcbninpkncaa
