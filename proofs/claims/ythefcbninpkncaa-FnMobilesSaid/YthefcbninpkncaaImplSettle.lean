/-
  The contract of the program's least weights of one part of a mobile of the call's own, all behind it being done. Only these weights and new memory are written.
-/
import Derived.Test.YthefcbninpkncaaImplMul
namespace Go.Proofs.Ythefcbninpkncaa
open Go.ChangeShapes Go.WideShapes Go.ChangeAt Go.RowKit Go.PlainAid

/-- The weights behind the step at part k. -/
def stp (L : List PartT) (k : Nat) (u : Nat → Int) : Nat → Int :=
  if Bm L k then mulU L (rc L k) (mr (soA L k) (soB L k)) (mulU L (lc L k) (ml (soA L k) (soB L k)) u) else fun i => if i = k then 1 else u i
theorem stp_inv {L : List PartT} (hL : MOk L) {k : Nat} {u : Nat → Int} (iv : Inv L (k + 1) u) : Inv L k (stp L k u) := by
  unfold stp
  by_cases b : Bm L k
  · rw [if_pos b]; exact inv_bm hL b iv
  · rw [if_neg b]; exact inv_wt b iv
set_option maxHeartbeats 4000000 in
theorem implSettle {L : List PartT} (hL : MOk L) (w0 : World) (g n c : Nat) (hn : L.length = n) (k : Nat) (hk : k < L.length) (u : Nat → Int) (R : List Rw) (W : World) (iv : Inv L (k + 1) u) (O : Own w0 W (ptrow (.slice (some ⟨g, 0, none⟩) n c) (put L u) :: R)) :
    Calls Try.prog 32 #[.slice (some ⟨g, 0, none⟩) n c, .pointer (some ⟨g, k * 5, none⟩)] W (Scaled w0 (.slice (some ⟨g, 0, none⟩) n c) (put L (stp L k u)) R) := by
  have hl : (put L u).length = n := by rw [put_length]; exact hn
  have hkn : k < n := by omega
  have pt := ptrow_pt O hl hkn
  have hW := isWt_any _ _ W pt
  by_cases h : Bm L k
  · have e := put_left_bm (u := u) hL hk h
    rw [decide_eq_false e.2.2.2.2] at hW
    have b := h.2
    have hp1 : lc L k < n := by omega
    have hp2 : rc L k < n := by omega
    have tk := top_kids hL h
    have sums := inv_sums hL h iv
    have gt := great hL hk h
    have v1 : sm L u (lc L k) = sm L (so L (lc L k)) (lc L k) := sm_congr (iv _ tk.1)
    have v2 : sm L u (rc L k) = sm L (so L (rc L k)) (rc L k) := sm_congr (iv _ tk.2)
    have s1 := so_sum_top hL (show lc L k < L.length by omega)
    have s2 := so_sum_top hL (show rc L k < L.length by omega)
    have hu : ∀ i ∈ lv L k, 0 ≤ u i := fun i hi => by
      rw [lv_bm h] at hi
      rcases List.mem_append.1 hi with hi | hi
      · rw [iv _ tk.1 i hi]
        have := so_pos hL (lc L k) (by omega) i hi
        omega
      · rw [iv _ tk.2 i hi]
        have := so_pos hL (rc L k) (by omega) i hi
        omega
    have r := ptrow_reads O List.mem_cons_self rfl (by rw [put_length, hn])
    have hP := implPulls hL ⟨g, 0, none⟩ n c hn k hk h hu (by omega) (by omega) W r
    rw [add_zero_addr, sums.1, sums.2.1] at hP
    have hG := fun W => implGcd_any (soA L k) (soB L k) W (by omega) (by omega) (by omega) (by omega)
    have gm := gcd_ml gt.1.1 gt.2.1.1
    have gg1 := gm.1
    have ta : (soA L k).tdiv (Int.gcd (soA L k) (soB L k) : Int) = mr (soA L k) (soB L k) := Int.tdiv_eq_ediv_of_nonneg (by omega)
    have tb : (soB L k).tdiv (Int.gcd (soA L k) (soB L k) : Int) = ml (soA L k) (soB L k) := Int.tdiv_eq_ediv_of_nonneg (by omega)
    have m1 := fun W OW => implMul hL w0 g n c (ml (soA L k) (soB L k)) hn (lc L k) (by omega) u R W (fun x hx => by rw [iv _ tk.1 x hx]; exact gt.2.2.2.2.1 x hx) OW
    have m2 := fun W OW => implMul hL w0 g n c (mr (soA L k) (soB L k)) hn (rc L k) (by omega) (mulU L (lc L k) (ml (soA L k) (soB L k)) u) R W (fun x hx => by
      unfold mulU
      rw [if_neg fun g => hL.lv_apart h g hx, iv _ tk.2 x hx]
      exact gt.2.2.2.2.2 x hx) OW
    have K0 : ∀ W, Own w0 W (ptrow (.slice (some ⟨g, 0, none⟩) n c) (put L u) :: R) → W.cell? ⟨g, k * 5, none⟩ = some (.int .i64 (lc L k : Nat)) := fun W OW => by
      have c0 := (ptrow_pt OW hl hkn).1
      rw [e.1] at c0
      exact c0
    have K1 : ∀ W, Own w0 W (ptrow (.slice (some ⟨g, 0, none⟩) n c) (put L (mulU L (lc L k) (ml (soA L k) (soB L k)) u)) :: R) → W.cell? ⟨g, k * 5 + 1, none⟩ = some (.int .i64 (rc L k : Nat)) := fun W OW => by
      have c1 := (ptrow_pt OW (by rw [put_length]; exact hn) hkn).2.1
      rw [(put_left_bm hL hk h).2.1] at c1
      exact c1
    unfold stp
    rw [if_pos h]
    obtain ⟨⟨a0, a9⟩, ⟨b0, b9⟩, ⟨z10, z19⟩, ⟨z20, z29⟩, -, -⟩ := gt
    clear gm hu r s1 s2 v1 v2 sums tk b e pt hl iv h
    generalize ml (soA L k) (soB L k) = z1 at *
    generalize mr (soA L k) (soB L k) = z2 at *
    generalize (Int.gcd (soA L k) (soB L k) : Int) = gg at *
    generalize soA L k = a at *
    generalize soB L k = a' at *
    generalize put L (mulU L (rc L k) z2 (mulU L (lc L k) z1 u)) = M2 at *
    generalize put L (mulU L (lc L k) z1 u) = M1 at *
    generalize put L u = M0 at *
    generalize lc L k = p1 at *
    generalize rc L k = p2 at *
    have wz1 : IntKind.i64.wrap z1 = z1 := by rw [IntKind.wrap_i64] <;> omega
    have wz2 : IntKind.i64.wrap z2 = z2 := by rw [IntKind.wrap_i64] <;> omega
    have gn : gg ≠ 0 := by omega
    clear hL hk hn
    go_enter Try.func32, Try.ntmps32
    go_wp2_with fail
    refine hW.mono ?_
    rintro e w1 ⟨rfl, rfl⟩
    clear hW
    go_wp2_with fail
    refine hP.mono ?_
    rintro e w2 ⟨rfl, b⟩
    replace O := O.keep b
    clear hP b
    go_wp2_with fail
    refine (hG _).mono ?_
    rintro e w3 ⟨rfl, b⟩
    replace O := O.keep b
    have c0 := K0 _ O
    clear hG b K0
    go_upto_region 4 with fail
    go_region_law (go_simp; go_at_call 50; (with_reducible refine (m1 _ (O.keep (below_drew' (Below.refl _ _)))).mono ?_); rintro e w4 ⟨rfl, O4⟩; have c1 := K1 _ O4)
    all_goals
      clear m1 c0 O
      go_upto_region 5 with fail
      go_region_law (go_simp; go_at_call 50; (with_reducible refine (m2 _ (O4.keep (below_drew' (Below.refl _ _)))).mono ?_); rintro e w5 ⟨rfl, O5⟩)
      all_goals
        clear m2 c1 O4 K1
        go_wp2_with fail
        go_end0
        exact ⟨rfl, O5⟩
  · have e := put_left_wt (u := u) hL hk h
    rw [decide_eq_true e.1] at hW
    have O2 := ptrow_st4 O hl hkn 1
    have f4 := ptrow_free O hl (k * 5 + 4)
    rw [put_set hk h] at O2
    obtain ⟨-, -, -, -, c4⟩ := pt
    unfold stp
    rw [if_neg h]
    generalize put L (fun i => if i = k then 1 else u i) = M at O2 ⊢
    generalize (ptget (put L u) k).weight = v at c4
    clear iv O hl h hL hk hn e
    go_enter Try.func32, Try.ntmps32
    go_wp2_with fail
    refine hW.mono ?_
    rintro e w1 ⟨rfl, rfl⟩
    clear hW
    go_wp2_with fail
    go_end0
    exact ⟨rfl, O2⟩
end Go.Proofs.Ythefcbninpkncaa
