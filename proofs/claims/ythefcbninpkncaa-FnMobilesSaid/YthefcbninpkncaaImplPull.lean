/-
  The contracts of what pulls at a beam of a mobile, and whether it is tilted. Only new memory is written.
-/
import Derived.Test.YthefcbninpkncaaImplWt
namespace Go.Proofs.Ythefcbninpkncaa
open Go.ChangeShapes Go.WideShapes Go.ChangeAt Go.RowKit Go.PlainAid

set_option maxHeartbeats 2000000 in
theorem implPulls {L : List PartT} {u : Nat → Int} (hL : MOk L) (x : Addr) (n c : Nat) (hn : L.length = n) (k : Nat) (hk : k < L.length) (h : Bm L k) (hu : ∀ i ∈ lv L k, 0 ≤ u i) (s1 : sm L u (lc L k) ≤ 163840000000) (s2 : sm L u (rc L k) ≤ 163840000000) (W : World) (r : PartRow W (some x) (put L u)) :
    Calls Try.prog 48 #[.slice (some x) n c, .pointer (some (x.add (k * 5)))] W (SaysTwo (sm L u (lc L k) * (ptget L k).armLeft) (sm L u (rc L k) * (ptget L k).armRight) W) := by
  have b := h.2
  have pt := PtAt.keep r rfl (Below.refl _ _) (k := k) (by rw [put_length]; exact hk)
  have e := put_left_bm (u := u) hL hk h
  have K := fun W' (b : Below W.heap.size W W') => PtAt.keep r rfl b (k := k) (by rw [put_length]; exact hk)
  have hu1 : ∀ i ∈ lv L (lc L k), 0 ≤ u i := fun i hi => hu i (by rw [lv_bm h]; exact List.mem_append_left _ hi)
  have hu2 : ∀ i ∈ lv L (rc L k), 0 ≤ u i := fun i hi => hu i (by rw [lv_bm h]; exact List.mem_append_right _ hi)
  have t1 := (le_sm _ hu1).1
  have t2 := (le_sm _ hu2).1
  have i1 := implWt hL x n c hn (lc L k) (by omega) hu1 (by omega)
  have i2 := implWt hL x n c hn (rc L k) (by omega) hu2 (by omega)
  have q := hL.bm hk h.1
  have m1 := Int.mul_le_mul s1 q.2.2.2.1.2 (by omega) (by omega)
  have m2 := Int.mul_le_mul s2 q.2.2.2.2.1.2 (by omega) (by omega)
  have z1 := Int.mul_nonneg t1 (show 0 ≤ (ptget L k).armLeft by omega)
  have z2 := Int.mul_nonneg t2 (show 0 ≤ (ptget L k).armRight by omega)
  have hl : lc L k < n := by omega
  have hr : rc L k < n := by omega
  generalize hq : x.add (k * 5) = a at pt K ⊢
  generalize ptget (put L u) k = y at pt K e
  generalize (ptget L k).armLeft = ya' at e m1 z1 ⊢
  generalize (ptget L k).armRight = yb' at e m2 z2 ⊢
  obtain ⟨yl, yr, ya, yb, yw⟩ := y
  dsimp only at e
  obtain ⟨rfl, rfl, rfl, rfl, -⟩ := e
  generalize sm L u (lc L k) = v1 at i1 t1 m1 z1 s1 ⊢
  generalize sm L u (rc L k) = v2 at i2 t2 m2 z2 s2 ⊢
  generalize lc L k = p1 at i1 pt K hl
  generalize rc L k = p2 at i2 pt K hr
  obtain ⟨c0, c1, c2, c3, -⟩ := pt
  dsimp only at c0 c1 c2 c3
  have w1 : IntKind.i64.wrap (v1 * ya) = v1 * ya := by rw [IntKind.wrap_i64] <;> omega
  have w2 : IntKind.i64.wrap (v2 * yb) = v2 * yb := by rw [IntKind.wrap_i64] <;> omega
  clear h b hL hk hn hu hu1 hu2 hq q m1 m2 z1 z2 s1 s2
  go_enter Try.func48, Try.ntmps48
  go_wp2_with fail
  go_region
  all_goals
    go_upto_region 2 with fail
    go_region_law (first
      | (go_simp; go_at_call 35; (with_reducible refine (i1 _ (r.keep (below_drew' (below_drew' (Below.refl _ _))))).mono ?_); rintro e W2 ⟨rfl, b2⟩; obtain ⟨-, -, k2, k3, -⟩ := K _ (undrew' (undrew' b2)); dsimp only at k2 k3; have r2 := r.keep (undrew' (undrew' b2)); have b3 := undrew' (undrew' b2))
      | (go_simp; go_at_call 35; (with_reducible refine (i2 _ r2).mono ?_); rintro e W3 ⟨rfl, b4⟩; obtain ⟨-, -, k4, k5, -⟩ := K _ (below_more b3 b3.size b4); dsimp only at k4 k5; have b5 := below_more b3 b3.size b4))
    all_goals
      clear i1 i2 r r2 K k2 k3 k4 k5 c0 c1 c2 c3 b2 b3 b4
      go_wp2_with fail
      go_ret2
      refine ⟨?_, b5⟩
      go_simp
      (try rw [w1, w2])
set_option maxHeartbeats 2000000 in
theorem implTilted {L : List PartT} {u : Nat → Int} (hL : MOk L) (x : Addr) (n c : Nat) (hn : L.length = n) (k : Nat) (hk : k < L.length) (h : Bm L k) (hu : ∀ i ∈ lv L k, 0 ≤ u i) (s1 : sm L u (lc L k) ≤ 163840000000) (s2 : sm L u (rc L k) ≤ 163840000000) (W : World) (r : PartRow W (some x) (put L u)) :
    Calls Try.prog 34 #[.slice (some x) n c, .pointer (some (x.add (k * 5)))] W (SaysB (!decide (Lvl L u k)) W) := by
  have hP := implPulls hL x n c hn k hk h hu s1 s2 W r
  have hy : sm L u (lc L k) * (ptget L k).armLeft = sm L u (rc L k) * (ptget L k).armRight → (!decide (Lvl L u k)) = false := fun g => by
    rw [decide_eq_true (show Lvl L u k from g)]; rfl
  have hz : ¬ sm L u (lc L k) * (ptget L k).armLeft = sm L u (rc L k) * (ptget L k).armRight → (!decide (Lvl L u k)) = true := fun g => by
    rw [decide_eq_false (show ¬ Lvl L u k from g)]; rfl
  generalize (!decide (Lvl L u k)) = z at hy hz ⊢
  generalize sm L u (lc L k) * (ptget L k).armLeft = a at hP hy hz
  generalize sm L u (rc L k) * (ptget L k).armRight = b at hP hy hz
  clear hu s1 s2 r h hk hL hn
  by_cases e : a = b
  · obtain rfl : z = false := hy e
    subst e
    clear hy hz
    go_enter Try.func34, Try.ntmps34
    go_wp2_with fail
    refine hP.mono ?_
    rintro e W1 ⟨rfl, b1⟩
    clear hP
    go_wp2_with fail
    go_ret
    exact ⟨by simp, b1⟩
  · obtain rfl : z = true := hz e
    clear hy hz
    go_enter Try.func34, Try.ntmps34
    go_wp2_with fail
    refine hP.mono ?_
    rintro e W1 ⟨rfl, b1⟩
    clear hP
    go_wp2_with fail
    go_ret
    exact ⟨by simp [e], b1⟩
end Go.Proofs.Ythefcbninpkncaa
