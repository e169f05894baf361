/-
  The contracts of the program's sum under a part of a mobile, of what pulls at a beam, and whether it is tilted. Only new memory is written.
-/
import Derived.Test.YthefcbninpkncaaImplMok
import Derived.Test.YthefcbninpkncaaMobGreat
import Derived.Test.YthefcbninpkncaaSpecMore
namespace Go.Proofs.Ythefcbninpkncaa
open Go.ChangeShapes Go.WideShapes Go.ChangeAt Go.RowKit Go.PlainAid

theorem put_left_wt {L : List PartT} {u : Nat → Int} (hL : MOk L) {k : Nat} (hk : k < L.length) (h : ¬ Bm L k) : (ptget (put L u) k).left = -1 ∧ (ptget (put L u) k).weight = u k := by
  refine ⟨?_, by rw [put_wt hk h]⟩
  rw [(put_left hk).1]
  exact Decidable.byContradiction fun g => h (hL.bm hk g).1
theorem put_left_bm {L : List PartT} {u : Nat → Int} (hL : MOk L) {k : Nat} (hk : k < L.length) (h : Bm L k) : (ptget (put L u) k).left = (lc L k : Int) ∧ (ptget (put L u) k).right = (rc L k : Int) ∧ (ptget (put L u) k).armLeft = (ptget L k).armLeft ∧ (ptget (put L u) k).armRight = (ptget L k).armRight ∧ ¬ (ptget (put L u) k).left = -1 := by
  have q := hL.bm hk h.1
  rw [put_bm hk h]
  exact ⟨q.2.1, q.2.2.1, rfl, rfl, h.1⟩
theorem PtAt.keep {w w' : World} {A : Option Addr} {x : Addr} {M : List PartT} (r : PartRow w A M) (hA : A = some x) (b : Below w.heap.size w w') {k : Nat} (hk : k < M.length) : PtAt w' (x.add (k * 5)) (ptget M k) := by
  obtain ⟨x', hA', pt⟩ := (r.keep b).ptAt hk
  rw [hA] at hA'
  injection hA' with e
  subst e
  exact pt
set_option maxHeartbeats 2000000 in
theorem implWt {L : List PartT} {u : Nat → Int} (hL : MOk L) (x : Addr) (n c : Nat) (hn : L.length = n) :
    ∀ k, k < L.length → (∀ i ∈ lv L k, 0 ≤ u i) → sm L u k ≤ 4000000000000000000 → ∀ W, PartRow W (some x) (put L u) → Calls Try.prog 35 #[.slice (some x) n c, .pointer (some (x.add (k * 5)))] W (SaysI (sm L u k) W) := by
  refine mob_ind (L := L) (p := fun k => k < L.length → (∀ i ∈ lv L k, 0 ≤ u i) → sm L u k ≤ 4000000000000000000 → ∀ W, PartRow W (some x) (put L u) → Calls Try.prog 35 #[.slice (some x) n c, .pointer (some (x.add (k * 5)))] W (SaysI (sm L u k) W)) (fun k h hk hu hs W r => ?_) (fun k h i1 i2 hk hu hs W r => ?_)
  · have pt := PtAt.keep r rfl (Below.refl _ _) (k := k) (by rw [put_length]; exact hk)
    have e := put_left_wt (u := u) hL hk h
    have hW := isWt_any _ _ W pt
    rw [decide_eq_true e.1] at hW
    obtain ⟨c0, c1, c2, c3, c4⟩ := pt
    rw [e.2] at c4
    rw [sm_wt h]
    generalize u k = v at c4 ⊢
    clear e hu hs r c0 c1 c2 c3 h hL hk hn
    go_enter Try.func35, Try.ntmps35
    go_wp2_with fail
    refine hW.mono ?_
    rintro e w1 ⟨rfl, rfl⟩
    clear hW
    go_wp2_with fail
    go_ret
    exact ⟨rfl, Below.refl _ _⟩
  · have b := h.2
    have pt := PtAt.keep r rfl (Below.refl _ _) (k := k) (by rw [put_length]; exact hk)
    have e := put_left_bm (u := u) hL hk h
    have hW := isWt_any _ _ W pt
    rw [decide_eq_false e.2.2.2.2] at hW
    have K := fun W' (b : Below W.heap.size W W') => PtAt.keep r rfl b (k := k) (by rw [put_length]; exact hk)
    have hu1 : ∀ i ∈ lv L (lc L k), 0 ≤ u i := fun i hi => hu i (by rw [lv_bm h]; exact List.mem_append_left _ hi)
    have hu2 : ∀ i ∈ lv L (rc L k), 0 ≤ u i := fun i hi => hu i (by rw [lv_bm h]; exact List.mem_append_right _ hi)
    have s1 := (le_sm _ hu1).1
    have s2 := (le_sm _ hu2).1
    rw [sm_bm h] at hs ⊢
    replace i1 := i1 (by omega) hu1 (by omega)
    replace i2 := i2 (by omega) hu2 (by omega)
    have hl : lc L k < n := by omega
    have hr : rc L k < n := by omega
    generalize hq : x.add (k * 5) = q at pt hW K ⊢
    generalize ptget (put L u) k = y at pt K e
    obtain ⟨yl, yr, ya, yb, yw⟩ := y
    dsimp only at e
    obtain ⟨rfl, rfl, -, -, -⟩ := e
    generalize sm L u (lc L k) = v1 at i1 s1 hs ⊢
    generalize sm L u (rc L k) = v2 at i2 s2 hs ⊢
    generalize lc L k = p1 at i1 pt K hl
    generalize rc L k = p2 at i2 pt K hr
    obtain ⟨c0, c1, -, -, -⟩ := pt
    dsimp only at c0 c1
    clear h b hL hk hn hu hu1 hu2 hq
    go_enter Try.func35, Try.ntmps35
    go_wp2_with fail
    refine hW.mono ?_
    rintro e w1 ⟨rfl, rfl⟩
    clear hW
    go_upto_region 3 with fail
    go_region_law (first
      | (go_simp; go_at_call 35; (with_reducible refine (i1 _ (r.keep (below_drew' (Below.refl _ _)))).mono ?_); rintro e w2 ⟨rfl, b2⟩; obtain ⟨k0, k1, -, -, -⟩ := K _ (undrew' b2); dsimp only at k0 k1; have r2 := r.keep (undrew' b2); have b3 := undrew' b2)
      | (go_simp; go_at_call 35; (with_reducible refine (i2 _ r2).mono ?_); rintro e w3 ⟨rfl, b4⟩; have b5 := below_more b3 b3.size b4))
    all_goals
      clear i1 i2 r r2 K k0 k1 c0 c1 b2 b3 b4
      go_wp2_with fail
      all_goals
        go_ret
        refine ⟨?_, b5⟩
        go_simp
        (try (first | (rw [IntKind.wrap_i64] <;> omega) | omega))
end Go.Proofs.Ythefcbninpkncaa
