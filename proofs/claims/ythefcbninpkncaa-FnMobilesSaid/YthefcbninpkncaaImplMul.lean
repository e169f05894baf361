/-
  The contracts of the program's multiplied weights under a part of a mobile of the call's own, and of the least weights of one part. Only these weights and new memory are written.
-/
import Derived.Test.YthefcbninpkncaaImplPull
import Derived.Test.YthefcbninpkncaaGcd
namespace Go.Proofs.Ythefcbninpkncaa
open Go.ChangeShapes Go.WideShapes Go.ChangeAt Go.RowKit Go.PlainAid

theorem add_zero_addr (g i : Nat) : (⟨g, 0, none⟩ : Addr).add i = ⟨g, i, none⟩ := by
  unfold Addr.add
  by_cases e : i = 0
  · subst e; rw [if_pos rfl]
  · rw [if_neg e, Nat.zero_add]
theorem ptrow_pt {w wr : World} {g c n j : Nat} {M : List PartT} {R : List Rw} (h : Own w wr (ptrow (.slice (some ⟨g, 0, .none⟩) n c) M :: R)) (hn : M.length = n) (hj : j < n) : PtAt wr ⟨g, j * 5, none⟩ (ptget M j) := by
  obtain ⟨c0, c1, c2, c3, c4⟩ := ptrow_cell h hn hj
  exact ⟨c0, c1, c2, c3, c4⟩
set_option maxHeartbeats 4000000 in
theorem implMul {L : List PartT} (hL : MOk L) (w0 : World) (g n c : Nat) (z : Int) (hn : L.length = n) :
    ∀ k, k < L.length → ∀ (u : Nat → Int) (R : List Rw) W, (∀ x ∈ lv L k, 0 ≤ u x * z ∧ u x * z ≤ 163840000000) → Own w0 W (ptrow (.slice (some ⟨g, 0, none⟩) n c) (put L u) :: R) → Calls Try.prog 50 #[.slice (some ⟨g, 0, none⟩) n c, .pointer (some ⟨g, k * 5, none⟩), .int .i64 z] W (Scaled w0 (.slice (some ⟨g, 0, none⟩) n c) (put L (mulU L k z u)) R) := by
  refine mob_ind (L := L) (p := fun k => k < L.length → ∀ (u : Nat → Int) (R : List Rw) W, (∀ x ∈ lv L k, 0 ≤ u x * z ∧ u x * z ≤ 163840000000) → Own w0 W (ptrow (.slice (some ⟨g, 0, none⟩) n c) (put L u) :: R) → Calls Try.prog 50 #[.slice (some ⟨g, 0, none⟩) n c, .pointer (some ⟨g, k * 5, none⟩), .int .i64 z] W (Scaled w0 (.slice (some ⟨g, 0, none⟩) n c) (put L (mulU L k z u)) R)) (fun k h hk u R W hu O => ?_) (fun k h i1 i2 hk u R W hu O => ?_)
  · have hl : (put L u).length = n := by rw [put_length]; exact hn
    have hkn : k < n := by omega
    have pt := ptrow_pt O hl hkn
    have q := hu k (by rw [lv_wt h]; exact List.mem_singleton.2 rfl)
    have f4 := ptrow_free O hl (k * 5 + 4)
    have O2 := ptrow_st4 O hl hkn (u k * z)
    rw [put_set hk h, mulU_wt h z u] at O2
    have e := put_left_wt (u := u) hL hk h
    have hW := isWt_any _ _ W pt
    rw [decide_eq_true e.1] at hW
    obtain ⟨-, -, -, -, c4⟩ := pt
    rw [e.2] at c4
    obtain ⟨t, ht⟩ : ∃ t, u k = t := ⟨_, rfl⟩
    rw [ht] at c4 O2 q
    obtain ⟨tz, htz⟩ : ∃ tz, t * z = tz := ⟨_, rfl⟩
    rw [htz] at O2 q
    clear h hk hL hu hn O hl ht e
    go_enter Try.func50, Try.ntmps50
    go_wp2_with fail
    refine hW.mono ?_
    rintro e w1 ⟨rfl, rfl⟩
    clear hW
    go_wp2_with fail
    go_end0
    exact ⟨rfl, O2⟩
  · have hl : (put L u).length = n := by rw [put_length]; exact hn
    have hkn : k < n := by omega
    have pt := ptrow_pt O hl hkn
    have e := put_left_bm (u := u) hL hk h
    have hW := isWt_any _ _ W pt
    rw [decide_eq_false e.2.2.2.2] at hW
    have b := h.2
    have hp1 : lc L k < n := by omega
    have hp2 : rc L k < n := by omega
    have j1 := i1 (by omega) u R W (fun x hx => hu x (by rw [lv_bm h]; exact List.mem_append_left _ hx)) O
    have j2 := fun W (OW : Own w0 W (ptrow (.slice (some ⟨g, 0, none⟩) n c) (put L (mulU L (lc L k) z u)) :: R)) => i2 (by omega) (mulU L (lc L k) z u) R W (fun x hx => by
      have := hu x (by rw [lv_bm h]; exact List.mem_append_right _ hx)
      unfold mulU
      rw [if_neg fun g => hL.lv_apart h g hx]
      exact this) OW
    have K : ∀ W, Own w0 W (ptrow (.slice (some ⟨g, 0, none⟩) n c) (put L (mulU L (lc L k) z u)) :: R) → W.cell? ⟨g, k * 5 + 1, none⟩ = some (.int .i64 (rc L k : Nat)) := fun W OW => by
      have pt := ptrow_pt OW (by rw [put_length]; exact hn) hkn
      have e := put_left_bm (u := mulU L (lc L k) z u) hL hk h
      have c1 := pt.2.1
      rw [e.2.1] at c1
      exact c1
    rw [mulU_bm hL h z u] at j2
    obtain ⟨c0, -, -, -, -⟩ := pt
    rw [e.1] at c0
    generalize put L (mulU L (lc L k) z u) = M1 at j1 j2 K
    generalize put L (mulU L k z u) = M2 at j2 ⊢
    generalize lc L k = p1 at c0 j1 hp1
    generalize rc L k = p2 at K j2 hp2
    clear i1 i2 h hk hL hu hn O hl e b
    go_enter Try.func50, Try.ntmps50
    go_wp2_with fail
    refine hW.mono ?_
    rintro e w1 ⟨rfl, rfl⟩
    clear hW
    go_wp2_with fail
    (with_reducible refine j1.mono ?_)
    rintro e w2 ⟨rfl, O2⟩
    have c1 := K _ O2
    replace j2 := j2 _ O2
    clear c0 j1 K O2
    go_wp2_with fail
    (with_reducible refine j2.mono ?_)
    rintro e w3 ⟨rfl, O3⟩
    clear c1 j2
    go_wp2_with fail
    go_end0
    exact ⟨rfl, O3⟩
end Go.Proofs.Ythefcbninpkncaa
