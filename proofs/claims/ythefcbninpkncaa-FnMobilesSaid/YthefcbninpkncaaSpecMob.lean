/-
  The contracts of the model's sum, greatest weight and scaled weights under a part of a mobile. Only new memory is written, or the weights.
-/
import Derived.Test.YthefcbninpkncaaPartExact
import Derived.Test.YthefcbninpkncaaMobBound
import Derived.Test.YthefcbninpkncaaRange
import Derived.BigQuiet
import Derived.Deep.RegionLaw
import Derived.Deep.DeepCutAuto
namespace Go.Proofs.Ythefcbninpkncaa
open Go.ChangeShapes Go.WideShapes Go.ChangeAt Go.RowKit Go.PlainAid

theorem part_cells {w : World} {p : Nat} {a b c d e : Value} {t : TypeId} (h : w.heap[p]? = some (.cells #[a, b, c, d, e] t)) : w.cell? ⟨p, 0, none⟩ = some a ∧ w.cell? ⟨p, 1, none⟩ = some b := by
  refine ⟨?_, ?_⟩ <;> simp [World.cell?, h]
theorem part_keep {w w' : World} {p : Nat} {o : Obj} (h : w.heap[p]? = some o) (b : Below w.heap.size w w') : w'.heap[p]? = some o := (b.block p (Array.getElem?_eq_some_iff.1 h).1).trans h
theorem below_drew' {B : Nat} {a w : World} (h : Below B a w) : Below B a w.drew := ⟨h.os, h.tape, h.output, h.size, h.block⟩
theorem undrew' {w w' : World} (b : Below w.drew.heap.size w.drew w') : Below w.heap.size w w' := ⟨b.os, b.tape, b.output, b.size, b.block⟩

set_option maxHeartbeats 2000000 in
theorem specWt {L : List PartT} {u : Nat → Int} (hL : MOk L) (hu : ∀ x, x < L.length → ¬ Bm L x → 0 ≤ u x ∧ u x ≤ 1000) (A : Option Addr) (n c : Nat) (hn : L.length = n) :
    ∀ k, k < L.length → ∀ W, PartRow W A (put L u) → Calls Try.prog 42 #[.slice A n c, .int .i64 (k : Nat)] W (SaysI (sm L u k) W) := by
  refine mob_ind (L := L) (p := fun k => k < L.length → ∀ W, PartRow W A (put L u) → Calls Try.prog 42 #[.slice A n c, .int .i64 (k : Nat)] W (SaysI (sm L u k) W)) (fun k h hk W r => ?_) (fun k h i1 i2 hk W r => ?_)
  · obtain ⟨x, rfl, hx, c0, d1, d2, d3, d4⟩ := r.at (j := k) (by rw [put_length]; exact hk)
    replace c0 := c0.1
    have e1 : (ptget (put L u) k).left = -1 := by
      rw [(put_left hk).1]
      exact Decidable.byContradiction fun g => h (hL.bm hk g).1
    have e2 : (ptget (put L u) k).weight = u k := by rw [put_wt hk h]
    rw [sm_wt h]
    generalize ptget (put L u) k = y at c0 d1 d2 d3 d4 e1 e2
    rw [← e2]
    rw [e1] at c0
    have hkn : k < n := by omega
    clear e1 e2 h hk hL hu r hn
    go_enter Try.func42, Try.ntmps42
    go_wp2_with fail
    go_ret
    exact ⟨rfl, (Below.refl _ _).alloc (Nat.le_refl _) _⟩
  · obtain ⟨x, rfl, hx, c0, d1, d2, d3, d4⟩ := r.at (j := k) (by rw [put_length]; exact hk)
    replace c0 := c0.1
    have q := hL.bm hk h.1
    have b := h.2
    have e1 : (ptget (put L u) k).left = lc L k := by rw [put_bm hk h]; exact q.2.1
    have e2 : (ptget (put L u) k).right = rc L k := by rw [put_bm hk h]; exact q.2.2.1
    have e3 : (ptget (put L u) k).left ≠ -1 := by rw [put_bm hk h]; exact h.1
    have s1 := sm_le hL.len (show lc L k < L.length by omega) (u := u) fun x hx => hu x (lv_lt (by omega) hx) (lv_wt_of _ _ hx)
    have s2 := sm_le hL.len (show rc L k < L.length by omega) (u := u) fun x hx => hu x (lv_lt (by omega) hx) (lv_wt_of _ _ hx)
    replace i1 := i1 (by omega)
    replace i2 := i2 (by omega)
    rw [sm_bm h]
    generalize sm L u (lc L k) = v1 at i1 s1 ⊢
    generalize sm L u (rc L k) = v2 at i2 s2 ⊢
    generalize lc L k = p1 at e1 i1
    generalize rc L k = p2 at e2 i2
    generalize ptget (put L u) k = y at c0 d1 d2 d3 d4 e1 e2 e3
    rw [e1] at c0 e3
    rw [e2] at d1
    have hkn : k < n := by omega
    have r1 : PartRow (W.alloc (.cells #[.int .i64 (p1 : Nat), .int .i64 (p2 : Nat), .int .i64 y.armLeft, .int .i64 y.armRight, .int .i64 y.weight] 33)) (some x) (put L u) := r.keep ((Below.refl _ _).alloc (Nat.le_refl _) _)
    have b1 : Below W.heap.size W (W.alloc (.cells #[.int .i64 (p1 : Nat), .int .i64 (p2 : Nat), .int .i64 y.armLeft, .int .i64 y.armRight, .int .i64 y.weight] 33)) := (Below.refl _ _).alloc (Nat.le_refl _) _
    have hb : (W.alloc (.cells #[.int .i64 (p1 : Nat), .int .i64 (p2 : Nat), .int .i64 y.armLeft, .int .i64 y.armRight, .int .i64 y.weight] 33)).heap[W.heap.size]? = some (.cells #[.int .i64 (p1 : Nat), .int .i64 (p2 : Nat), .int .i64 y.armLeft, .int .i64 y.armRight, .int .i64 y.weight] 33) := heap_alloc_new W _
    clear e1 e2 h hk hL hu r hn q b
    go_enter Try.func42, Try.ntmps42
    go_upto_region 4 with fail
    generalize W.heap.size = g at hb ⊢
    generalize W.alloc (.cells #[.int .i64 (p1 : Nat), .int .i64 (p2 : Nat), .int .i64 y.armLeft, .int .i64 y.armRight, .int .i64 y.weight] 33) = W1 at hb b1 r1 ⊢
    obtain ⟨a0, a1⟩ := part_cells hb
    clear c0 d1 d2 d3 d4 e3
    go_region_law (first
      | (go_simp; go_at_call 42; (with_reducible refine (i1 _ (r1.keep (below_drew' (Below.refl _ _)))).mono ?_); rintro e w2 ⟨rfl, b2⟩; have hb2 := part_keep hb (undrew' b2); obtain ⟨k0, k1⟩ := part_cells hb2; have r2 := r1.keep (undrew' b2); have b3 := below_more b1 (by have := b1.size; omega) (undrew' b2))
      | (go_simp; go_at_call 42; (with_reducible refine (i2 _ r2).mono ?_); rintro e w3 ⟨rfl, b4⟩; have b5 := below_more b3 b3.size b4))
    all_goals
      clear i1 i2 r1 r2 hb hb2 k0 k1 a0 a1 b2 b3 b4
      go_wp2_with fail
      all_goals
        go_ret
        refine ⟨?_, b5⟩
        go_simp
        (try (first | (rw [IntKind.wrap_i64] <;> omega) | omega | (split <;> omega)))

theorem mx_in {L : List PartT} {u : Nat → Int} {k : Nat} (_ : L.length ≤ 15) (_ : k < L.length) (h : ∀ x ∈ lv L k, 0 ≤ u x ∧ u x ≤ 1000) : 0 ≤ mx L u k ∧ mx L u k ≤ 32768000 := by
  have key : ∀ k, (∀ x ∈ lv L k, 0 ≤ u x ∧ u x ≤ 1000) → 0 ≤ mx L u k ∧ mx L u k ≤ 32768000 := by
    refine mob_ind (L := L) (p := fun k => (∀ x ∈ lv L k, 0 ≤ u x ∧ u x ≤ 1000) → 0 ≤ mx L u k ∧ mx L u k ≤ 32768000) (fun k h g => ?_) (fun k h i1 i2 g => ?_)
    · rw [mx_wt h]
      have := g k (by rw [lv_wt h]; exact List.mem_singleton.2 rfl)
      omega
    · rw [mx_bm h]
      have a := i1 fun x hx => g x (by rw [lv_bm h]; exact List.mem_append_left _ hx)
      have b := i2 fun x hx => g x (by rw [lv_bm h]; exact List.mem_append_right _ hx)
      omega
  exact key k h

set_option maxHeartbeats 2000000 in
theorem specMx {L : List PartT} {u : Nat → Int} (hL : MOk L) (hu : ∀ x, x < L.length → ¬ Bm L x → 0 ≤ u x ∧ u x ≤ 1000) (A : Option Addr) (n c : Nat) (hn : L.length = n) :
    ∀ k, k < L.length → ∀ W, PartRow W A (put L u) → Calls Try.prog 44 #[.slice A n c, .int .i64 (k : Nat)] W (SaysI (mx L u k) W) := by
  refine mob_ind (L := L) (p := fun k => k < L.length → ∀ W, PartRow W A (put L u) → Calls Try.prog 44 #[.slice A n c, .int .i64 (k : Nat)] W (SaysI (mx L u k) W)) (fun k h hk W r => ?_) (fun k h i1 i2 hk W r => ?_)
  · obtain ⟨x, rfl, hx, c0, d1, d2, d3, d4⟩ := r.at (j := k) (by rw [put_length]; exact hk)
    replace c0 := c0.1
    have e1 : (ptget (put L u) k).left = -1 := by
      rw [(put_left hk).1]
      exact Decidable.byContradiction fun g => h (hL.bm hk g).1
    have e2 : (ptget (put L u) k).weight = u k := by rw [put_wt hk h]
    rw [mx_wt h]
    generalize ptget (put L u) k = y at c0 d1 d2 d3 d4 e1 e2
    rw [← e2]
    rw [e1] at c0
    have hkn : k < n := by omega
    clear e1 e2 h hk hL hu r hn
    go_enter Try.func44, Try.ntmps44
    go_wp2_with fail
    go_ret
    exact ⟨rfl, (Below.refl _ _).alloc (Nat.le_refl _) _⟩
  · obtain ⟨x, rfl, hx, c0, d1, d2, d3, d4⟩ := r.at (j := k) (by rw [put_length]; exact hk)
    replace c0 := c0.1
    have q := hL.bm hk h.1
    have b := h.2
    have e1 : (ptget (put L u) k).left = lc L k := by rw [put_bm hk h]; exact q.2.1
    have e2 : (ptget (put L u) k).right = rc L k := by rw [put_bm hk h]; exact q.2.2.1
    have e3 : (ptget (put L u) k).left ≠ -1 := by rw [put_bm hk h]; exact h.1
    have s1 := mx_in hL.len (show lc L k < L.length by omega) (u := u) fun x hx => hu x (lv_lt (by omega) hx) (lv_wt_of _ _ hx)
    have s2 := mx_in hL.len (show rc L k < L.length by omega) (u := u) fun x hx => hu x (lv_lt (by omega) hx) (lv_wt_of _ _ hx)
    replace i1 := i1 (by omega)
    replace i2 := i2 (by omega)
    rw [mx_bm h]
    generalize mx L u (lc L k) = v1 at i1 s1 ⊢
    generalize mx L u (rc L k) = v2 at i2 s2 ⊢
    generalize lc L k = p1 at e1 i1
    generalize rc L k = p2 at e2 i2
    generalize ptget (put L u) k = y at c0 d1 d2 d3 d4 e1 e2 e3
    rw [e1] at c0 e3
    rw [e2] at d1
    have hkn : k < n := by omega
    have r1 : PartRow (W.alloc (.cells #[.int .i64 (p1 : Nat), .int .i64 (p2 : Nat), .int .i64 y.armLeft, .int .i64 y.armRight, .int .i64 y.weight] 33)) (some x) (put L u) := r.keep ((Below.refl _ _).alloc (Nat.le_refl _) _)
    have b1 : Below W.heap.size W (W.alloc (.cells #[.int .i64 (p1 : Nat), .int .i64 (p2 : Nat), .int .i64 y.armLeft, .int .i64 y.armRight, .int .i64 y.weight] 33)) := (Below.refl _ _).alloc (Nat.le_refl _) _
    have hb : (W.alloc (.cells #[.int .i64 (p1 : Nat), .int .i64 (p2 : Nat), .int .i64 y.armLeft, .int .i64 y.armRight, .int .i64 y.weight] 33)).heap[W.heap.size]? = some (.cells #[.int .i64 (p1 : Nat), .int .i64 (p2 : Nat), .int .i64 y.armLeft, .int .i64 y.armRight, .int .i64 y.weight] 33) := heap_alloc_new W _
    clear e1 e2 h hk hL hu r hn q b
    go_enter Try.func44, Try.ntmps44
    go_upto_region 4 with fail
    generalize W.heap.size = g at hb ⊢
    generalize W.alloc (.cells #[.int .i64 (p1 : Nat), .int .i64 (p2 : Nat), .int .i64 y.armLeft, .int .i64 y.armRight, .int .i64 y.weight] 33) = W1 at hb b1 r1 ⊢
    obtain ⟨a0, a1⟩ := part_cells hb
    clear c0 d1 d2 d3 d4 e3
    go_region_law (first
      | (go_simp; go_at_call 44; (with_reducible refine (i1 _ (r1.keep (below_drew' (Below.refl _ _)))).mono ?_); rintro e w2 ⟨rfl, b2⟩; have hb2 := part_keep hb (undrew' b2); obtain ⟨k0, k1⟩ := part_cells hb2; have r2 := r1.keep (undrew' b2); have b3 := below_more b1 (by have := b1.size; omega) (undrew' b2))
      | (go_simp; go_at_call 44; (with_reducible refine (i2 _ r2).mono ?_); rintro e w3 ⟨rfl, b4⟩; have b5 := below_more b3 b3.size b4))
    all_goals
      clear i1 i2 r1 r2 hb hb2 k0 k1 a0 a1 b2 b3 b4
      go_wp2_with fail
      all_goals
        go_ret
        refine ⟨?_, b5⟩
        go_simp
        (try (first | (rw [IntKind.wrap_i64] <;> omega) | omega | (split <;> omega)))

theorem mulU_wt {L : List PartT} {k : Nat} (h : ¬ Bm L k) (z : Int) (u : Nat → Int) : (fun i => if i = k then u k * z else u i) = mulU L k z u := by
  funext i
  unfold mulU
  rw [lv_wt h]
  by_cases e : i = k
  · subst e; rw [if_pos rfl, if_pos (List.mem_singleton.2 rfl)]
  · rw [if_neg e, if_neg (fun g => e (List.mem_singleton.1 g))]
theorem mulU_bm {L : List PartT} (hL : MOk L) {k : Nat} (h : Bm L k) (z : Int) (u : Nat → Int) : mulU L (rc L k) z (mulU L (lc L k) z u) = mulU L k z u := by
  funext i
  unfold mulU
  rw [lv_bm h]
  by_cases a : i ∈ lv L (lc L k)
  · rw [if_neg (hL.lv_apart h a), if_pos a, if_pos (List.mem_append_left _ a)]
  · by_cases b : i ∈ lv L (rc L k)
    · rw [if_pos b, if_neg a, if_pos (List.mem_append_right _ b)]
    · rw [if_neg b, if_neg a, if_neg fun g => (List.mem_append.1 g).elim a b]
def Scaled (w0 : World) (v : Value) (M : List PartT) (R : List Rw) (e : Ending) (w' : World) : Prop := e = .returned (.tuple #[]) ∧ Own w0 w' (ptrow v M :: R)
/-- A part in a variable of the call's own. -/
def bxrow (p : Nat) (y : PartT) : Rw := ⟨33, 5, .slice (some ⟨p, 0, .none⟩) 1 1, 1, [.int .i64 y.left, .int .i64 y.right, .int .i64 y.armLeft, .int .i64 y.armRight, .int .i64 y.weight]⟩
abbrev bxobj (y : PartT) : Obj := .cells #[.int .i64 y.left, .int .i64 y.right, .int .i64 y.armLeft, .int .i64 y.armRight, .int .i64 y.weight] 33
theorem own_box {w wr : World} {R : List Rw} (h : Own w wr R) (y : PartT) : Own w (wr.alloc (bxobj y)) (bxrow wr.heap.size y :: R) :=
  h.add ((Below.refl _ _).alloc (Nat.le_refl _) _) ⟨rfl, .inr ⟨wr.heap.size, 1, _, rfl, Nat.le_refl _, heap_alloc_new wr _, Nat.le_refl _, by decide, rfl, rfl⟩⟩
theorem bx_cells {w wr : World} {p : Nat} {y : PartT} {R : List Rw} (h : Own w wr R) (hm : bxrow p y ∈ R) : wr.cell? ⟨p, 0, none⟩ = some (.int .i64 y.left) ∧ wr.cell? ⟨p, 1, none⟩ = some (.int .i64 y.right) ∧ wr.cell? ⟨p, 2, none⟩ = some (.int .i64 y.armLeft) ∧ wr.cell? ⟨p, 3, none⟩ = some (.int .i64 y.armRight) ∧ wr.cell? ⟨p, 4, none⟩ = some (.int .i64 y.weight) := by
  have o : wr.ownsRow w.heap.size 33 5 (.slice (some ⟨p, 0, .none⟩) 1 1) 1 [.int .i64 y.left, .int .i64 y.right, .int .i64 y.armLeft, .int .i64 y.armRight, .int .i64 y.weight] := h.own _ hm
  exact ⟨(o.cellAt 0 (by omega)).trans rfl, (o.cellAt 1 (by omega)).trans rfl, (o.cellAt 2 (by omega)).trans rfl, (o.cellAt 3 (by omega)).trans rfl, (o.cellAt 4 (by omega)).trans rfl⟩
set_option maxHeartbeats 4000000 in
theorem specScale {L : List PartT} (hL : MOk L) (w0 : World) (A : Option Addr) (n c : Nat) (z : Int) (hn : L.length = n) (hz : 0 ≤ z ∧ z ≤ 1000000000) :
    ∀ k, k < L.length → ∀ (u : Nat → Int) (R : List Rw) W, (∀ x ∈ lv L k, 0 ≤ u x ∧ u x ≤ 1000) → Own w0 W (ptrow (.slice A n c) (put L u) :: R) → Calls Try.prog 45 #[.slice A n c, .int .i64 (k : Nat), .int .i64 z] W (Scaled w0 (.slice A n c) (put L (mulU L k z u)) R) := by
  refine mob_ind (L := L) (p := fun k => k < L.length → ∀ (u : Nat → Int) (R : List Rw) W, (∀ x ∈ lv L k, 0 ≤ u x ∧ u x ≤ 1000) → Own w0 W (ptrow (.slice A n c) (put L u) :: R) → Calls Try.prog 45 #[.slice A n c, .int .i64 (k : Nat), .int .i64 z] W (Scaled w0 (.slice A n c) (put L (mulU L k z u)) R)) (fun k h hk u R W hu O => ?_) (fun k h i1 i2 hk u R W hu O => ?_)
  · obtain ⟨g, cc, hA⟩ := ptrow_form O (by rw [put_length]; omega)
    injection hA with hA hA1 hA2
    clear hA1 hA2
    subst hA
    have hl : (put L u).length = n := by rw [put_length]; exact hn
    have hkn : k < n := by omega
    obtain ⟨c0, c1, c2, c3, c4⟩ := ptrow_cell O hl hkn
    have q := hu k (by rw [lv_wt h]; exact List.mem_singleton.2 rfl)
    have O1 := (own_box O (ptget (put L u) k)).swap
    have k4 := (ptrow_cell O1 hl hkn).2.2.2.2
    have f4 := ptrow_free O1 hl (k * 5 + 4)
    have x0 := bx_cells O1 (p := W.heap.size) (List.mem_cons_of_mem _ List.mem_cons_self)
    have O2 := (ptrow_st4 O1 hl hkn (u k * z)).swap.tl
    rw [put_set hk h, mulU_wt h z u] at O2
    have e1 : (ptget (put L u) k).left = -1 := by
      rw [(put_left hk).1]
      exact Decidable.byContradiction fun g => h (hL.bm hk g).1
    have e2 : (ptget (put L u) k).weight = u k := by rw [put_wt hk h]
    have p1 := Int.mul_le_mul q.2 hz.2 hz.1 (by omega)
    have p0 := Int.mul_nonneg q.1 hz.1
    generalize ptget (put L u) k = y at c0 c1 c2 c3 c4 e1 e2 O2 k4 f4 x0
    obtain ⟨yl, yr, ya, yb, yw⟩ := y
    dsimp only at c0 c1 c2 c3 c4 e1 e2 O2 k4 f4 x0
    subst e1 e2
    obtain ⟨t, ht⟩ : ∃ t, u k = t := ⟨_, rfl⟩
    obtain ⟨tz, htz⟩ : ∃ tz, t * z = tz := ⟨_, rfl⟩
    rw [ht] at c4 O2 k4 f4 x0 p0 p1
    rw [htz] at O2 p0 p1
    obtain ⟨x0, x1, x2, x3, x4⟩ := x0
    clear h hk hL hu hn O O1 hl q hz ht
    go_enter Try.func45, Try.ntmps45
    go_wp2_with fail
    go_end0
    exact ⟨rfl, O2⟩
  · obtain ⟨g, cc, hA⟩ := ptrow_form O (by rw [put_length]; omega)
    injection hA with hA hA1 hA2
    clear hA1 hA2
    subst hA
    have hl : (put L u).length = n := by rw [put_length]; exact hn
    have hkn : k < n := by omega
    obtain ⟨c0, c1, c2, c3, c4⟩ := ptrow_cell O hl hkn
    have q := hL.bm hk h.1
    have b := h.2
    have e1 : (ptget (put L u) k).left = lc L k := by rw [put_bm hk h]; exact q.2.1
    have e2 : (ptget (put L u) k).right = rc L k := by rw [put_bm hk h]; exact q.2.2.1
    have e3 : ¬ ((lc L k : Nat) : Int) = -1 := by omega
    have j1 := fun R W (OW : Own w0 W (ptrow (.slice (some ⟨g, 0, none⟩) n c) (put L u) :: R)) => i1 (by omega) u R W (fun x hx => hu x (by rw [lv_bm h]; exact List.mem_append_left _ hx)) OW
    have j2 := fun R W (OW : Own w0 W (ptrow (.slice (some ⟨g, 0, none⟩) n c) (put L (mulU L (lc L k) z u)) :: R)) => i2 (by omega) (mulU L (lc L k) z u) R W (fun x hx => by
      have := hu x (by rw [lv_bm h]; exact List.mem_append_right _ hx)
      unfold mulU
      rw [if_neg fun g => hL.lv_apart h g hx]
      exact this) OW
    rw [mulU_bm hL h z u] at j2
    have O1 := (own_box O (ptget (put L u) k)).swap
    generalize put L (mulU L (lc L k) z u) = M1 at j1 j2
    generalize put L (mulU L k z u) = M2 at j2 ⊢
    generalize lc L k = p1 at e1 e3 j1
    generalize rc L k = p2 at e2 j2
    generalize put L u = M0 at c0 c1 c2 c3 c4 e1 e2 j1 O1
    generalize ptget M0 k = y at c0 c1 c2 c3 c4 e1 e2 O1
    obtain ⟨yl, yr, ya, yb, yw⟩ := y
    dsimp only at c0 c1 c2 c3 c4 e1 e2
    subst e1 e2
    clear i1 i2 h hk hL hu hn O hl q b
    go_enter Try.func45, Try.ntmps45
    go_upto_region 1 with fail
    generalize W.heap.size = p at O1 ⊢
    replace O1 : Own w0 (W.alloc (.cells #[.int .i64 (p1 : Nat), .int .i64 (p2 : Nat), .int .i64 ya, .int .i64 yb, .int .i64 yw] 33)) (ptrow (.slice (some ⟨g, 0, none⟩) n c) M0 :: bxrow p ⟨p1, p2, ya, yb, yw⟩ :: R) := O1
    generalize W.alloc (.cells #[.int .i64 (p1 : Nat), .int .i64 (p2 : Nat), .int .i64 ya, .int .i64 yb, .int .i64 yw] 33) = W1 at O1 ⊢
    obtain ⟨x0, x1, x2, x3, x4⟩ := bx_cells O1 (p := p) (List.mem_cons_of_mem _ List.mem_cons_self)
    clear c0 c1 c2 c3 c4
    go_wp2_with fail
    (with_reducible refine (j1 _ _ O1).mono ?_)
    rintro e w2 ⟨rfl, O2⟩
    clear x0 x1 x2 x3 x4 O1 j1
    obtain ⟨x0, x1, x2, x3, x4⟩ := bx_cells O2 (p := p) (List.mem_cons_of_mem _ List.mem_cons_self)
    go_wp2_with fail
    (with_reducible refine (j2 _ _ O2).mono ?_)
    rintro e w3 ⟨rfl, O3⟩
    clear x0 x1 x2 x3 x4 O2 j2
    replace O3 := O3.swap.tl
    go_wp2_with fail
    go_end0
    exact ⟨rfl, O3⟩
end Go.Proofs.Ythefcbninpkncaa
