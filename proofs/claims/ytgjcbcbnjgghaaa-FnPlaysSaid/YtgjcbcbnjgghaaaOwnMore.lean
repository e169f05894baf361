/-
  Rows of the call's own: a store into the first one; a row that was just made; a row that an append to an empty one made. No program's walk.
-/
import Derived.Test.YtgjcbcbnjgghaaaOwn
namespace Go.Proofs.Ytgjcbcbnjgghaaa
open Go.ChangeShapes Go.WideShapes Go.ChangeAt Go.RowKit Go.PlainAid

theorem own_form {w wr : World} {v : Value} {L : List Int} {R : List Rw} (h : Own w wr (irow v L :: R)) (h0 : 0 < L.length) : ∃ g c, v = .slice (some ⟨g, 0, .none⟩) L.length c := by
  obtain ⟨g, cap, hv, -, -⟩ := h.hd.form h0
  exact ⟨g, cap, hv⟩
/-- An int is stored into the first row. -/
theorem Own.store {w wr : World} {g c n j : Nat} {L : List Int} {R : List Rw} (h : Own w wr (irow (.slice (some ⟨g, 0, .none⟩) n c) L :: R)) (hn : L.length = n) (hj : j < n) (z : Int) :
    (∃ u, wr.cell? ⟨g, j, .none⟩ = some u) ∧ wr.frozen? ⟨g, j, .none⟩ = false ∧ Own w (wr.setCell ⟨g, j, .none⟩ (.int .i64 z)) (irow (.slice (some ⟨g, 0, .none⟩) n c) (L.set j z) :: R) := by
  subst hn
  have o : wr.ownsRow w.heap.size 3 1 (.slice (some ⟨g, 0, .none⟩) L.length c) L.length (ints L) := h.hd
  obtain ⟨s1, s2⟩ := o.stored j (.int .i64 z)
  have e : (ints L).set j (.int .i64 z) = ints (L.set j z) := by unfold ints; rw [List.map_set]
  rw [e] at s1
  refine ⟨⟨_, (o.cellAt j (by omega)).trans (ints_get hj)⟩, o.frozenAt j, h.over (M := L.set j z) (by rw [List.length_set]) s1 ?_⟩
  exact grown_setCell (World.grownBy.refl wr _) j _
/-- What is in the first row. -/
theorem Own.cell {w wr : World} {g c n j : Nat} {L : List Int} {R : List Rw} (h : Own w wr (irow (.slice (some ⟨g, 0, .none⟩) n c) L :: R)) (hn : L.length = n) (hj : j < n) : wr.cell? ⟨g, j, .none⟩ = some (.int .i64 (L.getD j 0)) := by
  subst hn
  have o : wr.ownsRow w.heap.size 3 1 (.slice (some ⟨g, 0, .none⟩) L.length c) L.length (ints L) := h.hd
  exact (o.cellAt j (by omega)).trans (ints_get hj)
/-- A row of zeros was made. -/
theorem Own.made {w wr w0 : World} {n : Nat} {R : List Rw} (h : Own w wr R) (o : w0.ownsRow wr.heap.size 3 1 (.slice (some ⟨wr.heap.size, 0, .none⟩) n n) n (madeCells (Value.int .i64 0).cells (n * 1)).toList) (g : wr.grownBy w0 .none) :
    Own w w0 (irow (.slice (some ⟨wr.heap.size, 0, .none⟩) n n) (List.replicate n 0) :: R) := by
  have e : (madeCells (Value.int .i64 0).cells (n * 1)).toList = ints (List.replicate n 0) := by
    show (madeCells #[Value.int .i64 0] (n * 1)).toList = _
    rw [toList_madeCells_one, Nat.mul_one]
    unfold ints
    rw [List.map_replicate]
  rw [e] at o
  have b : Below wr.heap.size wr w0 := (Below.refl _ _).grown g (Nat.le_refl _) (fun k e => by cases e)
  have k := h.add b o
  unfold irow
  rw [List.length_replicate]
  exact k
/-- Ints were appended to an empty row that was just built. -/
theorem Own.spread {w wr w1 : World} {v : Value} {L : List Int} {n : Nat} {R : List Rw} (h : Own w wr R) (hn : L.length = n)
    (o : w1.ownsRow wr.heap.size 3 1 v (0 + n) ([] ++ ints L)) (g : (wr.alloc (.cells #[] 3)).grownBy w1 (some wr.heap.size)) : Own w w1 (irow v L :: R) := by
  have b : Below wr.heap.size wr w1 := ((Below.refl wr.heap.size wr).alloc (Nat.le_refl _) _).grown g (by simp) (fun k e => by injection e with e; omega)
  rw [List.nil_append, Nat.zero_add] at o
  subst hn
  exact h.add b o
theorem Own.news {w wr : World} {g c n : Nat} {L : List Int} {R : List Rw} (h : Own w wr (irow (.slice (some ⟨g, 0, .none⟩) n c) L :: R)) (hn : L.length = n) (o : Obj) :
    ∀ j u, (ints L)[j]? = some u → (wr.alloc o).cell? ((⟨g, 0, .none⟩ : Addr).add j) = some u := fun j u hu => by
  have hj : j < L.length := by
    rcases Nat.lt_or_ge j L.length with h1 | h1
    · exact h1
    · rw [List.getElem?_eq_none (by rw [ints_length]; exact h1)] at hu; cases hu
  rw [ints_get hj] at hu
  injection hu with hu
  subst hu
  have e : (⟨g, 0, .none⟩ : Addr).add j = ⟨g, j, .none⟩ := by unfold Addr.add; split <;> simp_all
  have hc := h.cell hn (by omega : j < n)
  rw [e, World.cell?_alloc_lt _ _ _ (lt_of_cell hc)]
  exact hc
theorem ints_one (L : List Int) : ∀ u ∈ ints L, u.oneCell' = true := fun u hu => by
  obtain ⟨z, -, rfl⟩ := List.mem_map.1 hu
  rfl
end Go.Proofs.Ytgjcbcbnjgghaaa
