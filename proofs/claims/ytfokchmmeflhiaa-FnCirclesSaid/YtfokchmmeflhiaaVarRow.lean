/-
  Variables of the call's own that hold a slice, each in a block of its own; slices that were just built of given ints. No program's walk.
-/
import Derived.Test.YtfokchmmeflhiaaOwn
namespace Go.Proofs.Ytfokchmmeflhiaa
open Go.ChangeShapes Go.WideShapes Go.ChangeAt Go.RowKit Go.PlainAid

/-- A variable that holds a slice. -/
def vrow (g : Nat) (v : Value) : Rw := ⟨24, 1, .slice (some ⟨g, 0, .none⟩) 1 1, 1, [v]⟩
theorem ownsRow_whole {w : World} {base n : Nat} {e : TypeId} {cur : Array Value} (hb : base ≤ w.heap.size) (hn : cur.size = n) (hm : n ≤ maxLen) : (w.alloc (.cells cur e)).ownsRow base e 1 (.slice (some ⟨w.heap.size, 0, .none⟩) n n) n cur.toList :=
  ⟨by simpa using hn, .inr ⟨w.heap.size, n, cur, rfl, hb, heap_alloc_new w _, Nat.le_refl _, hm, by omega, by rw [Nat.mul_one, ← hn, ← Array.length_toList, List.take_length]⟩⟩
theorem Own.vcell {w wr : World} {g : Nat} {v : Value} {R : List Rw} (h : Own w wr R) (hm : vrow g v ∈ R) : wr.cell? ⟨g, 0, .none⟩ = some v := by
  have o : wr.ownsRow w.heap.size 24 1 (.slice (some ⟨g, 0, .none⟩) 1 1) 1 [v] := h.own _ hm
  exact (o.cellAt 0 (by decide)).trans rfl
theorem Own.vstore {w wr : World} {g : Nat} {v : Value} {R : List Rw} (h : Own w wr (vrow g v :: R)) (u : Value) :
    wr.cell? ⟨g, 0, .none⟩ = some v ∧ wr.frozen? ⟨g, 0, .none⟩ = false ∧ Own w (wr.setCell ⟨g, 0, .none⟩ u) (vrow g u :: R) := by
  have o : wr.ownsRow w.heap.size 24 1 (.slice (some ⟨g, 0, .none⟩) 1 1) 1 [v] := h.hd
  obtain ⟨s1, s2⟩ := o.stored 0 u
  exact ⟨h.vcell List.mem_cons_self, o.frozenAt 0, h.head (r' := vrow g u) (grown_setCell (World.grownBy.refl wr _) 0 _) s1 (.inl rfl)⟩
theorem Own.var {w wr : World} {R : List Rw} (h : Own w wr R) (v : Value) : Own w (wr.alloc (.cells #[v] 24)) (vrow wr.heap.size v :: R) :=
  h.add ((Below.refl _ _).alloc (Nat.le_refl _) _) (ownsRow_whole (Nat.le_refl _) rfl (by decide))
theorem Own.lit {w wr : World} {R : List Rw} (h : Own w wr R) (L : List Int) (n : Nat) (hn : L.length = n) (hm : n ≤ 1000) : Own w (wr.alloc (.cells (ints L).toArray 3)) (irow (.slice (some ⟨wr.heap.size, 0, .none⟩) n n) L :: R) := by
  subst hn
  refine h.add ((Below.refl _ _).alloc (Nat.le_refl _) _) ?_
  have := ownsRow_whole (w := wr) (base := wr.heap.size) (n := L.length) (e := 3) (cur := (ints L).toArray) (Nat.le_refl _) (by simp [ints_length]) (by unfold maxLen; omega)
  simpa using this
end Go.Proofs.Ytfokchmmeflhiaa
