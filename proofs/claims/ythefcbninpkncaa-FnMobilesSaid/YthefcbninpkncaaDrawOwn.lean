/-
  Rows of the call's own while numbers are drawn: the cursor stands; beside it and the rows only new memory. Rows of any type.
-/
import Derived.Test.YthefcbninpkncaaBelow
import Derived.Test.YthefcbninpkncaaOwnMore
namespace Go.Proofs.Ythefcbninpkncaa
open Go.ChangeShapes Go.WideShapes Go.ChangeAt Go.RowKit Go.PlainAid

/-- The world's first B blocks alone. -/
theorem below_cut (w : World) {B : Nat} (hB : B ≤ w.heap.size) : ∃ w0 : World, w0.heap.size = B ∧ Below B w0 w := by
  refine ⟨{ w with heap := w.heap.extract 0 B }, ?_, rfl, rfl, rfl, ?_, fun k hk => ?_⟩
  · show (w.heap.extract 0 B).size = B
    rw [Array.size_extract]; omega
  · show (w.heap.extract 0 B).size ≤ w.heap.size
    rw [Array.size_extract]; omega
  · show w.heap[k]? = (w.heap.extract 0 B)[k]?
    rw [Array.getElem?_extract, if_pos (by omega), Nat.zero_add]
/-- Rows of the call's own (with the base w0, as large as w), the cursor below them. -/
structure DSt (w : World) (p : Nat) (a : Option Addr) (len cap : Nat) (w0 wr : World) (R : List Rw) : Prop where
  lt : p < w.heap.size
  size : w0.heap.size = w.heap.size
  grown : w.grownBy w0 (some p)
  cur : Cur w0 p a len cap
  own : Own w0 wr R
section
variable {w w0 wr w1 : World} {p len cap : Nat} {a : Option Addr} {R R' : List Rw}
theorem DSt.start (C : Cur w p a len cap) : DSt w p a len cap w w [] := ⟨C.lt, rfl, World.grownBy.refl w _, C, Own.none w⟩
theorem DSt.put (h : DSt w p a len cap w0 wr R) (o : Own w0 w1 R') : DSt w p a len cap w0 w1 R' := ⟨h.lt, h.size, h.grown, h.cur, o⟩
theorem DSt.now (h : DSt w p a len cap w0 wr R) : Cur wr p a len cap := h.cur.below h.own.bel (by rw [h.size]; exact h.lt)
theorem DSt.all (h : DSt w p a len cap w0 wr R) : w.grownBy wr (some p) := grown_trans h.grown (below_grown h.own.bel _)
/-- A number is drawn. -/
theorem DSt.drawn (h : DSt w p a len cap w0 wr R) (C : Cur w1 p a len cap) (g : wr.grownBy w1 (some p)) : ∃ w0', DSt w p a len cap w0' w1 R := by
  have a1 := h.all
  have hs := h.own.bel.size
  have h2 := h.size
  have h3 := h.lt
  obtain ⟨w2, e, b⟩ := below_cut w1 (B := w.heap.size) (Nat.le_trans a1.size g.size)
  have a2 := grown_trans a1 g
  refine ⟨w2, h3, e, ⟨?_, ?_, ?_, by omega, fun k hk ne => ?_⟩, ?_, fun r hr => ?_, h.own.ne, by rw [e]; exact b⟩
  · rw [← a2.os, b.os]
  · rw [← a2.tape, b.tape]
  · rw [← a2.output, b.output]
  · rw [← b.block k hk]; exact a2.block k hk ne
  · obtain ⟨i, k, hi, hb⟩ := C.blk
    exact ⟨C.hl, ⟨i, k, hi, (b.block p h3).symm.trans hb⟩, C.row.keep fun k hk => (b.block k (by omega)).symm⟩
  · have o := h.own.own r hr
    unfold Rw.at at o ⊢
    rw [e, ← h2]
    refine o.kept g ?_
    rcases q : r.v.ownBlock with _ | k
    · exact .inl rfl
    · refine .inr fun e2 => ?_
      injection e2 with e2
      have := (o.lt k q).1
      omega
end
end Go.Proofs.Ythefcbninpkncaa
