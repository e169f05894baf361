/-
  Slices of bools of the call's own, as tables of a function; what a slice of bools reads as. No program's walk.
-/
import Derived.Test.YtmbhldpbgcfnmaaOwnMore
import Derived.Test.YtmbhldpbgcfnmaaUpd
namespace Go.Proofs.Ytmbhldpbgcfnmaa
open Go.ChangeShapes Go.WideShapes Go.ChangeAt Go.RowKit Go.PlainAid

theorem Try.infoBoolT : (Try.prog.info? 4).map (fun i => (i.zero, i.size, i.bytes)) = some (some (.bool false), 1, 1) := by kernel_rfl
/-- The values of f below n as cells. -/
def bools (n : Nat) (f : Nat → Bool) : List Value := (List.range n).map fun j => Value.bool (f j)
theorem bools_length (n : Nat) (f : Nat → Bool) : (bools n f).length = n := by simp [bools]
theorem bools_get {n j : Nat} {f : Nat → Bool} (h : j < n) : (bools n f)[j]? = some (.bool (f j)) := by
  unfold bools
  rw [List.getElem?_map, List.getElem?_range h]; rfl
theorem bools_el {n i : Nat} {f : Nat → Bool} (h : i < (bools n f).length) : (bools n f)[i] = .bool (f i) := by simp [bools]
theorem bools_set {n j : Nat} {f : Nat → Bool} {z : Bool} : (bools n f).set j (.bool z) = bools n (upd f j z) := by
  refine List.ext_getElem (by rw [List.length_set, bools_length, bools_length]) fun i h1 h2 => ?_
  rw [List.getElem_set, bools_el, bools_el]
  unfold upd
  by_cases e : i = j
  · subst e; rw [if_pos rfl, if_pos rfl]
  · rw [if_neg (fun g => e g.symm), if_neg e]
theorem bools_congr {n : Nat} {f g : Nat → Bool} (h : ∀ j, j < n → f j = g j) : bools n f = bools n g := by
  unfold bools
  refine List.map_congr_left fun j hj => ?_
  rw [h j (List.mem_range.1 hj)]
theorem bools_none (n : Nat) : bools n (fun _ => false) = List.replicate n (.bool false) := by
  unfold bools
  rw [List.map_const', List.length_range]
/-- A row of bools. -/
def brow (v : Value) (n : Nat) (f : Nat → Bool) : Rw := ⟨4, 1, v, n, bools n f⟩
/-- A row of falses was made. -/
theorem Own.bmade {w wr w0 : World} {n : Nat} {R : List Rw} (h : Own w wr R) (o : w0.ownsRow wr.heap.size 4 1 (.slice (some ⟨wr.heap.size, 0, .none⟩) n n) n (madeCells (Value.bool false).cells (n * 1)).toList) (g : wr.grownBy w0 .none) :
    Own w w0 (brow (.slice (some ⟨wr.heap.size, 0, .none⟩) n n) n (fun _ => false) :: R) := by
  have e : (madeCells (Value.bool false).cells (n * 1)).toList = bools n (fun _ => false) := by
    show (madeCells #[Value.bool false] (n * 1)).toList = _
    rw [toList_madeCells_one, Nat.mul_one, bools_none]
  rw [e] at o
  have b : Below wr.heap.size wr w0 := (Below.refl _ _).grown g (Nat.le_refl _) (fun k e => by cases e)
  exact h.add b o
theorem Own.bcell {w wr : World} {g c n j : Nat} {f : Nat → Bool} {R : List Rw} (h : Own w wr (brow (.slice (some ⟨g, 0, .none⟩) n c) n f :: R)) (hj : j < n) : wr.cell? ⟨g, j, .none⟩ = some (.bool (f j)) := by
  have o : wr.ownsRow w.heap.size 4 1 (.slice (some ⟨g, 0, .none⟩) n c) n (bools n f) := h.hd
  exact (o.cellAt j (by omega)).trans (bools_get hj)
theorem Own.bstore {w wr : World} {g c n j : Nat} {f : Nat → Bool} {R : List Rw} (h : Own w wr (brow (.slice (some ⟨g, 0, .none⟩) n c) n f :: R)) (hj : j < n) (z : Bool) :
    (∃ u, wr.cell? ⟨g, j, .none⟩ = some u) ∧ wr.frozen? ⟨g, j, .none⟩ = false ∧ Own w (wr.setCell ⟨g, j, .none⟩ (.bool z)) (brow (.slice (some ⟨g, 0, .none⟩) n c) n (upd f j z) :: R) := by
  have o : wr.ownsRow w.heap.size 4 1 (.slice (some ⟨g, 0, .none⟩) n c) n (bools n f) := h.hd
  obtain ⟨s1, s2⟩ := o.stored j (.bool z)
  rw [bools_set] at s1
  exact ⟨⟨_, (o.cellAt j (by omega)).trans (bools_get hj)⟩, o.frozenAt j, h.head (r' := brow (.slice (some ⟨g, 0, .none⟩) n c) n (upd f j z)) (grown_setCell (World.grownBy.refl wr _) j _) s1 (.inl rfl)⟩
theorem Own.bturn {w wr : World} {v : Value} {n : Nat} {f f' : Nat → Bool} {R : List Rw} (h : Own w wr (brow v n f :: R)) (e : ∀ j, j < n → f j = f' j) : Own w wr (brow v n f' :: R) := by
  have e2 : brow v n f = brow v n f' := by unfold brow; rw [bools_congr e]
  exact e2 ▸ h
/-- The slice of n bools in block g reads as f. -/
def BRow (w : World) (g n : Nat) (f : Nat → Bool) : Prop := ∀ j, j < n → g < w.heap.size ∧ w.cell? ⟨g, j, .none⟩ = some (.bool (f j))
theorem BRow.keep {w w' : World} {g n : Nat} {f : Nat → Bool} (h : BRow w g n f) (b : Below w.heap.size w w') : BRow w' g n f := fun j hj => by
  obtain ⟨h1, h2⟩ := h j hj
  exact ⟨Nat.lt_of_lt_of_le h1 b.size, (b.cell h1).trans h2⟩
/-- A table of n bools is answered, in new memory. -/
def Tabled (n : Nat) (f : Nat → Bool) (w : World) (e : Ending) (w' : World) : Prop :=
  ∃ g c, e = .returned (.slice (some ⟨g, 0, .none⟩) n c) ∧ n ≤ c ∧ BRow w' g n f ∧ Below w.heap.size w w'
theorem Own.tabled {w wr : World} {g c n : Nat} {f : Nat → Bool} {R : List Rw} (h : Own w wr (brow (.slice (some ⟨g, 0, .none⟩) n c) n f :: R)) (hc : n ≤ c) : Tabled n f w (.returned (.slice (some ⟨g, 0, .none⟩) n c)) wr :=
  ⟨g, c, rfl, hc, fun _ hj => ⟨lt_of_cell (h.bcell hj), h.bcell hj⟩, h.bel⟩
end Go.Proofs.Ytmbhldpbgcfnmaa
