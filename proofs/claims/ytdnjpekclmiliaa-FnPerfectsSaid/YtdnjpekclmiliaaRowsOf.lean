/-
  Slices of slices of ints: what they read as; those of the call's own, every row in a block of its own. No program's walk.
-/
import Derived.Test.YtdnjpekclmiliaaOwnMore
import Derived.Test.YtdnjpekclmiliaaIntMarks
import Derived.Test.YtdnjpekclmiliaaSays
namespace Go.Proofs.Ytdnjpekclmiliaa
open Go.ChangeShapes Go.WideShapes Go.ChangeAt Go.RowKit Go.PlainAid

/-- A row of slices: the cells are the slices' values. -/
def orow (v : Value) (vs : List Value) : Rw := ⟨27, 1, v, vs.length, vs⟩
/-- The rows behind these slices. -/
def inner (vs : List Value) (LL : List (List Int)) : List Rw := List.zipWith irow vs LL
theorem inner_append {vs us : List Value} {LL MM : List (List Int)} (h : vs.length = LL.length) : inner (vs ++ us) (LL ++ MM) = inner vs LL ++ inner us MM := List.zipWith_append h
theorem inner_mem {vs : List Value} {LL : List (List Int)} {i : Nat} (h : vs.length = LL.length) (hi : i < LL.length) : irow (vs[i]'(by omega)) LL[i] ∈ inner vs LL := by
  have hl : i < (inner vs LL).length := by unfold inner; rw [List.length_zipWith]; omega
  have e : (inner vs LL)[i] = irow (vs[i]'(by omega)) LL[i] := by simp [inner]
  rw [← e]
  exact List.getElem_mem hl

/-- The slice reads as these rows of ints. -/
def SSRow (w : World) (A : Option Addr) (LL : List (List Int)) : Prop :=
  ∀ i, i < LL.length → ∃ x B c, A = some x ∧ x.block < w.heap.size ∧ w.cell? (x.add i) = some (.slice B (LL.getD i []).length c) ∧ IntRow w B (LL.getD i [])
theorem SSRow.keep {w w' : World} {A : Option Addr} {LL : List (List Int)} (h : SSRow w A LL) (b : Below w.heap.size w w') : SSRow w' A LL := fun i hi => by
  obtain ⟨x, B, c, hA, hx, hc, r⟩ := h i hi
  exact ⟨x, B, c, hA, Nat.lt_of_lt_of_le hx b.size, (b.cell (by rw [addr_add_block]; exact hx)).trans hc, r.keep b⟩
theorem getD_nil {LL : List (List Int)} {i : Nat} (hi : i < LL.length) : LL.getD i [] = LL[i] := by
  rw [List.getD_eq_getElem?_getD, List.getElem?_eq_getElem hi]; rfl
/-- What a slice of the call's own reads as. -/
theorem Own.rows {w wr : World} {A : Option Addr} {n c : Nat} {vs : List Value} {LL : List (List Int)} {R : List Rw} (h : Own w wr R) (ho : orow (.slice A n c) vs ∈ R) (hi : ∀ p ∈ inner vs LL, p ∈ R) (hl : vs.length = LL.length) (hn : n = LL.length) : SSRow wr A LL := fun i hlt => by
  have o : wr.ownsRow w.heap.size 27 1 (.slice A n c) vs.length vs := h.own _ ho
  have m := inner_mem hl hlt
  have p : wr.ownsRow w.heap.size 3 1 (vs[i]'(by omega)) LL[i].length (ints LL[i]) := h.own _ (hi _ m)
  obtain ⟨B, d, hv⟩ := own_slice p
  obtain ⟨g, cap, hs, -, hg⟩ := o.form (by omega)
  have hA : A = some ⟨g, 0, .none⟩ := by injection hs
  subst hA
  rw [getD_nil hlt]
  refine ⟨_, B, d, rfl, hg, ?_, ?_⟩
  · have hc := o.cells (g := g) rfl i (vs[i]'(by omega)) (List.getElem?_eq_getElem (by omega))
    rw [hv] at hc
    exact hc
  · rw [hv] at p
    exact intRow_own p

/-- Slices of ints of the call's own are answered. -/
def OwnSS (w wr : World) (v : Value) (LL : List (List Int)) (R : List Rw) : Prop := ∃ vs, vs.length = LL.length ∧ Own w wr (orow v vs :: (inner vs LL ++ R))
def GivesSS (LL : List (List Int)) (w : World) (e : Ending) (w' : World) : Prop := ∃ (x : Option Addr) (c : Nat), e = .returned (.slice x LL.length c) ∧ OwnSS w w' (.slice x LL.length c) LL []
theorem OwnSS.bel {w wr : World} {v : Value} {LL : List (List Int)} {R : List Rw} (h : OwnSS w wr v LL R) : Below w.heap.size w wr := by
  obtain ⟨vs, -, O⟩ := h
  exact O.bel
theorem OwnSS.keep {w wr w1 : World} {v : Value} {LL : List (List Int)} {R : List Rw} (h : OwnSS w wr v LL R) (b : Below wr.heap.size wr w1) : OwnSS w w1 v LL R := by
  obtain ⟨vs, hl, O⟩ := h
  exact ⟨vs, hl, O.keep b⟩
theorem OwnSS.reads {w wr : World} {A : Option Addr} {n c : Nat} {LL : List (List Int)} {R : List Rw} (h : OwnSS w wr (.slice A n c) LL R) (hn : n = LL.length) : SSRow wr A LL := by
  obtain ⟨vs, hl, O⟩ := h
  exact O.rows List.mem_cons_self (fun p hp => List.mem_cons_of_mem _ (List.mem_append_left _ hp)) hl hn
theorem OwnSS.slice {w wr : World} {v : Value} {LL : List (List Int)} {R : List Rw} (h : OwnSS w wr v LL R) : ∃ A c, v = .slice A LL.length c := by
  obtain ⟨vs, hl, O⟩ := h
  have := own_slice O.hd
  rw [← hl]
  exact this
theorem OwnSS.gives {w wr : World} {v : Value} {LL : List (List Int)} (h : OwnSS w wr v LL []) : GivesSS LL w (.returned v) wr := by
  obtain ⟨A, c, rfl⟩ := h.slice
  exact ⟨A, c, rfl, h⟩

/-! ### Marks -/
def sizeSS : List (List Int) → Nat
  | [] => 0
  | L :: r => L.length + sizeSS r
def marksSS (s : Int) : List (List Int) → List (List Int)
  | [] => []
  | L :: r => iallMarks s L.length :: marksSS (s + L.length) r
theorem marksSS_length : ∀ (s : Int) (LL : List (List Int)), (marksSS s LL).length = LL.length
  | _, [] => rfl
  | s, L :: r => by rw [marksSS, List.length_cons, List.length_cons, marksSS_length]
theorem sizeSS_append : ∀ (P Q : List (List Int)), sizeSS (P ++ Q) = sizeSS P + sizeSS Q
  | [], Q => by simp [sizeSS]
  | L :: r, Q => by
    have ih := sizeSS_append r Q
    show L.length + sizeSS (r ++ Q) = L.length + sizeSS r + sizeSS Q
    omega
theorem marksSS_append : ∀ (s : Int) (P Q : List (List Int)), marksSS s (P ++ Q) = marksSS s P ++ marksSS (s + sizeSS P) Q
  | s, [], Q => by simp [marksSS, sizeSS]
  | s, L :: r, Q => by
    have ih := marksSS_append (s + L.length) r Q
    show iallMarks s L.length :: marksSS (s + L.length) (r ++ Q) = iallMarks s L.length :: (marksSS (s + L.length) r ++ marksSS (s + ((L.length + sizeSS r : Nat) : Int)) Q)
    rw [ih]
    have e : s + (L.length : Int) + (sizeSS r : Int) = s + ((L.length + sizeSS r : Nat) : Int) := by omega
    rw [e]
theorem take_get {LL : List (List Int)} {k : Nat} (h : k < LL.length) : LL.take (k + 1) = LL.take k ++ [LL.getD k []] := by
  rw [List.take_succ_eq_append_getElem h, getD_nil h]
theorem sizeSS_take {LL : List (List Int)} {k : Nat} (h : k < LL.length) : sizeSS (LL.take (k + 1)) = sizeSS (LL.take k) + (LL.getD k []).length := by
  rw [take_get h, sizeSS_append]
  simp [sizeSS]
theorem sizeSS_take_le (LL : List (List Int)) (k : Nat) : sizeSS (LL.take k) ≤ sizeSS LL := by
  have := sizeSS_append (LL.take k) (LL.drop k)
  rw [List.take_append_drop] at this
  omega
theorem marksSS_get {s : Int} {LL : List (List Int)} {k : Nat} (h : k < LL.length) : (marksSS s LL).getD k [] = iallMarks (s + sizeSS (LL.take k)) (LL.getD k []).length := by
  have e : LL = LL.take k ++ LL.getD k [] :: LL.drop (k + 1) := by
    rw [getD_nil h, ← List.drop_eq_getElem_cons h, List.take_append_drop]
  have e2 : marksSS s LL = marksSS s (LL.take k) ++ marksSS (s + sizeSS (LL.take k)) (LL.getD k [] :: LL.drop (k + 1)) := by
    rw [← marksSS_append, ← e]
  rw [e2, List.getD_eq_getElem?_getD, List.getElem?_append_right (by rw [marksSS_length, List.length_take]; omega), marksSS_length, List.length_take, Nat.min_eq_left (by omega), Nat.sub_self]
  rfl
/-- The first k rows are marked. -/
def markedTo (s : Int) (LL : List (List Int)) (k : Nat) : List (List Int) := marksSS s (LL.take k) ++ LL.drop k
theorem markedTo_length {s : Int} {LL : List (List Int)} {k : Nat} (h : k ≤ LL.length) : (markedTo s LL k).length = LL.length := by
  unfold markedTo
  rw [List.length_append, marksSS_length, List.length_take, List.length_drop]; omega
theorem markedTo_all (s : Int) (LL : List (List Int)) : markedTo s LL LL.length = marksSS s LL := by
  unfold markedTo
  rw [List.take_length, List.drop_length, List.append_nil]
/-- One row more is marked. -/
theorem OwnSS.mark {w wr w1 : World} {v : Value} {s : Int} {LL : List (List Int)} {R : List Rw} {k : Nat} (hk : k < LL.length) (h : OwnSS w wr v (markedTo s LL k) R) :
    ∃ A c, wr.ownsRow w.heap.size 3 1 (.slice A (LL.getD k []).length c) (LL.getD k []).length (ints (LL.getD k [])) ∧
      (∀ {g : Nat} {d : Nat}, v = .slice (some ⟨g, 0, .none⟩) LL.length d → wr.cell? ⟨g, k, .none⟩ = some (.slice A (LL.getD k []).length c)) ∧
      (w1.ownsRow w.heap.size 3 1 (.slice A (LL.getD k []).length c) (LL.getD k []).length (ints (iallMarks (s + sizeSS (LL.take k)) (LL.getD k []).length)) → wr.grownBy w1 (Value.ownBlock (.slice A (LL.getD k []).length c)) → OwnSS w w1 v (markedTo s LL (k + 1)) R) := by
  obtain ⟨vs, hl, O⟩ := h
  rw [markedTo_length (by omega)] at hl
  have e : markedTo s LL k = marksSS s (LL.take k) ++ LL.getD k [] :: LL.drop (k + 1) := by
    unfold markedTo
    rw [getD_nil hk, ← List.drop_eq_getElem_cons hk]
  have e2 : markedTo s LL (k + 1) = marksSS s (LL.take k) ++ iallMarks (s + sizeSS (LL.take k)) (LL.getD k []).length :: LL.drop (k + 1) := by
    unfold markedTo
    rw [take_get hk, marksSS_append, List.append_assoc]
    rfl
  have ev : vs = vs.take k ++ (vs[k]'(by omega)) :: vs.drop (k + 1) := by rw [← List.drop_eq_getElem_cons (by omega), List.take_append_drop]
  have hp : (vs.take k).length = (marksSS s (LL.take k)).length := by rw [marksSS_length, List.length_take, List.length_take]; omega
  have split : ∀ L : List Int, inner vs (marksSS s (LL.take k) ++ L :: LL.drop (k + 1)) = inner (vs.take k) (marksSS s (LL.take k)) ++ irow (vs[k]'(by omega)) L :: inner (vs.drop (k + 1)) (LL.drop (k + 1)) := fun L => by
    conv => lhs; rw [ev]
    rw [inner_append hp]
    rfl
  rw [e, split] at O
  generalize inner (vs.take k) (marksSS s (LL.take k)) = P at O split
  generalize inner (vs.drop (k + 1)) (LL.drop (k + 1)) = Q at O split
  have perm : ∀ r : Rw, (orow v vs :: ((P ++ r :: Q) ++ R)).Perm (r :: (orow v vs :: ((P ++ Q) ++ R))) := fun r => by
    have h1 : ((P ++ r :: Q) ++ R).Perm (r :: ((P ++ Q) ++ R)) := List.perm_middle.append_right R
    exact (h1.cons _).trans (.swap _ _ _)
  have O2 := O.perm (perm _)
  have o : wr.ownsRow w.heap.size 3 1 (vs[k]'(by omega)) (LL.getD k []).length (ints (LL.getD k [])) := O2.hd
  obtain ⟨A, c, hv⟩ := own_slice o
  rw [hv] at o
  refine ⟨A, c, o, fun {g d} hg => ?_, fun o1 g1 => ⟨vs, by rw [markedTo_length (by omega)]; exact hl, ?_⟩⟩
  · have oo : wr.ownsRow w.heap.size 27 1 v vs.length vs := O.hd
    rw [hg] at oo
    rw [show LL.length = vs.length by omega] at oo
    have := (oo.cellAt k (by omega)).trans (List.getElem?_eq_getElem (by omega))
    rw [hv] at this
    exact this
  · rw [e2, split]
    refine Own.perm ?_ (perm _).symm
    rw [hv] at O2 ⊢
    exact O2.over (iallMarks_length _ _) o1 g1
end Go.Proofs.Ytdnjpekclmiliaa
