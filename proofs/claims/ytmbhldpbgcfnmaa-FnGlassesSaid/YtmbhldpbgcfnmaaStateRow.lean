/-
  Slices of glasses of the call's own; a slice of such slices, every one in a block of its own. No program's walk.
-/
import Derived.Test.YtmbhldpbgcfnmaaGlassRow
import Derived.Test.YtmbhldpbgcfnmaaGlassList
import Derived.Test.YtmbhldpbgcfnmaaAppendAny
namespace Go.Proofs.Ytmbhldpbgcfnmaa
open Go.ChangeShapes Go.WideShapes Go.ChangeAt Go.RowKit Go.PlainAid

/-- States as cells. -/
def gcells (a b : Nat) (M : List (Nat × Nat)) : List Value := M.flatMap fun m => [.int .i64 a, .int .i64 b, .int .i64 m.1, .int .i64 m.2]
theorem gcells_app (a b : Nat) (M : List (Nat × Nat)) (m : Nat × Nat) : gcells a b (M ++ [m]) = gcells a b M ++ [.int .i64 a, .int .i64 b, .int .i64 m.1, .int .i64 m.2] := by
  unfold gcells
  rw [List.flatMap_append, List.flatMap_singleton]
theorem gcells_len (a b : Nat) : ∀ M : List (Nat × Nat), (gcells a b M).length = M.length * 4
  | [] => rfl
  | m :: M => by
    have : gcells a b (m :: M) = [.int .i64 a, .int .i64 b, .int .i64 m.1, .int .i64 m.2] ++ gcells a b M := rfl
    rw [this, List.length_append, gcells_len a b M, List.length_cons]
    simp only [List.length_cons, List.length_nil]
    omega
theorem gcells_get (a b : Nat) : ∀ (M : List (Nat × Nat)) (k : Nat) (m : Nat × Nat), M[k]? = some m →
    (gcells a b M)[k * 4]? = some (.int .i64 a) ∧ (gcells a b M)[k * 4 + 1]? = some (.int .i64 b) ∧ (gcells a b M)[k * 4 + 2]? = some (.int .i64 m.1) ∧ (gcells a b M)[k * 4 + 3]? = some (.int .i64 m.2)
  | [], _, _, h => by simp at h
  | m0 :: M, 0, m, h => by
    injection h with h
    subst h
    exact ⟨rfl, rfl, rfl, rfl⟩
  | m0 :: M, k + 1, m, h => by
    have ih := gcells_get a b M k m h
    have e : gcells a b (m0 :: M) = [.int .i64 a, .int .i64 b, .int .i64 m0.1, .int .i64 m0.2] ++ gcells a b M := rfl
    rw [e]
    refine ⟨?_, ?_, ?_, ?_⟩
    · rw [List.getElem?_append_right (by simp; omega), show (k + 1) * 4 - [(Value.int .i64 a), .int .i64 b, .int .i64 m0.1, .int .i64 m0.2].length = k * 4 by simp; omega]; exact ih.1
    · rw [List.getElem?_append_right (by simp; omega), show (k + 1) * 4 + 1 - [(Value.int .i64 a), .int .i64 b, .int .i64 m0.1, .int .i64 m0.2].length = k * 4 + 1 by simp; omega]; exact ih.2.1
    · rw [List.getElem?_append_right (by simp; omega), show (k + 1) * 4 + 2 - [(Value.int .i64 a), .int .i64 b, .int .i64 m0.1, .int .i64 m0.2].length = k * 4 + 2 by simp; omega]; exact ih.2.2.1
    · rw [List.getElem?_append_right (by simp; omega), show (k + 1) * 4 + 3 - [(Value.int .i64 a), .int .i64 b, .int .i64 m0.1, .int .i64 m0.2].length = k * 4 + 3 by simp; omega]; exact ih.2.2.2
/-- A slice of states. -/
def grow (v : Value) (a b : Nat) (M : List (Nat × Nat)) : Rw := ⟨25, 4, v, M.length, gcells a b M⟩
theorem grow_slice {w : World} {B a b : Nat} {v : Value} {M : List (Nat × Nat)} (h : (grow v a b M).at B w) : ∃ A c, v = .slice A M.length c := own_slice h
theorem grow_form {w : World} {B a b n c : Nat} {A : Option Addr} {M : List (Nat × Nat)} (h : (grow (.slice A n c) a b M).at B w) (h0 : 0 < M.length) : ∃ g, A = some ⟨g, 0, none⟩ := by
  have h' : w.ownsRow B 25 4 (.slice A n c) M.length (gcells a b M) := h
  obtain ⟨g, cap, hv, -, -⟩ := h'.form h0
  injection hv with hv
  exact ⟨g, hv⟩
theorem grow_cells {w : World} {B a b c g k n : Nat} {M : List (Nat × Nat)} (h : (grow (.slice (some ⟨g, 0, none⟩) n c) a b M).at B w) (hn : n = M.length) {m : Nat × Nat} (hm : M[k]? = some m) :
    w.cell? ⟨g, k * 4, none⟩ = some (.int .i64 a) ∧ w.cell? ⟨g, k * 4 + 1, none⟩ = some (.int .i64 b) ∧ w.cell? ⟨g, k * 4 + 2, none⟩ = some (.int .i64 m.1) ∧ w.cell? ⟨g, k * 4 + 3, none⟩ = some (.int .i64 m.2) := by
  subst hn
  have h' : w.ownsRow B 25 4 (.slice (some ⟨g, 0, none⟩) M.length c) M.length (gcells a b M) := h
  have hk : k < M.length := by
    rcases Nat.lt_or_ge k M.length with g | g
    · exact g
    · rw [List.getElem?_eq_none g] at hm; cases hm
  obtain ⟨v0, v1, v2, v3⟩ := gcells_get a b M k m hm
  exact ⟨(h'.cellAt (k * 4) (by omega)).trans v0, (h'.cellAt (k * 4 + 1) (by omega)).trans v1, (h'.cellAt (k * 4 + 2) (by omega)).trans v2, (h'.cellAt (k * 4 + 3) (by omega)).trans v3⟩

/-! ### Slices of them -/
def vals (n : Nat) (V : Nat → Value) : List Value := (List.range n).map V
theorem vals_length (n : Nat) (V : Nat → Value) : (vals n V).length = n := by simp [vals]
theorem vals_get {n j : Nat} {V : Nat → Value} (h : j < n) : (vals n V)[j]? = some (V j) := by
  unfold vals
  rw [List.getElem?_map, List.getElem?_range h]; rfl
theorem vals_el {n i : Nat} {V : Nat → Value} (h : i < (vals n V).length) : (vals n V)[i] = V i := by simp [vals]
theorem vals_set {n j : Nat} {V : Nat → Value} {v : Value} : (vals n V).set j v = vals n (lup V j v) := by
  refine List.ext_getElem (by rw [List.length_set, vals_length, vals_length]) fun i h1 h2 => ?_
  rw [List.getElem_set, vals_el, vals_el]
  unfold lup
  by_cases e : i = j
  · subst e; rw [if_pos rfl]
  · rw [if_neg (fun g => e g.symm), if_neg e]
theorem vals_nil (n : Nat) (v : Value) : vals n (fun _ => v) = List.replicate n v := by
  unfold vals
  rw [List.map_const', List.length_range]
def vrow (v : Value) (n : Nat) (V : Nat → Value) : Rw := ⟨49, 1, v, n, vals n V⟩
/-- The slices behind it. -/
def grows (n a b : Nat) (V : Nat → Value) (S : Nat → List (Nat × Nat)) : List Rw := (List.range n).map fun t => grow (V t) a b (S t)
/-- All but one. -/
def rest (n a b j : Nat) (V : Nat → Value) (S : Nat → List (Nat × Nat)) : List Rw := ((List.range n).erase j).map fun t => grow (V t) a b (S t)
theorem grows_mem {n a b j : Nat} {V : Nat → Value} {S : Nat → List (Nat × Nat)} (h : j < n) : grow (V j) a b (S j) ∈ grows n a b V S := List.mem_map_of_mem (List.mem_range.2 h)
theorem grows_perm {n a b j : Nat} {V : Nat → Value} {S : Nat → List (Nat × Nat)} (h : j < n) : (grows n a b V S).Perm (grow (V j) a b (S j) :: rest n a b j V S) :=
  (List.perm_cons_erase (List.mem_range.2 h)).map _
theorem rest_lup {n a b j : Nat} {V : Nat → Value} {S : Nat → List (Nat × Nat)} (v : Value) (l : List (Nat × Nat)) : rest n a b j (lup V j v) (lup S j l) = rest n a b j V S := by
  unfold rest
  refine List.map_congr_left fun t ht => ?_
  have hne : t ≠ j := fun e => by
    subst e
    exact (List.Nodup.not_mem_erase List.nodup_range) ht
  rw [lup_else V v hne, lup_else S l hne]
section
variable {w wr : World} {n a b j : Nat} {V : Nat → Value} {S : Nat → List (Nat × Nat)} {R : List Rw}
/-- One of the slices comes ahead. -/
theorem Own.pick {v : Value} (h : Own w wr (vrow v n V :: (grows n a b V S ++ R))) (hj : j < n) : Own w wr (grow (V j) a b (S j) :: vrow v n V :: (rest n a b j V S ++ R)) :=
  h.perm (((grows_perm hj).append_right R).cons _ |>.trans (List.Perm.swap _ _ _))
/-- And it is put back, another one in its place. -/
theorem Own.put {g c : Nat} {v' : Value} {l : List (Nat × Nat)} (h : Own w wr (grow v' a b l :: vrow (.slice (some ⟨g, 0, .none⟩) n c) n V :: (rest n a b j V S ++ R))) (hj : j < n) :
    (∃ u, wr.cell? ⟨g, j, .none⟩ = some u) ∧ wr.frozen? ⟨g, j, .none⟩ = false ∧
    Own w (wr.setCell ⟨g, j, .none⟩ v') (vrow (.slice (some ⟨g, 0, .none⟩) n c) n (lup V j v') :: (grows n a b (lup V j v') (lup S j l) ++ R)) := by
  have h2 := h.swap
  have o : wr.ownsRow w.heap.size 49 1 (.slice (some ⟨g, 0, .none⟩) n c) n (vals n V) := h2.hd
  obtain ⟨s1, s2⟩ := o.stored j v'
  rw [vals_set] at s1
  refine ⟨⟨_, (o.cellAt j (by omega)).trans (vals_get hj)⟩, o.frozenAt j, ?_⟩
  have h3 := h2.head (r' := vrow (.slice (some ⟨g, 0, .none⟩) n c) n (lup V j v')) (grown_setCell (World.grownBy.refl wr _) j _) s1 (.inl rfl)
  have q := (grows_perm (a := a) (b := b) (V := lup V j v') (S := lup S j l) hj).append_right R
  rw [rest_lup, lup_here, lup_here] at q
  exact h3.perm (q.symm.cons _)
theorem Own.vcell {g c : Nat} (h : Own w wr R) (hm : vrow (.slice (some ⟨g, 0, .none⟩) n c) n V ∈ R) (hj : j < n) : wr.cell? ⟨g, j, .none⟩ = some (V j) := by
  have o : wr.ownsRow w.heap.size 49 1 (.slice (some ⟨g, 0, .none⟩) n c) n (vals n V) := h.own _ hm
  exact (o.cellAt j (by omega)).trans (vals_get hj)
end
end Go.Proofs.Ytmbhldpbgcfnmaa
