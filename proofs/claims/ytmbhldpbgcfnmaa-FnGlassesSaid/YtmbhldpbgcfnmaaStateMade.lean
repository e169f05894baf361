/-
  A slice of slices of glasses that was just made, and its first one. No program's walk.
-/
import Derived.Test.YtmbhldpbgcfnmaaStateRow
namespace Go.Proofs.Ytmbhldpbgcfnmaa
open Go.ChangeShapes Go.WideShapes Go.ChangeAt Go.RowKit Go.PlainAid

theorem Try.infoStatesT : (Try.prog.info? 49).map (fun i => (i.zero, i.size, i.bytes)) = some (some (.slice none 0 0), 1, 24) := by kernel_rfl

/-- Slices that are nil, beside others. -/
theorem Own.nils {w wr : World} {r : Rw} {R : List Rw} (h : Own w wr (r :: R)) (n a b : Nat) : Own w wr (r :: (grows n a b (fun _ => .slice .none 0 0) (fun _ => []) ++ R)) := by
  have hn : ∀ p ∈ grows n a b (fun _ => .slice .none 0 0) (fun _ => []), p = grow (.slice .none 0 0) a b [] := fun p hp => by
    obtain ⟨t, -, rfl⟩ := List.mem_map.1 hp
    rfl
  have k : Own w wr (grows n a b (fun _ => .slice .none 0 0) (fun _ => []) ++ (r :: R)) := by
    refine ⟨fun p hp => ?_, List.pairwise_append.2 ⟨?_, h.ne, fun p hp q _ => ?_⟩, h.bel⟩
    · rcases List.mem_append.1 hp with hp | hp
      · rw [hn p hp]
        exact ⟨rfl, .inl ⟨rfl, rfl⟩⟩
      · exact h.own p hp
    · refine List.Pairwise.imp_of_mem (R := fun _ _ => True) ?_ (List.pairwise_of_forall fun _ _ => trivial)
      intro p q hp _ _
      rw [hn p hp]
      exact .inl rfl
    · rw [hn p hp]
      exact .inl rfl
  exact k.perm List.perm_middle
/-- A row of nils was made. -/
theorem Own.vmade {w wr w0 : World} {n : Nat} {R : List Rw} (h : Own w wr R) (o : w0.ownsRow wr.heap.size 49 1 (.slice (some ⟨wr.heap.size, 0, .none⟩) n n) n (madeCells (Value.slice .none 0 0).cells (n * 1)).toList) (g : wr.grownBy w0 .none) :
    Own w w0 (vrow (.slice (some ⟨wr.heap.size, 0, .none⟩) n n) n (fun _ => .slice .none 0 0) :: R) := by
  have e : (madeCells (Value.slice .none 0 0).cells (n * 1)).toList = vals n (fun _ => .slice .none 0 0) := by
    show (madeCells #[Value.slice .none 0 0] (n * 1)).toList = _
    rw [toList_madeCells_one, Nat.mul_one, vals_nil]
  rw [e] at o
  have b : Below wr.heap.size wr w0 := (Below.refl _ _).grown g (Nat.le_refl _) (fun k e => by cases e)
  exact h.add b o
/-- A slice of one state was made, and stands in the place of another one. -/
theorem Own.first {w wr : World} {n a b g c j x y : Nat} {V : Nat → Value} {S : Nat → List (Nat × Nat)} {R : List Rw} (h : Own w wr (vrow (.slice (some ⟨g, 0, .none⟩) n c) n V :: (grows n a b V S ++ R))) (hj : j < n) :
    (∃ u, (wr.alloc (jobj a b x y 25)).cell? ⟨g, j, .none⟩ = some u) ∧ (wr.alloc (jobj a b x y 25)).frozen? ⟨g, j, .none⟩ = false ∧
    Own w ((wr.alloc (jobj a b x y 25)).setCell ⟨g, j, .none⟩ (.slice (some ⟨wr.heap.size, 0, .none⟩) 1 1)) (vrow (.slice (some ⟨g, 0, .none⟩) n c) n (lup V j (.slice (some ⟨wr.heap.size, 0, .none⟩) 1 1)) :: (grows n a b (lup V j (.slice (some ⟨wr.heap.size, 0, .none⟩) 1 1)) (lup S j [(x, y)]) ++ R)) := by
  have k : Own w (wr.alloc (jobj a b x y 25)) (grow (.slice (some ⟨wr.heap.size, 0, .none⟩) 1 1) a b [(x, y)] :: grow (V j) a b (S j) :: vrow (.slice (some ⟨g, 0, .none⟩) n c) n V :: (rest n a b j V S ++ R)) := (h.pick hj).jug a b x y
  exact k.swap.tl.put hj
end Go.Proofs.Ytmbhldpbgcfnmaa
