/-
  A list of ints that a draw appends to, number by number. The cursor stands; beside it only new memory. No program's walk.
-/
import Derived.Test.YtajndcggafjmeaaDrawInts
namespace Go.Proofs.Ytajndcggafjmeaa
open Go.ChangeShapes Go.WideShapes Go.ChangeAt Go.RowKit Go.PlainAid

/-- A list of the call's own that a draw appends to; the cursor stands; beside it only new memory. -/
structure LSt (w : World) (p : Nat) (a : Option Addr) (len cap : Nat) (v : Value) (xs : List Int) (wr : World) : Prop where
  cur : Cur wr p a len cap
  own : wr.ownsRow w.heap.size 3 1 v xs.length (ints xs)
  grown : w.grownBy wr (some p)
theorem LSt.start {w : World} {p : Nat} {a : Option Addr} {len cap : Nat} (C : Cur w p a len cap) : LSt w p a len cap (.slice (some ⟨w.heap.size, 0, .none⟩) 0 0) [] (w.alloc (.cells #[] 3)) :=
  ⟨C.alloc _, World.ownsRow_made w #[] 0 (Nat.le_refl _) (by decide) rfl, World.grownBy_alloc w _ _⟩
theorem LSt.drawn {w wr w1 : World} {p : Nat} {a : Option Addr} {len cap : Nat} {v : Value} {xs : List Int} (hp : p < w.heap.size) (h : LSt w p a len cap v xs wr) (C : Cur w1 p a len cap) (g : wr.grownBy w1 (some p)) : LSt w p a len cap v xs w1 := by
  obtain ⟨ys, hl, hq, C1, o1, g1⟩ := intSt_drawn (Q := fun _ => True) (k := xs.length) hp ⟨xs, rfl, fun _ _ => trivial, h.cur, h.own, h.grown⟩ C g
  refine ⟨C, h.own.kept g ?_, g1⟩
  rcases e : v.ownBlock with _ | q
  · exact .inl rfl
  · refine .inr fun e2 => ?_
    injection e2 with e2
    have := (h.own.lt q e).1
    omega
theorem LSt.app {w wr w1 : World} {p : Nat} {a : Option Addr} {len cap : Nat} {v v' : Value} {o : Obj} {z : Int} {xs : List Int} (hp : p < w.heap.size) (h : LSt w p a len cap v xs wr)
    (hown1 : w1.ownsRow w.heap.size 3 1 v' (xs.length + 1) (ints xs ++ [.int .i64 z])) (hgrow1 : (wr.alloc o).grownBy w1 v.ownBlock) : LSt w p a len cap v' (xs ++ [z]) w1 := by
  obtain ⟨ys, hl, hq, C1, o1, g1⟩ := intSt_append (Q := fun _ => True) (z := z) hp trivial rfl (fun _ _ => trivial) h.cur h.own h.grown hown1 hgrow1
  refine ⟨C1, ?_, g1⟩
  rw [ints_append, List.length_append]
  exact hown1
theorem getD_app (xs : List Int) (x : Int) (j : Nat) (h : j ≤ xs.length) : (xs ++ [x]).getD j 0 = if j < xs.length then xs.getD j 0 else x := by
  rw [List.getD_eq_getElem?_getD, List.getD_eq_getElem?_getD]
  split
  · rename_i h1
    rw [List.getElem?_append_left h1]
  · rename_i h1
    rw [List.getElem?_append_right (by omega), show j - xs.length = 0 by omega]
    rfl
end Go.Proofs.Ytajndcggafjmeaa
