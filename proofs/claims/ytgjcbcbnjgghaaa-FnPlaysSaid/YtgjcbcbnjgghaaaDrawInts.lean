/-
  A list of ints that a draw appends to, number by number: what a loop keeps. No condition but those written.
-/
import Derived.Test.YtgjcbcbnjgghaaaBelow
import Derived.Test.YtgjcbcbnjgghaaaInts
namespace Go.Proofs.Ytgjcbcbnjgghaaa
open Go.ChangeShapes Go.WideShapes Go.ChangeAt Go.RowKit Go.PlainAid

theorem grown_own {w wr w1 : World} {p B : Nat} {e : TypeId} {size n : Nat} {v : Value} {xs : List Value} {o : Obj} (hg : w.grownBy wr (some p)) (hown : wr.ownsRow B e size v n xs) (hB : w.heap.size ≤ B) (h1 : (wr.alloc o).grownBy w1 v.ownBlock) : w.grownBy w1 (some p) := by
  have hs := hg.size
  refine ⟨h1.os.trans hg.os, h1.tape.trans hg.tape, h1.output.trans hg.output, Nat.le_trans hs (Nat.le_trans (by simp) h1.size), fun k hk hne => ?_⟩
  have h2 : some k ≠ v.ownBlock := fun e => by have := (hown.lt k e.symm).1; omega
  rw [h1.block k (by simp; omega) h2, Below.heap_alloc _ _ _ (by omega), hg.block k hk hne]

/-- The loop's state: k ints that meet Q, in a slice of the call's own; the cursor stands; beside it only new memory. -/
def IntSt (Q : Int → Prop) (w : World) (p : Nat) (a : Option Addr) (len cap : Nat) (v : Value) (k : Nat) (wr : World) : Prop :=
  ∃ xs : List Int, xs.length = k ∧ (∀ z ∈ xs, Q z) ∧ Cur wr p a len cap ∧ wr.ownsRow w.heap.size 3 1 v k (ints xs) ∧ w.grownBy wr (some p)
theorem intSt_start {Q : Int → Prop} {w : World} {p : Nat} {a : Option Addr} {len cap : Nat} (C : Cur w p a len cap) : IntSt Q w p a len cap (.slice (some ⟨w.heap.size, 0, none⟩) 0 0) 0 (w.alloc (.cells #[] 3)) :=
  ⟨[], rfl, (fun z hz => by cases hz), C.alloc _, World.ownsRow_made w #[] 0 (Nat.le_refl _) (by decide) rfl, World.grownBy_alloc w _ _⟩
theorem IntSt.cur {Q : Int → Prop} {w wr : World} {p : Nat} {a : Option Addr} {len cap k : Nat} {v : Value} (h : IntSt Q w p a len cap v k wr) : Cur wr p a len cap := by obtain ⟨_, _, _, hC, _⟩ := h; exact hC
/-- A number is drawn in between. -/
theorem intSt_drawn {Q : Int → Prop} {w wr w1 : World} {p : Nat} {a : Option Addr} {len cap k : Nat} {v : Value} (hp : p < w.heap.size) (h : IntSt Q w p a len cap v k wr) (C : Cur w1 p a len cap) (g : wr.grownBy w1 (some p)) : IntSt Q w p a len cap v k w1 := by
  obtain ⟨xs, hl, hq, _, hown, hg⟩ := h
  refine ⟨xs, hl, hq, C, hown.kept g ?_, grown_trans hg g⟩
  rcases e : v.ownBlock with _ | q
  · exact .inl rfl
  · refine .inr fun h => ?_
    injection h with h
    have := (hown.lt q e).1
    omega
theorem intSt_append {Q : Int → Prop} {w wr w1 : World} {p : Nat} {a : Option Addr} {len cap k : Nat} {v v' : Value} {o : Obj} {z : Int} {xs : List Int} (hp : p < w.heap.size) (hz : Q z) (hl : xs.length = k) (hq : ∀ z ∈ xs, Q z) (C : Cur wr p a len cap) (hown : wr.ownsRow w.heap.size 3 1 v k (ints xs)) (hg : w.grownBy wr (some p))
    (hown1 : w1.ownsRow w.heap.size 3 1 v' (k + 1) (ints xs ++ [.int .i64 z])) (hgrow1 : (wr.alloc o).grownBy w1 v.ownBlock) : IntSt Q w p a len cap v' (k + 1) w1 := by
  refine ⟨xs ++ [z], by rw [List.length_append, hl]; rfl, fun y hy => ?_, (C.alloc o).grown hgrow1 (fun g e => ?_), ?_, grown_own hg hown (Nat.le_refl _) hgrow1⟩
  · rcases List.mem_append.1 hy with hy | hy
    · exact hq y hy
    · rw [List.mem_singleton.1 hy]; exact hz
  · have := (hown.lt g e).1
    omega
  · rw [ints_append]
    exact hown1

/-- A drawn list: n ints that meet Q, in a slice of the call's own; the cursor stands; beside it only new memory. -/
def DrawnInts (Q : Int → Prop) (N : Nat → Prop) (w : World) (p : Nat) (a : Option Addr) (len cap : Nat) (e : Ending) (w' : World) : Prop :=
  ∃ (A : Option Addr) (c : Nat) (L : List Int), N L.length ∧ (∀ z ∈ L, Q z) ∧ e = .returned (.slice A L.length c) ∧ Cur w' p a len cap ∧ w'.ownsRow w.heap.size 3 1 (.slice A L.length c) L.length (ints L) ∧ w.grownBy w' (some p)
theorem intSt_end {Q : Int → Prop} {N : Nat → Prop} {w wr : World} {p : Nat} {a : Option Addr} {len cap k : Nat} {v : Value} (hN : N k) (h : IntSt Q w p a len cap v k wr) : DrawnInts Q N w p a len cap (.returned v) wr := by
  obtain ⟨xs, rfl, hq, hC, hown, hg⟩ := h
  obtain ⟨A, c, rfl⟩ := own_slice hown
  exact ⟨A, c, xs, hN, hq, rfl, hC, hown, hg⟩
end Go.Proofs.Ytgjcbcbnjgghaaa
