/-
  A draw's cursor over bytes, in a block of its own, and what keeps it. No program's walk; no condition but those written.
-/
import Derived.Test.YtgjcbcbnjgghaaaBase
namespace Go.Proofs.Ytgjcbcbnjgghaaa
open Go.RowKit

/-- The cursor of a draw: block p holds the bytes, a place among them and a number; the bytes lie below block p. -/
structure Cur (w : World) (p : Nat) (a : Option Addr) (len cap : Nat) : Prop where
  hl : len ≤ 1048576
  blk : ∃ (i : Nat) (h : Int), i ≤ len ∧ w.heap[p]? = some (.cells #[.slice a len cap, .int .i64 i, .int .i64 h] 47 (0, 0))
  row : Bytes w p a len

theorem Cur.lt {w : World} {p : Nat} {a : Option Addr} {len cap : Nat} (h : Cur w p a len cap) : p < w.heap.size := by
  obtain ⟨i, k, _, hb⟩ := h.blk
  rcases Nat.lt_or_ge p w.heap.size with hlt | hge
  · exact hlt
  · rw [Array.getElem?_eq_none hge] at hb; cases hb

/-- What is written beside the cursor's block, and above it, leaves the cursor. -/
theorem Cur.grown {w w' : World} {p : Nat} {a : Option Addr} {len cap : Nat} {row : Option Nat} (h : Cur w p a len cap) (hg : w.grownBy w' row) (hr : ∀ g, row = some g → p < g) : Cur w' p a len cap := by
  have hlt := h.lt
  obtain ⟨i, k, hi, hb⟩ := h.blk
  have key : ∀ k, k ≤ p → w'.heap[k]? = w.heap[k]? := fun k hk => hg.block k (by omega) (fun e => by have := hr k e.symm; omega)
  exact ⟨h.hl, ⟨i, k, hi, (key p (Nat.le_refl p)).trans hb⟩, h.row.keep fun k hk => key k (by omega)⟩

theorem Cur.below {w w' : World} {p B : Nat} {a : Option Addr} {len cap : Nat} (h : Cur w p a len cap) (hg : Below B w w') (hr : p < B) : Cur w' p a len cap := by
  obtain ⟨i, k, hi, hb⟩ := h.blk
  exact ⟨h.hl, ⟨i, k, hi, (hg.block p hr).trans hb⟩, h.row.keep fun k hk => hg.block k (by omega)⟩

theorem Cur.alloc {w : World} {p : Nat} {a : Option Addr} {len cap : Nat} (h : Cur w p a len cap) (o : Obj) : Cur (w.alloc o) p a len cap :=
  h.grown (World.grownBy_alloc w o none) (fun g e => by cases e)

theorem Cur.drewN {w : World} {p : Nat} {a : Option Addr} {len cap : Nat} (h : Cur w p a len cap) (n : Nat) : Cur (w.drewN n) p a len cap := ⟨h.hl, h.blk, h.row⟩

/-- What a draw of a number does: a number that meets Q; the cursor stands; nothing else has turned. -/
def Drawn (Q : Int → Prop) (w : World) (p : Nat) (a : Option Addr) (len cap : Nat) (e : Ending) (w' : World) : Prop :=
  ∃ x : Int, Q x ∧ e = .returned (.int .i64 x) ∧ Cur w' p a len cap ∧ w.grownBy w' (some p)
end Go.Proofs.Ytgjcbcbnjgghaaa
