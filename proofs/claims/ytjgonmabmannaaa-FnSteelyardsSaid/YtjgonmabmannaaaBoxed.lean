/-
  A call's answer that goes into a box of its own, in a region that draws its order: what is left of it. No program's walk.
-/
import Derived.Test.YtjgonmabmannaaaToYard
namespace Go.Proofs.Ytjgonmabmannaaa
open Go.ChangeShapes Go.WideShapes Go.ChangeAt Go.RowKit Go.PlainAid

/-- What is left of a call whose answer goes into a box of its own: the box; below the block number n nothing has turned. -/
def Boxed (n : Nat) (W0 : World) (T B : Int) (O : Bool) (s5 s6 : Value) (wx : World) : Prop :=
  ∃ p, s5 = .pointer (some ⟨p, 0, none⟩) ∧ s6 = .bool O ∧ Box wx p T B 29 ∧ Below n W0 wx
theorem boxed_new {W0 W w1 : World} {n : Nat} {T B : Int} {O : Bool} (h : Below n W0 W) (k : Below W.heap.size W w1) (hn : n ≤ W.heap.size) :
    Boxed n W0 T B O (.pointer (some ⟨w1.heap.size, 0, none⟩)) (.bool O) (w1.alloc (.cells #[.int .i64 T, .int .i64 B] 29)) :=
  ⟨_, rfl, rfl, Box.new w1 T B _, (h.trans (k.mono hn)).alloc (Nat.le_trans hn k.size) _⟩
theorem boxed_set {W0 W w1 : World} {n p : Nat} {T B : Int} {O : Bool} (h : Below n W0 W) (k : Below W.heap.size W w1) (hn : n ≤ W.heap.size) (hp : n ≤ p) (hb : Box W p 0 0 29) :
    Boxed n W0 T B O (.pointer (some ⟨p, 0, none⟩)) (.bool O) ((w1.setCell ⟨p, 0, none⟩ (.int .i64 T)).setCell ⟨p, 1, none⟩ (.int .i64 B)) :=
  ⟨_, rfl, rfl, (hb.keep k hb.lt).set, ((h.trans (k.mono hn)).setCell hp _).setCell hp _⟩
end Go.Proofs.Ytjgonmabmannaaa
