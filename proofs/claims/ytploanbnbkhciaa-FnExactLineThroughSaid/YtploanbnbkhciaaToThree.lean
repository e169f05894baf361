/-
  The law's own type of fractions into the program's, as three new blocks; a call's answer in a box of its own. No condition.
-/
import Derived.Test.YtploanbnbkhciaaBoxes
namespace Go.Proofs.Ytploanbnbkhciaa
open Go.ChangeShapes Go.WideShapes Go.ChangeAt Go.RowKit Go.PlainAid

/-- The law's own type into the program's: three new blocks. -/
def Three (t b : Int) (w : World) : World := ((w.alloc (.cells #[.int .i64 t, .int .i64 b] 37)).alloc (.cells #[.int .i64 t, .int .i64 b] 25)).alloc (.cells #[.int .i64 t, .int .i64 b] 25)
theorem to_exact (t b : Int) (w : World) : Calls Try.prog 20 #[.agg #[.int .i64 t, .int .i64 b]] w fun e w' => e = .returned (.agg #[.int .i64 t, .int .i64 b]) ∧ w' = Three t b w := by
  go_enter Try.func20, Try.ntmps20
  go_wp2_with fail
  (try simp only [Exit.inBlock, Exit.then])
  refine bodyPost_ret (v := .agg #[.int .i64 t, .int .i64 b]) ?_ rfl ⟨rfl, rfl⟩
  rw [results_cell_one rfl]
  go_simp

theorem Three.size (t b : Int) (w : World) : (Three t b w).heap.size = w.heap.size + 3 := by unfold Three; simp
theorem Three.below {t b : Int} {n : Nat} {v w : World} (h : Below n v w) (hn : n ≤ w.heap.size) : Below n v (Three t b w) :=
  ((h.alloc hn _).alloc (by simp; omega) _).alloc (by simp; omega) _
theorem Three.box {p : Nat} {t b t' b' : Int} {ty : TypeId} {w : World} (h : Box w p t b ty) : Box (Three t' b' w) p t b ty := ((h.alloc _).alloc _).alloc _
theorem Three.c0 {p : Nat} {t b t' b' : Int} {ty : TypeId} {w : World} (h : Box w p t b ty) : (Three t' b' w).cell? ⟨p, 0, none⟩ = some (.int .i64 t) := (Three.box h).c0
theorem Three.c1 {p : Nat} {t b t' b' : Int} {ty : TypeId} {w : World} (h : Box w p t b ty) : (Three t' b' w).cell? ⟨p, 1, none⟩ = some (.int .i64 b) := (Three.box h).c1

theorem Box.new_at {w : World} {t b : Int} {ty : TypeId} {p : Nat} (h : p = w.heap.size) : Box (w.alloc (.cells #[.int .i64 t, .int .i64 b] ty)) p t b ty := h ▸ Box.new w t b ty
theorem Box.drew {w : World} {t b : Int} {ty : TypeId} {p : Nat} (h : Box w p t b ty) : Box w.drew p t b ty := h
theorem Box.set {w : World} {t b T B : Int} {ty : TypeId} {p : Nat} (h : Box w p t b ty) : Box ((w.setCell ⟨p, 0, none⟩ (.int .i64 T)).setCell ⟨p, 1, none⟩ (.int .i64 B)) p T B ty := by
  have h' : w.heap[p]? = _ := h
  unfold Box
  simp [World.setCell, Array.getElem?_modify, h']

theorem Box.under {w w' : World} {t b : Int} {ty : TypeId} {p : Nat} (h : Box w p t b ty) (k : Below w.heap.size w w') : Box w' p t b ty := h.keep k h.lt
theorem Box.other {w : World} {t b : Int} {ty : TypeId} {p q : Nat} (h : Box w p t b ty) (o : Nat) (v : Value) (hne : p ≠ q) : Box (w.setCell ⟨q, o, none⟩ v) p t b ty := (Below.heap_setCell w _ v p hne).trans h

/-- What is left of a call whose answer goes into a box of its own: the box; below the block number n nothing has turned. -/
def Boxed (n : Nat) (W0 : World) (T B : Int) (O : Bool) (s5 s6 : Value) (wx : World) : Prop :=
  ∃ p, s5 = .pointer (some ⟨p, 0, none⟩) ∧ s6 = .bool O ∧ Box wx p T B 25 ∧ Below n W0 wx

theorem boxed_new {W0 W w1 : World} {n : Nat} {T B : Int} {O : Bool} (h : Below n W0 W) (k : Below W.heap.size W w1) (hn : n ≤ W.heap.size) :
    Boxed n W0 T B O (.pointer (some ⟨w1.heap.size, 0, none⟩)) (.bool O) (w1.alloc (.cells #[.int .i64 T, .int .i64 B] 25)) :=
  ⟨_, rfl, rfl, Box.new w1 T B _, (h.trans (k.mono hn)).alloc (Nat.le_trans hn k.size) _⟩
theorem boxed_set {W0 W w1 : World} {n p : Nat} {T B : Int} {O : Bool} (h : Below n W0 W) (k : Below W.heap.size W w1) (hn : n ≤ W.heap.size) (hp : n ≤ p) (hb : Box W p 0 0 25) :
    Boxed n W0 T B O (.pointer (some ⟨p, 0, none⟩)) (.bool O) ((w1.setCell ⟨p, 0, none⟩ (.int .i64 T)).setCell ⟨p, 1, none⟩ (.int .i64 B)) :=
  ⟨_, rfl, rfl, (hb.keep k hb.lt).set, ((h.trans (k.mono hn)).setCell hp _).setCell hp _⟩

theorem to_below (t b : Int) (w : World) : Calls Try.prog 20 #[.agg #[.int .i64 t, .int .i64 b]] w fun e w' => e = .returned (.agg #[.int .i64 t, .int .i64 b]) ∧ Below w.heap.size w w' :=
  (to_exact t b w).mono fun _ _ ⟨h, k⟩ => ⟨h, k ▸ Three.below (Below.refl _ _) (Nat.le_refl _)⟩
theorem below_new (w : World) (o : Obj) : Below w.heap.size w (w.alloc o) := (Below.refl _ _).alloc (Nat.le_refl _) _
end Go.Proofs.Ytploanbnbkhciaa
