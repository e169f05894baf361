/-
  The laws' own type of lines into the program's; two lines compared field by field. No condition.
-/
import Derived.Test.YtploanbnbkhciaaBxLine
import Derived.Test.YtploanbnbkhciaaSameF

import Derived.Deep.RegionLaw
import Derived.Deep.DeepCutAuto
import Derived.Deep.RegionHeld3
namespace Go.Proofs.Ytploanbnbkhciaa
open Go.ChangeShapes Go.WideShapes Go.ChangeAt Go.RowKit Go.PlainAid

theorem boxed_at {W0 w1 : World} {n p : Nat} {T B : Int} {O : Bool} (hb : Box w1 p 0 0 25) (h : Below n W0 w1) (hp : n ≤ p) :
    Boxed n W0 T B O (.pointer (some ⟨p, 0, none⟩)) (.bool O) ((w1.setCell ⟨p, 0, none⟩ (.int .i64 T)).setCell ⟨p, 1, none⟩ (.int .i64 B)) := ⟨_, rfl, rfl, hb.set, (h.setCell hp _).setCell hp _⟩
theorem boxed_in {W0 w1 : World} {n : Nat} {T B : Int} {O : Bool} (h : Below n W0 w1) (hp : n ≤ w1.heap.size) :
    Boxed n W0 T B O (.pointer (some ⟨w1.heap.size, 0, none⟩)) (.bool O) (w1.alloc (.cells #[.int .i64 T, .int .i64 B] 25)) := ⟨_, rfl, rfl, Box.new w1 T B _, h.alloc hp _⟩
theorem boxedL_at {W0 w1 : World} {n p : Nat} {a b c d : Int} {O : Bool} (hb : Quad w1 p 0 0 0 0 27) (h : Below n W0 w1) (hp : n ≤ p) :
    BoxedL n W0 a b c d O (.pointer (some ⟨p, 0, none⟩)) (.bool O) ((((w1.setCell ⟨p, 0, none⟩ (.int .i64 a)).setCell ⟨p, 1, none⟩ (.int .i64 b)).setCell ⟨p, 2, none⟩ (.int .i64 c)).setCell ⟨p, 3, none⟩ (.int .i64 d)) := ⟨_, rfl, rfl, hb.set a b c d, (((h.setCell hp _).setCell hp _).setCell hp _).setCell hp _⟩
theorem boxedL_in {W0 w1 : World} {n : Nat} {a b c d : Int} {O : Bool} (h : Below n W0 w1) (hp : n ≤ w1.heap.size) :
    BoxedL n W0 a b c d O (.pointer (some ⟨w1.heap.size, 0, none⟩)) (.bool O) (w1.alloc (obj4 a b c d 27)) := ⟨_, rfl, rfl, Quad.new w1 a b c d _, h.alloc hp _⟩
theorem size_drew (w : World) : w.drew.heap.size = w.heap.size := rfl
theorem size_alloc (w : World) (o : Obj) : (w.alloc o).heap.size = w.heap.size + 1 := by simp
theorem Box.by {w w' : World} {t b : Int} {ty : TypeId} {p : Nat} (k : Below w.heap.size w w') (h : Box w p t b ty) : Box w' p t b ty := h.under k
theorem Quad.by {w w' : World} {a b c d : Int} {ty : TypeId} {p : Nat} (k : Below w.heap.size w w') (h : Quad w p a b c d ty) : Quad w' p a b c d ty := h.under k
theorem below_by {B : Nat} {a b c : World} (g : Below b.heap.size b c) (h : Below B a b) (hB : B ≤ b.heap.size) : Below B a c := below_more h hB g
theorem Quad.setA {w : World} {p : Nat} {a b c d : Int} {t : TypeId} (h : Quad w p a b c d t) (a' b' : Int) : Quad ((w.setCell ⟨p, 0, none⟩ (.int .i64 a')).setCell ⟨p, 1, none⟩ (.int .i64 b')) p a' b' c d t := by
  have h' : w.heap[p]? = _ := h
  unfold Quad
  simp [World.setCell, Array.getElem?_modify, h']
theorem toLine_below (a b c d : Int) (w : World) : Calls Try.prog 18 #[.agg #[.int .i64 a, .int .i64 b, .int .i64 c, .int .i64 d]] w fun e w' => e = .returned (agg4 a b c d) ∧ Below w.heap.size w w' := by
  have hT1 := fun W => to_below a b W
  have hT2 := fun W => to_below c d W
  obtain ⟨x, z, y, kb⟩ := bx_444 w a b c d 39 0 0 0 0 27 0 0 0 0 27
  obtain ⟨xc0, xc1, xc2, xc3⟩ := x.cells
  go_enter Try.func18, Try.ntmps18
  go_wp2_with fail
  refine (hT1 _).mono ?_
  rintro en w1 ⟨rfl, bl⟩
  replace x := x.under bl
  replace z := z.under bl
  replace y := y.under bl
  replace kb := below_more kb kb.size bl
  clear bl hT1 xc0 xc1 xc2 xc3
  generalize hp2 : w.heap.size + 1 + 1 = p2 at y ⊢
  generalize hp1 : w.heap.size + 1 = p1 at z ⊢
  have hz : w.heap.size < p1 ∧ p1 < p2 := by omega
  clear hp1 hp2
  have n1 : w.heap.size ≠ p2 := by omega
  have n2 : p1 ≠ p2 := by omega
  obtain ⟨xc0, xc1, xc2, xc3⟩ := x.cells
  obtain ⟨yc0, yc1, yc2, yc3⟩ := y.cells
  obtain ⟨yf0, yf1, yf2, yf3⟩ := y.free
  have y' := y.setA a b
  have x' := (x.other 0 (.int .i64 a) n1).other 1 (.int .i64 b) n1
  have z' := (z.other 0 (.int .i64 a) n2).other 1 (.int .i64 b) n2
  have kb' := (kb.setCell (p := ⟨p2, 0, none⟩) (by show w.heap.size ≤ p2; omega) (.int .i64 a)).setCell (p := ⟨p2, 1, none⟩) (by show w.heap.size ≤ p2; omega) (.int .i64 b)
  clear x z y kb
  go_wp2_with fail
  refine (hT2 _).mono ?_
  rintro en w2 ⟨rfl, bl⟩
  replace x := x'.under bl
  replace z := z'.under bl
  replace y := y'.under bl
  replace kb := below_more kb' kb'.size bl
  clear bl hT2 x' y' z' kb' xc0 xc1 xc2 xc3 yc0 yc1 yc2 yc3 yf0 yf1 yf2 yf3
  obtain ⟨yc0, yc1, yc2, yc3⟩ := y.cells
  obtain ⟨yf0, yf1, yf2, yf3⟩ := y.free
  obtain ⟨zc0, zc1, zc2, zc3⟩ := z.cells
  obtain ⟨zf0, zf1, zf2, zf3⟩ := z.free
  go_wp2_with fail
  (try simp only [Exit.inBlock, Exit.then])
  refine bodyPost_ret (v := .agg #[.int .i64 a, .int .i64 b, .int .i64 c, .int .i64 d]) ?_ rfl ⟨rfl, ?_⟩
  · rw [results_cell_one rfl]
    go_simp
  · repeat' (first | with_reducible exact kb | with_reducible refine Below.setCell ?_ ?_ _)
    all_goals (first | omega | (simp <;> omega))

theorem sameL_any (a b c d : Int) (w : World) : Calls Try.prog 24 #[.agg #[.int .i64 a, .int .i64 b, .int .i64 c, .int .i64 d], .agg #[.int .i64 a, .int .i64 b, .int .i64 c, .int .i64 d]] w (SaysB true w) := by
  have hE1 := fun W => same_any a b W
  have hE2 := fun W => same_any c d W
  obtain ⟨x, y, kb⟩ := bx_44 w a b c d 27 a b c d 27
  obtain ⟨xc0, xc1, xc2, xc3⟩ := x.cells
  obtain ⟨yc0, yc1, yc2, yc3⟩ := y.cells
  go_enter Try.func24, Try.ntmps24
  go_wp2_with fail
  refine (hE1 _).mono ?_
  rintro en w1 ⟨rfl, b⟩
  replace x := x.under b
  replace y := y.under b
  replace kb := below_more kb kb.size b
  clear b xc0 xc1 xc2 xc3 yc0 yc1 yc2 yc3 hE1
  obtain ⟨xc0, xc1, xc2, xc3⟩ := x.cells
  obtain ⟨yc0, yc1, yc2, yc3⟩ := y.cells
  go_wp2_with fail
  refine (hE2 _).mono ?_
  rintro en w2 ⟨rfl, b⟩
  replace x := x.under b
  replace y := y.under b
  replace kb := below_more kb kb.size b
  clear b xc0 xc1 xc2 xc3 yc0 yc1 yc2 yc3 hE2
  obtain ⟨xc0, xc1, xc2, xc3⟩ := x.cells
  obtain ⟨yc0, yc1, yc2, yc3⟩ := y.cells
  go_wp2_with fail
  go_ret
  exact ⟨rfl, kb⟩

end Go.Proofs.Ytploanbnbkhciaa
