/-
  The laws that the program's functions on steelyards answer as the model's do. No condition.
-/
import Derived.Test.YtjgonmabmannaaaToYard
import Derived.Test.YtjgonmabmannaaaSpecLev
import Derived.Test.YtjgonmabmannaaaImplLev
import Derived.Test.YtjgonmabmannaaaSpecMarks
import Derived.Test.YtjgonmabmannaaaImplMarks
import Derived.Deep.DeepCutAuto
import Derived.Deep.Cut
namespace Go.Proofs.Ytjgonmabmannaaa
open Go.ChangeShapes Go.WideShapes Go.ChangeAt Go.RowKit Go.PlainAid

theorem exactYok_any (p s e : Int) (w : World) : Calls Try.prog 4 #[agg3 p s e] w fun e w' => e = .returned (.bool true) ∧ Below w.heap.size w w' := by
  have hT := fun W => toYard_any p s e W
  have hS := fun W => specYok_any p s e W
  have hI := fun W => implYok_any p s e W
  generalize okS p s e = z at hS hI
  have y := Tri.new w p s e 37
  have kb : Below w.heap.size w (w.alloc (obj3 p s e 37)) := (Below.refl _ _).alloc (Nat.le_refl _) _
  go_enter Try.func4, Try.ntmps4
  go_wp2_with fail
  refine (hT _).mono ?_
  rintro en w1 ⟨rfl, b⟩
  replace y := y.under b
  replace kb := below_more kb kb.size b
  clear b
  go_wp2_with fail
  refine (hS _).mono ?_
  rintro en w1 ⟨rfl, b⟩
  replace y := y.under b
  replace kb := below_more kb kb.size b
  clear b
  obtain ⟨c0, c1, c2⟩ := y.cells
  go_wp2_with fail
  refine (hT _).mono ?_
  rintro en w1 ⟨rfl, b⟩
  replace y := y.under b
  replace kb := below_more kb kb.size b
  clear b
  clear c0 c1 c2 hT hS
  go_wp2_with fail
  refine (hI _).mono ?_
  rintro en w1 ⟨rfl, b⟩
  replace y := y.under b
  replace kb := below_more kb kb.size b
  clear b
  clear hI y
  go_wp2_with fail
  go_ret
  exact ⟨rfl, kb⟩

theorem exactLev_any (p s e l q : Int) (w : World) : Calls Try.prog 8 #[agg3 p s e, .int .i64 l, .int .i64 q] w fun e w' => e = .returned (.bool true) ∧ Below w.heap.size w w' := by
  have hT := fun W => toYard_any p s e W
  have hS := fun W => specLev_any p s e l q W
  have hI := fun W => implLev_any p s e l q W
  generalize lvl p s e l q = z at hS hI
  have y := Tri.new w p s e 37
  have kb : Below w.heap.size w (w.alloc (obj3 p s e 37)) := (Below.refl _ _).alloc (Nat.le_refl _) _
  go_enter Try.func8, Try.ntmps8
  go_wp2_with fail
  refine (hT _).mono ?_
  rintro en w1 ⟨rfl, b⟩
  replace y := y.under b
  replace kb := below_more kb kb.size b
  clear b
  go_wp2_with fail
  refine (hS _).mono ?_
  rintro en w1 ⟨rfl, b⟩
  replace y := y.under b
  replace kb := below_more kb kb.size b
  clear b
  obtain ⟨c0, c1, c2⟩ := y.cells
  go_wp2_with fail
  refine (hT _).mono ?_
  rintro en w1 ⟨rfl, b⟩
  replace y := y.under b
  replace kb := below_more kb kb.size b
  clear b
  clear c0 c1 c2 hT hS
  go_wp2_with fail
  refine (hI _).mono ?_
  rintro en w1 ⟨rfl, b⟩
  replace y := y.under b
  replace kb := below_more kb kb.size b
  clear b
  clear hI y
  go_wp2_with fail
  go_ret
  exact ⟨rfl, kb⟩

theorem exactMark_any (p s e l : Int) (w : World) : Calls Try.prog 5 #[agg3 p s e, .int .i64 l] w fun e w' => e = .returned (.bool true) ∧ Below w.heap.size w w' := by
  have hT := fun W => toYard_any p s e W
  have hS := fun W => specMark_any p s e l W
  have hI := fun W => implMark_any p s e l W
  generalize mkT p s e l = T at hS hI
  generalize mkB p s e l = B at hS hI
  generalize mkO p s e l = O at hS hI
  have hE := fun W => eqFraction_any T B W
  have y := Tri.new w p s e 37
  have kb : Below w.heap.size w (w.alloc (obj3 p s e 37)) := (Below.refl _ _).alloc (Nat.le_refl _) _
  go_enter Try.func5, Try.ntmps5
  go_wp2_with fail
  refine (hT _).mono ?_
  rintro en w1 ⟨rfl, b⟩
  replace y := y.under b
  replace kb := below_more kb kb.size b
  clear b
  go_wp2_with fail
  refine (hS _).mono ?_
  rintro en w2 ⟨rfl, b⟩
  have x := Box.new w2 T B 29
  replace y := y.under (b.alloc b.size (.cells #[.int .i64 T, .int .i64 B] 29))
  replace kb := below_more kb kb.size (b.alloc b.size (.cells #[.int .i64 T, .int .i64 B] 29))
  clear b hS
  go_upto_region 2 with fail
  generalize w2.heap.size = g1 at x ⊢
  generalize w2.alloc (.cells #[.int .i64 T, .int .i64 B] 29) = w3 at y x kb ⊢
  obtain ⟨c0, c1, c2⟩ := y.cells
  go_wp2_with fail
  refine (hT _).mono ?_
  rintro en w4 ⟨rfl, b⟩
  replace x := x.under b
  replace kb := below_more kb kb.size b
  clear b y hT c0 c1 c2
  go_wp2_with fail
  refine (hI _).mono ?_
  rintro en w5 ⟨rfl, b⟩
  have z := Box.new w5 T B 29
  replace x := x.under (b.alloc b.size (.cells #[.int .i64 T, .int .i64 B] 29))
  replace kb := below_more kb kb.size (b.alloc b.size (.cells #[.int .i64 T, .int .i64 B] 29))
  clear b hI
  go_upto_region 3 with fail
  generalize w5.heap.size = g2 at z ⊢
  generalize w5.alloc (.cells #[.int .i64 T, .int .i64 B] 29) = w6 at z x kb ⊢
  obtain ⟨c0, c1, d0, d1⟩ := And.intro x.c0 (And.intro x.c1 (And.intro z.c0 z.c1))
  go_wp2_with fail
  refine (hE _).mono ?_
  rintro en w7 ⟨rfl, b⟩
  replace kb := below_more kb kb.size b
  clear b hE x z c0 c1 d0 d1
  go_wp2_with fail
  go_ret
  exact ⟨rfl, kb⟩

set_option maxHeartbeats 1000000 in
theorem exactMarks_any (p s e u n : Int) (w : World) : Calls Try.prog 7 #[agg3 p s e, .int .i64 u, .int .i64 n] w fun e w' => e = .returned (.bool true) ∧ Below w.heap.size w w' := by
  have hT := fun W => toYard_any p s e W
  have hS := fun W => specMarks_any p s e u n W
  have hI := fun W => implMarks_any p s e u n W
  have hX := mkOf_len p s e u n
  generalize mkOf p s e u n = X at hS hI hX
  have hx1 : (X.length : Int) ≤ 21 := by omega
  have EX := fun (B B' : Option Addr) (d d' : Nat) W (r : FractionRow W B X) (r' : FractionRow W B' X) => eqFractions_same B B' _ d d' X W rfl (by omega) r r'
  have MX := fun (w0 : World) (R : List Rw) (A : Option Addr) (c : Nat) W (o : Own w0 W (frrow (.slice A X.length c) X :: R)) => markFraction_any w0 R 1 X.length c A X W rfl (by omega) (by omega) (by omega) o
  have HX := fun (A : Option Addr) (c : Nat) W (r : FractionRow W A (frmarks 1 X.length)) => heldFraction_any 1 X.length c A W (by omega) (by omega) (by omega) r
  clear hX
  have y := Tri.new w p s e 37
  have kb : Below w.heap.size w (w.alloc (obj3 p s e 37)) := (Below.refl _ _).alloc (Nat.le_refl _) _
  go_enter Try.func7, Try.ntmps7
  go_wp2_with fail
  refine (hT _).mono ?_
  rintro en w1 ⟨rfl, b⟩
  replace y := y.under b
  replace kb := below_more kb kb.size b
  clear b
  go_wp2_with fail
  refine (hS _).mono ?_
  rintro en w2 ⟨Y, dY, rfl, o, b⟩
  have r : FractionRow w2 Y X := frRow_own o
  replace y := y.under b
  replace kb := below_more kb kb.size b
  clear o b hS
  have H := Own.none w2
  have y2 := y
  obtain ⟨c0, c1, c2⟩ := y.cells
  go_wp2_with fail
  refine (hT _).mono ?_
  rintro en w1 ⟨rfl, b⟩
  replace y := y.under b
  replace H := H.keep b
  clear b c0 c1 c2
  go_wp2_with fail
  refine (hI _).mono ?_
  rintro en w4 ⟨G, dG, rfl, o, b⟩
  replace y := y.under b
  replace H := frrow_copy H o b
  clear o b
  replace H : Own w2 w4 [frrow (.slice G X.length dG) X] := H
  go_wp2_with fail
  refine (EX G Y _ _ _ (frrow_reads H (List.mem_cons_self) rfl rfl) (r.keep H.bel)).mono ?_
  rintro en w5 ⟨rfl, b⟩
  replace H := H.keep b
  replace y := y.under b
  clear b
  go_wp2_with fail
  refine (MX _ _ G dG _ H).mono ?_
  rintro en w6 ⟨rfl, H2⟩
  clear H
  have H : Own w2 w6 [frrow (.slice G X.length dG) (frmarks 1 X.length)] := H2
  clear H2
  go_wp2_with fail
  refine (HX G _ _ (frrow_reads H (List.mem_cons_self) rfl (frmarks_length _ _).symm)).mono ?_
  rintro en w7 ⟨rfl, rfl⟩
  replace y := y2.keep H.bel y2.lt
  clear y2
  obtain ⟨c0, c1, c2⟩ := y.cells
  go_wp2_with fail
  refine (hT _).mono ?_
  rintro en w1 ⟨rfl, b⟩
  replace y := y.under b
  replace H := H.keep b
  clear b c0 c1 c2
  go_wp2_with fail
  refine (hI _).mono ?_
  rintro en w8 ⟨N, dN, rfl, o, b⟩
  replace y := y.under b
  replace H := frrow_copy H o b
  clear o b
  replace H : Own w2 w8 [frrow (.slice N X.length dN) X, frrow (.slice G X.length dG) (frmarks 1 X.length)] := H
  go_wp2_with fail
  refine (EX N Y _ _ _ (frrow_reads H (List.mem_cons_self) rfl rfl) (r.keep H.bel)).mono ?_
  rintro en w9 ⟨rfl, b⟩
  replace H := H.keep b
  replace y := y.under b
  clear b
  go_wp2_with fail
  refine (HX G _ _ (frrow_reads H (List.mem_cons_of_mem _ (List.mem_cons_self)) rfl (frmarks_length _ _).symm)).mono ?_
  rintro en w10 ⟨rfl, rfl⟩
  replace kb := below_more kb kb.size H.bel
  clear H hI hT r y EX MX HX
  go_wp2_with fail
  go_ret
  exact ⟨rfl, kb⟩

end Go.Proofs.Ytjgonmabmannaaa
