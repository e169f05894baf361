/-
  The exact laws of chapter 12 over glasses: the model and the program answer the same.
-/
import Derived.Test.YtmbhldpbgcfnmaaImplFlip
import Derived.Test.YtmbhldpbgcfnmaaSpecFlip
import Derived.Test.YtmbhldpbgcfnmaaImplRun
import Derived.Test.YtmbhldpbgcfnmaaSpecRun
import Derived.Test.YtmbhldpbgcfnmaaSays
import Derived.Deep.DeepCutAuto
import Derived.Deep.Cut
namespace Go.Proofs.Ytmbhldpbgcfnmaa
open Go.ChangeShapes Go.WideShapes Go.ChangeAt Go.RowKit Go.PlainAid

theorem exactGlassesOk_any (a b x y : Int) (w : World) : Calls Try.prog 4 #[jagg a b x y] w fun e w' => e = .returned (.bool true) ∧ Below w.heap.size w w' := by
  have hT := fun W => toGlasses_any a b x y W
  have hS := fun W => specGlassesOk_any a b x y W
  have hI := fun W => implGlassesOk_any a b x y W
  generalize okG a b x y = z at hS hI
  have kb : Below w.heap.size w (w.alloc (jobj a b x y 36)) := (Below.refl _ _).alloc (Nat.le_refl _) _
  have p0 := heap_alloc_new w (jobj a b x y 36)
  go_enter Try.func4, Try.ntmps4
  go_wp2_with fail
  refine (hT _).mono ?_
  rintro e w1 ⟨rfl, b⟩
  replace p0 := block_keep p0 b
  replace kb := below_more kb kb.size b
  clear b
  go_wp2_with fail
  refine (hS _).mono ?_
  clear hS
  rintro e w2 ⟨rfl, b⟩
  replace p0 := block_keep p0 b
  replace kb := below_more kb kb.size b
  clear b
  obtain ⟨c0, c1, c2, c3⟩ := cells4 p0
  go_wp2_with fail
  refine (hT _).mono ?_
  clear hT c0 c1 c2 c3
  rintro e w3 ⟨rfl, b⟩
  replace kb := below_more kb kb.size b
  clear b p0
  go_wp2_with fail
  refine (hI _).mono ?_
  clear hI
  rintro e w4 ⟨rfl, b⟩
  replace kb := below_more kb kb.size b
  clear b
  go_wp2_with fail
  go_ret
  exact ⟨rfl, kb⟩

theorem exactRun_any (a b x y : Int) (w : World) : Calls Try.prog 6 #[jagg a b x y] w fun e w' => e = .returned (.bool true) ∧ Below w.heap.size w w' := by
  have hT := fun W => toGlasses_any a b x y W
  have hS := fun W => specRun_any a b x y W
  have hI := fun W => implRun_any a b x y W
  generalize roS a b x y = T at hS hI
  generalize roN a b x y = z at hS hI
  obtain ⟨X, Y⟩ := T
  dsimp only at hS hI
  have hE := fun W => eqGlasses_any a b X Y W
  have kb : Below w.heap.size w (w.alloc (jobj a b x y 36)) := (Below.refl _ _).alloc (Nat.le_refl _) _
  have p0 := heap_alloc_new w (jobj a b x y 36)
  go_enter Try.func6, Try.ntmps6
  go_wp2_with fail
  refine (hT _).mono ?_
  rintro e w1 ⟨rfl, b⟩
  replace p0 := block_keep p0 b
  replace kb := below_more kb kb.size b
  clear b
  go_wp2_with fail
  refine (hS _).mono ?_
  clear hS
  rintro e w2 ⟨rfl, b⟩
  replace p0 := block_keep p0 b
  replace kb := below_more kb kb.size b
  clear b
  have p1 := JBox.new w2 a b X Y
  replace p0 := block_alloc p0 (jobj a b X Y 25)
  replace kb := kb.alloc kb.size (jobj a b X Y 25)
  go_upto_region 2 with fail
  generalize w2.heap.size = g1 at p1 ⊢
  generalize w2.alloc (jobj a b X Y 25) = w3 at p0 p1 kb ⊢
  obtain ⟨c0, c1, c2, c3⟩ := cells4 p0
  go_wp2_with fail
  refine (hT _).mono ?_
  clear hT c0 c1 c2 c3
  rintro e w4 ⟨rfl, b⟩
  replace p1 := p1.keep b p1.lt
  replace kb := below_more kb kb.size b
  clear b p0
  go_wp2_with fail
  refine (hI _).mono ?_
  clear hI
  rintro e w5 ⟨rfl, b⟩
  replace p1 := p1.keep b p1.lt
  replace kb := below_more kb kb.size b
  clear b
  have p2 := JBox.new w5 a b X Y
  replace p1 := p1.alloc (jobj a b X Y 25)
  replace kb := kb.alloc kb.size (jobj a b X Y 25)
  go_upto_region 3 with fail
  generalize w5.heap.size = g2 at p2 ⊢
  generalize w5.alloc (jobj a b X Y 25) = w6 at p1 p2 kb ⊢
  obtain ⟨c0, c1, c2, c3⟩ := p1.cells
  obtain ⟨d0, d1, d2, d3⟩ := p2.cells
  clear p1 p2
  go_wp2_with fail
  refine (hE _).mono ?_
  clear hE c0 c1 c2 c3 d0 d1 d2 d3
  rintro e w7 ⟨rfl, b⟩
  replace kb := below_more kb kb.size b
  clear b
  go_wp2_with fail
  go_ret
  exact ⟨rfl, kb⟩

theorem exactFlip_any (a b x y act : Int) (w : World) : Calls Try.prog 5 #[jagg a b x y, .int .i64 act] w fun e w' => e = .returned (.bool true) ∧ Below w.heap.size w w' := by
  have hT := fun W => toGlasses_any a b x y W
  have hS := fun W => specFlip_any a b x y act W
  have hI := fun W => implFlip_any a b x y act W
  generalize flS a b x y act = T at hS hI
  obtain ⟨X, Y⟩ := T
  dsimp only at hS hI
  have hE := fun W => eqGlasses_any a b X Y W
  have kb : Below w.heap.size w (w.alloc (jobj a b x y 36)) := (Below.refl _ _).alloc (Nat.le_refl _) _
  have p0 := heap_alloc_new w (jobj a b x y 36)
  go_enter Try.func5, Try.ntmps5
  go_wp2_with fail
  refine (hT _).mono ?_
  rintro e w1 ⟨rfl, b⟩
  replace p0 := block_keep p0 b
  replace kb := below_more kb kb.size b
  clear b
  go_wp2_with fail
  refine (hS _).mono ?_
  clear hS
  rintro e w2 ⟨rfl, b⟩
  replace p0 := block_keep p0 b
  replace kb := below_more kb kb.size b
  clear b
  have p1 := JBox.new w2 a b X Y
  replace p0 := block_alloc p0 (jobj a b X Y 25)
  replace kb := kb.alloc kb.size (jobj a b X Y 25)
  go_upto_region 2 with fail
  generalize w2.heap.size = g1 at p1 ⊢
  generalize w2.alloc (jobj a b X Y 25) = w3 at p0 p1 kb ⊢
  obtain ⟨c0, c1, c2, c3⟩ := cells4 p0
  go_wp2_with fail
  refine (hT _).mono ?_
  clear hT c0 c1 c2 c3
  rintro e w4 ⟨rfl, b⟩
  replace p1 := p1.keep b p1.lt
  replace kb := below_more kb kb.size b
  clear b p0
  go_wp2_with fail
  refine (hI _).mono ?_
  clear hI
  rintro e w5 ⟨rfl, b⟩
  replace p1 := p1.keep b p1.lt
  replace kb := below_more kb kb.size b
  clear b
  have p2 := JBox.new w5 a b X Y
  replace p1 := p1.alloc (jobj a b X Y 25)
  replace kb := kb.alloc kb.size (jobj a b X Y 25)
  go_upto_region 3 with fail
  generalize w5.heap.size = g2 at p2 ⊢
  generalize w5.alloc (jobj a b X Y 25) = w6 at p1 p2 kb ⊢
  obtain ⟨c0, c1, c2, c3⟩ := p1.cells
  obtain ⟨d0, d1, d2, d3⟩ := p2.cells
  clear p1 p2
  go_wp2_with fail
  refine (hE _).mono ?_
  clear hE c0 c1 c2 c3 d0 d1 d2 d3
  rintro e w7 ⟨rfl, b⟩
  replace kb := below_more kb kb.size b
  clear b
  go_wp2_with fail
  go_ret
  exact ⟨rfl, kb⟩

end Go.Proofs.Ytmbhldpbgcfnmaa
