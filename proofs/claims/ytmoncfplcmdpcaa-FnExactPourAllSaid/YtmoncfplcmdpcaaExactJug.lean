/-
  The exact laws of chapter 11 over jugs: the model and the program answer the same.
-/
import Derived.Test.YtmoncfplcmdpcaaImplAll
import Derived.Test.YtmoncfplcmdpcaaSpecAll
import Derived.Test.YtmoncfplcmdpcaaSays
namespace Go.Proofs.Ytmoncfplcmdpcaa
open Go.ChangeShapes Go.WideShapes Go.ChangeAt Go.RowKit Go.PlainAid

/-- A block of four. -/
theorem cells4 {w : World} {p : Nat} {u0 u1 u2 u3 : Value} {t : TypeId} (h : w.heap[p]? = some (.cells #[u0, u1, u2, u3] t)) : w.cell? ⟨p, 0, none⟩ = some u0 ∧ w.cell? ⟨p, 1, none⟩ = some u1 ∧ w.cell? ⟨p, 2, none⟩ = some u2 ∧ w.cell? ⟨p, 3, none⟩ = some u3 := by
  refine ⟨?_, ?_, ?_, ?_⟩ <;> simp [World.cell?, h]
theorem block_keep {w w' : World} {p : Nat} {o : Obj} (h : w.heap[p]? = some o) (b : Below w.heap.size w w') : w'.heap[p]? = some o := (b.block p (Array.getElem?_eq_some_iff.1 h).1).trans h
theorem block_alloc {w : World} {p : Nat} {o : Obj} (h : w.heap[p]? = some o) (ob : Obj) : (w.alloc ob).heap[p]? = some o := block_keep h ((Below.refl _ _).alloc (Nat.le_refl _) ob)

theorem exactJugsOk_any (a b x y : Int) (w : World) : Calls Try.prog 4 #[jagg a b x y] w fun e w' => e = .returned (.bool true) ∧ Below w.heap.size w w' := by
  have hT := fun W => toJugs_any a b x y W
  have hS := fun W => specJugsOk_any a b x y W
  have hI := fun W => implJugsOk_any a b x y W
  generalize okJ a b x y = z at hS hI
  have kb : Below w.heap.size w (w.alloc (jobj a b x y 34)) := (Below.refl _ _).alloc (Nat.le_refl _) _
  have p0 := heap_alloc_new w (jobj a b x y 34)
  go_enter Try.func4, Try.ntmps4
  go_wp2_with fail
  refine (hT _).mono ?_
  rintro e w1 ⟨rfl, b⟩
  replace p0 := block_keep p0 b
  replace kb := below_more kb kb.size b
  clear b
  go_wp2_with fail
  refine (hS _).mono ?_
  clear hS
  rintro e w2 ⟨rfl, b⟩
  replace p0 := block_keep p0 b
  replace kb := below_more kb kb.size b
  clear b
  obtain ⟨c0, c1, c2, c3⟩ := cells4 p0
  go_wp2_with fail
  refine (hT _).mono ?_
  clear hT c0 c1 c2 c3
  rintro e w3 ⟨rfl, b⟩
  replace kb := below_more kb kb.size b
  clear b p0
  go_wp2_with fail
  refine (hI _).mono ?_
  clear hI
  rintro e w4 ⟨rfl, b⟩
  replace kb := below_more kb kb.size b
  clear b
  go_wp2_with fail
  go_ret
  exact ⟨rfl, kb⟩

theorem exactPour_any (a b x y act : Int) (w : World) : Calls Try.prog 5 #[jagg a b x y, .int .i64 act] w fun e w' => e = .returned (.bool true) ∧ Below w.heap.size w w' := by
  have hT := fun W => toJugs_any a b x y W
  have hS := fun W => specPour_any a b x y act W
  have hI := fun W => implPour_any a b x y act W
  generalize pS a b x y act = T at hS hI
  generalize pO a b x y act = z at hS hI
  obtain ⟨X, Y⟩ := T
  dsimp only at hS hI
  have hE := fun W => eqJugs_any a b X Y W
  have kb : Below w.heap.size w (w.alloc (jobj a b x y 34)) := (Below.refl _ _).alloc (Nat.le_refl _) _
  have p0 := heap_alloc_new w (jobj a b x y 34)
  go_enter Try.func5, Try.ntmps5
  go_wp2_with fail
  refine (hT _).mono ?_
  rintro e w1 ⟨rfl, b⟩
  replace p0 := block_keep p0 b
  replace kb := below_more kb kb.size b
  clear b
  go_wp2_with fail
  refine (hS _).mono ?_
  clear hS
  rintro e w2 ⟨rfl, b⟩
  replace p0 := block_keep p0 b
  replace kb := below_more kb kb.size b
  clear b
  have p1 := JBox.new w2 a b X Y
  replace p0 := block_alloc p0 (jobj a b X Y 30)
  replace kb := kb.alloc kb.size (jobj a b X Y 30)
  go_upto_region 2 with fail
  generalize w2.heap.size = g1 at p1 ⊢
  generalize w2.alloc (jobj a b X Y 30) = w3 at p0 p1 kb ⊢
  obtain ⟨c0, c1, c2, c3⟩ := cells4 p0
  go_wp2_with fail
  refine (hT _).mono ?_
  clear hT c0 c1 c2 c3
  rintro e w4 ⟨rfl, b⟩
  replace p1 := p1.keep b p1.lt
  replace kb := below_more kb kb.size b
  clear b p0
  go_wp2_with fail
  refine (hI _).mono ?_
  clear hI
  rintro e w5 ⟨rfl, b⟩
  replace p1 := p1.keep b p1.lt
  replace kb := below_more kb kb.size b
  clear b
  have p2 := JBox.new w5 a b X Y
  replace p1 := p1.alloc (jobj a b X Y 30)
  replace kb := kb.alloc kb.size (jobj a b X Y 30)
  go_upto_region 3 with fail
  generalize w5.heap.size = g2 at p2 ⊢
  generalize w5.alloc (jobj a b X Y 30) = w6 at p1 p2 kb ⊢
  obtain ⟨c0, c1, c2, c3⟩ := p1.cells
  obtain ⟨d0, d1, d2, d3⟩ := p2.cells
  clear p1 p2
  go_wp2_with fail
  refine (hE _).mono ?_
  clear hE c0 c1 c2 c3 d0 d1 d2 d3
  rintro e w7 ⟨rfl, b⟩
  replace kb := below_more kb kb.size b
  clear b
  go_wp2_with fail
  go_ret
  exact ⟨rfl, kb⟩

theorem exactPourAll_any (a b x y : Int) (A : Option Addr) (c n : Nat) (L : List Int) (w : World) (hn : L.length = n) (hm : n ≤ 1048576) (r : IntRow w A L) : Calls Try.prog 6 #[jagg a b x y, .slice A n c] w fun e w' => e = .returned (.bool true) ∧ Below w.heap.size w w' := by
  subst hn
  have hT := fun W => toJugs_any a b x y W
  have hC := fun W (r : IntRow W A L) => toInts_any A c _ L W rfl hm r
  have hS := fun (B : Option Addr) (d : Nat) W (r : IntRow W B L) => specAll_any a b x y B d _ L W rfl (by omega) r
  have hI := fun (B : Option Addr) (d : Nat) W (r : IntRow W B L) => implAll_any a b x y B d _ L W rfl (by omega) r
  have hQ := fun (B B' : Option Addr) (d d' : Nat) W (r : IntRow W B L) (r' : IntRow W B' L) => eqInts_same B B' _ d d' L W rfl (by omega) r r'
  generalize paS a b x y L = T at hS hI
  generalize paO a b x y L = z at hS hI
  obtain ⟨X, Y⟩ := T
  dsimp only at hS hI
  have hE := fun W => eqJugs_any a b X Y W
  have hbig : ¬ (1048576 : Int) < L.length := by omega
  have kb : Below w.heap.size w (w.alloc (jobj a b x y 34)) := (Below.refl _ _).alloc (Nat.le_refl _) _
  have p0 := heap_alloc_new w (jobj a b x y 34)
  replace r := r.keep kb
  clear hm
  go_enter Try.func6, Try.ntmps6
  go_wp2_with fail
  refine (hT _).mono ?_
  rintro e w1 ⟨rfl, b⟩
  replace p0 := block_keep p0 b
  replace r := r.keep b
  replace kb := below_more kb kb.size b
  clear b
  go_wp2_with fail
  refine (hC _ r).mono ?_
  rintro e w2 ⟨A2, d2, rfl, o, b⟩
  have x2 := intRow_own o
  replace p0 := block_keep p0 b
  replace r := r.keep b
  replace kb := below_more kb kb.size b
  clear b o
  go_wp2_with fail
  refine (hS _ _ _ x2).mono ?_
  clear hS x2
  rintro e w3 ⟨rfl, b⟩
  replace p0 := block_keep p0 b
  replace r := r.keep b
  replace kb := below_more kb kb.size b
  clear b
  have p1 := JBox.new w3 a b X Y
  replace p0 := block_alloc p0 (jobj a b X Y 30)
  replace r := r.keep ((Below.refl _ _).alloc (Nat.le_refl _) (jobj a b X Y 30))
  replace kb := kb.alloc kb.size (jobj a b X Y 30)
  go_upto_region 4 with fail
  generalize w3.heap.size = g1 at p1 ⊢
  generalize w3.alloc (jobj a b X Y 30) = w4 at p0 p1 kb r ⊢
  go_wp2_with fail
  refine (hC _ r).mono ?_
  rintro e w5 ⟨A5, d5, rfl, o, b⟩
  have x5 := intRow_own o
  replace p0 := block_keep p0 b
  replace p1 := p1.keep b p1.lt
  replace r := r.keep b
  replace kb := below_more kb kb.size b
  clear b o
  obtain ⟨c0, c1, c2, c3⟩ := cells4 p0
  go_wp2_with fail
  refine (hT _).mono ?_
  clear hT c0 c1 c2 c3 p0
  rintro e w6 ⟨rfl, b⟩
  replace p1 := p1.keep b p1.lt
  replace r := r.keep b
  replace x5 := x5.keep b
  replace kb := below_more kb kb.size b
  clear b
  go_wp2_with fail
  refine (hI _ _ _ x5).mono ?_
  clear hI
  rintro e w7 ⟨rfl, b⟩
  replace p1 := p1.keep b p1.lt
  replace r := r.keep b
  replace x5 := x5.keep b
  replace kb := below_more kb kb.size b
  clear b
  have p2 := JBox.new w7 a b X Y
  replace p1 := p1.alloc (jobj a b X Y 30)
  replace r := r.keep ((Below.refl _ _).alloc (Nat.le_refl _) (jobj a b X Y 30))
  replace x5 := x5.keep ((Below.refl _ _).alloc (Nat.le_refl _) (jobj a b X Y 30))
  replace kb := kb.alloc kb.size (jobj a b X Y 30)
  go_upto_region 6 with fail
  generalize w7.heap.size = g2 at p2 ⊢
  generalize w7.alloc (jobj a b X Y 30) = w8 at p1 p2 kb r x5 ⊢
  obtain ⟨c0, c1, c2, c3⟩ := p1.cells
  obtain ⟨d0, d1, d2', d3⟩ := p2.cells
  clear p1 p2
  go_wp2_with fail
  refine (hE _).mono ?_
  clear hE c0 c1 c2 c3 d0 d1 d2' d3
  rintro e w9 ⟨rfl, b⟩
  replace r := r.keep b
  replace x5 := x5.keep b
  replace kb := below_more kb kb.size b
  clear b
  go_wp2_with fail
  refine (hC _ r).mono ?_
  clear hC
  rintro e w10 ⟨A10, d10, rfl, o, b⟩
  have x10 := intRow_own o
  replace x5 := x5.keep b
  replace kb := below_more kb kb.size b
  clear b o r
  go_wp2_with fail
  refine (hQ _ _ _ _ _ x5 x10).mono ?_
  clear hQ x5 x10
  rintro e w11 ⟨rfl, q, rfl⟩
  replace kb := below_drewN kb q
  go_wp2_with fail
  go_ret
  exact ⟨rfl, kb⟩
theorem exactPourAll_big (a b x y : Int) (A : Option Addr) (c n : Nat) (w : World) (hl : 1048576 < n) (hm : n ≤ 9223372036854775807) : Calls Try.prog 6 #[jagg a b x y, .slice A n c] w fun e w' => e = .returned (.bool true) ∧ Below w.heap.size w w' := by
  have hb : (1048576 : Int) < n := by omega
  have kb : Below w.heap.size w (w.alloc (jobj a b x y 34)) := (Below.refl _ _).alloc (Nat.le_refl _) _
  clear hm
  go_enter Try.func6, Try.ntmps6
  go_wp2_with fail
  go_ret
  exact ⟨rfl, kb⟩
end Go.Proofs.Ytmoncfplcmdpcaa
