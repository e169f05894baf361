/-
  The walks of the exact laws on lists of lists of chapter 6: where the model and the program answer the same.
-/
import Derived.Test.YtdnjpekclmiliaaMarksOf
import Derived.Test.YtdnjpekclmiliaaRange
namespace Go.Proofs.Ytdnjpekclmiliaa
open Go.ChangeShapes Go.WideShapes Go.ChangeAt Go.RowKit Go.PlainAid

set_option maxHeartbeats 1000000 in
theorem exactLists_walk (m0 : Int) (X : List (List Int)) (w : World) (hX : X.length ≤ 1000000) (hl : ∀ L ∈ X, L.length ≤ 1000000000) (hz : sizeSS X ≤ 1000000)
    (hS : ∀ W, Calls Try.prog 21 #[.int .i64 m0] W (GivesSS X W)) (hI : ∀ W, Calls Try.prog 11 #[.int .i64 m0] W (GivesSS X W)) :
    Calls Try.prog 7 #[.int .i64 m0] w fun e w' => e = .returned (.bool true) ∧ Below w.heap.size w w' := by
  have hE := fun (B B' : Option Addr) (d d' : Nat) W (r : SSRow W B X) (r' : SSRow W B' X) => eqSS_same B B' _ d d' X W rfl (by omega) hl r r'
  have hM := fun (w0 : World) (B : Option Addr) (d : Nat) W (o : OwnSS w0 W (.slice B X.length d) X []) => markSS_any w0 1 B d _ X [] W rfl (by omega) (by omega) (by omega) o
  have hH := fun (B : Option Addr) (d : Nat) W (r : SSRow W B (marksSS 1 X)) => heldSS_any 1 B d _ X W rfl (by omega) (by omega) (by omega) r
  have hmi : ¬ (1 : Int) + (sizeSS X : Nat) < 0 := by omega
  have hxi : (X.length : Int) ≤ 1000000 := by omega
  have kb := Below.refl w.heap.size w
  clear hl hX
  go_enter Try.func7, Try.ntmps7
  go_wp2_with fail
  refine (hS _).mono ?_
  rintro e w1 ⟨Y, Yd, rfl, O⟩
  have y : SSRow w1 Y X := O.reads rfl
  replace kb := below_more kb kb.size O.bel
  clear O hS
  go_wp2_with fail
  refine (hI _).mono ?_
  rintro e w2 ⟨G, Gd, rfl, H⟩
  go_wp2_with fail
  refine (hE G Y _ _ _ (H.reads rfl) (y.keep H.bel)).mono ?_
  rintro e w3 ⟨rfl, q, rfl⟩
  replace H := H.keep (below_drewN (Below.refl w2.heap.size w2) q)
  generalize w2.drewN q = w3 at H ⊢
  clear q
  go_wp2_with fail
  refine (hM w1 G Gd _ H).mono ?_
  rintro e w4 ⟨rfl, H⟩
  go_wp2_with fail
  refine (hH G Gd _ (H.reads (marksSS_length _ _).symm)).mono ?_
  rintro e w5 ⟨rfl, q, rfl⟩
  replace H := H.keep (below_drewN (Below.refl w4.heap.size w4) q)
  generalize w4.drewN q = w5 at H ⊢
  clear q
  go_wp2_with fail
  refine (hI _).mono ?_
  rintro e w6 ⟨N, Nd, rfl, O⟩
  replace H := H.keep O.bel
  go_wp2_with fail
  refine (hE N Y _ _ _ (O.reads rfl) (y.keep H.bel)).mono ?_
  rintro e w7 ⟨rfl, q, rfl⟩
  replace H := H.keep (below_drewN (Below.refl w6.heap.size w6) q)
  clear O
  generalize w6.drewN q = w7 at H ⊢
  clear q
  go_wp2_with fail
  refine (hH G Gd _ (H.reads (marksSS_length _ _).symm)).mono ?_
  rintro e w8 ⟨rfl, q, rfl⟩
  replace H := H.keep (below_drewN (Below.refl w7.heap.size w7) q)
  generalize w7.drewN q = w8 at H ⊢
  replace kb := below_more kb kb.size H.bel
  clear H hE hM hH hI y q
  go_wp2_with fail
  go_ret
  exact ⟨rfl, kb⟩

set_option maxHeartbeats 1000000 in
theorem exactFactors_walk (m0 : Int) (X : List (List Int)) (w : World) (hX : X.length ≤ 1000000) (hl : ∀ L ∈ X, L.length ≤ 1000000000) (hz : sizeSS X ≤ 1000000)
    (hS : ∀ W, Calls Try.prog 25 #[.int .i64 m0] W (GivesSS X W)) (hI : ∀ W, Calls Try.prog 12 #[.int .i64 m0] W (GivesSS X W)) :
    Calls Try.prog 8 #[.int .i64 m0] w fun e w' => e = .returned (.bool true) ∧ Below w.heap.size w w' := by
  have hE := fun (B B' : Option Addr) (d d' : Nat) W (r : SSRow W B X) (r' : SSRow W B' X) => eqSS_same B B' _ d d' X W rfl (by omega) hl r r'
  have hM := fun (w0 : World) (B : Option Addr) (d : Nat) W (o : OwnSS w0 W (.slice B X.length d) X []) => markSS_any w0 1 B d _ X [] W rfl (by omega) (by omega) (by omega) o
  have hH := fun (B : Option Addr) (d : Nat) W (r : SSRow W B (marksSS 1 X)) => heldSS_any 1 B d _ X W rfl (by omega) (by omega) (by omega) r
  have hmi : ¬ (1 : Int) + (sizeSS X : Nat) < 0 := by omega
  have hxi : (X.length : Int) ≤ 1000000 := by omega
  have kb := Below.refl w.heap.size w
  clear hl hX
  go_enter Try.func8, Try.ntmps8
  go_wp2_with fail
  refine (hS _).mono ?_
  rintro e w1 ⟨Y, Yd, rfl, O⟩
  have y : SSRow w1 Y X := O.reads rfl
  replace kb := below_more kb kb.size O.bel
  clear O hS
  go_wp2_with fail
  refine (hI _).mono ?_
  rintro e w2 ⟨G, Gd, rfl, H⟩
  go_wp2_with fail
  refine (hE G Y _ _ _ (H.reads rfl) (y.keep H.bel)).mono ?_
  rintro e w3 ⟨rfl, q, rfl⟩
  replace H := H.keep (below_drewN (Below.refl w2.heap.size w2) q)
  generalize w2.drewN q = w3 at H ⊢
  clear q
  go_wp2_with fail
  refine (hM w1 G Gd _ H).mono ?_
  rintro e w4 ⟨rfl, H⟩
  go_wp2_with fail
  refine (hH G Gd _ (H.reads (marksSS_length _ _).symm)).mono ?_
  rintro e w5 ⟨rfl, q, rfl⟩
  replace H := H.keep (below_drewN (Below.refl w4.heap.size w4) q)
  generalize w4.drewN q = w5 at H ⊢
  clear q
  go_wp2_with fail
  refine (hI _).mono ?_
  rintro e w6 ⟨N, Nd, rfl, O⟩
  replace H := H.keep O.bel
  go_wp2_with fail
  refine (hE N Y _ _ _ (O.reads rfl) (y.keep H.bel)).mono ?_
  rintro e w7 ⟨rfl, q, rfl⟩
  replace H := H.keep (below_drewN (Below.refl w6.heap.size w6) q)
  clear O
  generalize w6.drewN q = w7 at H ⊢
  clear q
  go_wp2_with fail
  refine (hH G Gd _ (H.reads (marksSS_length _ _).symm)).mono ?_
  rintro e w8 ⟨rfl, q, rfl⟩
  replace H := H.keep (below_drewN (Below.refl w7.heap.size w7) q)
  generalize w7.drewN q = w8 at H ⊢
  replace kb := below_more kb kb.size H.bel
  clear H hE hM hH hI y q
  go_wp2_with fail
  go_ret
  exact ⟨rfl, kb⟩

end Go.Proofs.Ytdnjpekclmiliaa
