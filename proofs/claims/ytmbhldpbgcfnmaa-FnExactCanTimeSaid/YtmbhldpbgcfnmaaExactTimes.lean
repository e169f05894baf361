/-
  The walks of the exact laws of chapter 12 over ints: where the model and the program answer the same.
-/
import Derived.Test.YtmbhldpbgcfnmaaSays
import Derived.Test.YtmbhldpbgcfnmaaRange
import Derived.Test.YtmbhldpbgcfnmaaIntMarks
namespace Go.Proofs.Ytmbhldpbgcfnmaa
open Go.ChangeShapes Go.WideShapes Go.ChangeAt Go.RowKit Go.PlainAid

set_option maxHeartbeats 1000000 in
theorem exactTimes_walk (m0 : Int) (m1 : Int) (m2 : Int) (X0 : List Int) (w : World)  (hX0 : X0.length ≤ 1048576)
    (hS : ∀  (W : World), Calls Try.prog 23 #[.int .i64 m0, .int .i64 m1, .int .i64 m2] W (Copied X0 W))
    (hI : ∀  (W : World), Calls Try.prog 13 #[.int .i64 m0, .int .i64 m1, .int .i64 m2] W (Copied X0 W))
    : Calls Try.prog 7 #[.int .i64 m0, .int .i64 m1, .int .i64 m2] w fun e w' => e = .returned (.bool true) ∧ Below w.heap.size w w' := by
  have hy0 : (X0.length : Int) ≤ 1048576 := by omega
  have EX0 := fun (B B' : Option Addr) (d d' : Nat) W (r : IntRow W B X0) (r' : IntRow W B' X0) => eqInts_same B B' _ d d' X0 W rfl (by omega) r r'
  have MX0 := fun (s : Int) (h0 : 0 ≤ s) (h1 : s ≤ 1000000000) (B : Nat) (A : Option Addr) (c : Nat) W (o : World.ownsRow W B 3 1 (.slice A X0.length c) X0.length (ints X0)) => imark_any B s X0.length c A _ W (by omega) h0 h1 o
  have HX0 := fun (s : Int) (h0 : 0 ≤ s) (h1 : s ≤ 1000000000) (A : Option Addr) (c : Nat) W (r : IntRow W A (iallMarks s X0.length)) => iheld_any s X0.length c A W (by omega) h0 h1 r
  have kb := Below.refl w.heap.size w
  clear hX0
  go_enter Try.func7, Try.ntmps7
  go_wp2_with fail
  refine (hS _).mono ?_
  rintro e w1 ⟨Y0, Yd0, rfl, o, b⟩
  have O : Own w w1 [irow (.slice Y0 X0.length Yd0) X0] := (Own.none _).add b o
  clear o b
  have b := O.bel
  have y0 : IntRow w1 Y0 X0 := O.row (v := .slice Y0 X0.length Yd0) (by simp) rfl rfl
  clear O hS
  replace kb := below_more kb kb.size b
  clear b
  have H := Own.none w1
  go_wp2_with fail
  refine (hI _).mono ?_
  rintro e w2 ⟨G0, Gd0, rfl, o, b⟩
  have O : Own w1 w2 [irow (.slice G0 X0.length Gd0) X0] := (Own.none _).add b o
  clear o b
  replace H := H.join O
  clear O
  replace H : Own w1 w2 [irow (.slice G0 X0.length Gd0) X0] := H
  go_wp2_with fail
  refine (EX0 G0 Y0 _ _ _ (H.row (v := .slice G0 X0.length Gd0) (by simp) rfl rfl) (y0.keep H.bel)).mono ?_
  rintro e w3 ⟨rfl, q, rfl⟩
  replace H := H.drew q
  generalize w2.drewN q = w3 at H ⊢
  clear q
  go_wp2_with fail
  refine (MX0 1 (by omega) (by omega) _ G0 Gd0 _ H.hd).mono ?_
  rintro e w4 ⟨rfl, o, g⟩
  replace H := H.over (iallMarks_length _ _) o g
  clear o g
  replace H : Own w1 w4 [irow (.slice G0 X0.length Gd0) (iallMarks 1 X0.length)] := H
  go_wp2_with fail
  refine (HX0 1 (by omega) (by omega) G0 _ _ (H.row (v := .slice G0 X0.length Gd0) (L := iallMarks 1 X0.length) (by simp [irow, iallMarks_length]) rfl (iallMarks_length _ _).symm)).mono ?_
  rintro e w5 ⟨rfl, q, rfl⟩
  replace H := H.drew q
  generalize w4.drewN q = w5 at H ⊢
  clear q
  go_wp2_with fail
  refine (hI _).mono ?_
  rintro e w6 ⟨N0, Nd0, rfl, o, b⟩
  have O : Own w5 w6 [irow (.slice N0 X0.length Nd0) X0] := (Own.none _).add b o
  clear o b
  replace H := H.join O
  clear O
  replace H : Own w1 w6 [irow (.slice N0 X0.length Nd0) X0, irow (.slice G0 X0.length Gd0) (iallMarks 1 X0.length)] := H
  go_wp2_with fail
  refine (EX0 N0 Y0 _ _ _ (H.row (v := .slice N0 X0.length Nd0) (by simp) rfl rfl) (y0.keep H.bel)).mono ?_
  rintro e w7 ⟨rfl, q, rfl⟩
  replace H := H.drew q
  generalize w6.drewN q = w7 at H ⊢
  clear q
  go_wp2_with fail
  refine (HX0 1 (by omega) (by omega) G0 _ _ (H.row (v := .slice G0 X0.length Gd0) (L := iallMarks 1 X0.length) (by simp [irow, iallMarks_length]) rfl (iallMarks_length _ _).symm)).mono ?_
  rintro e w8 ⟨rfl, q, rfl⟩
  replace H := H.drew q
  generalize w7.drewN q = w8 at H ⊢
  clear q
  replace kb := below_more kb kb.size H.bel
  clear H hI y0 EX0 MX0 HX0
  go_wp2_with fail
  go_ret
  exact ⟨rfl, kb⟩

theorem exactCan_walk (m0 : Int) (m1 : Int) (m2 : Int) (z0 : Bool) (w : World)  
    (hS : ∀  (W : World), Calls Try.prog 27 #[.int .i64 m0, .int .i64 m1, .int .i64 m2] W (SaysB z0 W))
    (hI : ∀  (W : World), Calls Try.prog 14 #[.int .i64 m0, .int .i64 m1, .int .i64 m2] W (SaysB z0 W))
    : Calls Try.prog 8 #[.int .i64 m0, .int .i64 m1, .int .i64 m2] w fun e w' => e = .returned (.bool true) ∧ Below w.heap.size w w' := by
  have kb := Below.refl w.heap.size w
  go_enter Try.func8, Try.ntmps8
  go_wp2_with fail
  refine (hS _).mono ?_
  rintro e w1 ⟨rfl, b⟩
  replace kb := below_more kb kb.size b
  clear b
  clear hS
  go_wp2_with fail
  refine (hI _).mono ?_
  rintro e w2 ⟨rfl, b⟩
  replace kb := below_more kb kb.size b
  clear b
  clear hI
  go_wp2_with fail
  go_ret
  exact ⟨rfl, kb⟩

end Go.Proofs.Ytmbhldpbgcfnmaa
