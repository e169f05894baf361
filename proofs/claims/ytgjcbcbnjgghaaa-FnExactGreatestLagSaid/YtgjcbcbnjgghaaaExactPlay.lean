/-
  The walks of the exact laws of chapter 18: where the model and the program answer the same.
-/
import Derived.Test.YtgjcbcbnjgghaaaSays
import Derived.Test.YtgjcbcbnjgghaaaRange
import Derived.Test.YtgjcbcbnjgghaaaIntMarks
import Derived.Test.YtgjcbcbnjgghaaaToInts
import Derived.Test.YtgjcbcbnjgghaaaEqInts
namespace Go.Proofs.Ytgjcbcbnjgghaaa
open Go.ChangeShapes Go.WideShapes Go.ChangeAt Go.RowKit Go.PlainAid

theorem exactPlayOk_walk (m0 : Int) (m1 : Int) (z0 : Bool) (w : World)  
    (hS : ∀  (W : World), Calls Try.prog 18 #[.int .i64 m0, .int .i64 m1] W (SaysB z0 W))
    (hI : ∀  (W : World), Calls Try.prog 17 #[.int .i64 m0, .int .i64 m1] W (SaysB z0 W))
    : Calls Try.prog 4 #[.int .i64 m0, .int .i64 m1] w fun e w' => e = .returned (.bool true) ∧ Below w.heap.size w w' := by
  have kb := Below.refl w.heap.size w
  go_enter Try.func4, Try.ntmps4
  go_wp2_with fail
  refine (hS _).mono ?_
  rintro e w1 ⟨rfl, b⟩
  replace kb := below_more kb kb.size b
  clear b
  clear hS
  go_wp2_with fail
  refine (hI _).mono ?_
  rintro e w2 ⟨rfl, b⟩
  replace kb := below_more kb kb.size b
  clear b
  clear hI
  go_wp2_with fail
  go_ret
  exact ⟨rfl, kb⟩

theorem exactStep_walk (m0 : Int) (m1 : Int) (m2 : Int) (x0 : Int) (w : World)  
    (hS : ∀  (W : World), Calls Try.prog 19 #[.int .i64 m0, .int .i64 m1, .int .i64 m2] W (SaysI x0 W))
    (hI : ∀  (W : World), Calls Try.prog 13 #[.int .i64 m0, .int .i64 m1, .int .i64 m2] W (SaysI x0 W))
    : Calls Try.prog 5 #[.int .i64 m0, .int .i64 m1, .int .i64 m2] w fun e w' => e = .returned (.bool true) ∧ Below w.heap.size w w' := by
  have kb := Below.refl w.heap.size w
  go_enter Try.func5, Try.ntmps5
  go_wp2_with fail
  refine (hS _).mono ?_
  rintro e w1 ⟨rfl, b⟩
  replace kb := below_more kb kb.size b
  clear b
  clear hS
  go_wp2_with fail
  refine (hI _).mono ?_
  rintro e w2 ⟨rfl, b⟩
  replace kb := below_more kb kb.size b
  clear b
  clear hI
  go_wp2_with fail
  go_ret
  exact ⟨rfl, kb⟩

set_option maxHeartbeats 1000000 in
theorem exactAll_walk (m0 : Int) (m1 : Int) (A2 : Option Addr) (c2 : Nat) (L2 : List Int) (X0 : List Int) (w : World) (hm2 : L2.length ≤ 1048576) (r2 : IntRow w A2 L2) (hX0 : X0.length ≤ 1048576)
    (hS : ∀ (A2 : Option Addr) (c2 : Nat) (W : World), IntRow W A2 L2 → Calls Try.prog 20 #[.int .i64 m0, .int .i64 m1, .slice A2 L2.length c2] W (Copied X0 W))
    (hI : ∀ (A2 : Option Addr) (c2 : Nat) (W : World), IntRow W A2 L2 → Calls Try.prog 11 #[.int .i64 m0, .int .i64 m1, .slice A2 L2.length c2] W (Copied X0 W))
    : Calls Try.prog 6 #[.int .i64 m0, .int .i64 m1, .slice A2 L2.length c2] w fun e w' => e = .returned (.bool true) ∧ Below w.heap.size w w' := by
  have T2 := fun W (r : IntRow W A2 L2) => toInts_any A2 c2 _ L2 W rfl hm2 r
  have hb2 : ¬ (1048576 : Int) < L2.length := by omega
  have E2 := fun (B B' : Option Addr) (d d' : Nat) W (r : IntRow W B L2) (r' : IntRow W B' L2) => eqInts_same B B' _ d d' L2 W rfl (by omega) r r'
  have M2 := fun (s : Int) (h0 : 0 ≤ s) (h1 : s ≤ 1000000000) (B : Nat) (A : Option Addr) (c : Nat) W (o : World.ownsRow W B 3 1 (.slice A L2.length c) L2.length (ints L2)) => imark_any B s L2.length c A _ W (by omega) h0 h1 o
  have hy0 : (X0.length : Int) ≤ 1048576 := by omega
  have EX0 := fun (B B' : Option Addr) (d d' : Nat) W (r : IntRow W B X0) (r' : IntRow W B' X0) => eqInts_same B B' _ d d' X0 W rfl (by omega) r r'
  have MX0 := fun (s : Int) (h0 : 0 ≤ s) (h1 : s ≤ 1000000000) (B : Nat) (A : Option Addr) (c : Nat) W (o : World.ownsRow W B 3 1 (.slice A X0.length c) X0.length (ints X0)) => imark_any B s X0.length c A _ W (by omega) h0 h1 o
  have HX0 := fun (s : Int) (h0 : 0 ≤ s) (h1 : s ≤ 1000000000) (A : Option Addr) (c : Nat) W (r : IntRow W A (iallMarks s X0.length)) => iheld_any s X0.length c A W (by omega) h0 h1 r
  have kb := Below.refl w.heap.size w
  clear hm2 hX0
  go_enter Try.func6, Try.ntmps6
  go_wp2_with fail
  refine (T2 _ r2).mono ?_
  rintro e w1 ⟨B1, d1, rfl, o1, b⟩
  have x1 := intRow_own o1
  clear o1
  replace r2 := r2.keep b
  replace kb := below_more kb kb.size b
  clear b
  go_wp2_with fail
  refine (hS B1 d1 _ x1).mono ?_
  rintro e w2 ⟨Y0, Yd0, rfl, o, b⟩
  have O : Own w1 w2 [irow (.slice Y0 X0.length Yd0) X0] := (Own.none _).add b o
  clear o b
  clear x1
  have b := O.bel
  have y0 : IntRow w2 Y0 X0 := O.row (v := .slice Y0 X0.length Yd0) (by simp) rfl rfl
  clear O hS
  replace r2 := r2.keep b
  replace kb := below_more kb kb.size b
  clear b
  have H := Own.none w2
  go_wp2_with fail
  refine (T2 _ (r2.keep H.bel)).mono ?_
  rintro e w3 ⟨B3, d3, rfl, o, b⟩
  replace H := H.add b o
  clear o b
  replace H : Own w2 w3 [irow (.slice B3 L2.length d3) L2] := H
  have x3 : IntRow w3 B3 L2 := H.row (v := .slice B3 L2.length d3) (by simp) rfl rfl
  go_wp2_with fail
  refine (hI B3 d3 _ x3).mono ?_
  rintro e w4 ⟨G0, Gd0, rfl, o, b⟩
  have O : Own w3 w4 [irow (.slice G0 X0.length Gd0) X0] := (Own.none _).add b o
  clear o b
  clear x3
  replace H := H.join O
  clear O
  replace H : Own w2 w4 [irow (.slice G0 X0.length Gd0) X0, irow (.slice B3 L2.length d3) L2] := H
  go_wp2_with fail
  refine (EX0 G0 Y0 _ _ _ (H.row (v := .slice G0 X0.length Gd0) (by simp) rfl rfl) (y0.keep H.bel)).mono ?_
  rintro e w5 ⟨rfl, q, rfl⟩
  replace H := H.drew q
  generalize w4.drewN q = w5 at H ⊢
  clear q
  go_wp2_with fail
  refine (T2 _ (r2.keep H.bel)).mono ?_
  rintro e w6 ⟨C, dC, rfl, o, b⟩
  have c := intRow_own o
  replace H := H.keep b
  clear o b
  go_wp2_with fail
  refine (E2 B3 C _ _ _ (H.row (v := .slice B3 L2.length d3) (by simp) rfl rfl) c).mono ?_
  rintro e w7 ⟨rfl, q, rfl⟩
  replace H := H.drew q
  generalize w6.drewN q = w7 at H ⊢
  clear q c
  replace H := H.swap
  go_wp2_with fail
  refine (M2 1 (by omega) (by omega) _ B3 d3 _ H.hd).mono ?_
  rintro e w8 ⟨rfl, o, g⟩
  replace H := H.over (iallMarks_length _ _) o g
  clear o g
  replace H := H.swap
  replace H : Own w2 w8 [irow (.slice G0 X0.length Gd0) X0, irow (.slice B3 L2.length d3) (iallMarks 1 L2.length)] := H
  go_wp2_with fail
  refine (EX0 G0 Y0 _ _ _ (H.row (v := .slice G0 X0.length Gd0) (by simp) rfl rfl) (y0.keep H.bel)).mono ?_
  rintro e w9 ⟨rfl, q, rfl⟩
  replace H := H.drew q
  generalize w8.drewN q = w9 at H ⊢
  clear q
  go_wp2_with fail
  refine (MX0 1 (by omega) (by omega) _ G0 Gd0 _ H.hd).mono ?_
  rintro e w10 ⟨rfl, o, g⟩
  replace H := H.over (iallMarks_length _ _) o g
  clear o g
  replace H : Own w2 w10 [irow (.slice G0 X0.length Gd0) (iallMarks 1 X0.length), irow (.slice B3 L2.length d3) (iallMarks 1 L2.length)] := H
  go_wp2_with fail
  refine (HX0 1 (by omega) (by omega) G0 _ _ (H.row (v := .slice G0 X0.length Gd0) (L := iallMarks 1 X0.length) (by simp [irow, iallMarks_length]) rfl (iallMarks_length _ _).symm)).mono ?_
  rintro e w11 ⟨rfl, q, rfl⟩
  replace H := H.drew q
  generalize w10.drewN q = w11 at H ⊢
  clear q
  go_wp2_with fail
  refine (T2 _ (r2.keep H.bel)).mono ?_
  rintro e w12 ⟨B12, d12, rfl, o, b⟩
  replace H := H.add b o
  clear o b
  replace H : Own w2 w12 [irow (.slice B12 L2.length d12) L2, irow (.slice G0 X0.length Gd0) (iallMarks 1 X0.length), irow (.slice B3 L2.length d3) (iallMarks 1 L2.length)] := H
  have x12 : IntRow w12 B12 L2 := H.row (v := .slice B12 L2.length d12) (by simp) rfl rfl
  go_wp2_with fail
  refine (hI B12 d12 _ x12).mono ?_
  rintro e w13 ⟨N0, Nd0, rfl, o, b⟩
  have O : Own w12 w13 [irow (.slice N0 X0.length Nd0) X0] := (Own.none _).add b o
  clear o b
  clear x12
  replace H := H.join O
  clear O
  replace H : Own w2 w13 [irow (.slice N0 X0.length Nd0) X0, irow (.slice B12 L2.length d12) L2, irow (.slice G0 X0.length Gd0) (iallMarks 1 X0.length), irow (.slice B3 L2.length d3) (iallMarks 1 L2.length)] := H
  go_wp2_with fail
  refine (EX0 N0 Y0 _ _ _ (H.row (v := .slice N0 X0.length Nd0) (by simp) rfl rfl) (y0.keep H.bel)).mono ?_
  rintro e w14 ⟨rfl, q, rfl⟩
  replace H := H.drew q
  generalize w13.drewN q = w14 at H ⊢
  clear q
  go_wp2_with fail
  refine (HX0 1 (by omega) (by omega) G0 _ _ (H.row (v := .slice G0 X0.length Gd0) (L := iallMarks 1 X0.length) (by simp [irow, iallMarks_length]) rfl (iallMarks_length _ _).symm)).mono ?_
  rintro e w15 ⟨rfl, q, rfl⟩
  replace H := H.drew q
  generalize w14.drewN q = w15 at H ⊢
  clear q
  replace kb := below_more kb kb.size H.bel
  clear H hI r2 T2 E2 M2 y0 EX0 MX0 HX0
  go_wp2_with fail
  go_ret
  exact ⟨rfl, kb⟩

theorem exactMoves_walk (m0 : Int) (m1 : Int) (A2 : Option Addr) (c2 : Nat) (L2 : List Int) (x0 : Int) (w : World) (hm2 : L2.length ≤ 1048576) (r2 : IntRow w A2 L2) 
    (hS : ∀ (A2 : Option Addr) (c2 : Nat) (W : World), IntRow W A2 L2 → Calls Try.prog 25 #[.int .i64 m0, .int .i64 m1, .slice A2 L2.length c2] W (SaysI x0 W))
    (hI : ∀ (A2 : Option Addr) (c2 : Nat) (W : World), IntRow W A2 L2 → Calls Try.prog 16 #[.int .i64 m0, .int .i64 m1, .slice A2 L2.length c2] W (SaysI x0 W))
    : Calls Try.prog 7 #[.int .i64 m0, .int .i64 m1, .slice A2 L2.length c2] w fun e w' => e = .returned (.bool true) ∧ Below w.heap.size w w' := by
  have T2 := fun W (r : IntRow W A2 L2) => toInts_any A2 c2 _ L2 W rfl hm2 r
  have hb2 : ¬ (1048576 : Int) < L2.length := by omega
  have E2 := fun (B B' : Option Addr) (d d' : Nat) W (r : IntRow W B L2) (r' : IntRow W B' L2) => eqInts_same B B' _ d d' L2 W rfl (by omega) r r'
  have kb := Below.refl w.heap.size w
  clear hm2
  go_enter Try.func7, Try.ntmps7
  go_wp2_with fail
  refine (T2 _ r2).mono ?_
  rintro e w1 ⟨B1, d1, rfl, o1, b⟩
  have x1 := intRow_own o1
  clear o1
  replace r2 := r2.keep b
  replace kb := below_more kb kb.size b
  clear b
  go_wp2_with fail
  refine (hS B1 d1 _ x1).mono ?_
  rintro e w2 ⟨rfl, b⟩
  clear x1
  replace r2 := r2.keep b
  replace kb := below_more kb kb.size b
  clear b
  clear hS
  go_wp2_with fail
  refine (T2 _ r2).mono ?_
  rintro e w3 ⟨B3, d3, rfl, o3, b⟩
  have x3 := intRow_own o3
  clear o3
  replace r2 := r2.keep b
  replace kb := below_more kb kb.size b
  clear b
  go_wp2_with fail
  refine (hI B3 d3 _ x3).mono ?_
  rintro e w4 ⟨rfl, b⟩
  replace r2 := r2.keep b
  replace x3 := x3.keep b
  replace kb := below_more kb kb.size b
  clear b
  clear hI
  go_wp2_with fail
  refine (T2 _ r2).mono ?_
  rintro e w5 ⟨B5, d5, rfl, o5, b⟩
  have x5 := intRow_own o5
  clear o5
  replace r2 := r2.keep b
  replace x3 := x3.keep b
  replace kb := below_more kb kb.size b
  clear b
  go_wp2_with fail
  refine (E2 B3 B5 d3 d5 _ x3 x5).mono ?_
  rintro e w6 ⟨rfl, q, rfl⟩
  have b := below_drewN (Below.refl w5.heap.size w5) q
  clear x5
  replace r2 := r2.keep b
  replace x3 := x3.keep b
  replace kb := below_more kb kb.size b
  clear b
  clear r2 x3 T2 E2
  go_wp2_with fail
  go_ret
  exact ⟨rfl, kb⟩

theorem exactLag_walk (m0 : Int) (m1 : Int) (A2 : Option Addr) (c2 : Nat) (L2 : List Int) (x0 : Int) (w : World) (hm2 : L2.length ≤ 1048576) (r2 : IntRow w A2 L2) 
    (hS : ∀ (A2 : Option Addr) (c2 : Nat) (W : World), IntRow W A2 L2 → Calls Try.prog 26 #[.int .i64 m0, .int .i64 m1, .slice A2 L2.length c2] W (SaysI x0 W))
    (hI : ∀ (A2 : Option Addr) (c2 : Nat) (W : World), IntRow W A2 L2 → Calls Try.prog 15 #[.int .i64 m0, .int .i64 m1, .slice A2 L2.length c2] W (SaysI x0 W))
    : Calls Try.prog 8 #[.int .i64 m0, .int .i64 m1, .slice A2 L2.length c2] w fun e w' => e = .returned (.bool true) ∧ Below w.heap.size w w' := by
  have T2 := fun W (r : IntRow W A2 L2) => toInts_any A2 c2 _ L2 W rfl hm2 r
  have hb2 : ¬ (1048576 : Int) < L2.length := by omega
  have E2 := fun (B B' : Option Addr) (d d' : Nat) W (r : IntRow W B L2) (r' : IntRow W B' L2) => eqInts_same B B' _ d d' L2 W rfl (by omega) r r'
  have kb := Below.refl w.heap.size w
  clear hm2
  go_enter Try.func8, Try.ntmps8
  go_wp2_with fail
  refine (T2 _ r2).mono ?_
  rintro e w1 ⟨B1, d1, rfl, o1, b⟩
  have x1 := intRow_own o1
  clear o1
  replace r2 := r2.keep b
  replace kb := below_more kb kb.size b
  clear b
  go_wp2_with fail
  refine (hS B1 d1 _ x1).mono ?_
  rintro e w2 ⟨rfl, b⟩
  clear x1
  replace r2 := r2.keep b
  replace kb := below_more kb kb.size b
  clear b
  clear hS
  go_wp2_with fail
  refine (T2 _ r2).mono ?_
  rintro e w3 ⟨B3, d3, rfl, o3, b⟩
  have x3 := intRow_own o3
  clear o3
  replace r2 := r2.keep b
  replace kb := below_more kb kb.size b
  clear b
  go_wp2_with fail
  refine (hI B3 d3 _ x3).mono ?_
  rintro e w4 ⟨rfl, b⟩
  replace r2 := r2.keep b
  replace x3 := x3.keep b
  replace kb := below_more kb kb.size b
  clear b
  clear hI
  go_wp2_with fail
  refine (T2 _ r2).mono ?_
  rintro e w5 ⟨B5, d5, rfl, o5, b⟩
  have x5 := intRow_own o5
  clear o5
  replace r2 := r2.keep b
  replace x3 := x3.keep b
  replace kb := below_more kb kb.size b
  clear b
  go_wp2_with fail
  refine (E2 B3 B5 d3 d5 _ x3 x5).mono ?_
  rintro e w6 ⟨rfl, q, rfl⟩
  have b := below_drewN (Below.refl w5.heap.size w5) q
  clear x5
  replace r2 := r2.keep b
  replace x3 := x3.keep b
  replace kb := below_more kb kb.size b
  clear b
  clear r2 x3 T2 E2
  go_wp2_with fail
  go_ret
  exact ⟨rfl, kb⟩

end Go.Proofs.Ytgjcbcbnjgghaaa
