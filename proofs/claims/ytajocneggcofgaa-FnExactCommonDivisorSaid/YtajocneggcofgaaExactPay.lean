/-
  The walks of the exact laws of chapter 9: where the model and the program answer the same.
-/
import Derived.Test.YtajocneggcofgaaSays
import Derived.Test.YtajocneggcofgaaRange
namespace Go.Proofs.Ytajocneggcofgaa
open Go.ChangeShapes Go.WideShapes Go.ChangeAt Go.RowKit Go.PlainAid

theorem exactPurse_walk (A0 : Option Addr) (c0 : Nat) (L0 : List Int) (z0 : Bool) (w : World) (hm0 : L0.length ≤ 1048576) (r0 : IntRow w A0 L0) 
    (hS : ∀ (A0 : Option Addr) (c0 : Nat) (W : World), IntRow W A0 L0 → Calls Try.prog 18 #[.slice A0 L0.length c0] W (SaysB z0 W))
    (hI : ∀ (A0 : Option Addr) (c0 : Nat) (W : World), IntRow W A0 L0 → Calls Try.prog 20 #[.slice A0 L0.length c0] W (SaysB z0 W))
    : Calls Try.prog 4 #[.slice A0 L0.length c0] w fun e w' => e = .returned (.bool true) ∧ Below w.heap.size w w' := by
  have T0 := fun W (r : IntRow W A0 L0) => toInts_any A0 c0 _ L0 W rfl hm0 r
  have hb0 : ¬ (1048576 : Int) < L0.length := by omega
  have E0 := fun (B B' : Option Addr) (d d' : Nat) W (r : IntRow W B L0) (r' : IntRow W B' L0) => eqInts_same B B' _ d d' L0 W rfl (by omega) r r'
  have kb := Below.refl w.heap.size w
  clear hm0
  go_enter Try.func4, Try.ntmps4
  go_wp2_with fail
  refine (T0 _ r0).mono ?_
  rintro e w1 ⟨B1, d1, rfl, o1, b⟩
  have x1 := intRow_own o1
  clear o1
  replace r0 := r0.keep b
  replace kb := below_more kb kb.size b
  clear b
  go_wp2_with fail
  refine (hS B1 d1 _ x1).mono ?_
  rintro e w2 ⟨rfl, b⟩
  clear x1
  replace r0 := r0.keep b
  replace kb := below_more kb kb.size b
  clear b
  clear hS
  go_wp2_with fail
  refine (T0 _ r0).mono ?_
  rintro e w3 ⟨B3, d3, rfl, o3, b⟩
  have x3 := intRow_own o3
  clear o3
  replace r0 := r0.keep b
  replace kb := below_more kb kb.size b
  clear b
  go_wp2_with fail
  refine (hI B3 d3 _ x3).mono ?_
  rintro e w4 ⟨rfl, b⟩
  replace r0 := r0.keep b
  replace x3 := x3.keep b
  replace kb := below_more kb kb.size b
  clear b
  clear hI
  go_wp2_with fail
  refine (T0 _ r0).mono ?_
  rintro e w5 ⟨B5, d5, rfl, o5, b⟩
  have x5 := intRow_own o5
  clear o5
  replace r0 := r0.keep b
  replace x3 := x3.keep b
  replace kb := below_more kb kb.size b
  clear b
  go_wp2_with fail
  refine (E0 B3 B5 d3 d5 _ x3 x5).mono ?_
  rintro e w6 ⟨rfl, q, rfl⟩
  have b := below_drewN (Below.refl w5.heap.size w5) q
  clear x5
  replace r0 := r0.keep b
  replace x3 := x3.keep b
  replace kb := below_more kb kb.size b
  clear b
  clear r0 x3 T0 E0
  go_wp2_with fail
  go_ret
  exact ⟨rfl, kb⟩

theorem exactDiv_walk (A0 : Option Addr) (c0 : Nat) (L0 : List Int) (x0 : Int) (w : World) (hm0 : L0.length ≤ 1048576) (r0 : IntRow w A0 L0) 
    (hS : ∀ (A0 : Option Addr) (c0 : Nat) (W : World), IntRow W A0 L0 → Calls Try.prog 22 #[.slice A0 L0.length c0] W (SaysI x0 W))
    (hI : ∀ (A0 : Option Addr) (c0 : Nat) (W : World), IntRow W A0 L0 → Calls Try.prog 16 #[.slice A0 L0.length c0] W (SaysI x0 W))
    : Calls Try.prog 5 #[.slice A0 L0.length c0] w fun e w' => e = .returned (.bool true) ∧ Below w.heap.size w w' := by
  have T0 := fun W (r : IntRow W A0 L0) => toInts_any A0 c0 _ L0 W rfl hm0 r
  have hb0 : ¬ (1048576 : Int) < L0.length := by omega
  have E0 := fun (B B' : Option Addr) (d d' : Nat) W (r : IntRow W B L0) (r' : IntRow W B' L0) => eqInts_same B B' _ d d' L0 W rfl (by omega) r r'
  have kb := Below.refl w.heap.size w
  clear hm0
  go_enter Try.func5, Try.ntmps5
  go_wp2_with fail
  refine (T0 _ r0).mono ?_
  rintro e w1 ⟨B1, d1, rfl, o1, b⟩
  have x1 := intRow_own o1
  clear o1
  replace r0 := r0.keep b
  replace kb := below_more kb kb.size b
  clear b
  go_wp2_with fail
  refine (hS B1 d1 _ x1).mono ?_
  rintro e w2 ⟨rfl, b⟩
  clear x1
  replace r0 := r0.keep b
  replace kb := below_more kb kb.size b
  clear b
  clear hS
  go_wp2_with fail
  refine (T0 _ r0).mono ?_
  rintro e w3 ⟨B3, d3, rfl, o3, b⟩
  have x3 := intRow_own o3
  clear o3
  replace r0 := r0.keep b
  replace kb := below_more kb kb.size b
  clear b
  go_wp2_with fail
  refine (hI B3 d3 _ x3).mono ?_
  rintro e w4 ⟨rfl, b⟩
  replace r0 := r0.keep b
  replace x3 := x3.keep b
  replace kb := below_more kb kb.size b
  clear b
  clear hI
  go_wp2_with fail
  refine (T0 _ r0).mono ?_
  rintro e w5 ⟨B5, d5, rfl, o5, b⟩
  have x5 := intRow_own o5
  clear o5
  replace r0 := r0.keep b
  replace x3 := x3.keep b
  replace kb := below_more kb kb.size b
  clear b
  go_wp2_with fail
  refine (E0 B3 B5 d3 d5 _ x3 x5).mono ?_
  rintro e w6 ⟨rfl, q, rfl⟩
  have b := below_drewN (Below.refl w5.heap.size w5) q
  clear x5
  replace r0 := r0.keep b
  replace x3 := x3.keep b
  replace kb := below_more kb kb.size b
  clear b
  clear r0 x3 T0 E0
  go_wp2_with fail
  go_ret
  exact ⟨rfl, kb⟩

theorem exactPay_walk (A0 : Option Addr) (c0 : Nat) (L0 : List Int) (m1 : Int) (z0 : Bool) (w : World) (hm0 : L0.length ≤ 1048576) (r0 : IntRow w A0 L0) 
    (hS : ∀ (A0 : Option Addr) (c0 : Nat) (W : World), IntRow W A0 L0 → Calls Try.prog 23 #[.slice A0 L0.length c0, .int .i64 m1] W (SaysB z0 W))
    (hI : ∀ (A0 : Option Addr) (c0 : Nat) (W : World), IntRow W A0 L0 → Calls Try.prog 15 #[.slice A0 L0.length c0, .int .i64 m1] W (SaysB z0 W))
    : Calls Try.prog 6 #[.slice A0 L0.length c0, .int .i64 m1] w fun e w' => e = .returned (.bool true) ∧ Below w.heap.size w w' := by
  have T0 := fun W (r : IntRow W A0 L0) => toInts_any A0 c0 _ L0 W rfl hm0 r
  have hb0 : ¬ (1048576 : Int) < L0.length := by omega
  have E0 := fun (B B' : Option Addr) (d d' : Nat) W (r : IntRow W B L0) (r' : IntRow W B' L0) => eqInts_same B B' _ d d' L0 W rfl (by omega) r r'
  have kb := Below.refl w.heap.size w
  clear hm0
  go_enter Try.func6, Try.ntmps6
  go_wp2_with fail
  refine (T0 _ r0).mono ?_
  rintro e w1 ⟨B1, d1, rfl, o1, b⟩
  have x1 := intRow_own o1
  clear o1
  replace r0 := r0.keep b
  replace kb := below_more kb kb.size b
  clear b
  go_wp2_with fail
  refine (hS B1 d1 _ x1).mono ?_
  rintro e w2 ⟨rfl, b⟩
  clear x1
  replace r0 := r0.keep b
  replace kb := below_more kb kb.size b
  clear b
  clear hS
  go_wp2_with fail
  refine (T0 _ r0).mono ?_
  rintro e w3 ⟨B3, d3, rfl, o3, b⟩
  have x3 := intRow_own o3
  clear o3
  replace r0 := r0.keep b
  replace kb := below_more kb kb.size b
  clear b
  go_wp2_with fail
  refine (hI B3 d3 _ x3).mono ?_
  rintro e w4 ⟨rfl, b⟩
  replace r0 := r0.keep b
  replace x3 := x3.keep b
  replace kb := below_more kb kb.size b
  clear b
  clear hI
  go_wp2_with fail
  refine (T0 _ r0).mono ?_
  rintro e w5 ⟨B5, d5, rfl, o5, b⟩
  have x5 := intRow_own o5
  clear o5
  replace r0 := r0.keep b
  replace x3 := x3.keep b
  replace kb := below_more kb kb.size b
  clear b
  go_wp2_with fail
  refine (E0 B3 B5 d3 d5 _ x3 x5).mono ?_
  rintro e w6 ⟨rfl, q, rfl⟩
  have b := below_drewN (Below.refl w5.heap.size w5) q
  clear x5
  replace r0 := r0.keep b
  replace x3 := x3.keep b
  replace kb := below_more kb kb.size b
  clear b
  clear r0 x3 T0 E0
  go_wp2_with fail
  go_ret
  exact ⟨rfl, kb⟩

theorem exactLargest_walk (A0 : Option Addr) (c0 : Nat) (L0 : List Int) (x0 : Int) (w : World) (hm0 : L0.length ≤ 1048576) (r0 : IntRow w A0 L0) 
    (hS : ∀ (A0 : Option Addr) (c0 : Nat) (W : World), IntRow W A0 L0 → Calls Try.prog 24 #[.slice A0 L0.length c0] W (SaysI x0 W))
    (hI : ∀ (A0 : Option Addr) (c0 : Nat) (W : World), IntRow W A0 L0 → Calls Try.prog 13 #[.slice A0 L0.length c0] W (SaysI x0 W))
    : Calls Try.prog 7 #[.slice A0 L0.length c0] w fun e w' => e = .returned (.bool true) ∧ Below w.heap.size w w' := by
  have T0 := fun W (r : IntRow W A0 L0) => toInts_any A0 c0 _ L0 W rfl hm0 r
  have hb0 : ¬ (1048576 : Int) < L0.length := by omega
  have E0 := fun (B B' : Option Addr) (d d' : Nat) W (r : IntRow W B L0) (r' : IntRow W B' L0) => eqInts_same B B' _ d d' L0 W rfl (by omega) r r'
  have kb := Below.refl w.heap.size w
  clear hm0
  go_enter Try.func7, Try.ntmps7
  go_wp2_with fail
  refine (T0 _ r0).mono ?_
  rintro e w1 ⟨B1, d1, rfl, o1, b⟩
  have x1 := intRow_own o1
  clear o1
  replace r0 := r0.keep b
  replace kb := below_more kb kb.size b
  clear b
  go_wp2_with fail
  refine (hS B1 d1 _ x1).mono ?_
  rintro e w2 ⟨rfl, b⟩
  clear x1
  replace r0 := r0.keep b
  replace kb := below_more kb kb.size b
  clear b
  clear hS
  go_wp2_with fail
  refine (T0 _ r0).mono ?_
  rintro e w3 ⟨B3, d3, rfl, o3, b⟩
  have x3 := intRow_own o3
  clear o3
  replace r0 := r0.keep b
  replace kb := below_more kb kb.size b
  clear b
  go_wp2_with fail
  refine (hI B3 d3 _ x3).mono ?_
  rintro e w4 ⟨rfl, b⟩
  replace r0 := r0.keep b
  replace x3 := x3.keep b
  replace kb := below_more kb kb.size b
  clear b
  clear hI
  go_wp2_with fail
  refine (T0 _ r0).mono ?_
  rintro e w5 ⟨B5, d5, rfl, o5, b⟩
  have x5 := intRow_own o5
  clear o5
  replace r0 := r0.keep b
  replace x3 := x3.keep b
  replace kb := below_more kb kb.size b
  clear b
  go_wp2_with fail
  refine (E0 B3 B5 d3 d5 _ x3 x5).mono ?_
  rintro e w6 ⟨rfl, q, rfl⟩
  have b := below_drewN (Below.refl w5.heap.size w5) q
  clear x5
  replace r0 := r0.keep b
  replace x3 := x3.keep b
  replace kb := below_more kb kb.size b
  clear b
  clear r0 x3 T0 E0
  go_wp2_with fail
  go_ret
  exact ⟨rfl, kb⟩

theorem exactCountNo_walk (A0 : Option Addr) (c0 : Nat) (L0 : List Int) (x0 : Int) (w : World) (hm0 : L0.length ≤ 1048576) (r0 : IntRow w A0 L0) 
    (hS : ∀ (A0 : Option Addr) (c0 : Nat) (W : World), IntRow W A0 L0 → Calls Try.prog 25 #[.slice A0 L0.length c0] W (SaysI x0 W))
    (hI : ∀ (A0 : Option Addr) (c0 : Nat) (W : World), IntRow W A0 L0 → Calls Try.prog 14 #[.slice A0 L0.length c0] W (SaysI x0 W))
    : Calls Try.prog 8 #[.slice A0 L0.length c0] w fun e w' => e = .returned (.bool true) ∧ Below w.heap.size w w' := by
  have T0 := fun W (r : IntRow W A0 L0) => toInts_any A0 c0 _ L0 W rfl hm0 r
  have hb0 : ¬ (1048576 : Int) < L0.length := by omega
  have E0 := fun (B B' : Option Addr) (d d' : Nat) W (r : IntRow W B L0) (r' : IntRow W B' L0) => eqInts_same B B' _ d d' L0 W rfl (by omega) r r'
  have kb := Below.refl w.heap.size w
  clear hm0
  go_enter Try.func8, Try.ntmps8
  go_wp2_with fail
  refine (T0 _ r0).mono ?_
  rintro e w1 ⟨B1, d1, rfl, o1, b⟩
  have x1 := intRow_own o1
  clear o1
  replace r0 := r0.keep b
  replace kb := below_more kb kb.size b
  clear b
  go_wp2_with fail
  refine (hS B1 d1 _ x1).mono ?_
  rintro e w2 ⟨rfl, b⟩
  clear x1
  replace r0 := r0.keep b
  replace kb := below_more kb kb.size b
  clear b
  clear hS
  go_wp2_with fail
  refine (T0 _ r0).mono ?_
  rintro e w3 ⟨B3, d3, rfl, o3, b⟩
  have x3 := intRow_own o3
  clear o3
  replace r0 := r0.keep b
  replace kb := below_more kb kb.size b
  clear b
  go_wp2_with fail
  refine (hI B3 d3 _ x3).mono ?_
  rintro e w4 ⟨rfl, b⟩
  replace r0 := r0.keep b
  replace x3 := x3.keep b
  replace kb := below_more kb kb.size b
  clear b
  clear hI
  go_wp2_with fail
  refine (T0 _ r0).mono ?_
  rintro e w5 ⟨B5, d5, rfl, o5, b⟩
  have x5 := intRow_own o5
  clear o5
  replace r0 := r0.keep b
  replace x3 := x3.keep b
  replace kb := below_more kb kb.size b
  clear b
  go_wp2_with fail
  refine (E0 B3 B5 d3 d5 _ x3 x5).mono ?_
  rintro e w6 ⟨rfl, q, rfl⟩
  have b := below_drewN (Below.refl w5.heap.size w5) q
  clear x5
  replace r0 := r0.keep b
  replace x3 := x3.keep b
  replace kb := below_more kb kb.size b
  clear b
  clear r0 x3 T0 E0
  go_wp2_with fail
  go_ret
  exact ⟨rfl, kb⟩

theorem exactExact_walk (A0 : Option Addr) (c0 : Nat) (L0 : List Int) (m1 : Int) (z0 : Bool) (w : World) (hm0 : L0.length ≤ 1048576) (r0 : IntRow w A0 L0) 
    (hS : ∀ (A0 : Option Addr) (c0 : Nat) (W : World), IntRow W A0 L0 → Calls Try.prog 26 #[.slice A0 L0.length c0, .int .i64 m1] W (SaysB z0 W))
    (hI : ∀ (A0 : Option Addr) (c0 : Nat) (W : World), IntRow W A0 L0 → Calls Try.prog 17 #[.slice A0 L0.length c0, .int .i64 m1] W (SaysB z0 W))
    : Calls Try.prog 9 #[.slice A0 L0.length c0, .int .i64 m1] w fun e w' => e = .returned (.bool true) ∧ Below w.heap.size w w' := by
  have T0 := fun W (r : IntRow W A0 L0) => toInts_any A0 c0 _ L0 W rfl hm0 r
  have hb0 : ¬ (1048576 : Int) < L0.length := by omega
  have E0 := fun (B B' : Option Addr) (d d' : Nat) W (r : IntRow W B L0) (r' : IntRow W B' L0) => eqInts_same B B' _ d d' L0 W rfl (by omega) r r'
  have kb := Below.refl w.heap.size w
  clear hm0
  go_enter Try.func9, Try.ntmps9
  go_wp2_with fail
  refine (T0 _ r0).mono ?_
  rintro e w1 ⟨B1, d1, rfl, o1, b⟩
  have x1 := intRow_own o1
  clear o1
  replace r0 := r0.keep b
  replace kb := below_more kb kb.size b
  clear b
  go_wp2_with fail
  refine (hS B1 d1 _ x1).mono ?_
  rintro e w2 ⟨rfl, b⟩
  clear x1
  replace r0 := r0.keep b
  replace kb := below_more kb kb.size b
  clear b
  clear hS
  go_wp2_with fail
  refine (T0 _ r0).mono ?_
  rintro e w3 ⟨B3, d3, rfl, o3, b⟩
  have x3 := intRow_own o3
  clear o3
  replace r0 := r0.keep b
  replace kb := below_more kb kb.size b
  clear b
  go_wp2_with fail
  refine (hI B3 d3 _ x3).mono ?_
  rintro e w4 ⟨rfl, b⟩
  replace r0 := r0.keep b
  replace x3 := x3.keep b
  replace kb := below_more kb kb.size b
  clear b
  clear hI
  go_wp2_with fail
  refine (T0 _ r0).mono ?_
  rintro e w5 ⟨B5, d5, rfl, o5, b⟩
  have x5 := intRow_own o5
  clear o5
  replace r0 := r0.keep b
  replace x3 := x3.keep b
  replace kb := below_more kb kb.size b
  clear b
  go_wp2_with fail
  refine (E0 B3 B5 d3 d5 _ x3 x5).mono ?_
  rintro e w6 ⟨rfl, q, rfl⟩
  have b := below_drewN (Below.refl w5.heap.size w5) q
  clear x5
  replace r0 := r0.keep b
  replace x3 := x3.keep b
  replace kb := below_more kb kb.size b
  clear b
  clear r0 x3 T0 E0
  go_wp2_with fail
  go_ret
  exact ⟨rfl, kb⟩

end Go.Proofs.Ytajocneggcofgaa
