/-
  The walks of the exact laws of chapter 3 whose answers are no slices: where the model and the program answer the same.
-/
import Derived.Test.YtacfblhmijabgaaLoads
namespace Go.Proofs.Ytacfblhmijabgaa
open Go.ChangeShapes Go.WideShapes Go.ChangeAt Go.RowKit Go.PlainAid

/-- Two ints are answered, only new memory is written. -/
def SaysII (x y : Int) (w : World) (e : Ending) (w' : World) : Prop := e = .returned (.tuple #[.int .i64 x, .int .i64 y]) ∧ Below w.heap.size w w'

theorem exactCoins_walk (A0 : Option Addr) (c0 : Nat) (L0 : List Int) (x : Bool) (w : World) (hm0 : L0.length ≤ 1048576) (r0 : IntRow w A0 L0)
    (hS : ∀ (A0 : Option Addr) (c0 : Nat) (W : World), IntRow W A0 L0 → Calls Try.prog 17 #[.slice A0 L0.length c0] W (SaysB x W))
    (hI : ∀ (A0 : Option Addr) (c0 : Nat) (W : World), IntRow W A0 L0 → Calls Try.prog 19 #[.slice A0 L0.length c0] W (SaysB x W))
    : Calls Try.prog 4 #[.slice A0 L0.length c0] w fun e w' => e = .returned (.bool true) ∧ Below w.heap.size w w' := by
  have T0 := fun W (r : IntRow W A0 L0) => toInts_any A0 c0 _ L0 W rfl hm0 r
  have hb0 : ¬ (1048576 : Int) < L0.length := by omega
  have E0 := fun (B B' : Option Addr) (d d' : Nat) W (r : IntRow W B L0) (r' : IntRow W B' L0) => eqInts_same B B' _ d d' L0 W rfl (by omega) r r'
  have kb := Below.refl w.heap.size w
  clear hm0
  go_enter Try.func4, Try.ntmps4
  go_wp2_with fail
  refine (T0 _ r0).mono ?_
  rintro e w1 ⟨X1, d1, rfl, o1, b⟩
  have x1 := intRow_own o1
  clear o1
  replace r0 := r0.keep b
  replace kb := below_more kb kb.size b
  clear b
  go_wp2_with fail
  refine (hS X1 d1 _ x1).mono ?_
  rintro e w2 ⟨rfl, b⟩
  clear x1
  replace r0 := r0.keep b
  replace kb := below_more kb kb.size b
  clear b
  clear hS
  go_wp2_with fail
  refine (T0 _ r0).mono ?_
  rintro e w3 ⟨X3, d3, rfl, o3, b⟩
  have x3 := intRow_own o3
  clear o3
  replace r0 := r0.keep b
  replace kb := below_more kb kb.size b
  clear b
  go_wp2_with fail
  refine (hI X3 d3 _ x3).mono ?_
  rintro e w4 ⟨rfl, b⟩
  replace r0 := r0.keep b
  replace x3 := x3.keep b
  replace kb := below_more kb kb.size b
  clear b
  clear hI
  go_wp2_with fail
  refine (T0 _ r0).mono ?_
  rintro e w5 ⟨X5, d5, rfl, o5, b⟩
  have x5 := intRow_own o5
  clear o5
  replace r0 := r0.keep b
  replace x3 := x3.keep b
  replace kb := below_more kb kb.size b
  clear b
  go_wp2_with fail
  refine (E0 X3 X5 d3 d5 _ x3 x5).mono ?_
  rintro e w6 ⟨rfl, q, rfl⟩
  have b := below_drewN (Below.refl w5.heap.size w5) q
  clear x5
  replace r0 := r0.keep b
  replace x3 := x3.keep b
  replace kb := below_more kb kb.size b
  clear b
  clear r0 x3 T0 E0
  go_wp2_with fail
  go_ret
  exact ⟨rfl, kb⟩

theorem exactLoad_walk (m0 : Int) (A1 : Option Addr) (c1 : Nat) (L1 : List Int) (x : Bool) (w : World) (hm1 : L1.length ≤ 1048576) (r1 : IntRow w A1 L1)
    (hS : ∀ (A1 : Option Addr) (c1 : Nat) (W : World), IntRow W A1 L1 → Calls Try.prog 21 #[.int .i64 m0, .slice A1 L1.length c1] W (SaysB x W))
    (hI : ∀ (A1 : Option Addr) (c1 : Nat) (W : World), IntRow W A1 L1 → Calls Try.prog 22 #[.int .i64 m0, .slice A1 L1.length c1] W (SaysB x W))
    : Calls Try.prog 5 #[.int .i64 m0, .slice A1 L1.length c1] w fun e w' => e = .returned (.bool true) ∧ Below w.heap.size w w' := by
  have T1 := fun W (r : IntRow W A1 L1) => toInts_any A1 c1 _ L1 W rfl hm1 r
  have hb1 : ¬ (1048576 : Int) < L1.length := by omega
  have E1 := fun (B B' : Option Addr) (d d' : Nat) W (r : IntRow W B L1) (r' : IntRow W B' L1) => eqInts_same B B' _ d d' L1 W rfl (by omega) r r'
  have kb := Below.refl w.heap.size w
  clear hm1
  go_enter Try.func5, Try.ntmps5
  go_wp2_with fail
  refine (T1 _ r1).mono ?_
  rintro e w1 ⟨X1, d1, rfl, o1, b⟩
  have x1 := intRow_own o1
  clear o1
  replace r1 := r1.keep b
  replace kb := below_more kb kb.size b
  clear b
  go_wp2_with fail
  refine (hS X1 d1 _ x1).mono ?_
  rintro e w2 ⟨rfl, b⟩
  clear x1
  replace r1 := r1.keep b
  replace kb := below_more kb kb.size b
  clear b
  clear hS
  go_wp2_with fail
  refine (T1 _ r1).mono ?_
  rintro e w3 ⟨X3, d3, rfl, o3, b⟩
  have x3 := intRow_own o3
  clear o3
  replace r1 := r1.keep b
  replace kb := below_more kb kb.size b
  clear b
  go_wp2_with fail
  refine (hI X3 d3 _ x3).mono ?_
  rintro e w4 ⟨rfl, b⟩
  replace r1 := r1.keep b
  replace x3 := x3.keep b
  replace kb := below_more kb kb.size b
  clear b
  clear hI
  go_wp2_with fail
  refine (T1 _ r1).mono ?_
  rintro e w5 ⟨X5, d5, rfl, o5, b⟩
  have x5 := intRow_own o5
  clear o5
  replace r1 := r1.keep b
  replace x3 := x3.keep b
  replace kb := below_more kb kb.size b
  clear b
  go_wp2_with fail
  refine (E1 X3 X5 d3 d5 _ x3 x5).mono ?_
  rintro e w6 ⟨rfl, q, rfl⟩
  have b := below_drewN (Below.refl w5.heap.size w5) q
  clear x5
  replace r1 := r1.keep b
  replace x3 := x3.keep b
  replace kb := below_more kb kb.size b
  clear b
  clear r1 x3 T1 E1
  go_wp2_with fail
  go_ret
  exact ⟨rfl, kb⟩

theorem exactWeigh_walk (A0 : Option Addr) (c0 : Nat) (L0 : List Int) (A1 : Option Addr) (c1 : Nat) (L1 : List Int) (x : Int) (y : Bool) (w : World) (hm0 : L0.length ≤ 1048576) (r0 : IntRow w A0 L0) (hm1 : L1.length ≤ 1048576) (r1 : IntRow w A1 L1)
    (hS : ∀ (A0 : Option Addr) (c0 : Nat) (A1 : Option Addr) (c1 : Nat) (W : World), IntRow W A0 L0 → IntRow W A1 L1 → Calls Try.prog 23 #[.slice A0 L0.length c0, .slice A1 L1.length c1] W (SaysIB x y W))
    (hI : ∀ (A0 : Option Addr) (c0 : Nat) (A1 : Option Addr) (c1 : Nat) (W : World), IntRow W A0 L0 → IntRow W A1 L1 → Calls Try.prog 12 #[.slice A0 L0.length c0, .slice A1 L1.length c1] W (SaysIB x y W))
    : Calls Try.prog 6 #[.slice A0 L0.length c0, .slice A1 L1.length c1] w fun e w' => e = .returned (.bool true) ∧ Below w.heap.size w w' := by
  have T0 := fun W (r : IntRow W A0 L0) => toInts_any A0 c0 _ L0 W rfl hm0 r
  have hb0 : ¬ (1048576 : Int) < L0.length := by omega
  have E0 := fun (B B' : Option Addr) (d d' : Nat) W (r : IntRow W B L0) (r' : IntRow W B' L0) => eqInts_same B B' _ d d' L0 W rfl (by omega) r r'
  have T1 := fun W (r : IntRow W A1 L1) => toInts_any A1 c1 _ L1 W rfl hm1 r
  have hb1 : ¬ (1048576 : Int) < L1.length := by omega
  have E1 := fun (B B' : Option Addr) (d d' : Nat) W (r : IntRow W B L1) (r' : IntRow W B' L1) => eqInts_same B B' _ d d' L1 W rfl (by omega) r r'
  have kb := Below.refl w.heap.size w
  clear hm0 hm1
  go_enter Try.func6, Try.ntmps6
  go_wp2_with fail
  refine (T0 _ r0).mono ?_
  rintro e w1 ⟨X1, d1, rfl, o1, b⟩
  have x1 := intRow_own o1
  clear o1
  replace r0 := r0.keep b
  replace r1 := r1.keep b
  replace kb := below_more kb kb.size b
  clear b
  go_wp2_with fail
  refine (T1 _ r1).mono ?_
  rintro e w2 ⟨X2, d2, rfl, o2, b⟩
  have x2 := intRow_own o2
  clear o2
  replace r0 := r0.keep b
  replace r1 := r1.keep b
  replace x1 := x1.keep b
  replace kb := below_more kb kb.size b
  clear b
  go_wp2_with fail
  refine (hS X1 d1 X2 d2 _ x1 x2).mono ?_
  rintro e w3 ⟨rfl, b⟩
  clear x1
  clear x2
  replace r0 := r0.keep b
  replace r1 := r1.keep b
  replace kb := below_more kb kb.size b
  clear b
  clear hS
  go_wp2_with fail
  refine (T0 _ r0).mono ?_
  rintro e w4 ⟨X4, d4, rfl, o4, b⟩
  have x4 := intRow_own o4
  clear o4
  replace r0 := r0.keep b
  replace r1 := r1.keep b
  replace kb := below_more kb kb.size b
  clear b
  go_wp2_with fail
  refine (T1 _ r1).mono ?_
  rintro e w5 ⟨X5, d5, rfl, o5, b⟩
  have x5 := intRow_own o5
  clear o5
  replace r0 := r0.keep b
  replace r1 := r1.keep b
  replace x4 := x4.keep b
  replace kb := below_more kb kb.size b
  clear b
  go_wp2_with fail
  refine (hI X4 d4 X5 d5 _ x4 x5).mono ?_
  rintro e w6 ⟨rfl, b⟩
  replace r0 := r0.keep b
  replace r1 := r1.keep b
  replace x4 := x4.keep b
  replace x5 := x5.keep b
  replace kb := below_more kb kb.size b
  clear b
  clear hI
  go_wp2_with fail
  refine (T0 _ r0).mono ?_
  rintro e w7 ⟨X7, d7, rfl, o7, b⟩
  have x7 := intRow_own o7
  clear o7
  replace r0 := r0.keep b
  replace r1 := r1.keep b
  replace x4 := x4.keep b
  replace x5 := x5.keep b
  replace kb := below_more kb kb.size b
  clear b
  go_wp2_with fail
  refine (E0 X4 X7 d4 d7 _ x4 x7).mono ?_
  rintro e w8 ⟨rfl, q, rfl⟩
  have b := below_drewN (Below.refl w7.heap.size w7) q
  clear x7
  replace r0 := r0.keep b
  replace r1 := r1.keep b
  replace x4 := x4.keep b
  replace x5 := x5.keep b
  replace kb := below_more kb kb.size b
  clear b
  go_wp2_with fail
  refine (T1 _ r1).mono ?_
  rintro e w9 ⟨X9, d9, rfl, o9, b⟩
  have x9 := intRow_own o9
  clear o9
  replace r0 := r0.keep b
  replace r1 := r1.keep b
  replace x4 := x4.keep b
  replace x5 := x5.keep b
  replace kb := below_more kb kb.size b
  clear b
  go_wp2_with fail
  refine (E1 X5 X9 d5 d9 _ x5 x9).mono ?_
  rintro e w10 ⟨rfl, q, rfl⟩
  have b := below_drewN (Below.refl w9.heap.size w9) q
  clear x9
  replace r0 := r0.keep b
  replace r1 := r1.keep b
  replace x4 := x4.keep b
  replace x5 := x5.keep b
  replace kb := below_more kb kb.size b
  clear b
  clear r0 r1 x4 x5 T0 E0 T1 E1
  go_wp2_with fail
  go_ret
  exact ⟨rfl, kb⟩

theorem exactCount_walk (A0 : Option Addr) (c0 : Nat) (L0 : List Int) (x y : Int) (w : World) (hm0 : L0.length ≤ 1048576) (r0 : IntRow w A0 L0)
    (hS : ∀ (A0 : Option Addr) (c0 : Nat) (W : World), IntRow W A0 L0 → Calls Try.prog 24 #[.slice A0 L0.length c0] W (SaysII x y W))
    (hI : ∀ (A0 : Option Addr) (c0 : Nat) (W : World), IntRow W A0 L0 → Calls Try.prog 14 #[.slice A0 L0.length c0] W (SaysII x y W))
    : Calls Try.prog 7 #[.slice A0 L0.length c0] w fun e w' => e = .returned (.bool true) ∧ Below w.heap.size w w' := by
  have T0 := fun W (r : IntRow W A0 L0) => toInts_any A0 c0 _ L0 W rfl hm0 r
  have hb0 : ¬ (1048576 : Int) < L0.length := by omega
  have E0 := fun (B B' : Option Addr) (d d' : Nat) W (r : IntRow W B L0) (r' : IntRow W B' L0) => eqInts_same B B' _ d d' L0 W rfl (by omega) r r'
  have kb := Below.refl w.heap.size w
  clear hm0
  go_enter Try.func7, Try.ntmps7
  go_wp2_with fail
  refine (T0 _ r0).mono ?_
  rintro e w1 ⟨X1, d1, rfl, o1, b⟩
  have x1 := intRow_own o1
  clear o1
  replace r0 := r0.keep b
  replace kb := below_more kb kb.size b
  clear b
  go_wp2_with fail
  refine (hS X1 d1 _ x1).mono ?_
  rintro e w2 ⟨rfl, b⟩
  clear x1
  replace r0 := r0.keep b
  replace kb := below_more kb kb.size b
  clear b
  clear hS
  go_wp2_with fail
  refine (T0 _ r0).mono ?_
  rintro e w3 ⟨X3, d3, rfl, o3, b⟩
  have x3 := intRow_own o3
  clear o3
  replace r0 := r0.keep b
  replace kb := below_more kb kb.size b
  clear b
  go_wp2_with fail
  refine (hI X3 d3 _ x3).mono ?_
  rintro e w4 ⟨rfl, b⟩
  replace r0 := r0.keep b
  replace x3 := x3.keep b
  replace kb := below_more kb kb.size b
  clear b
  clear hI
  go_wp2_with fail
  refine (T0 _ r0).mono ?_
  rintro e w5 ⟨X5, d5, rfl, o5, b⟩
  have x5 := intRow_own o5
  clear o5
  replace r0 := r0.keep b
  replace x3 := x3.keep b
  replace kb := below_more kb kb.size b
  clear b
  go_wp2_with fail
  refine (E0 X3 X5 d3 d5 _ x3 x5).mono ?_
  rintro e w6 ⟨rfl, q, rfl⟩
  have b := below_drewN (Below.refl w5.heap.size w5) q
  clear x5
  replace r0 := r0.keep b
  replace x3 := x3.keep b
  replace kb := below_more kb kb.size b
  clear b
  clear r0 x3 T0 E0
  go_wp2_with fail
  go_ret
  exact ⟨rfl, kb⟩

theorem exactFair_walk (m0 : Int) (A1 : Option Addr) (c1 : Nat) (L1 : List Int) (x : Bool) (w : World) (hm1 : L1.length ≤ 1048576) (r1 : IntRow w A1 L1)
    (hS : ∀ (A1 : Option Addr) (c1 : Nat) (W : World), IntRow W A1 L1 → Calls Try.prog 25 #[.int .i64 m0, .slice A1 L1.length c1] W (SaysB x W))
    (hI : ∀ (A1 : Option Addr) (c1 : Nat) (W : World), IntRow W A1 L1 → Calls Try.prog 15 #[.int .i64 m0, .slice A1 L1.length c1] W (SaysB x W))
    : Calls Try.prog 8 #[.int .i64 m0, .slice A1 L1.length c1] w fun e w' => e = .returned (.bool true) ∧ Below w.heap.size w w' := by
  have T1 := fun W (r : IntRow W A1 L1) => toInts_any A1 c1 _ L1 W rfl hm1 r
  have hb1 : ¬ (1048576 : Int) < L1.length := by omega
  have E1 := fun (B B' : Option Addr) (d d' : Nat) W (r : IntRow W B L1) (r' : IntRow W B' L1) => eqInts_same B B' _ d d' L1 W rfl (by omega) r r'
  have kb := Below.refl w.heap.size w
  clear hm1
  go_enter Try.func8, Try.ntmps8
  go_wp2_with fail
  refine (T1 _ r1).mono ?_
  rintro e w1 ⟨X1, d1, rfl, o1, b⟩
  have x1 := intRow_own o1
  clear o1
  replace r1 := r1.keep b
  replace kb := below_more kb kb.size b
  clear b
  go_wp2_with fail
  refine (hS X1 d1 _ x1).mono ?_
  rintro e w2 ⟨rfl, b⟩
  clear x1
  replace r1 := r1.keep b
  replace kb := below_more kb kb.size b
  clear b
  clear hS
  go_wp2_with fail
  refine (T1 _ r1).mono ?_
  rintro e w3 ⟨X3, d3, rfl, o3, b⟩
  have x3 := intRow_own o3
  clear o3
  replace r1 := r1.keep b
  replace kb := below_more kb kb.size b
  clear b
  go_wp2_with fail
  refine (hI X3 d3 _ x3).mono ?_
  rintro e w4 ⟨rfl, b⟩
  replace r1 := r1.keep b
  replace x3 := x3.keep b
  replace kb := below_more kb kb.size b
  clear b
  clear hI
  go_wp2_with fail
  refine (T1 _ r1).mono ?_
  rintro e w5 ⟨X5, d5, rfl, o5, b⟩
  have x5 := intRow_own o5
  clear o5
  replace r1 := r1.keep b
  replace x3 := x3.keep b
  replace kb := below_more kb kb.size b
  clear b
  go_wp2_with fail
  refine (E1 X3 X5 d3 d5 _ x3 x5).mono ?_
  rintro e w6 ⟨rfl, q, rfl⟩
  have b := below_drewN (Below.refl w5.heap.size w5) q
  clear x5
  replace r1 := r1.keep b
  replace x3 := x3.keep b
  replace kb := below_more kb kb.size b
  clear b
  clear r1 x3 T1 E1
  go_wp2_with fail
  go_ret
  exact ⟨rfl, kb⟩

end Go.Proofs.Ytacfblhmijabgaa
