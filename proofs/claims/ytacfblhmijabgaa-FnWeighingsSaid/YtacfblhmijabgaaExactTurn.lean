/-
  The walk of the exact law of chapter 3 whose answer is a slice: where the model and the program answer the same, in memory of their own.
-/
import Derived.Test.YtacfblhmijabgaaTurn
import Derived.Test.YtacfblhmijabgaaIntMarks
namespace Go.Proofs.Ytacfblhmijabgaa
open Go.ChangeShapes Go.WideShapes Go.ChangeAt Go.RowKit Go.PlainAid

theorem own_below {w w' : World} {B n : Nat} {e : TypeId} {v : Value} {xs : List Value} (h : w.ownsRow B e 1 v n xs) (b : Below w.heap.size w w') : w'.ownsRow B e 1 v n xs :=
  h.kept (row := none) ⟨b.os, b.tape, b.output, b.size, fun i hi _ => b.block i hi⟩ (by cases q : v.ownBlock <;> simp)
theorem own_grown {w w' : World} {B n : Nat} {e : TypeId} {v : Value} {xs : List Value} {row : Option Nat} (h : w.ownsRow B e 1 v n xs) (g : w.grownBy w' row) (hne : v.ownBlock = none ∨ v.ownBlock ≠ row) : w'.ownsRow B e 1 v n xs :=
  h.kept g hne
theorem own_ne {w w' : World} {B n n' : Nat} {e e' : TypeId} {u v : Value} {xs ys : List Value} (h : w.ownsRow B e 1 u n xs) (h' : w'.ownsRow w.heap.size e' 1 v n' ys) : v.ownBlock = none ∨ v.ownBlock ≠ u.ownBlock := by
  rcases q : v.ownBlock with _ | k
  · exact .inl rfl
  · refine .inr fun e => ?_
    have h1 := (h.lt k e.symm).2
    have h2 := (h'.lt k q).1
    omega

set_option maxHeartbeats 1000000 in
theorem exactTurn_walk (A0 : Option Addr) (c0 : Nat) (L : List Int) (X : List Int) (w : World) (hm : L.length ≤ 1048576) (hX : X.length ≤ 1048576) (r : IntRow w A0 L)
    (hS : ∀ (A0 : Option Addr) (c0 : Nat) (W : World), IntRow W A0 L → Calls Try.prog 26 #[.slice A0 L.length c0] W (Copied X W))
    (hI : ∀ (A0 : Option Addr) (c0 : Nat) (W : World), IntRow W A0 L → Calls Try.prog 13 #[.slice A0 L.length c0] W (Copied X W))
    : Calls Try.prog 9 #[.slice A0 L.length c0] w fun e w' => e = .returned (.bool true) ∧ Below w.heap.size w w' := by
  have T := fun W (r : IntRow W A0 L) => toInts_any A0 c0 _ L W rfl hm r
  have hb0 : ¬ (1048576 : Int) < L.length := by omega
  have E := fun (B B' : Option Addr) (d d' : Nat) W (r : IntRow W B L) (r' : IntRow W B' L) => eqInts_same B B' _ d d' L W rfl (by omega) r r'
  have EX := fun (B B' : Option Addr) (d d' : Nat) W (r : IntRow W B X) (r' : IntRow W B' X) => eqInts_same B B' _ d d' X W rfl (by omega) r r'
  have M := fun (B : Nat) (A : Option Addr) (c : Nat) W (o : World.ownsRow W B 3 1 (.slice A L.length c) L.length (ints L)) => imark_any B L.length c A _ W (by omega) o
  have MX := fun (B : Nat) (A : Option Addr) (c : Nat) W (o : World.ownsRow W B 3 1 (.slice A X.length c) X.length (ints X)) => imark_any B X.length c A _ W (by omega) o
  have HX := fun (A : Option Addr) (c : Nat) W (r : IntRow W A (iallMarks X.length)) => iheld_any X.length c A W (by omega) r
  clear hm hX
  go_enter Try.func9, Try.ntmps9
  go_wp2_with fail
  refine (T _ r).mono ?_
  rintro e w1 ⟨X1, d1, rfl, o1, k1⟩
  have x1 := intRow_own o1
  clear o1
  go_wp2_with fail
  refine (hS X1 d1 _ x1).mono ?_
  rintro e w2 ⟨Y, dy, rfl, oy, k2⟩
  have y2 := intRow_own oy
  replace k2 := below_more k1 k1.size k2
  clear hS oy x1 k1
  have r2 := r.keep k2
  go_wp2_with fail
  refine (T _ r2).mono ?_
  rintro e w3 ⟨XX, dx, rfl, o3, k3⟩
  have x3 := intRow_own o3
  go_wp2_with fail
  refine (hI XX dx _ x3).mono ?_
  rintro e w4 ⟨G, dg, rfl, o4, k4⟩
  have g4 := intRow_own o4
  have k24 := below_more k3 k3.size k4
  have y4 := y2.keep k24
  go_wp2_with fail
  refine (EX G Y dg dy _ g4 y4).mono ?_
  rintro e w5 ⟨rfl, q5, rfl⟩
  have k45 : Below w4.heap.size w4 (w4.drewN q5) := below_drewN (Below.refl _ _) q5
  have k25 := below_more k24 k24.size k45
  clear y4 g4
  go_wp2_with fail
  refine (T _ (r2.keep k25)).mono ?_
  rintro e w6 ⟨C6, d6, rfl, o6, k6⟩
  have c6 := intRow_own o6
  clear o6
  have x6 := ((x3.keep k4).keep k45).keep k6
  go_wp2_with fail
  refine (E XX C6 dx d6 _ x6 c6).mono ?_
  rintro e w7 ⟨rfl, q7, rfl⟩
  have k67 : Below w6.heap.size w6 (w6.drewN q7) := below_drewN (Below.refl _ _) q7
  have k46 := below_more k45 k45.size k6
  have k47 := below_more k46 k46.size k67
  have k27 := below_more k24 k24.size k47
  have o7 := own_below (own_below o3 k4) k47
  have p7 := own_below o4 k47
  have hne := own_ne o3 p7
  clear x6 c6 k45 k25 k6 k67 k46
  go_wp2_with fail
  refine (M _ XX dx _ o7).mono ?_
  rintro e w8 ⟨rfl, -, gr⟩
  have k28 : Below w2.heap.size w2 w8 := k27.grown gr k27.size (fun k e => (o3.lt k e).1)
  have p8 := own_grown p7 gr hne
  clear o7 p7 hne gr k27 k47
  go_wp2_with fail
  refine (EX G Y dg dy _ (intRow_own p8) (y2.keep k28)).mono ?_
  rintro e w9 ⟨rfl, q9, rfl⟩
  have k89 : Below w8.heap.size w8 (w8.drewN q9) := below_drewN (Below.refl _ _) q9
  have p9 := own_below p8 k89
  have k29 := below_more k28 k28.size k89
  clear p8 k89
  go_wp2_with fail
  refine (MX _ G dg _ p9).mono ?_
  rintro e w10 ⟨rfl, o10, gr⟩
  have k210 : Below w2.heap.size w2 w10 := k29.grown gr k29.size (fun k e => Nat.le_trans k3.size (p9.lt k e).1)
  have m10 := intRow_own o10
  clear o10 gr p9 k29 k28
  go_wp2_with fail
  refine (HX G dg _ m10).mono ?_
  rintro e w11 ⟨rfl, q11, rfl⟩
  have k1011 : Below w10.heap.size w10 (w10.drewN q11) := below_drewN (Below.refl _ _) q11
  have k211 := below_more k210 k210.size k1011
  go_wp2_with fail
  refine (T _ (r2.keep k211)).mono ?_
  rintro e w12 ⟨X12, d12, rfl, o12, k12⟩
  have x12 := intRow_own o12
  clear o12
  go_wp2_with fail
  refine (hI X12 d12 _ x12).mono ?_
  rintro e w13 ⟨H, dh, rfl, o13, k13⟩
  have h13 := intRow_own o13
  have k1013 := below_more (below_more k1011 k1011.size k12) (Nat.le_trans k1011.size k12.size) k13
  have k213 := below_more k210 k210.size k1013
  clear o13 x12 k12 k13 k211 k1011 hI T
  go_wp2_with fail
  refine (EX H Y dh dy _ h13 (y2.keep k213)).mono ?_
  rintro e w14 ⟨rfl, q14, rfl⟩
  have k1314 : Below w13.heap.size w13 (w13.drewN q14) := below_drewN (Below.refl _ _) q14
  have k1014 := below_more k1013 k1013.size k1314
  go_wp2_with fail
  refine (HX G dg _ (m10.keep k1014)).mono ?_
  rintro e w15 ⟨rfl, q15, rfl⟩
  have kend := below_drewN (below_more k2 k2.size (below_more k210 k210.size k1013)) (q14 + q15)
  clear k2 k210 k1014 k1314 k1013 k213 h13 y2 m10 HX EX M MX E r r2 k3 k4 k24 x3 o3 o4
  go_wp2_with fail
  go_ret
  exact ⟨rfl, kend⟩

end Go.Proofs.Ytacfblhmijabgaa
