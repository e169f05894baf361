/-
  The exact laws of chapter 10, put together: the model and the program answer the same.
-/
import Derived.Test.YtfokchmmeflhiaaExactCircle
import Derived.Test.YtfokchmmeflhiaaSpecDif
import Derived.Test.YtfokchmmeflhiaaImplDif
import Derived.Test.YtfokchmmeflhiaaSpecStretch
import Derived.Test.YtfokchmmeflhiaaImplMove
import Derived.Test.YtfokchmmeflhiaaSpecFSet
import Derived.Test.YtfokchmmeflhiaaImplFSet
namespace Go.Proofs.Ytfokchmmeflhiaa
open Go.ChangeShapes Go.WideShapes Go.ChangeAt Go.RowKit Go.PlainAid

theorem says_quiet {x : Bool} {w : World} {e : Ending} {w' : World} (h : Quiet x w e w') : SaysB x w e w' := by
  obtain ⟨h1, q, rfl⟩ := h
  exact ⟨h1, below_drewN (Below.refl _ _) q⟩

theorem exactCircle_any (m0 : Int) (A1 : Option Addr) (c1 : Nat) (L1 : List Int) (w : World) (hm1 : L1.length ≤ 1048576) (r1 : IntRow w A1 L1) :
    Calls Try.prog 4 #[.int .i64 m0, .slice A1 L1.length c1] w fun e w' => e = .returned (.bool true) ∧ Below w.heap.size w w' :=
  exactCircle_walk m0 A1 c1 L1 (circB m0 L1) w hm1 r1  (fun A1 c1 W r1 => (specCircle_any m0 A1 c1 _ L1 W rfl (by omega) r1).mono fun _ _ h => says_quiet h) (fun A1 c1 W r1  => (implCircle_any m0 A1 c1 _ L1 W rfl (by omega) r1).mono fun _ _ h => says_quiet h)

theorem exactCircle_big (m0 : Int) (A1 : Option Addr) (c1 n1 : Nat) (w : World) (hl : 1048576 < n1) (hm : n1 ≤ 9223372036854775807) :
    Calls Try.prog 4 #[.int .i64 m0, .slice A1 n1 c1] w fun e w' => e = .returned (.bool true) ∧ Below w.heap.size w w' := by
  have hb : (1048576 : Int) < n1 := by omega
  clear hm
  go_enter Try.func4, Try.ntmps4
  go_wp2_with fail
  go_ret
  exact ⟨rfl, Below.refl _ _⟩

theorem exactArcs_any (m0 : Int) (A1 : Option Addr) (c1 : Nat) (L1 : List Int) (w : World) (hm1 : L1.length ≤ 1048576) (r1 : IntRow w A1 L1) :
    Calls Try.prog 5 #[.int .i64 m0, .slice A1 L1.length c1] w fun e w' => e = .returned (.bool true) ∧ Below w.heap.size w w' :=
  exactArcs_walk m0 A1 c1 L1 (arcsA m0 L1) w hm1 r1 (by have := arcsA_len m0 L1; omega) (fun A1 c1 W r1 => specArcs_any m0 A1 c1 _ L1 W rfl (by omega) r1) (fun A1 c1 W r1  => implArcs_any m0 A1 c1 _ L1 W rfl (by omega) r1)

theorem exactArcs_big (m0 : Int) (A1 : Option Addr) (c1 n1 : Nat) (w : World) (hl : 1048576 < n1) (hm : n1 ≤ 9223372036854775807) :
    Calls Try.prog 5 #[.int .i64 m0, .slice A1 n1 c1] w fun e w' => e = .returned (.bool true) ∧ Below w.heap.size w w' := by
  have hb : (1048576 : Int) < n1 := by omega
  clear hm
  go_enter Try.func5, Try.ntmps5
  go_wp2_with fail
  go_ret
  exact ⟨rfl, Below.refl _ _⟩

theorem exactDif_any (m0 : Int) (A1 : Option Addr) (c1 : Nat) (L1 : List Int) (w : World) (hm1 : L1.length ≤ 1048576) (r1 : IntRow w A1 L1) :
    Calls Try.prog 6 #[.int .i64 m0, .slice A1 L1.length c1] w fun e w' => e = .returned (.bool true) ∧ Below w.heap.size w w' :=
  exactDif_walk m0 A1 c1 L1 (difB m0 L1) w hm1 r1  (fun A1 c1 W r1 => specDif_any m0 A1 c1 _ L1 W rfl (by omega) r1) (fun A1 c1 W r1  => implDif_any m0 A1 c1 _ L1 W rfl (by omega) r1)

theorem exactDif_big (m0 : Int) (A1 : Option Addr) (c1 n1 : Nat) (w : World) (hl : 1048576 < n1) (hm : n1 ≤ 9223372036854775807) :
    Calls Try.prog 6 #[.int .i64 m0, .slice A1 n1 c1] w fun e w' => e = .returned (.bool true) ∧ Below w.heap.size w w' := by
  have hb : (1048576 : Int) < n1 := by omega
  clear hm
  go_enter Try.func6, Try.ntmps6
  go_wp2_with fail
  go_ret
  exact ⟨rfl, Below.refl _ _⟩

theorem exactFind_any (m0 : Int) (w : World) :
    Calls Try.prog 7 #[.int .i64 m0] w fun e w' => e = .returned (.bool true) ∧ Below w.heap.size w w' :=
  exactFind_walk m0 (findA m0) w  (by have := findA_len m0; omega) (fun W => specFSet_any m0 W) (fun W => implFSet_any m0 W)

theorem exactTurn_any (m0 : Int) (A1 : Option Addr) (c1 : Nat) (L1 : List Int) (m2 : Int) (w : World) (hm1 : L1.length ≤ 1048576) (r1 : IntRow w A1 L1) :
    Calls Try.prog 8 #[.int .i64 m0, .slice A1 L1.length c1, .int .i64 m2] w fun e w' => e = .returned (.bool true) ∧ Below w.heap.size w w' :=
  exactTurn_walk m0 A1 c1 L1 m2 (turnA m0 L1 m2) w hm1 r1 (by have := turnA_len m0 L1 m2; omega) (fun A1 c1 W r1 => specTurn_any m0 m2 A1 c1 _ L1 W rfl (by omega) r1) (fun A1 c1 W r1  => implTurn_any m0 m2 A1 c1 _ L1 W rfl (by omega) r1)

theorem exactTurn_big (m0 : Int) (A1 : Option Addr) (c1 n1 : Nat) (m2 : Int) (w : World) (hl : 1048576 < n1) (hm : n1 ≤ 9223372036854775807) :
    Calls Try.prog 8 #[.int .i64 m0, .slice A1 n1 c1, .int .i64 m2] w fun e w' => e = .returned (.bool true) ∧ Below w.heap.size w w' := by
  have hb : (1048576 : Int) < n1 := by omega
  clear hm
  go_enter Try.func8, Try.ntmps8
  go_wp2_with fail
  go_ret
  exact ⟨rfl, Below.refl _ _⟩

theorem exactStretch_any (m0 : Int) (A1 : Option Addr) (c1 : Nat) (L1 : List Int) (m2 : Int) (w : World) (hm1 : L1.length ≤ 1048576) (r1 : IntRow w A1 L1) :
    Calls Try.prog 9 #[.int .i64 m0, .slice A1 L1.length c1, .int .i64 m2] w fun e w' => e = .returned (.bool true) ∧ Below w.heap.size w w' :=
  exactStretch_walk m0 A1 c1 L1 m2 (strA m0 L1 m2) w hm1 r1 (by have := strA_len m0 L1 m2; omega) (fun A1 c1 W r1 => specStretch_any m0 m2 A1 c1 _ L1 W rfl (by omega) r1) (fun A1 c1 W r1  => implStretch_any m0 m2 A1 c1 _ L1 W rfl (by omega) r1)

theorem exactStretch_big (m0 : Int) (A1 : Option Addr) (c1 n1 : Nat) (m2 : Int) (w : World) (hl : 1048576 < n1) (hm : n1 ≤ 9223372036854775807) :
    Calls Try.prog 9 #[.int .i64 m0, .slice A1 n1 c1, .int .i64 m2] w fun e w' => e = .returned (.bool true) ∧ Below w.heap.size w w' := by
  have hb : (1048576 : Int) < n1 := by omega
  clear hm
  go_enter Try.func9, Try.ntmps9
  go_wp2_with fail
  go_ret
  exact ⟨rfl, Below.refl _ _⟩

end Go.Proofs.Ytfokchmmeflhiaa
