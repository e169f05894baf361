/-
  The exact laws of chapter 8, put together: the model and the program answer the same.
-/
import Derived.Test.YtjjedicjaojkcaaExactChange
import Derived.Test.YtjjedicjaojkcaaSpecCount
import Derived.Test.YtjjedicjaojkcaaImplWays
import Derived.Test.YtjjedicjaojkcaaImplChange
namespace Go.Proofs.Ytjjedicjaojkcaa
open Go.ChangeShapes Go.WideShapes Go.ChangeAt Go.RowKit Go.PlainAid

theorem says_quiet {x : Bool} {w : World} {e : Ending} {w' : World} (h : Quiet x w e w') : SaysB x w e w' := by
  obtain ⟨h1, q, rfl⟩ := h
  exact ⟨h1, below_drewN (Below.refl _ _) q⟩

theorem exactSystem_any (A0 : Option Addr) (c0 : Nat) (L0 : List Int) (w : World) (hm0 : L0.length ≤ 1048576) (r0 : IntRow w A0 L0) :
    Calls Try.prog 4 #[.slice A0 L0.length c0] w fun e w' => e = .returned (.bool true) ∧ Below w.heap.size w w' :=
  exactSystem_walk A0 c0 L0 (sysB L0) w hm0 r0  (fun A0 c0 W r0 => (specSys_any A0 c0 _ L0 W rfl (by omega) r0).mono fun _ _ h => says_quiet h) (fun A0 c0 W r0 h0 => (implSys_any A0 c0 _ L0 W rfl (by omega) r0).mono fun _ _ h => says_quiet h)

theorem exactSystem_big (A0 : Option Addr) (c0 n0 : Nat) (w : World) (hl : 1048576 < n0) (hm : n0 ≤ 9223372036854775807) :
    Calls Try.prog 4 #[.slice A0 n0 c0] w fun e w' => e = .returned (.bool true) ∧ Below w.heap.size w w' := by
  have hb : (1048576 : Int) < n0 := by omega
  clear hm
  go_enter Try.func4, Try.ntmps4
  go_wp2_with fail
  go_ret
  exact ⟨rfl, Below.refl _ _⟩

theorem exactGreedy_any (A0 : Option Addr) (c0 : Nat) (L0 : List Int) (m1 : Int) (w : World) (hm0 : L0.length ≤ 1048576) (r0 : IntRow w A0 L0) :
    Calls Try.prog 5 #[.slice A0 L0.length c0, .int .i64 m1] w fun e w' => e = .returned (.bool true) ∧ Below w.heap.size w w' :=
  exactGreedy_walk A0 c0 L0 m1 (greA L0 m1) w hm0 r0 (by have := greA_six L0 m1; omega) (fun A0 c0 W r0 => specGreedy_any A0 c0 _ m1 L0 W rfl (by omega) r0) (fun A0 c0 W r0 h0 => implGreedy_any A0 c0 _ m1 L0 W rfl (by omega) r0)

theorem exactGreedy_big (A0 : Option Addr) (c0 n0 : Nat) (m1 : Int) (w : World) (hl : 1048576 < n0) (hm : n0 ≤ 9223372036854775807) :
    Calls Try.prog 5 #[.slice A0 n0 c0, .int .i64 m1] w fun e w' => e = .returned (.bool true) ∧ Below w.heap.size w w' := by
  have hb : (1048576 : Int) < n0 := by omega
  clear hm
  go_enter Try.func5, Try.ntmps5
  go_wp2_with fail
  go_ret
  exact ⟨rfl, Below.refl _ _⟩

theorem exactFewest_any (A0 : Option Addr) (c0 : Nat) (L0 : List Int) (m1 : Int) (w : World) (hm0 : L0.length ≤ 1048576) (r0 : IntRow w A0 L0) :
    Calls Try.prog 6 #[.slice A0 L0.length c0, .int .i64 m1] w fun e w' => e = .returned (.bool true) ∧ Below w.heap.size w w' :=
  exactFewest_walk A0 c0 L0 m1 (fewC L0 m1) w hm0 r0  (fun A0 c0 W r0 => specFew_any A0 c0 _ m1 L0 W rfl (by omega) r0) (fun A0 c0 W r0 h0 => implFew_any A0 c0 _ m1 L0 W rfl (by omega) r0)

theorem exactFewest_big (A0 : Option Addr) (c0 n0 : Nat) (m1 : Int) (w : World) (hl : 1048576 < n0) (hm : n0 ≤ 9223372036854775807) :
    Calls Try.prog 6 #[.slice A0 n0 c0, .int .i64 m1] w fun e w' => e = .returned (.bool true) ∧ Below w.heap.size w w' := by
  have hb : (1048576 : Int) < n0 := by omega
  clear hm
  go_enter Try.func6, Try.ntmps6
  go_wp2_with fail
  go_ret
  exact ⟨rfl, Below.refl _ _⟩

theorem exactGood_any (A0 : Option Addr) (c0 : Nat) (L0 : List Int) (w : World) (hm0 : L0.length ≤ 1048576) (r0 : IntRow w A0 L0) :
    Calls Try.prog 7 #[.slice A0 L0.length c0] w fun e w' => e = .returned (.bool true) ∧ Below w.heap.size w w' :=
  exactGood_walk A0 c0 L0 (goodB L0) w hm0 r0  (fun A0 c0 W r0 => specGood_any A0 c0 _ L0 W rfl (by omega) r0) (fun A0 c0 W r0 h0 => implGood_any A0 c0 _ L0 W rfl (by omega) h0 r0)

theorem exactGood_big (A0 : Option Addr) (c0 n0 : Nat) (w : World) (hl : 1048576 < n0) (hm : n0 ≤ 9223372036854775807) :
    Calls Try.prog 7 #[.slice A0 n0 c0] w fun e w' => e = .returned (.bool true) ∧ Below w.heap.size w w' := by
  have hb : (1048576 : Int) < n0 := by omega
  clear hm
  go_enter Try.func7, Try.ntmps7
  go_wp2_with fail
  go_ret
  exact ⟨rfl, Below.refl _ _⟩

theorem exactBad_any (A0 : Option Addr) (c0 : Nat) (L0 : List Int) (w : World) (hm0 : L0.length ≤ 1048576) (r0 : IntRow w A0 L0) :
    Calls Try.prog 8 #[.slice A0 L0.length c0] w fun e w' => e = .returned (.bool true) ∧ Below w.heap.size w w' :=
  exactBad_walk A0 c0 L0 (badA L0) w hm0 r0  (fun A0 c0 W r0 => specBad_any A0 c0 _ L0 W rfl (by omega) r0) (fun A0 c0 W r0 h0 => implBad_any A0 c0 _ L0 W rfl (by omega) h0 r0)

theorem exactBad_big (A0 : Option Addr) (c0 n0 : Nat) (w : World) (hl : 1048576 < n0) (hm : n0 ≤ 9223372036854775807) :
    Calls Try.prog 8 #[.slice A0 n0 c0] w fun e w' => e = .returned (.bool true) ∧ Below w.heap.size w w' := by
  have hb : (1048576 : Int) < n0 := by omega
  clear hm
  go_enter Try.func8, Try.ntmps8
  go_wp2_with fail
  go_ret
  exact ⟨rfl, Below.refl _ _⟩

theorem exactCount_any (A0 : Option Addr) (c0 : Nat) (L0 : List Int) (m1 : Int) (w : World) (hm0 : L0.length ≤ 1048576) (r0 : IntRow w A0 L0) :
    Calls Try.prog 9 #[.slice A0 L0.length c0, .int .i64 m1] w fun e w' => e = .returned (.bool true) ∧ Below w.heap.size w w' :=
  exactCount_walk A0 c0 L0 m1 (cntA L0 m1) w hm0 r0  (fun A0 c0 W r0 => specCount_any A0 c0 _ m1 L0 W rfl (by omega) r0) (fun A0 c0 W r0 h0 => implCount_any A0 c0 _ m1 L0 W rfl (by omega) r0)

theorem exactCount_big (A0 : Option Addr) (c0 n0 : Nat) (m1 : Int) (w : World) (hl : 1048576 < n0) (hm : n0 ≤ 9223372036854775807) :
    Calls Try.prog 9 #[.slice A0 n0 c0, .int .i64 m1] w fun e w' => e = .returned (.bool true) ∧ Below w.heap.size w w' := by
  have hb : (1048576 : Int) < n0 := by omega
  clear hm
  go_enter Try.func9, Try.ntmps9
  go_wp2_with fail
  go_ret
  exact ⟨rfl, Below.refl _ _⟩

end Go.Proofs.Ytjjedicjaojkcaa
