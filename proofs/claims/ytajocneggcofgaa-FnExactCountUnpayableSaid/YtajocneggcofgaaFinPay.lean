/-
  The exact laws of chapter 9, put together: the model and the program answer the same.
-/
import Derived.Test.YtajocneggcofgaaExactPay
import Derived.Test.YtajocneggcofgaaSpecPay
import Derived.Test.YtajocneggcofgaaImplPayable
namespace Go.Proofs.Ytajocneggcofgaa
open Go.ChangeShapes Go.WideShapes Go.ChangeAt Go.RowKit Go.PlainAid

theorem says_quiet {x : Bool} {w : World} {e : Ending} {w' : World} (h : Quiet x w e w') : SaysB x w e w' := by
  obtain ⟨h1, q, rfl⟩ := h
  exact ⟨h1, below_drewN (Below.refl _ _) q⟩

theorem exactPurse_any (A0 : Option Addr) (c0 : Nat) (L0 : List Int) (w : World) (hm0 : L0.length ≤ 1048576) (r0 : IntRow w A0 L0) :
    Calls Try.prog 4 #[.slice A0 L0.length c0] w fun e w' => e = .returned (.bool true) ∧ Below w.heap.size w w' :=
  exactPurse_walk A0 c0 L0 (pursB L0) w hm0 r0  (fun A0 c0 W r0 => (specPurse_any A0 c0 _ L0 W rfl (by omega) r0).mono fun _ _ h => says_quiet h) (fun A0 c0 W r0  => (implPurse_any A0 c0 _ L0 W rfl (by omega) r0).mono fun _ _ h => says_quiet h)

theorem exactPurse_big (A0 : Option Addr) (c0 n0 : Nat) (w : World) (hl : 1048576 < n0) (hm : n0 ≤ 9223372036854775807) :
    Calls Try.prog 4 #[.slice A0 n0 c0] w fun e w' => e = .returned (.bool true) ∧ Below w.heap.size w w' := by
  have hb : (1048576 : Int) < n0 := by omega
  clear hm
  go_enter Try.func4, Try.ntmps4
  go_wp2_with fail
  go_ret
  exact ⟨rfl, Below.refl _ _⟩

theorem exactDiv_any (A0 : Option Addr) (c0 : Nat) (L0 : List Int) (w : World) (hm0 : L0.length ≤ 1048576) (r0 : IntRow w A0 L0) :
    Calls Try.prog 5 #[.slice A0 L0.length c0] w fun e w' => e = .returned (.bool true) ∧ Below w.heap.size w w' :=
  exactDiv_walk A0 c0 L0 (divA L0) w hm0 r0  (fun A0 c0 W r0 => specDiv_any A0 c0 _ L0 W rfl (by omega) r0) (fun A0 c0 W r0  => implDiv_any A0 c0 _ L0 W rfl (by omega) r0)

theorem exactDiv_big (A0 : Option Addr) (c0 n0 : Nat) (w : World) (hl : 1048576 < n0) (hm : n0 ≤ 9223372036854775807) :
    Calls Try.prog 5 #[.slice A0 n0 c0] w fun e w' => e = .returned (.bool true) ∧ Below w.heap.size w w' := by
  have hb : (1048576 : Int) < n0 := by omega
  clear hm
  go_enter Try.func5, Try.ntmps5
  go_wp2_with fail
  go_ret
  exact ⟨rfl, Below.refl _ _⟩

theorem exactPay_any (A0 : Option Addr) (c0 : Nat) (L0 : List Int) (m1 : Int) (w : World) (hm0 : L0.length ≤ 1048576) (r0 : IntRow w A0 L0) :
    Calls Try.prog 6 #[.slice A0 L0.length c0, .int .i64 m1] w fun e w' => e = .returned (.bool true) ∧ Below w.heap.size w w' :=
  exactPay_walk A0 c0 L0 m1 (payA L0 m1) w hm0 r0  (fun A0 c0 W r0 => specPay_any A0 c0 _ m1 L0 W rfl (by omega) r0) (fun A0 c0 W r0  => implPay_any A0 c0 _ m1 L0 W rfl (by omega) r0)

theorem exactPay_big (A0 : Option Addr) (c0 n0 : Nat) (m1 : Int) (w : World) (hl : 1048576 < n0) (hm : n0 ≤ 9223372036854775807) :
    Calls Try.prog 6 #[.slice A0 n0 c0, .int .i64 m1] w fun e w' => e = .returned (.bool true) ∧ Below w.heap.size w w' := by
  have hb : (1048576 : Int) < n0 := by omega
  clear hm
  go_enter Try.func6, Try.ntmps6
  go_wp2_with fail
  go_ret
  exact ⟨rfl, Below.refl _ _⟩

theorem exactLargest_any (A0 : Option Addr) (c0 : Nat) (L0 : List Int) (w : World) (hm0 : L0.length ≤ 1048576) (r0 : IntRow w A0 L0) :
    Calls Try.prog 7 #[.slice A0 L0.length c0] w fun e w' => e = .returned (.bool true) ∧ Below w.heap.size w w' :=
  exactLargest_walk A0 c0 L0 (lrgA L0) w hm0 r0  (fun A0 c0 W r0 => specLargest_any A0 c0 _ L0 W rfl (by omega) r0) (fun A0 c0 W r0  => implLargest_any A0 c0 _ L0 W rfl (by omega) r0)

theorem exactLargest_big (A0 : Option Addr) (c0 n0 : Nat) (w : World) (hl : 1048576 < n0) (hm : n0 ≤ 9223372036854775807) :
    Calls Try.prog 7 #[.slice A0 n0 c0] w fun e w' => e = .returned (.bool true) ∧ Below w.heap.size w w' := by
  have hb : (1048576 : Int) < n0 := by omega
  clear hm
  go_enter Try.func7, Try.ntmps7
  go_wp2_with fail
  go_ret
  exact ⟨rfl, Below.refl _ _⟩

theorem exactCountNo_any (A0 : Option Addr) (c0 : Nat) (L0 : List Int) (w : World) (hm0 : L0.length ≤ 1048576) (r0 : IntRow w A0 L0) :
    Calls Try.prog 8 #[.slice A0 L0.length c0] w fun e w' => e = .returned (.bool true) ∧ Below w.heap.size w w' :=
  exactCountNo_walk A0 c0 L0 (cuA L0) w hm0 r0  (fun A0 c0 W r0 => specCountNo_any A0 c0 _ L0 W rfl (by omega) r0) (fun A0 c0 W r0  => implCountNo_any A0 c0 _ L0 W rfl (by omega) r0)

theorem exactCountNo_big (A0 : Option Addr) (c0 n0 : Nat) (w : World) (hl : 1048576 < n0) (hm : n0 ≤ 9223372036854775807) :
    Calls Try.prog 8 #[.slice A0 n0 c0] w fun e w' => e = .returned (.bool true) ∧ Below w.heap.size w w' := by
  have hb : (1048576 : Int) < n0 := by omega
  clear hm
  go_enter Try.func8, Try.ntmps8
  go_wp2_with fail
  go_ret
  exact ⟨rfl, Below.refl _ _⟩

theorem exactExact_any (A0 : Option Addr) (c0 : Nat) (L0 : List Int) (m1 : Int) (w : World) (hm0 : L0.length ≤ 1048576) (r0 : IntRow w A0 L0) :
    Calls Try.prog 9 #[.slice A0 L0.length c0, .int .i64 m1] w fun e w' => e = .returned (.bool true) ∧ Below w.heap.size w w' :=
  exactExact_walk A0 c0 L0 m1 (exA L0 m1) w hm0 r0  (fun A0 c0 W r0 => specExact_any A0 c0 _ m1 L0 W rfl (by omega) r0) (fun A0 c0 W r0  => implExact_any A0 c0 _ m1 L0 W rfl (by omega) r0)

theorem exactExact_big (A0 : Option Addr) (c0 n0 : Nat) (m1 : Int) (w : World) (hl : 1048576 < n0) (hm : n0 ≤ 9223372036854775807) :
    Calls Try.prog 9 #[.slice A0 n0 c0, .int .i64 m1] w fun e w' => e = .returned (.bool true) ∧ Below w.heap.size w w' := by
  have hb : (1048576 : Int) < n0 := by omega
  clear hm
  go_enter Try.func9, Try.ntmps9
  go_wp2_with fail
  go_ret
  exact ⟨rfl, Below.refl _ _⟩

end Go.Proofs.Ytajocneggcofgaa
