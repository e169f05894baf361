/-
  The exact laws of chapter 18, put together: the model and the program answer the same.
-/
import Derived.Test.YtgjcbcbnjgghaaaExactPlay
import Derived.Test.YtgjcbcbnjgghaaaSpecLag
import Derived.Test.YtgjcbcbnjgghaaaPlayAns
namespace Go.Proofs.Ytgjcbcbnjgghaaa
open Go.ChangeShapes Go.WideShapes Go.ChangeAt Go.RowKit Go.PlainAid

theorem says_quiet {x : Bool} {w : World} {e : Ending} {w' : World} (h : Quiet x w e w') : SaysB x w e w' := by
  obtain ⟨h1, q, rfl⟩ := h
  exact ⟨h1, below_drewN (Below.refl _ _) q⟩

theorem exactPlayOk_any (m0 : Int) (m1 : Int) (w : World) :
    Calls Try.prog 4 #[.int .i64 m0, .int .i64 m1] w fun e w' => e = .returned (.bool true) ∧ Below w.heap.size w w' :=
  exactPlayOk_walk m0 m1 (playOk m0 m1) w   (fun W => (specOk_to _ m0 m1 W rfl).mono fun _ _ h => Tells.says h) (fun W => (implOk_to _ m0 m1 W rfl).mono fun _ _ h => Tells.says h)

theorem exactStep_any (m0 : Int) (m1 : Int) (m2 : Int) (w : World) :
    Calls Try.prog 5 #[.int .i64 m0, .int .i64 m1, .int .i64 m2] w fun e w' => e = .returned (.bool true) ∧ Below w.heap.size w w' :=
  exactStep_walk m0 m1 m2 (stepV m0 m1 m2) w   (fun W => (specStep_any m0 m1 m2 W).mono fun _ _ h => h.says) (fun W => (implStep_any m0 m1 m2 W).mono fun _ _ h => h.says)

theorem exactAll_any (m0 : Int) (m1 : Int) (A2 : Option Addr) (c2 : Nat) (L2 : List Int) (w : World) (hm2 : L2.length ≤ 1048576) (r2 : IntRow w A2 L2) :
    Calls Try.prog 6 #[.int .i64 m0, .int .i64 m1, .slice A2 L2.length c2] w fun e w' => e = .returned (.bool true) ∧ Below w.heap.size w w' :=
  exactAll_walk m0 m1 A2 c2 L2 (pathA m0 m1 L2) w hm2 r2 (by have := pathA_len m0 m1 L2; omega) (fun A2 c2 W r2 => specAll_any m0 m1 A2 c2 _ L2 W rfl (by omega) r2) (fun A2 c2 W r2  => implAll_any m0 m1 A2 c2 _ L2 W rfl (by omega) r2)

theorem exactAll_big (m0 : Int) (m1 : Int) (A2 : Option Addr) (c2 n2 : Nat) (w : World) (hl : 1048576 < n2) (hm : n2 ≤ 9223372036854775807) :
    Calls Try.prog 6 #[.int .i64 m0, .int .i64 m1, .slice A2 n2 c2] w fun e w' => e = .returned (.bool true) ∧ Below w.heap.size w w' := by
  have hb : (1048576 : Int) < n2 := by omega
  clear hm
  go_enter Try.func6, Try.ntmps6
  go_wp2_with fail
  go_ret
  exact ⟨rfl, Below.refl _ _⟩

theorem exactMoves_any (m0 : Int) (m1 : Int) (A2 : Option Addr) (c2 : Nat) (L2 : List Int) (w : World) (hm2 : L2.length ≤ 1048576) (r2 : IntRow w A2 L2) :
    Calls Try.prog 7 #[.int .i64 m0, .int .i64 m1, .slice A2 L2.length c2] w fun e w' => e = .returned (.bool true) ∧ Below w.heap.size w w' :=
  exactMoves_walk m0 m1 A2 c2 L2 (movsA m0 m1 L2) w hm2 r2  (fun A2 c2 W r2 => specMoves_any m0 m1 A2 c2 _ L2 W rfl (by omega) r2) (fun A2 c2 W r2  => implMoves_any m0 m1 A2 c2 _ L2 W rfl (by omega) r2)

theorem exactMoves_big (m0 : Int) (m1 : Int) (A2 : Option Addr) (c2 n2 : Nat) (w : World) (hl : 1048576 < n2) (hm : n2 ≤ 9223372036854775807) :
    Calls Try.prog 7 #[.int .i64 m0, .int .i64 m1, .slice A2 n2 c2] w fun e w' => e = .returned (.bool true) ∧ Below w.heap.size w w' := by
  have hb : (1048576 : Int) < n2 := by omega
  clear hm
  go_enter Try.func7, Try.ntmps7
  go_wp2_with fail
  go_ret
  exact ⟨rfl, Below.refl _ _⟩

theorem exactLag_any (m0 : Int) (m1 : Int) (A2 : Option Addr) (c2 : Nat) (L2 : List Int) (w : World) (hm2 : L2.length ≤ 1048576) (r2 : IntRow w A2 L2) :
    Calls Try.prog 8 #[.int .i64 m0, .int .i64 m1, .slice A2 L2.length c2] w fun e w' => e = .returned (.bool true) ∧ Below w.heap.size w w' :=
  exactLag_walk m0 m1 A2 c2 L2 (lagsA m0 m1 L2) w hm2 r2  (fun A2 c2 W r2 => specLag_any m0 m1 A2 c2 _ L2 W rfl (by omega) r2) (fun A2 c2 W r2  => implLag_any m0 m1 A2 c2 _ L2 W rfl (by omega) r2)

theorem exactLag_big (m0 : Int) (m1 : Int) (A2 : Option Addr) (c2 n2 : Nat) (w : World) (hl : 1048576 < n2) (hm : n2 ≤ 9223372036854775807) :
    Calls Try.prog 8 #[.int .i64 m0, .int .i64 m1, .slice A2 n2 c2] w fun e w' => e = .returned (.bool true) ∧ Below w.heap.size w w' := by
  have hb : (1048576 : Int) < n2 := by omega
  clear hm
  go_enter Try.func8, Try.ntmps8
  go_wp2_with fail
  go_ret
  exact ⟨rfl, Below.refl _ _⟩

end Go.Proofs.Ytgjcbcbnjgghaaa
