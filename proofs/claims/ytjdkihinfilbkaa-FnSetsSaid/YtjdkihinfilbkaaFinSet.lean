/-
  The laws of chapter 5, put together, where the program's functions answer as the model's do.
-/
import Derived.Test.YtjdkihinfilbkaaExactSet
import Derived.Test.YtjdkihinfilbkaaLawSet
import Derived.Test.YtjdkihinfilbkaaSetCalls
namespace Go.Proofs.Ytjdkihinfilbkaa
open Go.ChangeShapes Go.WideShapes Go.ChangeAt Go.RowKit Go.PlainAid

theorem says_of_quiet {x : Bool} {w : World} {e : Ending} {w' : World} (h : Quiet x w e w') : SaysB x w e w' := by
  obtain ⟨h1, q, rfl⟩ := h
  exact ⟨h1, below_drewN (Below.refl _ _) q⟩

theorem exactSet_any (H : Impl5) (A : Option Addr) (c : Nat) (L : List Int) (w : World) (hm : L.length ≤ 1048576) (r : IntRow w A L) :
    Calls Try.prog 4 #[.slice A L.length c] w fun e w' => e = .returned (.bool true) ∧ Below w.heap.size w w' :=
  exactSet_walk A c L (setB L) w hm r (fun A c W r => (specSet_any A c _ L W rfl (by omega) r).mono fun _ _ h => says_of_quiet h) (fun A c W r => H.hS L A c W hm r)

theorem exactSet_big (A : Option Addr) (c n : Nat) (w : World) (hl : 1048576 < n) (hm : n ≤ 9223372036854775807) :
    Calls Try.prog 4 #[.slice A n c] w fun e w' => e = .returned (.bool true) ∧ Below w.heap.size w w' := by
  have hb : (1048576 : Int) < n := by omega
  clear hm
  go_enter Try.func4, Try.ntmps4
  go_wp2_with fail
  go_ret
  exact ⟨rfl, Below.refl _ _⟩

theorem exactOne_any (H : Impl5) (A : Option Addr) (c : Nat) (L : List Int) (m : Int) (w : World) (hm : L.length ≤ 1048576) (r : IntRow w A L) :
    Calls Try.prog 5 #[.slice A L.length c, .int .i64 m] w fun e w' => e = .returned (.bool true) ∧ Below w.heap.size w w' :=
  exactOne_walk A c L m (oneB L m) w hm r (fun A c W r => specOne_any m A c _ L W rfl (by omega) r) (fun A c W r => H.hO m L A c W hm r)

theorem exactOne_big (A : Option Addr) (c n : Nat) (m : Int) (w : World) (hl : 1048576 < n) (hm : n ≤ 9223372036854775807) :
    Calls Try.prog 5 #[.slice A n c, .int .i64 m] w fun e w' => e = .returned (.bool true) ∧ Below w.heap.size w w' := by
  have hb : (1048576 : Int) < n := by omega
  clear hm
  go_enter Try.func5, Try.ntmps5
  go_wp2_with fail
  go_ret
  exact ⟨rfl, Below.refl _ _⟩

theorem exactTwo_any (H : Impl5) (A : Option Addr) (c : Nat) (L : List Int) (m : Int) (w : World) (hm : L.length ≤ 1048576) (r : IntRow w A L) :
    Calls Try.prog 6 #[.slice A L.length c, .int .i64 m] w fun e w' => e = .returned (.bool true) ∧ Below w.heap.size w w' :=
  exactTwo_walk A c L m (twoB L m) w hm r (fun A c W r => specTwo_any m A c _ L W rfl (by omega) r) (fun A c W r => H.hT m L A c W hm r)

theorem exactTwo_big (A : Option Addr) (c n : Nat) (m : Int) (w : World) (hl : 1048576 < n) (hm : n ≤ 9223372036854775807) :
    Calls Try.prog 6 #[.slice A n c, .int .i64 m] w fun e w' => e = .returned (.bool true) ∧ Below w.heap.size w w' := by
  have hb : (1048576 : Int) < n := by omega
  clear hm
  go_enter Try.func6, Try.ntmps6
  go_wp2_with fail
  go_ret
  exact ⟨rfl, Below.refl _ _⟩

theorem exactReach_any (H : Impl5) (A : Option Addr) (c : Nat) (L : List Int) (m : Int) (w : World) (hm : L.length ≤ 1048576) (r : IntRow w A L) :
    Calls Try.prog 7 #[.slice A L.length c, .int .i64 m] w fun e w' => e = .returned (.bool true) ∧ Below w.heap.size w w' :=
  exactReach_walk A c L m (reachI L m) w hm r (fun A c W r => specReach_any m A c _ L W rfl (by omega) r) (fun A c W r => H.hR m L A c W hm r)

theorem exactReach_big (A : Option Addr) (c n : Nat) (m : Int) (w : World) (hl : 1048576 < n) (hm : n ≤ 9223372036854775807) :
    Calls Try.prog 7 #[.slice A n c, .int .i64 m] w fun e w' => e = .returned (.bool true) ∧ Below w.heap.size w w' := by
  have hb : (1048576 : Int) < n := by omega
  clear hm
  go_enter Try.func7, Try.ntmps7
  go_wp2_with fail
  go_ret
  exact ⟨rfl, Below.refl _ _⟩

theorem exactWaysOf_any (H : Impl5) (A : Option Addr) (c : Nat) (L : List Int) (m : Int) (w : World) (hm : L.length ≤ 1048576) (r : IntRow w A L) :
    Calls Try.prog 8 #[.slice A L.length c, .int .i64 m] w fun e w' => e = .returned (.bool true) ∧ Below w.heap.size w w' :=
  exactWaysOf_walk A c L m (waysI L m) w hm r (fun A c W r => specWaysOf_any m A c _ L W rfl (by omega) r) (fun A c W r => H.hW m L A c W hm r)

theorem exactWaysOf_big (A : Option Addr) (c n : Nat) (m : Int) (w : World) (hl : 1048576 < n) (hm : n ≤ 9223372036854775807) :
    Calls Try.prog 8 #[.slice A n c, .int .i64 m] w fun e w' => e = .returned (.bool true) ∧ Below w.heap.size w w' := by
  have hb : (1048576 : Int) < n := by omega
  clear hm
  go_enter Try.func8, Try.ntmps8
  go_wp2_with fail
  go_ret
  exact ⟨rfl, Below.refl _ _⟩

theorem exactLeast_any (H : Impl5) (A : Option Addr) (c : Nat) (L : List Int) (w : World) (hm : L.length ≤ 1048576) (r : IntRow w A L) :
    Calls Try.prog 9 #[.slice A L.length c] w fun e w' => e = .returned (.bool true) ∧ Below w.heap.size w w' :=
  exactLeast_walk A c L (leastI L) w hm r (fun A c W r => specLeast_any A c _ L W rfl (by omega) r) (fun A c W r => H.hL L A c W hm r)

theorem exactLeast_big (A : Option Addr) (c n : Nat) (w : World) (hl : 1048576 < n) (hm : n ≤ 9223372036854775807) :
    Calls Try.prog 9 #[.slice A n c] w fun e w' => e = .returned (.bool true) ∧ Below w.heap.size w w' := by
  have hb : (1048576 : Int) < n := by omega
  clear hm
  go_enter Try.func9, Try.ntmps9
  go_wp2_with fail
  go_ret
  exact ⟨rfl, Below.refl _ _⟩

set_option maxRecDepth 100000 in
theorem sets_big (a : Option Addr) (len cap : Nat) (w : World) (hl : 1048576 < len) (hm : len ≤ 9223372036854775807) :
    Calls Try.prog 3 #[.slice a len cap] w fun e w' => e = .returned (.bool true) ∧ Below w.heap.size w w' := by
  have hb : (1048576 : Int) < len := by omega
  go_enter Try.func3, Try.ntmps3
  go_wp2_with (go_at_call 10; go_in)
  go_ret
  exact ⟨rfl, Below.refl _ _⟩
end Go.Proofs.Ytjdkihinfilbkaa
