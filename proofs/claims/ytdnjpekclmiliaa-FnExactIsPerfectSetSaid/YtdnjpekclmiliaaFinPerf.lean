/-
  The laws of chapter 6 on sets, put together, where the program's functions answer as the model's do.
-/
import Derived.Test.YtdnjpekclmiliaaExactPerf
import Derived.Test.YtdnjpekclmiliaaUCalls
import Derived.Test.YtdnjpekclmiliaaImpl6
namespace Go.Proofs.Ytdnjpekclmiliaa
open Go.ChangeShapes Go.WideShapes Go.ChangeAt Go.RowKit Go.PlainAid

theorem exactWays_any (H : Impl6) (A : Option Addr) (c : Nat) (L : List Int) (m : Int) (w : World) (hm : L.length ≤ 1048576) (r : IntRow w A L) :
    Calls Try.prog 4 #[.slice A L.length c, .int .i64 m] w fun e w' => e = .returned (.bool true) ∧ Below w.heap.size w w' :=
  exactWays_walk A c L m (waysU L m) w hm r (fun A c W r => specSumWays_any m A c _ L W rfl (by omega) r) (fun A c W r => H.hW m L A c W hm r)

theorem exactWays_big (A : Option Addr) (c n : Nat) (m : Int) (w : World) (hl : 1048576 < n) (hm : n ≤ 9223372036854775807) :
    Calls Try.prog 4 #[.slice A n c, .int .i64 m] w fun e w' => e = .returned (.bool true) ∧ Below w.heap.size w w' := by
  have hb : (1048576 : Int) < n := by omega
  clear hm
  go_enter Try.func4, Try.ntmps4
  go_wp2_with fail
  go_ret
  exact ⟨rfl, Below.refl _ _⟩

theorem exactComplete_any (H : Impl6) (A : Option Addr) (c : Nat) (L : List Int) (w : World) (hm : L.length ≤ 1048576) (r : IntRow w A L) :
    Calls Try.prog 5 #[.slice A L.length c] w fun e w' => e = .returned (.bool true) ∧ Below w.heap.size w w' :=
  exactComplete_walk A c L (completeB L) w hm r (fun A c W r => specComplete_any A c _ L W rfl (by omega) r) (fun A c W r => H.hC L A c W hm r)

theorem exactComplete_big (A : Option Addr) (c n : Nat) (w : World) (hl : 1048576 < n) (hm : n ≤ 9223372036854775807) :
    Calls Try.prog 5 #[.slice A n c] w fun e w' => e = .returned (.bool true) ∧ Below w.heap.size w w' := by
  have hb : (1048576 : Int) < n := by omega
  clear hm
  go_enter Try.func5, Try.ntmps5
  go_wp2_with fail
  go_ret
  exact ⟨rfl, Below.refl _ _⟩

theorem exactPerfect_any (H : Impl6) (A : Option Addr) (c : Nat) (L : List Int) (w : World) (hm : L.length ≤ 1048576) (r : IntRow w A L) :
    Calls Try.prog 6 #[.slice A L.length c] w fun e w' => e = .returned (.bool true) ∧ Below w.heap.size w w' :=
  exactPerfect_walk A c L (perfectB L) w hm r (fun A c W r => specPerfect_any A c _ L W rfl (by omega) r) (fun A c W r => H.hP L A c W hm r)

theorem exactPerfect_big (A : Option Addr) (c n : Nat) (w : World) (hl : 1048576 < n) (hm : n ≤ 9223372036854775807) :
    Calls Try.prog 6 #[.slice A n c] w fun e w' => e = .returned (.bool true) ∧ Below w.heap.size w w' := by
  have hb : (1048576 : Int) < n := by omega
  clear hm
  go_enter Try.func6, Try.ntmps6
  go_wp2_with fail
  go_ret
  exact ⟨rfl, Below.refl _ _⟩
end Go.Proofs.Ytdnjpekclmiliaa
