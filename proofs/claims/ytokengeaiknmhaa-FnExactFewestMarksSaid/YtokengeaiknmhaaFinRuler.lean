/-
  The laws of chapter 7, put together, where the program's functions answer as the model's do.
-/
import Derived.Test.YtokengeaiknmhaaExactRuler
import Derived.Test.YtokengeaiknmhaaImpl7
import Derived.Test.YtokengeaiknmhaaSpecLen
import Derived.Test.YtokengeaiknmhaaSpecMirror
import Derived.Test.YtokengeaiknmhaaSpecFind
import Derived.Test.YtokengeaiknmhaaSpecFew
namespace Go.Proofs.Ytokengeaiknmhaa
open Go.ChangeShapes Go.WideShapes Go.ChangeAt Go.RowKit Go.PlainAid

theorem exactRuler_any (H : Impl7) (A : Option Addr) (c : Nat) (L : List Int) (w : World) (hm : L.length ≤ 1048576) (r : IntRow w A L) :
    Calls Try.prog 4 #[.slice A L.length c] w fun e w' => e = .returned (.bool true) ∧ Below w.heap.size w w' :=
  exactRuler_walk A c L (rulB L) w hm r  (fun A c W r => (specRuler_any A c _ L W rfl (by omega) r).mono fun _ _ h => ⟨h.1, by obtain ⟨q, rfl⟩ := h.2; exact below_drewN (Below.refl _ _) q⟩) (fun A c W r h => H.hR L A c W hm h r)

theorem exactRuler_big (A : Option Addr) (c n : Nat) (w : World) (hl : 1048576 < n) (hm : n ≤ 9223372036854775807) :
    Calls Try.prog 4 #[.slice A n c] w fun e w' => e = .returned (.bool true) ∧ Below w.heap.size w w' := by
  have hb : (1048576 : Int) < n := by omega
  clear hm
  go_enter Try.func4, Try.ntmps4
  go_wp2_with fail
  go_ret
  exact ⟨rfl, Below.refl _ _⟩

theorem exactLengths_any (H : Impl7) (A : Option Addr) (c : Nat) (L : List Int) (w : World) (hm : L.length ≤ 1048576) (r : IntRow w A L) :
    Calls Try.prog 5 #[.slice A L.length c] w fun e w' => e = .returned (.bool true) ∧ Below w.heap.size w w' :=
  exactLengths_walk A c L (lenL L) w hm r (by have := lenL_length L; omega) (fun A c W r => specLengths_any A c _ L W rfl (by omega) r) (fun A c W r h => H.hL L A c W hm h r)

theorem exactLengths_big (A : Option Addr) (c n : Nat) (w : World) (hl : 1048576 < n) (hm : n ≤ 9223372036854775807) :
    Calls Try.prog 5 #[.slice A n c] w fun e w' => e = .returned (.bool true) ∧ Below w.heap.size w w' := by
  have hb : (1048576 : Int) < n := by omega
  clear hm
  go_enter Try.func5, Try.ntmps5
  go_wp2_with fail
  go_ret
  exact ⟨rfl, Below.refl _ _⟩

theorem exactGolomb_any (H : Impl7) (A : Option Addr) (c : Nat) (L : List Int) (w : World) (hm : L.length ≤ 1048576) (r : IntRow w A L) :
    Calls Try.prog 6 #[.slice A L.length c] w fun e w' => e = .returned (.bool true) ∧ Below w.heap.size w w' :=
  exactGolomb_walk A c L (golB L) w hm r  (fun A c W r => specGolomb_any A c _ L W rfl (by omega) r) (fun A c W r h => H.hG L A c W hm h r)

theorem exactGolomb_big (A : Option Addr) (c n : Nat) (w : World) (hl : 1048576 < n) (hm : n ≤ 9223372036854775807) :
    Calls Try.prog 6 #[.slice A n c] w fun e w' => e = .returned (.bool true) ∧ Below w.heap.size w w' := by
  have hb : (1048576 : Int) < n := by omega
  clear hm
  go_enter Try.func6, Try.ntmps6
  go_wp2_with fail
  go_ret
  exact ⟨rfl, Below.refl _ _⟩

theorem exactMeasures_any (H : Impl7) (A : Option Addr) (c : Nat) (L : List Int) (w : World) (hm : L.length ≤ 1048576) (r : IntRow w A L) :
    Calls Try.prog 7 #[.slice A L.length c] w fun e w' => e = .returned (.bool true) ∧ Below w.heap.size w w' :=
  exactMeasures_walk A c L (measB L) w hm r  (fun A c W r => specMeasures_any A c _ L W rfl (by omega) r) (fun A c W r h => H.hM L A c W hm h r)

theorem exactMeasures_big (A : Option Addr) (c n : Nat) (w : World) (hl : 1048576 < n) (hm : n ≤ 9223372036854775807) :
    Calls Try.prog 7 #[.slice A n c] w fun e w' => e = .returned (.bool true) ∧ Below w.heap.size w w' := by
  have hb : (1048576 : Int) < n := by omega
  clear hm
  go_enter Try.func7, Try.ntmps7
  go_wp2_with fail
  go_ret
  exact ⟨rfl, Below.refl _ _⟩

theorem exactMirror_any (H : Impl7) (A : Option Addr) (c : Nat) (L : List Int) (w : World) (hm : L.length ≤ 1048576) (r : IntRow w A L) :
    Calls Try.prog 10 #[.slice A L.length c] w fun e w' => e = .returned (.bool true) ∧ Below w.heap.size w w' :=
  exactMirror_walk A c L (mirA L) w hm r (by have := mirA_length L; omega) (fun A c W r => specMirror_any A c _ L W rfl (by omega) r) (fun A c W r h => H.hT L A c W hm h r)

theorem exactMirror_big (A : Option Addr) (c n : Nat) (w : World) (hl : 1048576 < n) (hm : n ≤ 9223372036854775807) :
    Calls Try.prog 10 #[.slice A n c] w fun e w' => e = .returned (.bool true) ∧ Below w.heap.size w w' := by
  have hb : (1048576 : Int) < n := by omega
  clear hm
  go_enter Try.func10, Try.ntmps10
  go_wp2_with fail
  go_ret
  exact ⟨rfl, Below.refl _ _⟩

theorem exactShortest_any (H : Impl7) (n : Int) (w : World) :
    Calls Try.prog 8 #[.int .i64 n] w fun e w' => e = .returned (.bool true) ∧ Below w.heap.size w w' :=
  exactShortest_walk n (shortA n) w (by have := shortA_length n; omega) (fun W => specShortest_any n W) (fun W => H.hS n W)

theorem exactFewest_any (H : Impl7) (m : Int) (w : World) :
    Calls Try.prog 9 #[.int .i64 m] w fun e w' => e = .returned (.bool true) ∧ Below w.heap.size w w' :=
  exactFewest_walk m (fewA m) w (fun W => specFewest_any m W) (fun W => H.hF m W)
end Go.Proofs.Ytokengeaiknmhaa
