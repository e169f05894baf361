/-
  The exact laws of chapter 3, put together.
-/
import Derived.Test.YtacfblhmijabgaaExactThree
import Derived.Test.YtacfblhmijabgaaExactTurn
import Derived.Test.YtacfblhmijabgaaImplThree
namespace Go.Proofs.Ytacfblhmijabgaa
open Go.ChangeShapes Go.WideShapes Go.ChangeAt Go.RowKit Go.PlainAid

theorem says_of_tells {x : Bool} {w : World} {e : Ending} {w' : World} (h : Tells x w e w') : SaysB x w e w' := by
  obtain ⟨h1, rfl⟩ := h
  exact ⟨h1, Below.refl _ _⟩
theorem says_of_tells2 {x y : Int} {w : World} {e : Ending} {w' : World} (h : Tells2 x y w e w') : SaysII x y w e w' := by
  obtain ⟨h1, q, rfl⟩ := h
  exact ⟨h1, below_drewN (Below.refl _ _) q⟩
theorem says_of_tellsII {x y : Int} {w : World} {e : Ending} {w' : World} (h : TellsII x y w e w') : SaysII x y w e w' := by
  obtain ⟨h1, rfl⟩ := h
  exact ⟨h1, Below.refl _ _⟩

theorem exactCoins_any (A : Option Addr) (c : Nat) (L : List Int) (w : World) (hm : L.length ≤ 1048576) (r : IntRow w A L) :
    Calls Try.prog 4 #[.slice A L.length c] w fun e w' => e = .returned (.bool true) ∧ Below w.heap.size w w' :=
  exactCoins_walk A c L _ w hm r (fun A c W r => specCoins_any A c _ L W rfl (by omega) r) (fun A c W r => implCoins_any A c _ L W rfl (by omega) r)

theorem exactLoad_any (m : Int) (A : Option Addr) (c : Nat) (L : List Int) (w : World) (hm : L.length ≤ 1048576) (r : IntRow w A L) :
    Calls Try.prog 5 #[.int .i64 m, .slice A L.length c] w fun e w' => e = .returned (.bool true) ∧ Below w.heap.size w w' :=
  exactLoad_walk m A c L _ w hm r (fun A c W r => (specLoad_any m A c _ L W rfl (by omega) r).mono fun _ _ h => says_of_tells h) (fun A c W r => (implLoad_any m A c _ L W rfl (by omega) r).mono fun _ _ h => says_of_tells h)

theorem exactWeigh_any (A : Option Addr) (c : Nat) (K : List Int) (A' : Option Addr) (c' : Nat) (L : List Int) (w : World) (hk : K.length ≤ 1048576) (r : IntRow w A K) (hl : L.length ≤ 1048576) (r' : IntRow w A' L) :
    Calls Try.prog 6 #[.slice A K.length c, .slice A' L.length c'] w fun e w' => e = .returned (.bool true) ∧ Below w.heap.size w w' :=
  exactWeigh_walk A c K A' c' L _ _ w hk r hl r' (fun A c A' c' W r r' => specWeigh_any A A' c c' _ _ K L W rfl rfl (by omega) (by omega) r r') (fun A c A' c' W r r' => implWeigh_any A A' c c' _ _ K L W rfl rfl (by omega) (by omega) r r')

theorem exactCount_any (A : Option Addr) (c : Nat) (L : List Int) (w : World) (hm : L.length ≤ 1048576) (r : IntRow w A L) :
    Calls Try.prog 7 #[.slice A L.length c] w fun e w' => e = .returned (.bool true) ∧ Below w.heap.size w w' :=
  exactCount_walk A c L _ _ w hm r (fun A c W r => (specCount_any A c _ L W rfl (by omega) r).mono fun _ _ h => says_of_tells2 h) (fun A c W r => (implCount_any A c _ L W rfl (by omega) r).mono fun _ _ h => says_of_tellsII h)

theorem exactFair_any (m : Int) (A : Option Addr) (c : Nat) (L : List Int) (w : World) (hm : L.length ≤ 1048576) (r : IntRow w A L) :
    Calls Try.prog 8 #[.int .i64 m, .slice A L.length c] w fun e w' => e = .returned (.bool true) ∧ Below w.heap.size w w' :=
  exactFair_walk m A c L _ w hm r (fun A c W r => specFair_any m A c _ L W rfl (by omega) r) (fun A c W r => implFair_any m A c _ L W rfl (by omega) r)

theorem turnL_length (L : List Int) : (turnL L).length ≤ L.length := by
  unfold turnL
  split
  · rw [negs_length]; omega
  · simp

theorem exactTurn_any (A : Option Addr) (c : Nat) (L : List Int) (w : World) (hm : L.length ≤ 1048576) (r : IntRow w A L) :
    Calls Try.prog 9 #[.slice A L.length c] w fun e w' => e = .returned (.bool true) ∧ Below w.heap.size w w' :=
  exactTurn_walk A c L (turnL L) w hm (by have := turnL_length L; omega) r (fun A c W r => specTurn_any A c _ L W rfl hm r) (fun A c W r => implTurn_any A c _ L W rfl hm r)

theorem exactCoins_big (A : Option Addr) (c n : Nat) (w : World) (hl : 1048576 < n) (hm : n ≤ 9223372036854775807) :
    Calls Try.prog 4 #[.slice A n c] w fun e w' => e = .returned (.bool true) ∧ Below w.heap.size w w' := by
  have hb : (1048576 : Int) < n := by omega
  clear hm
  go_enter Try.func4, Try.ntmps4
  go_wp2_with fail
  go_ret
  exact ⟨rfl, Below.refl _ _⟩

theorem exactLoad_big (m : Int) (A : Option Addr) (c n : Nat) (w : World) (hl : 1048576 < n) (hm : n ≤ 9223372036854775807) :
    Calls Try.prog 5 #[.int .i64 m, .slice A n c] w fun e w' => e = .returned (.bool true) ∧ Below w.heap.size w w' := by
  have hb : (1048576 : Int) < n := by omega
  clear hm
  go_enter Try.func5, Try.ntmps5
  go_wp2_with fail
  go_ret
  exact ⟨rfl, Below.refl _ _⟩

theorem exactWeigh_big (A A' : Option Addr) (c c' n n' : Nat) (w : World) (hl : 1048576 < n ∨ 1048576 < n') (hm : n ≤ 9223372036854775807) (hm' : n' ≤ 9223372036854775807) :
    Calls Try.prog 6 #[.slice A n c, .slice A' n' c'] w fun e w' => e = .returned (.bool true) ∧ Below w.heap.size w w' := by
  by_cases hb : (1048576 : Int) < n
  · clear hl
    go_enter Try.func6, Try.ntmps6
    go_wp2_with fail
    go_ret
    exact ⟨rfl, Below.refl _ _⟩
  · have hb' : (1048576 : Int) < n' := by omega
    clear hl
    go_enter Try.func6, Try.ntmps6
    go_wp2_with fail
    go_ret
    exact ⟨rfl, Below.refl _ _⟩

theorem exactCount_big (A : Option Addr) (c n : Nat) (w : World) (hl : 1048576 < n) (hm : n ≤ 9223372036854775807) :
    Calls Try.prog 7 #[.slice A n c] w fun e w' => e = .returned (.bool true) ∧ Below w.heap.size w w' := by
  have hb : (1048576 : Int) < n := by omega
  clear hm
  go_enter Try.func7, Try.ntmps7
  go_wp2_with fail
  go_ret
  exact ⟨rfl, Below.refl _ _⟩

theorem exactFair_big (m : Int) (A : Option Addr) (c n : Nat) (w : World) (hl : 1048576 < n) (hm : n ≤ 9223372036854775807) :
    Calls Try.prog 8 #[.int .i64 m, .slice A n c] w fun e w' => e = .returned (.bool true) ∧ Below w.heap.size w w' := by
  have hb : (1048576 : Int) < n := by omega
  clear hm
  go_enter Try.func8, Try.ntmps8
  go_wp2_with fail
  go_ret
  exact ⟨rfl, Below.refl _ _⟩

theorem exactTurn_big (A : Option Addr) (c n : Nat) (w : World) (hl : 1048576 < n) (hm : n ≤ 9223372036854775807) :
    Calls Try.prog 9 #[.slice A n c] w fun e w' => e = .returned (.bool true) ∧ Below w.heap.size w w' := by
  have hb : (1048576 : Int) < n := by omega
  clear hm
  go_enter Try.func9, Try.ntmps9
  go_wp2_with fail
  go_ret
  exact ⟨rfl, Below.refl _ _⟩
end Go.Proofs.Ytacfblhmijabgaa
