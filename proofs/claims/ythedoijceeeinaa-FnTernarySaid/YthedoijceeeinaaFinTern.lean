/-
  The laws of chapter 4, put together, where the program's functions answer as the model's do.
-/
import Derived.Test.YthedoijceeeinaaExactTern
import Derived.Test.YthedoijceeeinaaLawTern
namespace Go.Proofs.Ythedoijceeeinaa
open Go.ChangeShapes Go.WideShapes Go.ChangeAt Go.RowKit Go.PlainAid

theorem exactDigits_any (H : Impl4) (n : Int) (w : World) :
    Calls Try.prog 4 #[.int .i64 n] w fun e w' => e = .returned (.bool true) ∧ Below w.heap.size w w' :=
  exactDigits_walk n (digsL n) w (by have := digsL_length n; omega) (fun W => specDigits_any n W) (fun W => H.hD n W)

theorem exactValue_any (H : Impl4) (A : Option Addr) (c : Nat) (L : List Int) (w : World) (hm : L.length ≤ 1048576) (r : IntRow w A L) :
    Calls Try.prog 5 #[.slice A L.length c] w fun e w' => e = .returned (.bool true) ∧ Below w.heap.size w w' :=
  exactValue_walk A c L (valueI L) w hm r (fun A c W r => (specValue_any A c _ L W rfl (by omega) r).mono fun _ _ h => h.says) (fun A c W r => H.hV L A c W hm r)

theorem panX_length (n x : Int) : (panX n x).length ≤ 10 := by
  unfold panX powsL
  split
  · exact Nat.le_trans (powsTo_length _ _ _) (digsL_length n)
  · exact Nat.zero_le _

theorem exactPans_any (H : Impl4) (n : Int) (w : World) :
    Calls Try.prog 6 #[.int .i64 n] w fun e w' => e = .returned (.bool true) ∧ Below w.heap.size w w' :=
  exactPans_walk n (panX n (-1)) (panX n 1) (panB n) w (by have := panX_length n (-1); omega) (by have := panX_length n 1; omega) (fun W => specPans_any n W) (fun W => H.hP n W)

theorem negL_length (L : List Int) : (negL L).length ≤ L.length := by
  unfold negL turnL
  split
  · split
    · rw [negs_length]; omega
    · simp
  · simp

theorem exactNegate_any (H : Impl4) (A : Option Addr) (c : Nat) (L : List Int) (w : World) (hm : L.length ≤ 1048576) (r : IntRow w A L) :
    Calls Try.prog 7 #[.slice A L.length c] w fun e w' => e = .returned (.bool true) ∧ Below w.heap.size w w' :=
  exactNegate_walk A c L (negL L) w hm r (by have := negL_length L; omega) (fun A c W r => specNegate_any A c _ L W rfl hm r) (fun A c W r => H.hN L A c W hm r)

theorem exactWeights_any (H : Impl4) (n : Int) (w : World) :
    Calls Try.prog 8 #[.int .i64 n] w fun e w' => e = .returned (.bool true) ∧ Below w.heap.size w w' :=
  exactWeights_walk n (weightsI n) w (fun W => specWeights_any n W) (fun W => H.hW n W)

theorem exactValue_big (A : Option Addr) (c n : Nat) (w : World) (hl : 1048576 < n) (hm : n ≤ 9223372036854775807) :
    Calls Try.prog 5 #[.slice A n c] w fun e w' => e = .returned (.bool true) ∧ Below w.heap.size w w' := by
  have hb : (1048576 : Int) < n := by omega
  clear hm
  go_enter Try.func5, Try.ntmps5
  go_wp2_with fail
  go_ret
  exact ⟨rfl, Below.refl _ _⟩

theorem exactNegate_big (A : Option Addr) (c n : Nat) (w : World) (hl : 1048576 < n) (hm : n ≤ 9223372036854775807) :
    Calls Try.prog 7 #[.slice A n c] w fun e w' => e = .returned (.bool true) ∧ Below w.heap.size w w' := by
  have hb : (1048576 : Int) < n := by omega
  clear hm
  go_enter Try.func7, Try.ntmps7
  go_wp2_with fail
  go_ret
  exact ⟨rfl, Below.refl _ _⟩

set_option maxRecDepth 100000 in
theorem ternary_big (a : Option Addr) (len cap : Nat) (w : World) (hl : 1048576 < len) (hm : len ≤ 9223372036854775807) :
    Calls Try.prog 3 #[.slice a len cap] w fun e w' => e = .returned (.bool true) ∧ Below w.heap.size w w' := by
  have hb : (1048576 : Int) < len := by omega
  go_enter Try.func3, Try.ntmps3
  go_wp2_with (go_at_call 9; go_in)
  go_ret
  exact ⟨rfl, Below.refl _ _⟩
end Go.Proofs.Ythedoijceeeinaa
