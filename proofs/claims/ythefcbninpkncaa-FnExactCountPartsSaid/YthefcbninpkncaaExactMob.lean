/-
  The laws that the program's functions on mobiles answer as the model does, leave their arguments, and own what they answer.
-/
import Derived.Test.YthefcbninpkncaaExactMobW
import Derived.Test.YthefcbninpkncaaImplLeast
import Derived.Test.YthefcbninpkncaaImplVals
namespace Go.Proofs.Ythefcbninpkncaa
open Go.ChangeShapes Go.WideShapes Go.ChangeAt Go.RowKit Go.PlainAid

theorem exactMok_any (A : Option Addr) (c : Nat) (L : List PartT) (w : World) (hm : L.length ≤ 1048576) (r : PartRow w A L) : Calls Try.prog 4 #[.slice A L.length c] w fun e w' => e = .returned (.bool true) ∧ Below w.heap.size w w' := by
  exact exactMok_walk A c L _ w hm r (fun A c W _ r => specMok A _ c L W rfl hm r) (fun A c W _ r => implMok A _ c L W rfl hm r)
theorem exactWof_any (A : Option Addr) (c : Nat) (L : List PartT) (m0 : Int) (w : World) (hm : L.length ≤ 1048576) (r : PartRow w A L) : Calls Try.prog 5 #[.slice A L.length c, .int .i64 m0] w fun e w' => e = .returned (.bool true) ∧ Below w.heap.size w w' := by
  exact exactWof_walk A c L m0 _ w hm r (fun A c W _ r => specWof A _ c L m0 W rfl hm r) (fun A c W _ r => implWof A _ c L m0 W rfl hm r)
theorem exactBal_any (A : Option Addr) (c : Nat) (L : List PartT) (w : World) (hm : L.length ≤ 1048576) (r : PartRow w A L) : Calls Try.prog 6 #[.slice A L.length c] w fun e w' => e = .returned (.bool true) ∧ Below w.heap.size w w' := by
  exact exactBal_walk A c L _ w hm r (fun A c W _ r => specBal A _ c L W rfl hm r) (fun A c W _ r => implBal A _ c L W rfl hm r)
theorem exactTilt_any (A : Option Addr) (c : Nat) (L : List PartT) (w : World) (hm : L.length ≤ 1048576) (r : PartRow w A L) : Calls Try.prog 7 #[.slice A L.length c] w fun e w' => e = .returned (.bool true) ∧ Below w.heap.size w w' := by
  exact exactTilt_walk A c L _ w hm r (fun A c W _ r => specTilt A _ c L W rfl hm r) (fun A c W _ r => implFt A _ c L W rfl hm r)
theorem exactLeast_any (A : Option Addr) (c : Nat) (L : List PartT) (w : World) (hm : L.length ≤ 1048576) (r : PartRow w A L) : Calls Try.prog 8 #[.slice A L.length c] w fun e w' => e = .returned (.bool true) ∧ Below w.heap.size w w' := by
  by_cases h : MOk L
  · exact exactLeast_walk A c L _ _ w hm r (by rw [lwA_length]; exact hm) (fun A c W a r => specLeast_yes A _ c L W rfl a r h) (fun A c W a r => implLeast_yes A _ c L W rfl a r h)
  · exact exactLeast_walk A c L _ _ w hm r hm (fun A c W a r => specLeast_no A _ c L W rfl hm a r h) (fun A c W a r => implLeast_no A _ c L W rfl hm a r h)
theorem exactCount_any (A : Option Addr) (c : Nat) (L : List PartT) (w : World) (hm : L.length ≤ 1048576) (r : PartRow w A L) : Calls Try.prog 9 #[.slice A L.length c] w fun e w' => e = .returned (.bool true) ∧ Below w.heap.size w w' := by
  exact exactCount_walk A c L _ _ w hm r (fun A c W _ r => specCount A _ c L W rfl hm r) (fun A c W _ r => implCount A _ c L W rfl hm r)
end Go.Proofs.Ythefcbninpkncaa
