/-
  What the program's five functions of chapter 6 answer, said once.
-/
import Derived.Test.YtdnjpekclmiliaaPerfFacts
import Derived.Test.YtdnjpekclmiliaaRowsOf
namespace Go.Proofs.Ytdnjpekclmiliaa
open Go.ChangeShapes Go.WideShapes Go.ChangeAt Go.RowKit Go.PlainAid

/-- The program's five functions answer as the model's do. -/
structure Impl6 : Prop where
  hW : ∀ (m : Int) (L : List Int) (A : Option Addr) (c : Nat) (v : World), L.length ≤ 1048576 → IntRow v A L → Calls Try.prog 15 #[.slice A L.length c, .int .i64 m] v (SaysI (waysU L m) v)
  hC : ∀ (L : List Int) (A : Option Addr) (c : Nat) (v : World), L.length ≤ 1048576 → IntRow v A L → Calls Try.prog 14 #[.slice A L.length c] v (SaysB (completeB L) v)
  hP : ∀ (L : List Int) (A : Option Addr) (c : Nat) (v : World), L.length ≤ 1048576 → IntRow v A L → Calls Try.prog 13 #[.slice A L.length c] v (SaysB (perfectB L) v)
  hL : ∀ (m : Int) (v : World), Calls Try.prog 11 #[.int .i64 m] v (GivesSS (listsP m) v)
  hF : ∀ (m : Int) (v : World), Calls Try.prog 12 #[.int .i64 m] v (GivesSS (listsF m) v)
end Go.Proofs.Ytdnjpekclmiliaa
