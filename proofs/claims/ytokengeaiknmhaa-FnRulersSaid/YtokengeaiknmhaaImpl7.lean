/-
  What the program's seven functions of chapter 7 answer, said once.
-/
import Derived.Test.YtokengeaiknmhaaShort
import Derived.Test.YtokengeaiknmhaaRulerLen
import Derived.Test.YtokengeaiknmhaaRange
namespace Go.Proofs.Ytokengeaiknmhaa
open Go.ChangeShapes Go.WideShapes Go.ChangeAt Go.RowKit Go.PlainAid

/-- The program's seven functions answer as the model's do. -/
structure Impl7 : Prop where
  hR : ∀ (L : List Int) (A : Option Addr) (c : Nat) (v : World), L.length ≤ 1048576 → L.length ≤ c → IntRow v A L → Calls Try.prog 21 #[.slice A L.length c] v (SaysB (rulB L) v)
  hL : ∀ (L : List Int) (A : Option Addr) (c : Nat) (v : World), L.length ≤ 1048576 → L.length ≤ c → IntRow v A L → Calls Try.prog 13 #[.slice A L.length c] v (Copied (lenL L) v)
  hG : ∀ (L : List Int) (A : Option Addr) (c : Nat) (v : World), L.length ≤ 1048576 → L.length ≤ c → IntRow v A L → Calls Try.prog 17 #[.slice A L.length c] v (SaysB (golB L) v)
  hM : ∀ (L : List Int) (A : Option Addr) (c : Nat) (v : World), L.length ≤ 1048576 → L.length ≤ c → IntRow v A L → Calls Try.prog 20 #[.slice A L.length c] v (SaysB (measB L) v)
  hT : ∀ (L : List Int) (A : Option Addr) (c : Nat) (v : World), L.length ≤ 1048576 → L.length ≤ c → IntRow v A L → Calls Try.prog 14 #[.slice A L.length c] v (Copied (mirA L) v)
  hS : ∀ (n : Int) (v : World), Calls Try.prog 16 #[.int .i64 n] v (Copied (shortA n) v)
  hF : ∀ (m : Int) (v : World), Calls Try.prog 18 #[.int .i64 m] v (SaysI (fewA m) v)
end Go.Proofs.Ytokengeaiknmhaa
