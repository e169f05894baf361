/-
  A row of the call's own has room for what is in it. No program's walk.
-/
import Derived.Test.YtfokchmmeflhiaaOwn
namespace Go.Proofs.Ytfokchmmeflhiaa
open Go.ChangeShapes Go.WideShapes Go.ChangeAt Go.RowKit Go.PlainAid

theorem cap_own {w : World} {B n c s : Nat} {T : TypeId} {A : Option Addr} {xs : List Value} (h : w.ownsRow B T s (.slice A n c) n xs) : n ≤ c := by
  rcases h.2 with ⟨h1, h2⟩ | ⟨g, cap, cur, hv, -, -, hle, -⟩
  · omega
  · injection hv with _ _ hc
    omega
end Go.Proofs.Ytfokchmmeflhiaa
