/-
  There are as many perfect lists with the sum n as lists of factors of n + 1, for n from 1 to 24: by reckoning.
-/
import Derived.Test.YtdnjpekclmiliaaPlists
namespace Go.Proofs.Ytdnjpekclmiliaa
theorem same_count : ∀ n, n < 24 → (plists 25 (n + 1) [] 0).length = (facs 7 (n + 2) []).length ∧ 0 < (plists 25 (n + 1) [] 0).length ∧ (plists 25 (n + 1) [] 0).length ≤ 200 := by decide +kernel
end Go.Proofs.Ytdnjpekclmiliaa
