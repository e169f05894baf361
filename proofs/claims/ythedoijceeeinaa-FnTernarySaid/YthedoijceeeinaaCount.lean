/-
  The contract of the model's counting of a load. Nothing is written.
-/
import Derived.Test.YthedoijceeeinaaRange
namespace Go.Proofs.Ythedoijceeeinaa
open Go.ChangeShapes Go.WideShapes Go.ChangeAt Go.RowKit Go.PlainAid

/-- How many of the first k are x. -/
def cntTo (L : List Int) (x : Int) : Nat → Int
  | 0 => 0
  | k + 1 => cntTo L x k + if L.getD k 0 = x then 1 else 0
theorem cntTo_le (L : List Int) (x : Int) : ∀ k, 0 ≤ cntTo L x k ∧ cntTo L x k ≤ k
  | 0 => by simp [cntTo]
  | k + 1 => by
    have ih := cntTo_le L x k
    show 0 ≤ cntTo L x k + (if L.getD k 0 = x then 1 else 0) ∧ cntTo L x k + (if L.getD k 0 = x then 1 else 0) ≤ ((k + 1 : Nat) : Int)
    split <;> omega
def cnt (L : List Int) (x : Int) : Int := cntTo L x L.length
/-- Two ints are answered, the world is as it was but for draws. -/
def Tells2 (x y : Int) (w : World) (e : Ending) (w' : World) : Prop := e = .returned (.tuple #[.int .i64 x, .int .i64 y]) ∧ ∃ q, w' = w.drewN q

theorem specCount_any (A : Option Addr) (c n : Nat) (L : List Int) (w : World) (hn : L.length = n) (hm : n ≤ 1000000000) (h : IntRow w A L) :
    Calls Try.prog 33 #[.slice A n c] w (Tells2 (cnt L 1) (cnt L (-1)) w) := by
  have hend : Tells2 (cnt L 1) (cnt L (-1)) w (.returned (.tuple #[.int .i64 (cntTo L 1 n), .int .i64 (cntTo L (-1) n)])) w := ⟨by unfold cnt; rw [hn], 0, rfl⟩
  go_enter Try.func33, Try.ntmps33
  go_wp2
  go_loopw [4, 5, 6] (fun a b i wr => ∃ k : Nat, k ≤ n ∧ i = .int .i64 k ∧ a = .int .i64 (cntTo L 1 k) ∧ b = .int .i64 (cntTo L (-1) k) ∧ w = wr) (fun _ _ i _ => n - (intOf i).toNat)
  case atStart => exact ⟨0, by omega, rfl, rfl, rfl, rfl⟩
  case round =>
    obtain ⟨k, hk, rfl, rfl, rfl, rfl⟩ := hrel
    by_cases hlt : k < n
    · obtain ⟨x, rfl, -, hx⟩ := h k (by omega)
      have l1 := cntTo_le L 1 k
      have l2 := cntTo_le L (-1) k
      have e1 : cntTo L 1 (k + 1) = cntTo L 1 k + if L.getD k 0 = 1 then 1 else 0 := rfl
      have e2 : cntTo L (-1) (k + 1) = cntTo L (-1) k + if L.getD k 0 = -1 then 1 else 0 := rfl
      clear h hend
      generalize L.getD k 0 = z at hx e1 e2
      generalize cntTo L 1 k = p at l1 e1
      generalize cntTo L (-1) k = q at l2 e2
      by_cases z1 : z = 1
      · subst z1
        rw [if_pos rfl] at e1
        rw [if_neg (by decide)] at e2
        go_wp2
        go_roundw
        case rel => exact ⟨k + 1, by omega, by go_num, by rw [e1], by rw [e2, Int.add_zero], by first | rfl | trivial⟩
        case measure => simp [intOf]; omega
      · by_cases z2 : z = -1
        · subst z2
          rw [if_neg (by decide)] at e1
          rw [if_pos rfl] at e2
          go_wp2
          go_roundw
          case rel => exact ⟨k + 1, by omega, by go_num, by rw [e1, Int.add_zero], by rw [e2], by first | rfl | trivial⟩
          case measure => simp [intOf]; omega
        · rw [if_neg z1] at e1
          rw [if_neg z2] at e2
          go_wp2
          go_roundw
          case rel => exact ⟨k + 1, by omega, by go_num, by rw [e1, Int.add_zero], by rw [e2, Int.add_zero], by first | rfl | trivial⟩
          case measure => simp [intOf]; omega
    · obtain rfl : k = n := by omega
      clear h
      go_wp2
      go_ret2
      exact hend
end Go.Proofs.Ythedoijceeeinaa
