/-
  The contract of the exact laws' own copy of a slice of ints. No condition but that the slice is short.
-/
import Derived.Test.YtgjcbcbnjgghaaaInts
import Derived.Test.YtgjcbcbnjgghaaaEqInts
namespace Go.Proofs.Ytgjcbcbnjgghaaa
open Go.ChangeShapes Go.WideShapes Go.ChangeAt Go.RowKit Go.PlainAid

theorem toInts_any (A : Option Addr) (c n : Nat) (L : List Int) (w : World) (hn : L.length = n) (hm : n ≤ 1048576) (h : IntRow w A L) :
    Calls Try.prog 21 #[.slice A n c] w (Copied L w) := by
  obtain ⟨i0, hi, hz0, hz1, hz2⟩ := info_parts Try.infoIntT
  go_enter Try.func21, Try.ntmps21
  go_wp2_with (at_make; refine wpList_make_full _ rfl _ _ 24 rfl w.heap.size 3 i0 (.int .i64 0) 1 Try.underlying24 hi hz0 hz1 .i64 .i64 _ _ n rfl rfl rfl rfl (by rw [hz2]; omega) (by unfold maxLen; omega) (Nat.le_refl _) ?_; intro w0 hown0 hgrow0)
  have hbel0 : Below w.heap.size w w0 := (Below.refl _ _).grown hgrow0 (Nat.le_refl _) (fun k e => by cases e)
  have hown1 : w0.ownsRow w.heap.size 3 1 (.slice (some ⟨w.heap.size, 0, none⟩) n n) n (copyTo L 0) := by
    have e : (madeCells (Value.int .i64 0).cells (n * 1)).toList = copyTo L 0 := by
      show (madeCells #[Value.int .i64 0] (n * 1)).toList = _
      rw [toList_madeCells_one, Nat.mul_one]
      unfold copyTo
      rw [Nat.sub_zero, hn]; rfl
    rw [← e]
    exact hown0
  clear hgrow0 hown0
  go_loopw [4] (fun i wr => ∃ k : Nat, k ≤ n ∧ i = .int .i64 k ∧ wr.ownsRow w.heap.size 3 1 (.slice (some ⟨w.heap.size, 0, none⟩) n n) n (copyTo L k) ∧ Below w.heap.size w wr) (fun i _ => n - (intOf i).toNat)
  case atStart => exact ⟨0, by omega, rfl, hown1, hbel0⟩
  case round =>
    clear hown1 hbel0
    obtain ⟨k, hk, rfl, hown, hbel⟩ := hrel
    by_cases hlt : k < n
    · obtain ⟨⟨u, hc⟩, hf, h1, h2⟩ := copy_rel hn hlt hown hbel
      obtain ⟨x, rfl, hx, hx2⟩ := h k (by omega)
      have hx3 : wr.cell? (x.add k) = some (.int .i64 (L.getD k 0)) := (hbel.cell (by rw [addr_add_block]; exact hx)).trans hx2
      clear hown hbel hx2 h
      generalize L.getD k 0 = z at h1 h2 hx3
      go_wp2
      go_roundw
      case rel => exact ⟨k + 1, by omega, by go_num, h1, h2⟩
      case measure => simp [intOf]; omega
    · obtain rfl : k = n := by omega
      subst hn
      rw [copyTo_all] at hown
      have hend : Copied L w (.returned (.slice (some ⟨w.heap.size, 0, none⟩) L.length L.length)) wr := ⟨_, _, rfl, hown, hbel⟩
      clear hown hbel h
      go_wp2
      go_ret
      exact hend

end Go.Proofs.Ytgjcbcbnjgghaaa
