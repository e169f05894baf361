/-
  Contracts of the two functions that encode a string in hexadecimal: both answer the digits of its bytes and true, or the empty string and false if it is longer than 20000 bytes.
-/
import Derived.Test.YtepgficheibbfaaFigure
import Derived.Deep.RegionLaw
import Derived.Deep.AppendLies
namespace Go.Proofs.Ytepgficheibbfaa
open Go.ChangeShapes Go.WideShapes Go.ChangeAt Go.RowKit Go.PlainAid

theorem Try.info5u : (Try.prog.info? 5).map (fun i => (i.zero, i.size, i.bytes)) = some (some (.int .u8 0), 1, 1) := by kernel_rfl

theorem specEnc_small (s : ByteArray) (w : World) (hs : s.size ≤ 20000) :
    Calls Try.prog 11 #[.string s] w fun e w' => e = .returned (.tuple #[.string (strOfNums (encTo s s.size)), .bool true]) ∧ Below w.heap.size w w' := by
  obtain ⟨i0, hi, hz0, hz1, hz2⟩ := info_parts Try.info5u
  have hb := get_bt s
  go_enter Try.func11, Try.ntmps11
  go_wp2
  go_loopw [4, 5] (fun v i wr => ∃ k : Nat, k ≤ s.size ∧ i = .int .i64 k ∧ wr.ownsRow w.heap.size 5 1 v (2 * k) ((encTo s k).map (Value.int .u8)) ∧ Below w.heap.size w wr) (fun _ i _ => s.size - (intOf i).toNat)
  case atStart => exact ⟨0, by omega, rfl, World.ownsRow_made w #[] 0 (Nat.le_refl _) (by decide) rfl, (Below.refl _ _).alloc (Nat.le_refl _) _⟩
  case round =>
    obtain ⟨k, hk, rfl, hown, hbel⟩ := hrel
    by_cases hlt : k < s.size
    · have c0 := bt_nonneg s k
      have c1 := bt_le s k
      go_wp2_with fail
      go_region_law (first | (refine step_append_lies _ rfl (.tmp 16) (.tmp 29) 22 rfl w.heap.size 5 i0 (.int .u8 0) 1 1 Try.underlying22 hi hz0 hz1 hz2 rfl (by decide) u4 (2 * k) _ rfl (hown.drew.alloc _) ⟨wr.heap.size, 0, none⟩ 2 2 [_, _] rfl rfl (news_new _ [_, _] _) (by simp [Value.oneCell']) (by omega) (by unfold maxLen; omega) (by omega) (by have := hbel.size; simp; omega) _ rfl ?_; intro g cap w1 hown1 hgrow1 hat1 hlt1) | (go_simp; go_at_call 25; (first | (with_reducible refine (figure_hi (bt s k) _ c0 c1).mono ?_) | (with_reducible refine (figure_lo (bt s k) _ c0 c1).mono ?_)); rintro e w' ⟨rfl, rfl⟩))
      all_goals
        have R := enc_rel (s := s) hown hbel hown1 hgrow1
        clear hown1 hgrow1 hat1 hlt1 hown hbel
        obtain ⟨R1, R2⟩ := R
        go_wp2
        go_roundw
        case rel => exact ⟨k + 1, by omega, by go_num, R1, R2⟩
        case measure => simp [intOf]; omega
    · obtain rfl : k = s.size := by omega
      have hconv := conv_own (P := Try.prog) wr 22 9 5 Try.underlying22 Try.underlying5 Try.underlying9 _ _ _ _ hown
      go_wp2
      go_ret2
      exact ⟨rfl, hbel⟩

theorem specEnc_big (s : ByteArray) (w : World) (hs : 20000 < s.size) (hm : s.size ≤ 9223372036854775807) :
    Calls Try.prog 11 #[.string s] w fun e w' => e = .returned (.tuple #[.string { data := #[] }, .bool false]) ∧ w = w' := by
  go_enter Try.func11, Try.ntmps11
  go_wp2
  go_ret2
  exact ⟨rfl, rfl⟩
end Go.Proofs.Ytepgficheibbfaa
