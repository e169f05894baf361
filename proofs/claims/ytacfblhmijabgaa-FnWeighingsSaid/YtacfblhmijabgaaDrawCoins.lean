/-
  The draws of coins and of a load: 1 to 8 weights from 0 to 29, and as many numbers from -1 to 1. Nothing that was there before is written.
-/
import Derived.Test.YtacfblhmijabgaaDrawInts
namespace Go.Proofs.Ytacfblhmijabgaa
open Go.ChangeShapes Go.WideShapes Go.ChangeAt Go.RowKit Go.PlainAid

theorem coinsDraw_any (p len cap : Nat) (a : Option Addr) (w : World) (C : Cur w p a len cap) :
    Calls Try.prog 30 #[.pointer (some ⟨p, 0, none⟩)] w (DrawnInts (fun z => 0 ≤ z ∧ z ≤ 29) (fun n => 1 ≤ n ∧ n ≤ 8) w p a len cap) := by
  obtain ⟨i0, hi, hz0, hz1, hz2⟩ := info_parts Try.infoIntT
  have hp := C.lt
  have hst0 := intSt_start (Q := fun z => 0 ≤ z ∧ z ≤ 29) C
  have C0 := hst0.cur
  clear C
  go_enter Try.func30, Try.ntmps30
  go_wp2_with fail
  refine (below_any 8 p len cap a _ C0).mono ?_
  rintro e w1 ⟨u, ⟨-, hu⟩, rfl, C1, g1⟩
  obtain ⟨u0, u1⟩ := hu (by omega)
  replace hst0 := intSt_drawn hp hst0 C1 g1
  obtain ⟨n, rfl⟩ := Int.eq_ofNat_of_zero_le u0
  clear hu C0 C1 g1 u0
  go_wp2_with fail
  go_loopw [3, 5] (fun v i wr => ∃ k : Nat, k ≤ n + 1 ∧ i = .int .i64 k ∧ IntSt (fun z => 0 ≤ z ∧ z ≤ 29) w p a len cap v k wr) (fun _ i _ => n + 1 - (intOf i).toNat)
  case atStart => exact ⟨0, by omega, rfl, hst0⟩
  case round =>
    clear hst0
    obtain ⟨k, hk, rfl, hst⟩ := hrel
    by_cases hlt : k < n + 1
    · have hB := below_any 30 p len cap a wr hst.cur
      have hlt2 : (k : Int) < 1 + n := by omega
      go_wp2_with fail
      refine hB.mono ?_
      rintro e w2 ⟨z, ⟨-, hz⟩, rfl, C2, g2⟩
      obtain ⟨z0, z1⟩ := hz (by omega)
      obtain ⟨xs, hl, hq, C3, hown, hg⟩ := intSt_drawn hp hst C2 g2
      have hsz := hg.size
      clear hB hst C2 g2 hz
      go_wp2_with (at_builtin; refine wpList_append_own _ rfl (.tmp 15) (.tmp 18) 24 rfl w.heap.size 3 i0 (.int .i64 0) 1 8 Try.underlying24 hi hz0 hz1 hz2 rfl (by decide) u3 k _ rfl (hown.alloc _) ⟨w2.heap.size, 0, none⟩ 1 1 [_] rfl rfl (news_new _ [_] _) (by simp [Value.oneCell']) (by unfold maxLen; omega) (by omega) (by simp; omega) ?_; intro v' w3 hown1 hgrow1 _)
      have R := intSt_append hp ⟨z0, by omega⟩ hl hq C3 hown hg hown1 hgrow1
      clear hown1 hgrow1 hown C3 hg hq
      go_wp2
      go_roundw
      case rel => exact ⟨k + 1, by omega, by go_num, R⟩
      case measure => simp [intOf]; omega
    · obtain rfl : k = n + 1 := by omega
      have hge : ¬ ((n + 1 : Nat) : Int) < 1 + n := by omega
      have hend := intSt_end (N := fun n => 1 ≤ n ∧ n ≤ 8) ⟨by omega, by omega⟩ hst
      clear hst
      go_wp2
      go_ret
      exact hend

theorem loadDraw_any (n p len cap : Nat) (hn : n ≤ 1000) (a : Option Addr) (w : World) (C : Cur w p a len cap) :
    Calls Try.prog 31 #[.pointer (some ⟨p, 0, none⟩), .int .i64 n] w (DrawnInts (fun z => -1 ≤ z ∧ z ≤ 1) (fun m => m = n) w p a len cap) := by
  obtain ⟨i0, hi, hz0, hz1, hz2⟩ := info_parts Try.infoIntT
  have hp := C.lt
  have hst0 := intSt_start (Q := fun z => -1 ≤ z ∧ z ≤ 1) C
  clear C
  go_enter Try.func31, Try.ntmps31
  go_wp2_with fail
  go_loopw [5, 6] (fun v i wr => ∃ k : Nat, k ≤ n ∧ i = .int .i64 k ∧ IntSt (fun z => -1 ≤ z ∧ z ≤ 1) w p a len cap v k wr) (fun _ i _ => n - (intOf i).toNat)
  case atStart => exact ⟨0, by omega, rfl, hst0⟩
  case round =>
    clear hst0
    obtain ⟨k, hk, rfl, hst⟩ := hrel
    by_cases hlt : k < n
    · have hB := below_any 3 p len cap a wr hst.cur
      go_wp2_with fail
      refine hB.mono ?_
      rintro e w2 ⟨z, ⟨-, hz⟩, rfl, C2, g2⟩
      obtain ⟨z0, z1⟩ := hz (by omega)
      obtain ⟨xs, hl, hq, C3, hown, hg⟩ := intSt_drawn hp hst C2 g2
      have hsz := hg.size
      clear hB hst C2 g2 hz
      go_wp2_with (at_builtin; refine wpList_append_own _ rfl (.tmp 13) (.tmp 17) 24 rfl w.heap.size 3 i0 (.int .i64 0) 1 8 Try.underlying24 hi hz0 hz1 hz2 rfl (by decide) u5 k _ rfl (hown.alloc _) ⟨w2.heap.size, 0, none⟩ 1 1 [_] rfl rfl (news_new _ [_] _) (by simp [Value.oneCell']) (by unfold maxLen; omega) (by omega) (by simp; omega) ?_; intro v' w3 hown1 hgrow1 _)
      have R := intSt_append hp (z := z - 1) ⟨by omega, by omega⟩ hl hq C3 hown hg hown1 hgrow1
      clear hown1 hgrow1 hown C3 hg hq
      go_wp2
      go_roundw
      case rel => exact ⟨k + 1, by omega, by go_num, R⟩
      case measure => simp [intOf]; omega
    · obtain rfl : k = n := by omega
      have hend := intSt_end (N := fun m => m = k) rfl hst
      clear hst
      go_wp2
      go_ret
      exact hend
end Go.Proofs.Ytacfblhmijabgaa
