/-
  The draw of an instrument with play: half from 0 to 8, a start from -10 to 10, up to eleven inputs from -20 to 20, in memory of the call's own.
-/
import Derived.Test.YtgjcbcbnjgghaaaBelow
import Derived.Test.YtgjcbcbnjgghaaaDrawInts
import Derived.OwnWalk
namespace Go.Proofs.Ytgjcbcbnjgghaaa
open Go.ChangeShapes Go.WideShapes Go.ChangeAt Go.RowKit Go.PlainAid

theorem inputsDraw_any (p len cap : Nat) (a : Option Addr) (w : World) (C : Cur w p a len cap) :
    Calls Try.prog 29 #[.pointer (some ⟨p, 0, none⟩)] w (DrawnInts (fun z => -20 ≤ z ∧ z ≤ 20) (fun n => n ≤ 11) w p a len cap) := by
  obtain ⟨i0, hi, hz0, hz1, hz2⟩ := info_parts Try.infoIntT
  have hp := C.lt
  have hst0 := intSt_start (Q := fun z => -20 ≤ z ∧ z ≤ 20) C
  have C0 := hst0.cur
  clear C
  go_enter Try.func29, Try.ntmps29
  go_wp2_with fail
  refine (below_any 12 p len cap a _ C0).mono ?_
  rintro e w1 ⟨u, ⟨-, hu⟩, rfl, C1, g1⟩
  obtain ⟨u0, u1⟩ := hu (by omega)
  replace hst0 := intSt_drawn hp hst0 C1 g1
  obtain ⟨n, rfl⟩ := Int.eq_ofNat_of_zero_le u0
  clear hu C0 C1 g1 u0
  go_wp2_with fail
  go_loopw [3, 5] (fun v i wr => ∃ k : Nat, k ≤ n ∧ i = .int .i64 k ∧ IntSt (fun z => -20 ≤ z ∧ z ≤ 20) w p a len cap v k wr) (fun _ i _ => n - (intOf i).toNat)
  case atStart => exact ⟨0, by omega, rfl, hst0⟩
  case round =>
    clear hst0
    obtain ⟨k, hk, rfl, hst⟩ := hrel
    by_cases hlt : k < n
    · have hB := below_any 41 p len cap a wr hst.cur
      have hlt2 : (k : Int) < n := by omega
      go_wp2_with fail
      refine hB.mono ?_
      rintro e w2 ⟨z, ⟨-, hz⟩, rfl, C2, g2⟩
      obtain ⟨z0, z1⟩ := hz (by omega)
      obtain ⟨xs, hl, hq, C3, hown, hg⟩ := intSt_drawn hp hst C2 g2
      have hsz := hg.size
      clear hB hst C2 g2 hz
      go_wp2_with (at_builtin; refine wpList_append_own _ rfl (.tmp 14) (.tmp 18) 24 rfl w.heap.size 3 i0 (.int .i64 0) 1 8 Try.underlying24 hi hz0 hz1 hz2 rfl (by decide) _ k _ rfl (hown.alloc _) ⟨w2.heap.size, 0, none⟩ 1 1 [_] rfl rfl (news_new _ [_] _) (by simp [Value.oneCell']) (by unfold maxLen; omega) (by omega) (by simp; omega) ?_; intro v' w3 hown1 hgrow1 _)
      have R := intSt_append hp ⟨by omega, by omega⟩ hl hq C3 hown hg hown1 hgrow1
      clear hown1 hgrow1 hown C3 hg hq
      go_wp2
      go_roundw
      case rel => exact ⟨k + 1, by omega, by go_num, R⟩
      case measure => simp [intOf]; omega
    · obtain rfl : k = n := by omega
      have hge : ¬ (k : Int) < k := by omega
      have hend := intSt_end (N := fun n => n ≤ 11) (show k ≤ 11 by omega) hst
      clear hst
      go_wp2
      go_ret
      exact hend

/-- What the law's draw answers. -/
def DrawnPlay (B : Nat) (w : World) (e : Ending) (w' : World) : Prop :=
  ∃ (h s : Int) (A : Option Addr) (c : Nat) (L : List Int), (0 ≤ h ∧ h ≤ 8) ∧ (-10 ≤ s ∧ s ≤ 10) ∧ L.length ≤ 11 ∧ (∀ z ∈ L, -20 ≤ z ∧ z ≤ 20) ∧ e = .returned (.tuple #[.int .i64 h, .int .i64 s, .slice A L.length c]) ∧ IntRow w' A L ∧ Below B w w'

theorem drawPlay_any (B : Nat) (a : Option Addr) (len cap : Nat) (w : World) (hB : B = w.heap.size) (hl : len ≤ 1048576) (hr : Bytes w w.heap.size a len) :
    Calls Try.prog 10 #[.slice a len cap] w (DrawnPlay B w) := by
  go_enter Try.func10, Try.ntmps10
  go_wp2_with fail
  refine (new_any a len cap w hl hr).mono ?_
  rintro e w0 ⟨rfl, C0, b0, s0⟩
  have bel : ∀ w2 : World, w0.grownBy w2 (some w.heap.size) → Below B w w2 := fun w2 g => hB ▸ b0.trans (below_of_grown g (Nat.le_refl _) (by omega))
  clear b0 s0 hr hl hB
  generalize w.heap.size = p at C0 bel ⊢
  go_wp2_with fail
  refine (below_any 9 p len cap a _ C0).mono ?_
  rintro e w1 ⟨u, ⟨-, hu⟩, rfl, C1, g1⟩
  obtain ⟨u0, u1⟩ := hu (by omega)
  clear hu
  go_wp2_with fail
  refine (below_any 21 p len cap a _ C1).mono ?_
  rintro e w2 ⟨t, ⟨-, ht⟩, rfl, C2, g2⟩
  obtain ⟨t0, t1⟩ := ht (by omega)
  clear ht
  replace g2 := grown_trans g1 g2
  clear g1 C0 C1
  go_wp2_with fail
  refine (inputsDraw_any p len cap a _ C2).mono ?_
  rintro e w3 ⟨A, c, L, hN, hQ, rfl, C3, o, g3⟩
  have r := intRow_own o
  have hend : DrawnPlay B w (.returned (.tuple #[.int .i64 u, .int .i64 (t - 10), .slice A L.length c])) w3 := ⟨u, t - 10, A, c, L, ⟨u0, by omega⟩, ⟨by omega, by omega⟩, hN, hQ, rfl, r, bel _ (grown_trans g2 g3)⟩
  clear bel hN hQ C2 C3 o r g2 g3
  go_wp2_with fail
  go_ret3
  exact hend
end Go.Proofs.Ytgjcbcbnjgghaaa
