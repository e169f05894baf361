/-
  The draw of a system of coins: from 1 on, each greater than the one before, in memory of the call's own.
-/
import Derived.Test.YtjjedicjaojkcaaLstMore
import Derived.Test.YtjjedicjaojkcaaCoinSys
import Derived.Test.YtjjedicjaojkcaaOnce
import Derived.Test.YtjjedicjaojkcaaCapOwn
import Derived.OwnWalk
import Derived.BigRegion
import Derived.BigQuiet
import Derived.Lib.Hide
import Derived.Deep.RegionLaw
import Derived.Deep.RegionHeld3
namespace Go.Proofs.Ytjjedicjaojkcaa
open Go.ChangeShapes Go.WideShapes Go.ChangeAt Go.RowKit Go.PlainAid

/-- Coins from 1 on, ascending, at most 100. -/
def IncP (L : List Int) : Prop := (0 < L.length ∧ L.getD 0 0 = 1) ∧ ∀ j, j < L.length → FineC L j
theorem incP_one : IncP [1] := ⟨⟨by decide, rfl⟩, fun j hj => by
  obtain rfl : j = 0 := by simpa using hj
  exact ⟨by decide, fun h => by omega⟩⟩
theorem incP_app {L : List Int} (h : IncP L) {k : Nat} (hk : L.length = k + 1) {z x : Int} (hz : L.getD k 0 = z) (h0 : z < x) (h1 : x ≤ 100) : IncP (L ++ [x]) := by
  have hz1 := (h.2 k (by omega)).1
  refine ⟨⟨by rw [List.length_append, List.length_singleton]; omega, ?_⟩, fun j hj => ?_⟩
  · rw [getD_app _ _ _ (by omega), if_pos (by omega)]; exact h.1.2
  · rw [List.length_append, List.length_singleton] at hj
    unfold FineC
    rw [getD_app _ _ _ (by omega), getD_app _ _ _ (by omega)]
    by_cases e : j < L.length
    · rw [if_pos e, if_pos (by omega)]
      exact h.2 j e
    · obtain rfl : j = k + 1 := by omega
      rw [if_neg e, if_pos (by omega), Nat.add_sub_cancel, hz]
      exact ⟨by omega, fun _ => h0⟩
theorem IncP.sys {L : List Int} (h : IncP L) (h6 : L.length ≤ 6) : SysP L := ⟨⟨⟨h.1.1, h6⟩, h.1.2⟩, h.2⟩

def DrawnCoin (w : World) (p : Nat) (a : Option Addr) (len cap : Nat) (e : Ending) (w' : World) : Prop :=
  ∃ (A : Option Addr) (c : Nat) (L : List Int), SysP L ∧ L.length ≤ 5 ∧ L.length ≤ c ∧ e = .returned (.slice A L.length c) ∧ Cur w' p a len cap ∧ IntRow w' A L ∧ w.grownBy w' (some p)
theorem drawn_coin {w wr : World} {p : Nat} {a : Option Addr} {len cap k g c : Nat} {xs : List Int} (hk : xs.length = k + 1) (h5 : k ≤ 4) (hI : IncP xs) (S : LSt w p a len cap (.slice (some ⟨g, 0, none⟩) (k + 1) c) xs wr) :
    DrawnCoin w p a len cap (.returned (.slice (some ⟨g, 0, none⟩) (k + 1) c)) wr := by
  have o := S.own
  rw [hk] at o
  exact ⟨_, c, xs, hI.sys (by omega), by omega, by rw [hk]; exact cap_own o, by rw [hk], S.cur, intRow_own o, S.grown⟩

set_option maxRecDepth 100000 in
set_option maxHeartbeats 4000000 in
theorem coinDraw_any (p len cap : Nat) (a : Option Addr) (w : World) (C : Cur w p a len cap) :
    Calls Try.prog 29 #[.pointer (some ⟨p, 0, none⟩)] w (DrawnCoin w p a len cap) := by
  obtain ⟨i0, hi, hz0, hz1, hz2⟩ := info_parts Try.infoIntT
  have hp := C.lt
  have S0 := lst_one C 1
  clear C
  go_enter Try.func29, Try.ntmps29
  go_wp2_with fail
  refine (below_any 5 p len cap a _ S0.cur).mono ?_
  rintro e w1 ⟨u, ⟨-, hu⟩, rfl, C1, g1⟩
  obtain ⟨u0, u1⟩ := hu (by omega)
  replace S0 := S0.drawn hp C1 g1
  obtain ⟨n, rfl⟩ := Int.eq_ofNat_of_zero_le u0
  clear hu C1 g1 u0
  go_wp2_with fail
  go_loopw [3, 5] (fun v i wr => ∃ (k : Nat) (xs : List Int), k ≤ n ∧ xs.length = k + 1 ∧ i = .int .i64 k ∧ IncP xs ∧ LSt w p a len cap v xs wr) (fun _ i _ => n - (intOf i).toNat)
  case atStart => exact ⟨0, [1], by omega, rfl, rfl, incP_one, S0⟩
  case round =>
    clear S0
    obtain ⟨k, xs, hk, hl, rfl, hI, S⟩ := hrel
    obtain ⟨g, c, rfl⟩ := lst_form S hl
    by_cases hlt : k < n
    · have hlt2 : (k : Int) < n := by omega
      have zb := (hI.2 k (by omega)).1
      obtain ⟨z, hz⟩ : ∃ z, xs.getD k 0 = z := ⟨_, rfl⟩
      rw [hz] at zb
      replace hz := Lib.hid hz
      have Sd : LSt w p a len cap (.slice (some ⟨g, 0, none⟩) (k + 1) c) xs wr.drew := S.drawn hp (S.cur.drewN 1) (grown_drewN (World.grownBy.refl _ _) 1)
      have hcd : wr.drew.cell? ⟨g, k, none⟩ = some (.int .i64 z) := lst_cell Sd hl hz
      have hin : (k : Int) < (k : Int) + 1 := by omega
      go_wp2_with fail
      go_region_held3 (fun W => W.cell? ⟨g, k, none⟩ = some (.int .i64 z)) (first | exact hcd | exact hc1)
        (first | (go_at_call 40; (with_reducible refine (below_any 12 p len cap a _ Sd.cur).mono ?_); rintro e w2 ⟨d, ⟨-, hd⟩, rfl, C1, g1⟩; obtain ⟨d0, d1⟩ := hd (by omega); have S1 := Sd.drawn hp C1 g1; have hc1 := lst_cell S1 hl hz; clear hd C1 g1))
      have hw : IntKind.i64.wrap (IntKind.i64.wrap (z + 1) + d) = z + 1 + d := by rw [IntKind.wrap_i64 (z + 1), IntKind.wrap_i64]; all_goals omega
      rw [hw]
      clear hw Sd S hcd
      go_wp2_with fail
      refine (once_any 3 p len cap a _ S1.cur).mono ?_
      rintro e w3 ⟨b, rfl, C3, g3⟩
      have S3 := S1.drawn hp C3 g3
      have hc3 := lst_cell S3 hl hz
      clear S1 hc1 C3 g3
      have hend := drawn_coin hl (by omega) hI S3
      have hsz3 := S3.grown.size
      have happ := fun (x : Int) (h0 : z < x) (h1 : x ≤ 100) => incP_app hI hl hz.out h0 h1
      have o3 := S3.own
      rw [hl] at o3
      rcases b with _ | _
      · by_cases hx : z + 1 + d ≤ 100
        · have hI2 := happ (z + 1 + d) (by omega) hx
          clear hend happ
          go_wp2_with (at_builtin; refine wpList_append_one rfl (.tmp 32) (.tmp 34) 24 rfl w.heap.size 3 i0 (.int .i64 0) Try.underlying24 hi hz0 hz1 hz2 rfl (.slice (some ⟨g, 0, none⟩) (k + 1) c) (k + 1) _ rfl (o3.alloc _) ⟨w3.heap.size, 0, none⟩ 1 _ rfl (new_one _ _ _) rfl (by omega) (by simp; omega) ?_; intro v' w4 hown1 hg1 _)
          have S4 := S3.app hp (by rw [hl]; exact hown1) hg1
          clear hown1 hg1 S3 o3
          go_wp2
          go_roundw
          case rel => exact ⟨k + 1, _, by omega, by rw [List.length_append, hl]; rfl, by go_num, hI2, S4⟩
          case measure => simp [intOf]; omega
        · clear happ o3 S3
          go_wp2_with fail
          go_ret
          exact hend
      · by_cases hx : 2 * z ≤ 100
        · have hI2 := happ (2 * z) (by omega) hx
          clear hend happ
          go_wp2_with (at_builtin; refine wpList_append_one rfl (.tmp 32) (.tmp 34) 24 rfl w.heap.size 3 i0 (.int .i64 0) Try.underlying24 hi hz0 hz1 hz2 rfl (.slice (some ⟨g, 0, none⟩) (k + 1) c) (k + 1) _ rfl (o3.alloc _) ⟨w3.heap.size, 0, none⟩ 1 _ rfl (new_one _ _ _) rfl (by omega) (by simp; omega) ?_; intro v' w4 hown1 hg1 _)
          have S4 := S3.app hp (by rw [hl]; exact hown1) hg1
          clear hown1 hg1 S3 o3
          go_wp2
          go_roundw
          case rel => exact ⟨k + 1, _, by omega, by rw [List.length_append, hl]; rfl, by go_num, hI2, S4⟩
          case measure => simp [intOf]; omega
        · clear happ o3 S3
          go_wp2_with fail
          go_ret
          exact hend
    · obtain rfl : k = n := by omega
      have hge : ¬ (k : Int) < k := by omega
      have hend := drawn_coin hl (by omega) hI S
      clear S hI
      go_wp2
      go_ret
      exact hend

/-- What the law's draw answers. -/
def DrawnCoinL (B : Nat) (w : World) (e : Ending) (w' : World) : Prop :=
  ∃ (A : Option Addr) (c : Nat) (L : List Int), SysP L ∧ L.length ≤ 5 ∧ L.length ≤ c ∧ e = .returned (.slice A L.length c) ∧ IntRow w' A L ∧ Below B w w'

theorem drawCoin_any (B : Nat) (a : Option Addr) (len cap : Nat) (w : World) (hB : B = w.heap.size) (hl : len ≤ 1048576) (hr : Bytes w w.heap.size a len) :
    Calls Try.prog 11 #[.slice a len cap] w (DrawnCoinL B w) := by
  go_enter Try.func11, Try.ntmps11
  go_wp2_with fail
  refine (new_any a len cap w hl hr).mono ?_
  rintro e w0 ⟨rfl, C0, b0, s0⟩
  have bel : ∀ w2 : World, w0.grownBy w2 (some w.heap.size) → Below B w w2 := fun w2 g => hB ▸ b0.trans (below_of_grown g (Nat.le_refl _) (by omega))
  clear b0 s0 hr hl hB
  generalize w.heap.size = p at C0 bel ⊢
  go_wp2_with fail
  refine (coinDraw_any p len cap a _ C0).mono ?_
  rintro e w1 ⟨A, c, L, hP, h6, hc, rfl, C1, r, g1⟩
  have hend : DrawnCoinL B w (.returned (.slice A L.length c)) w1 := ⟨A, c, L, hP, h6, hc, rfl, r, bel _ g1⟩
  clear bel hP h6 hc C0 C1 r g1
  go_wp2_with fail
  go_ret
  exact hend
end Go.Proofs.Ytjjedicjaojkcaa
