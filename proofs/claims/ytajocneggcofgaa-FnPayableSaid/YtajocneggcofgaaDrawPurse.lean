/-
  The draw of a purse: coins from at least 2 on, each greater than the one before, in memory of the call's own.
-/
import Derived.Test.YtajocneggcofgaaLstMore
import Derived.Test.YtajocneggcofgaaPurse
import Derived.Test.YtajocneggcofgaaBelow
import Derived.OwnWalk
import Derived.BigRegion
import Derived.BigQuiet
import Derived.Lib.Hide
namespace Go.Proofs.Ytajocneggcofgaa
open Go.ChangeShapes Go.WideShapes Go.ChangeAt Go.RowKit Go.PlainAid

/-- Coins, ascending, all below x. -/
def IncQ (L : List Int) (x : Int) : Prop := (∀ j, j < L.length → FineQ L j) ∧ (0 < L.length → L.getD (L.length - 1) 0 < x) ∧ 2 ≤ x
theorem incQ_app {L : List Int} {x y : Int} (h : IncQ L x) (h0 : x ≤ 20) (h1 : x < y) : IncQ (L ++ [x]) y := by
  obtain ⟨h2, h3, h4⟩ := h
  refine ⟨fun j hj => ?_, fun _ => ?_, by omega⟩
  · rw [List.length_append, List.length_singleton] at hj
    unfold FineQ
    rw [getD_app _ _ _ (by omega), getD_app _ _ _ (by omega)]
    by_cases e : j < L.length
    · rw [if_pos e, if_pos (by omega)]
      exact h2 j e
    · obtain rfl : j = L.length := by omega
      rw [if_neg e]
      refine ⟨⟨h4, h0⟩, fun g => ?_⟩
      rw [if_pos (by omega)]
      exact h3 g
  · rw [List.length_append, List.length_singleton, Nat.add_sub_cancel, getD_app _ _ _ (Nat.le_refl _), if_neg (Nat.lt_irrefl _)]
    exact h1
theorem IncQ.purse {L : List Int} {x : Int} (h : IncQ L x) (h1 : 1 ≤ L.length) (h4 : L.length ≤ 4) : PursP L := ⟨⟨h1, h4⟩, h.1⟩

def DrawnPurse (w : World) (p : Nat) (a : Option Addr) (len cap : Nat) (e : Ending) (w' : World) : Prop :=
  ∃ (A : Option Addr) (c : Nat) (L : List Int), PursP L ∧ e = .returned (.slice A L.length c) ∧ Cur w' p a len cap ∧ IntRow w' A L ∧ w.grownBy w' (some p)
theorem drawn_purse {w wr : World} {p : Nat} {a : Option Addr} {len cap : Nat} {v : Value} {xs : List Int} {x : Int} (hI : IncQ xs x) (h1 : 1 ≤ xs.length) (h4 : xs.length ≤ 4) (S : LSt w p a len cap v xs wr) :
    DrawnPurse w p a len cap (.returned v) wr := by
  have o := S.own
  obtain ⟨A, c, rfl⟩ := own_slice o
  exact ⟨A, c, xs, hI.purse h1 h4, rfl, S.cur, intRow_own o, S.grown⟩

set_option maxRecDepth 100000 in
set_option maxHeartbeats 4000000 in
theorem purseDraw_any (p len cap : Nat) (a : Option Addr) (w : World) (C : Cur w p a len cap) :
    Calls Try.prog 27 #[.pointer (some ⟨p, 0, none⟩)] w (DrawnPurse w p a len cap) := by
  obtain ⟨i0, hi, hz0, hz1, hz2⟩ := info_parts Try.infoIntT
  have hp := C.lt
  have S0 := LSt.start C
  clear C
  go_enter Try.func27, Try.ntmps27
  go_wp2_with fail
  refine (below_any 7 p len cap a _ S0.cur).mono ?_
  rintro e w1 ⟨u, ⟨-, hu⟩, rfl, C1, g1⟩
  obtain ⟨u0, u1⟩ := hu (by omega)
  replace S0 := S0.drawn hp C1 g1
  clear hu C1 g1
  go_wp2_with fail
  refine (below_any 3 p len cap a _ S0.cur).mono ?_
  rintro e w2 ⟨v, ⟨-, hv⟩, rfl, C1, g1⟩
  obtain ⟨v0, v1⟩ := hv (by omega)
  replace S0 := S0.drawn hp C1 g1
  clear hv C1 g1
  obtain ⟨n, hn⟩ : ∃ n : Nat, 1 + v = (n : Int) := ⟨(1 + v).toNat, by omega⟩
  have hn1 : 1 ≤ n ∧ n ≤ 3 := by omega
  clear v0 v1
  go_wp2_with fail
  go_loopw [3, 4, 6] (fun r y i wr => ∃ (k : Nat) (xs : List Int) (x : Int), k ≤ n ∧ xs.length = k ∧ i = .int .i64 k ∧ y = .int .i64 x ∧ IncQ xs x ∧ (k = 0 → x ≤ 20) ∧ x ≤ 30 ∧ LSt w p a len cap r xs wr) (fun _ _ i _ => n - (intOf i).toNat)
  case atStart => exact ⟨0, [], 2 + u, by omega, rfl, rfl, rfl, ⟨(fun j hj => by cases hj), (fun h => by cases h), by omega⟩, fun _ => by omega, by omega, S0⟩
  case round =>
    clear S0
    obtain ⟨k, xs, x, hk, hl, rfl, rfl, hI, h0, hx3, S⟩ := hrel
    have x2 := hI.2.2
    by_cases hlt : k < n
    · have hki : (k : Int) < n := by omega
      by_cases hx : x ≤ 20
      · have hsz := S.grown.size
        have o := S.own
        have hxs : xs.length ≤ 3 := by omega
        have happ := Lib.hid fun (y : Int) (hy : x < y) => incQ_app hI hx hy
        have S' := Lib.hid S
        clear hI h0 S
        go_wp2_with (at_builtin; refine wpList_append_one rfl (.tmp 23) (.tmp 25) 24 rfl w.heap.size 3 i0 (.int .i64 0) Try.underlying24 hi hz0 hz1 hz2 rfl u3 xs.length _ rfl (o.alloc _) ⟨wr.heap.size, 0, none⟩ 1 _ rfl (new_one _ _ _) rfl (by omega) (by simp; omega) ?_; intro v' w4 hown1 hg1 _)
        have S1 := S'.out.app hp hown1 hg1
        clear hown1 hg1 o
        go_wp2_with fail
        refine (below_any 6 p len cap a _ S1.cur).mono ?_
        rintro e w5 ⟨d, ⟨-, hd⟩, rfl, C1, g1⟩
        obtain ⟨d0, d1⟩ := hd (by omega)
        replace S1 := S1.drawn hp C1 g1
        clear hd C1 g1 S'
        go_wp2_with fail
        go_roundw
        case rel => exact ⟨k + 1, xs ++ [x], x + 1 + d, by omega, by rw [List.length_append, hl]; rfl, by go_num, by go_num, happ.out _ (by omega), fun h => by omega, by omega, S1⟩
        case measure => simp [intOf]; omega
      · have hend := drawn_purse hI (by omega) (by omega) S
        clear S hI h0
        go_wp2_with fail
        go_ret
        exact hend
    · have hki : ¬ (k : Int) < n := by omega
      have hend := drawn_purse hI (by omega) (by omega) S
      clear S hI h0
      go_wp2_with fail
      go_ret
      exact hend

/-- What the law's draw answers. -/
def DrawnPurseL (B : Nat) (w : World) (e : Ending) (w' : World) : Prop :=
  ∃ (A : Option Addr) (c : Nat) (L : List Int), PursP L ∧ e = .returned (.slice A L.length c) ∧ IntRow w' A L ∧ Below B w w'

theorem drawPurse_any (B : Nat) (a : Option Addr) (len cap : Nat) (w : World) (hB : B = w.heap.size) (hl : len ≤ 1048576) (hr : Bytes w w.heap.size a len) :
    Calls Try.prog 11 #[.slice a len cap] w (DrawnPurseL B w) := by
  go_enter Try.func11, Try.ntmps11
  go_wp2_with fail
  refine (new_any a len cap w hl hr).mono ?_
  rintro e w0 ⟨rfl, C0, b0, s0⟩
  have bel : ∀ w2 : World, w0.grownBy w2 (some w.heap.size) → Below B w w2 := fun w2 g => hB ▸ b0.trans (below_of_grown g (Nat.le_refl _) (by omega))
  clear b0 s0 hr hl hB
  generalize w.heap.size = p at C0 bel ⊢
  go_wp2_with fail
  refine (purseDraw_any p len cap a _ C0).mono ?_
  rintro e w1 ⟨A, c, L, hP, rfl, C1, r, g1⟩
  have hend : DrawnPurseL B w (.returned (.slice A L.length c)) w1 := ⟨A, c, L, hP, rfl, r, bel _ g1⟩
  clear bel hP C0 C1 r g1
  go_wp2_with fail
  go_ret
  exact hend
end Go.Proofs.Ytajocneggcofgaa
