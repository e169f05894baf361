/-
  The draw of a circle: a difference set, or marks on a circle of at most thirty, in memory of the call's own.
-/
import Derived.Test.YtfokchmmeflhiaaLst
import Derived.Test.YtfokchmmeflhiaaOnce
import Derived.Test.YtfokchmmeflhiaaSpecFSet
namespace Go.Proofs.Ytfokchmmeflhiaa
open Go.ChangeShapes Go.WideShapes Go.ChangeAt Go.RowKit Go.PlainAid

/-- Marks, ascending, all from 0 on and below x. -/
def MarksTo (L : List Int) (x : Int) : Prop := ∀ j, j < L.length → 0 ≤ L.getD j 0 ∧ L.getD j 0 < x ∧ (0 < j → L.getD (j - 1) 0 < L.getD j 0)
theorem marksTo_nil (x : Int) : MarksTo [] x := fun j hj => by cases hj
theorem MarksTo.more {L : List Int} {x y : Int} (h : MarksTo L x) (hy : x ≤ y) : MarksTo L y := fun j hj => by
  obtain ⟨h1, h2, h3⟩ := h j hj
  exact ⟨h1, by omega, h3⟩
theorem MarksTo.app {L : List Int} {x y : Int} (h : MarksTo L x) (h0 : 0 ≤ x) (hy : x < y) : MarksTo (L ++ [x]) y := fun j hj => by
  rw [List.length_append, List.length_singleton] at hj
  rw [getD_app _ _ _ (by omega), getD_app _ _ _ (by omega)]
  by_cases e : j < L.length
  · obtain ⟨h1, h2, h3⟩ := h j e
    rw [if_pos e, if_pos (by omega)]
    exact ⟨h1, by omega, h3⟩
  · obtain rfl : j = L.length := by omega
    rw [if_neg e]
    refine ⟨h0, hy, fun g => ?_⟩
    rw [if_pos (by omega)]
    exact (h _ (by omega)).2.1
theorem MarksTo.circ {L : List Int} {x n : Int} (h : MarksTo L x) (hx : x ≤ n) (hn : 1 ≤ n ∧ n ≤ 60) (hl : 1 ≤ L.length ∧ L.length ≤ 8) : CircP n L := ⟨⟨hn, hl⟩, fun j hj => by
  obtain ⟨h1, h2, h3⟩ := h j hj
  exact ⟨⟨h1, by omega⟩, by omega, h3⟩⟩

def DrawnCircle (w : World) (p : Nat) (e : Ending) (w' : World) : Prop :=
  ∃ (N : Nat) (A : Option Addr) (c : Nat) (L : List Int), CircP N L ∧ N ≤ 31 ∧ e = .returned (.tuple #[.int .i64 N, .slice A L.length c]) ∧ IntRow w' A L ∧ w.grownBy w' (some p)
theorem drawn_circle {w w1 wr : World} {p N : Nat} {a : Option Addr} {len cap : Nat} {v : Value} {xs : List Int} {x : Int} (hI : MarksTo xs x) (hx : x ≤ N) (hN : 1 ≤ N ∧ N ≤ 31) (hl : 1 ≤ xs.length ∧ xs.length ≤ 8) (g : w.grownBy w1 (some p)) (S : LSt w1 p a len cap v xs wr) :
    DrawnCircle w p (.returned (.tuple #[.int .i64 N, v])) wr := by
  have o := S.own
  obtain ⟨A, c, rfl⟩ := own_slice o
  exact ⟨N, A, c, xs, hI.circ hx (by omega) hl, hN.2, rfl, intRow_own o, grown_trans g S.grown⟩

set_option maxRecDepth 100000 in
set_option maxHeartbeats 4000000 in
theorem circleDraw_any (p len cap : Nat) (a : Option Addr) (w : World) (C : Cur w p a len cap) :
    Calls Try.prog 30 #[.pointer (some ⟨p, 0, none⟩)] w (DrawnCircle w p) := by
  obtain ⟨i0, hi, hz0, hz1, hz2⟩ := info_parts Try.infoIntT
  go_enter Try.func30, Try.ntmps30
  go_wp2_with fail
  refine (once_any 2 p len cap a _ C).mono ?_
  rintro e w1 ⟨b, rfl, C1, g1⟩
  clear C
  cases b with
  | true =>
    go_wp2_with fail
    refine (below_any 5 p len cap a _ C1).mono ?_
    rintro e w2 ⟨u, ⟨-, hu⟩, rfl, C2, g2⟩
    obtain ⟨u0, u1⟩ := hu (by omega)
    replace g1 := grown_trans g1 g2
    clear hu C1 g2 C2
    obtain ⟨K, hK⟩ : ∃ K : Nat, 2 + u = (K : Int) := ⟨(2 + u).toNat, by omega⟩
    have hK2 : 2 ≤ K ∧ K ≤ 6 := by omega
    obtain ⟨-, -, s3, s4⟩ := sets_ok K (by omega) (by omega)
    obtain ⟨d1, d2, -⟩ := sets_dif K (by omega) (by omega)
    obtain ⟨t, ht⟩ : ∃ t, K * (K - 1) = t := ⟨_, rfl⟩
    rw [ht] at s3 s4
    obtain ⟨q, hq⟩ : ∃ q, K - 1 = q := ⟨_, rfl⟩
    rw [hq] at ht
    have hqi : (K : Int) - 1 = (q : Int) := by omega
    have hti : (K : Int) * (q : Int) = (t : Int) := by rw [← ht, Int.natCast_mul]
    obtain ⟨N, hN⟩ : ∃ N, t + 1 = N := ⟨_, rfl⟩
    have hNi : (t : Int) + 1 = (N : Int) := by omega
    have ht30 : (t : Int) ≤ 30 := by omega
    rw [hN] at s3 s4
    rw [s3] at d2
    have hF := specFSet_any K w2
    rw [findA_in hK2] at hF
    have hP := Lib.hid (circB_P d2)
    clear s3 d1 d2 ht hq u0 u1
    generalize setL K = X at hF hP
    go_wp2_with fail
    refine hF.mono ?_
    clear hF
    rintro e w3 ⟨A, c, rfl, o, kb⟩
    have hend : DrawnCircle w p (.returned (.tuple #[.int .i64 N, .slice A X.length c])) w3 := ⟨N, A, c, X, hP.out, by omega, rfl, intRow_own o, grown_trans g1 (below_grown kb _)⟩
    clear o kb g1 hP
    go_wp2_with fail
    go_ret2
    exact hend
  | false =>
    go_wp2_with fail
    refine (below_any 30 p len cap a _ C1).mono ?_
    rintro e w2 ⟨u, ⟨-, hu⟩, rfl, C2, g2⟩
    obtain ⟨u0, u1⟩ := hu (by omega)
    replace g1 := grown_trans g1 g2
    clear hu C1 g2
    obtain ⟨n, hn⟩ : ∃ n : Nat, 1 + u = (n : Int) := ⟨(1 + u).toNat, by omega⟩
    have hn1 : 1 ≤ n ∧ n ≤ 30 := by omega
    have hp := C2.lt
    have S0 := LSt.start C2
    clear u0 u1 C2
    go_wp2_with fail
    go_loopw [6, 7] (fun r i wr => ∃ (k : Nat) (xs : List Int), k ≤ n ∧ i = .int .i64 k ∧ MarksTo xs k ∧ xs.length ≤ 8 ∧ LSt w2 p a len cap r xs wr) (fun _ i _ => n - (intOf i).toNat)
    case atStart => exact ⟨0, [], by omega, rfl, marksTo_nil _, by decide, S0⟩
    case round =>
      clear S0
      obtain ⟨k, xs, hk, rfl, hI, hl, S⟩ := hrel
      obtain ⟨A0, c0, hv⟩ := own_slice S.own
      subst hv
      by_cases hlt : k < n
      · have hki : (k : Int) < n := by omega
        by_cases hx : xs.length < 8
        · have hxi : (xs.length : Int) < 8 := by omega
          go_wp2_with fail
          refine (once_any 4 p len cap a _ S.cur).mono ?_
          rintro e w3 ⟨b, rfl, C3, g3⟩
          have S1 := S.drawn hp C3 g3
          clear S C3 g3
          cases b with
          | true =>
            have hsz := S1.grown.size
            have o := S1.own
            have S' := Lib.hid S1
            have hI2 := Lib.hid (hI.app (y := ((k + 1 : Nat) : Int)) (by omega) (by omega))
            clear S1 hI
            go_wp2_with (at_builtin; refine wpList_append_one rfl (.tmp 36) (.tmp 38) 24 rfl w2.heap.size 3 i0 (.int .i64 0) Try.underlying24 hi hz0 hz1 hz2 rfl _ xs.length _ rfl (o.alloc _) ⟨w3.heap.size, 0, none⟩ 1 _ rfl (new_one _ _ _) rfl (by omega) (by simp; omega) ?_; intro v' w4 hown1 hg1 _; have S2 := S'.out.app hp hown1 hg1; clear hown1 hg1 o S')
            go_roundw
            case rel => exact ⟨k + 1, xs ++ [(k : Int)], by omega, by go_num, hI2.out, by rw [List.length_append, List.length_singleton]; omega, S2⟩
            case measure => simp [intOf]; omega
          | false =>
            have hI2 := Lib.hid (hI.more (y := ((k + 1 : Nat) : Int)) (by omega))
            clear hI
            go_wp2_with fail
            go_roundw
            case rel => exact ⟨k + 1, xs, by omega, by go_num, hI2.out, hl, S1⟩
            case measure => simp [intOf]; omega
        · have hxi : ¬ (xs.length : Int) < 8 := by omega
          have hd : ((xs.length : Int) == 0) = false := by
            rcases e : ((xs.length : Int) == 0) with _ | _
            · rfl
            · have := beq_iff_eq.1 e
              omega
          have hend := drawn_circle (x := k) (N := n) hI (by omega) (by omega) (by omega) g1 S
          clear S hI g1
          go_wp2_with fail
          go_ret2
          exact hend
      · have hki : ¬ (k : Int) < n := by omega
        by_cases h0 : xs.length = 0
        · have e0 := List.length_eq_zero_iff.1 h0
          subst e0
          obtain ⟨m, hm⟩ : ∃ m : Nat, (n : Int) - 1 = (m : Int) := ⟨n - 1, by omega⟩
          have hI2 := Lib.hid ((marksTo_nil (m : Int)).app (y := (n : Int)) (by omega) (by omega))
          have hsz := S.grown.size
          have o := S.own
          have S' := Lib.hid S
          have hd : (((([] : List Int).length : Nat) : Int) == 0) = true := rfl
          clear S hI
          go_wp2_with (at_builtin; refine wpList_append_one rfl (.tmp 43) (.tmp 46) 24 rfl w2.heap.size 3 i0 (.int .i64 0) Try.underlying24 hi hz0 hz1 hz2 rfl _ 0 _ rfl (o.alloc _) ⟨wr.heap.size, 0, none⟩ 1 _ rfl (new_one _ _ _) rfl (by omega) (by simp; omega) ?_; intro v' w4 hown1 hg1 _; have S2 := S'.out.app hp hown1 hg1; clear hown1 hg1 o S')
          have hend := drawn_circle (x := n) (N := n) hI2.out (by omega) (by omega) (by simp) g1 S2
          go_ret2
          exact hend
        · have hx0 : 1 ≤ xs.length := by omega
          have hd : ((xs.length : Int) == 0) = false := by
            rcases e : ((xs.length : Int) == 0) with _ | _
            · rfl
            · have := beq_iff_eq.1 e
              omega
          have hend := drawn_circle (x := k) (N := n) hI (by omega) (by omega) (by omega) g1 S
          clear S hI g1
          go_wp2_with fail
          go_ret2
          exact hend

/-- What the law's draw answers. -/
def DrawnCircleL (B : Nat) (w : World) (e : Ending) (w' : World) : Prop :=
  ∃ (N : Nat) (A : Option Addr) (c : Nat) (L : List Int), CircP N L ∧ N ≤ 31 ∧ e = .returned (.tuple #[.int .i64 N, .slice A L.length c]) ∧ IntRow w' A L ∧ Below B w w'

theorem drawCircle_any (B : Nat) (a : Option Addr) (len cap : Nat) (w : World) (hB : B = w.heap.size) (hl : len ≤ 1048576) (hr : Bytes w w.heap.size a len) :
    Calls Try.prog 11 #[.slice a len cap] w (DrawnCircleL B w) := by
  go_enter Try.func11, Try.ntmps11
  go_wp2_with fail
  refine (new_any a len cap w hl hr).mono ?_
  rintro e w0 ⟨rfl, C0, b0, s0⟩
  have bel : ∀ w2 : World, w0.grownBy w2 (some w.heap.size) → Below B w w2 := fun w2 g => hB ▸ b0.trans (below_of_grown g (Nat.le_refl _) (by omega))
  clear b0 s0 hr hl hB
  generalize w.heap.size = p at C0 bel ⊢
  go_wp2_with fail
  refine (circleDraw_any p len cap a _ C0).mono ?_
  rintro e w1 ⟨N, A, c, L, hP, hN, rfl, r, g1⟩
  have hend : DrawnCircleL B w (.returned (.tuple #[.int .i64 N, .slice A L.length c])) w1 := ⟨N, A, c, L, hP, hN, rfl, r, bel _ g1⟩
  clear bel hP C0 r g1
  go_wp2_with fail
  go_ret2
  exact hend
end Go.Proofs.Ytfokchmmeflhiaa
