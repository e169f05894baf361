/-
  The contracts of the program's list of lengths, of its two checks and of the ruler read from the other end. Only new memory is written.
-/
import Derived.Test.YtokengeaiknmhaaRulerLen
import Derived.Test.YtokengeaiknmhaaImplCounts
import Derived.Test.YtokengeaiknmhaaOwnMore
import Derived.Deep.RegionLaw
namespace Go.Proofs.Ytokengeaiknmhaa
open Go.ChangeShapes Go.WideShapes Go.ChangeAt Go.RowKit Go.PlainAid Go.Maps

theorem nil_row {w wr : World} {R : List Rw} (h : Own w wr R) : Own w wr (irow (.slice none 0 0) [] :: R) := by
  have o : wr.ownsRow wr.heap.size 3 1 (.slice none 0 0) 0 [] := World.ownsRow_nil _ _ _ _
  exact h.add (Below.refl _ _) o
/-- A map that counts, and a row of the call's own beside it. -/
theorem MapSt.iapp {w wr w1 : World} {B : Nat} {C : List Int} {v : Value} {X : List Int} {o : Obj} (M : MapSt w wr B C) (O : Own w wr [irow v X])
    (hg : (wr.alloc o).grownBy w1 v.ownBlock) : MapSt w w1 B C :=
  (M.below ((Below.refl _ _).alloc (Nat.le_refl _) o)).grown hg (fun k e => (O.hd.lt k e).1) (M.apart O.hd)

set_option maxRecDepth 100000 in
set_option maxHeartbeats 2000000 in
theorem implLengths_any (A : Option Addr) (c n : Nat) (L : List Int) (w : World) (hn : L.length = n) (hm : n ≤ 9223372036854775807) (hc : n ≤ c) (h : IntRow w A L) :
    Calls Try.prog 13 #[.slice A n c] w (Copied (lenL L) w) := by
  obtain ⟨i0, hi, hz0, hz1, hz2⟩ := info_parts Try.infoIntT
  have hR := implCounts_any A c n L w hn hm hc h
  obtain ⟨X, hX⟩ : ∃ X, lenL L = X := ⟨_, rfl⟩
  rw [hX]
  replace hX : Hid (lenL L = X) := hX
  go_enter Try.func13, Try.ntmps13
  go_wp2_with fail
  refine hR.mono ?_
  clear hR h
  rintro e w1 (⟨hb, rfl, kb⟩ | ⟨hb, B, rfl, M⟩)
  · obtain rfl : X = [] := hX.out.symm.trans (lenL_no hb)
    have O0 := nil_row ((Own.none w).keep kb)
    clear hX hb
    go_wp2_with fail
    go_loopw [4, 5] (fun v i wr => ∃ k : Nat, 1 ≤ k ∧ k ≤ 61 ∧ i = .int .i64 k ∧ v = .slice none 0 0 ∧ w1 = wr) (fun _ i _ => 61 - (intOf i).toNat)
    case atStart => exact ⟨1, by omega, by omega, rfl, rfl, rfl⟩
    case round =>
      obtain ⟨k, hk1, hk, rfl, rfl, rfl⟩ := hrel
      by_cases hlt : (k : Int) ≤ 60
      · have hl := Maps.look_nil (w := w1) false lawInt Try.underlyingMap (zeroInt w1) (keyInt (z := (k : Int)) (by omega))
        go_wp2_with fail
        refine wp_loop_rounds 1 ?_
        rw [rounds_succ]
        go_wp2_with fail
        go_roundw
        case rel => exact ⟨k + 1, by omega, by omega, by go_num, rfl, by first | rfl | trivial⟩
        case measure => simp [intOf]; omega
      · have hc := O0.copied
        clear O0
        go_wp2_with fail
        go_ret
        exact hc
  · rw [lenL_yes hb] at hX
    have hD := lens_length (rulB_P hb).1.1.2
    have O0 := nil_row ((Own.none w).keep M.bel)
    generalize lens L = D at M hX hD
    clear hb
    go_wp2_with fail
    go_loopw [4, 5] (fun v i wr => ∃ k : Nat, 1 ≤ k ∧ k ≤ 61 ∧ i = .int .i64 k ∧ MapSt w wr B D ∧ Own w wr [irow v (outTo D (k - 1))]) (fun _ i _ => 61 - (intOf i).toNat)
    case atStart => exact ⟨1, by omega, by omega, rfl, M, O0⟩
    case round =>
      clear O0 M
      obtain ⟨k, hk1, hk, rfl, M, O⟩ := hrel
      by_cases hlt : (k : Int) ≤ 60
      · have hP := outTo_length D 28 hD (k - 1)
        have e := outTo_at D hk1
        have hm := count_small hD (k : Int)
        generalize outTo D (k - 1) = P at O hP e
        replace e : Hid (outTo D k = P ++ List.replicate (D.count (k : Int)) (k : Int)) := e
        obtain ⟨m, hmm⟩ : ∃ m, D.count (k : Int) = m := ⟨_, rfl⟩
        rw [hmm] at e hm
        have O1 : Own w wr [irow u4 (P ++ List.replicate 0 (k : Int))] := by
          rw [List.replicate_zero, List.append_nil]; exact O
        clear O
        go_wp2_with (at_lookup; refine wpList_look_counts rfl _ _ _ rfl rfl M rfl (k : Int) rfl (by omega) ?_; rw [hmm])
        replace hmm : Hid (D.count (k : Int) = m) := hmm
        go_loopw [4, 15] (fun v i wr => ∃ j : Nat, j ≤ m ∧ i = .int .i64 j ∧ MapSt w wr B D ∧ Own w wr [irow v (P ++ List.replicate j (k : Int))]) (fun _ i _ => m - (intOf i).toNat)
        case atStart => exact ⟨0, by omega, rfl, M, O1⟩
        case round =>
          clear O1 M
          obtain ⟨j, hj, rfl, M, O⟩ := hrel
          by_cases hjm : j < m
          · have eY := more_one P j (k : Int)
            have hY : (P ++ List.replicate j (k : Int)).length ≤ 2000 := by rw [List.length_append, List.length_replicate]; omega
            generalize P ++ List.replicate j (k : Int) = Y at O eY hY
            have h1 := O.hd
            have hsz := O.bel.size
            clear e
            go_wp2_with (at_builtin; refine wpList_append_one rfl (.tmp 17) (.tmp 19) 24 rfl w.heap.size 3 i0 (.int .i64 0) Try.underlying24 hi hz0 hz1 hz2 rfl u4 Y.length _ rfl (h1.alloc _) ⟨wr.heap.size, 0, none⟩ 1 _ rfl (new_one _ _ _) rfl (by omega) (by simp; omega) ?_; intro v' w3 hown1 hg1 hb1; have M3 := M.iapp O hg1; replace O := O.iapp hown1 hg1 hb1; rw [eY] at O; clear hown1 hg1 hb1 eY h1 M)
            go_roundw
            case rel => exact ⟨j + 1, by omega, by go_num, M3, O⟩
            case measure => simp [intOf]; omega
          · obtain rfl : j = m := by omega
            go_wp2
            go_roundw
            case rel => exact ⟨k + 1, by omega, by omega, by go_num, M, by rw [Nat.add_sub_cancel, e.out]; exact O⟩
            case measure => simp [intOf]; omega
      · obtain rfl : k = 61 := by omega
        have hc := O.copied
        rw [hX.out] at hc
        clear O M
        go_wp2
        go_ret
        exact hc

end Go.Proofs.Ytokengeaiknmhaa
