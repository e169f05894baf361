/-
  The contracts of the program's copy of a list and of its search for lists of factors, which hands on lists that share memory: what it was handed is as it was.
-/
import Derived.Test.YtdnjpekclmiliaaSpill
import Derived.Test.YtdnjpekclmiliaaFacs
import Derived.Test.YtdnjpekclmiliaaFacStep
import Derived.OwnWalk
import Derived.Deep.RegionLaw
namespace Go.Proofs.Ytdnjpekclmiliaa
open Go.ChangeShapes Go.WideShapes Go.ChangeAt Go.RowKit Go.PlainAid

theorem Try.infoRowI : (Try.prog.info? 27).map (fun i => (i.zero, i.size, i.bytes)) = some (some (.slice none 0 0), 1, 24) := by kernel_rfl
theorem Spot.drew {w w' : World} {v v' : Value} {n : Nat} (h : Spot w.drew w' v v' n) : Spot w w' v v' n := h.imp id fun h => ⟨h.1, h.2.os, h.2.tape, h.2.output, h.2.size, h.2.block⟩

theorem implCopy_any {w0 w : World} {v : Value} {H : List Int} {R : List Rw} (O : Own w0 w (irow v H :: R)) (h0 : 0 < H.length) (hl : H.length ≤ 1000000000) :
    Calls Try.prog 40 #[v] w fun e w1 => ∃ u, e = .returned u ∧ Own w0 w1 (irow u H :: irow v H :: R) := by
  obtain ⟨i0, hi, hz0, hz1, hz2⟩ := info_parts Try.infoIntT
  obtain ⟨g, c, rfl⟩ := own_form O h0
  have o : w.ownsRow w0.heap.size 3 1 (.slice (some ⟨g, 0, none⟩) H.length c) H.length (ints H) := O.hd
  have hN : ∀ ad, some (⟨g, 0, none⟩ : Addr) = some ad → ∀ j u, (ints H)[j]? = some u → w.cell? (ad.add j) = some u := fun ad he => by
    injection he with he
    subst he
    exact o.cells (g := g) rfl
  have h1 := ints_one H
  have h2 := ints_length H
  have hadd : ∀ v' w', w'.ownsRow w.heap.size 3 1 v' (0 + H.length) ([] ++ ints H) → w.grownBy w' (Value.ownBlock (.slice none 0 0)) → Own w0 w' (irow v' H :: irow (.slice (some ⟨g, 0, none⟩) H.length c) H :: R) := fun v' w' o1 g1 => by
    rw [List.nil_append, Nat.zero_add] at o1
    exact O.add ((Below.refl w.heap.size w).grown g1 (Nat.le_refl _) (fun k e => by cases e)) o1
  clear O o
  generalize ints H = xs at hN h1 h2 hadd
  go_enter Try.func40, Try.ntmps40
  go_wp2_with (at_builtin; refine wpList_append_any _ rfl (.const (.slice none 0 0)) (.tmp 3) 27 rfl w.heap.size 3 i0 (.int .i64 0) 1 8 Try.underlying27 hi hz0 hz1 hz2 rfl (by decide) (.slice none 0 0) 0 [] rfl (World.ownsRow_nil _ _ _ _) (some ⟨g, 0, none⟩) H.length c xs rfl (by rw [h2, Nat.mul_one]) (fun e => by cases e) hN h1 (by unfold maxLen; omega) (by omega) (Nat.le_refl _) ?_; intro v1 w1 o1 g1 a1; have O1 := hadd v1 w1 o1 g1; clear o1 g1 a1)
  go_ret
  exact ⟨v1, rfl, O1⟩

set_option maxRecDepth 100000 in
set_option maxHeartbeats 4000000 in
theorem implFacs_any : ∀ (d n : Nat) (H : List Int) (v : Value) (w0 w : World) (R : List Rw), d < 8 → n < 101 → 1 ≤ n → n < 2 ^ d → H.length + d ≤ 100 → (n = 1 → 0 < H.length) → Own w0 w (irow v H :: R) →
    Calls Try.prog 27 #[v, .int .i64 n] w (Found (facs d n H) w0 (irow v H :: R))
  | 0, n, H, v, w0, w, R, hd, hn, h1, hlt, hml, hH, O => by
    rw [Nat.pow_zero] at hlt
    omega
  | d + 1, n, H, v, w0, w, R, hd, hn, h1, hlt, hml, hH, O => by
    have ih := implFacs_any d
    obtain ⟨i0, hi, hz0, hz1, hz2⟩ := info_parts Try.infoIntT
    obtain ⟨i1, hi1, hq0, hq1, hq2⟩ := info_parts Try.infoRowI
    by_cases hone : n = 1
    · subst hone
      rw [facs_one]
      have hC := implCopy_any O (hH rfl) (by omega)
      clear ih O
      go_enter Try.func27, Try.ntmps27
      go_wp2_with fail
      refine hC.mono ?_
      rintro e w1 ⟨u, rfl, O1⟩
      obtain ⟨B, c1, hu⟩ := own_slice O1.hd
      replace hu : u = .slice B H.length c1 := hu
      subst hu
      clear hC
      have G := (OwnSS.one O1).found
      clear O1
      go_wp2_with fail
      go_ret
      exact G
    · rw [facs_more hone]
      have hni : ¬ (n : Int) = 1 := by omega
      have hnb : ((n : Int) == 1) = false := by simp [hni]
      go_enter Try.func27, Try.ntmps27
      go_wp2_with fail
      go_loopw [5, 6] (fun u i wr => ∃ y : Nat, 2 ≤ y ∧ y ≤ n + 1 ∧ i = .int .i64 y ∧ OwnSS w0 wr u (facsTo d n H (y - 2)) (irow v H :: R)) (fun _ i _ => (n + 1) - (intOf i).toNat)
      case atStart => exact ⟨2, by omega, by omega, rfl, OwnSS.nil O⟩
      case round =>
        clear O
        obtain ⟨y, hy1, hy2, rfl, O⟩ := hrel
        by_cases hle : y ≤ n
        · have hs := facsTo_succ d n H (y - 2)
          rw [show y - 2 + 1 = y + 1 - 2 by omega, show y - 2 + 2 = y by omega] at hs
          by_cases hmod : n % y = 0
          · rw [if_pos hmod] at hs
            have hyz : ¬ y = 0 := by omega
            obtain ⟨k, hk⟩ : ∃ k, n / y = k := ⟨_, rfl⟩
            have hq : IntKind.i64.wrap ((n : Int) / (y : Int)) = (k : Int) := by
              have h5 : k ≤ n := by rw [← hk]; exact Nat.div_le_self _ _
              have h6 : ((n : Int) / (y : Int)) = (k : Int) := by rw [← hk]; exact (Int.natCast_ediv n y).symm
              rw [h6, IntKind.wrap_i64]
              omega
            rw [hk] at hs
            go_wp2_with fail
            have hk1 : 1 ≤ k := by rw [← hk]; exact Nat.div_pos hle (by omega)
            have hk2 : k < 2 ^ d := by
              rw [← hk]
              refine Nat.div_lt_of_lt_mul ?_
              have e : 2 ^ (d + 1) = 2 ^ d * 2 := Nat.pow_succ ..
              have : 2 ^ d * 2 ≤ y * 2 ^ d := by rw [Nat.mul_comm]; exact Nat.mul_le_mul_right _ (by omega)
              omega
            have hk3 : k < 101 := by have := Nat.div_le_self n y; omega
            have hlen1 := facsTo_le (d := d) (n := n) (j := y - 2) (by omega) hn hone (by omega) H
            have hlen2 : (facs d k (H ++ [(y : Int)])).length ≤ 200 := by rw [facs_length]; exact cntF_le d (by omega) k hk3
            generalize facsTo d n H (y - 2) = LL at O hs hlen1
            have ihk := fun v' W Y (h : Own w0 W (irow v' (H ++ [(y : Int)]) :: Y)) => ih k (H ++ [(y : Int)]) v' w0 W Y (by omega) hk3 hk1 hk2 (by rw [List.length_append, List.length_singleton]; omega) (fun _ => by rw [List.length_append, List.length_singleton]; omega) h
            generalize facs d k (H ++ [(y : Int)]) = MM at hs hlen2 ihk
            have hbw := O.bel.size
            have rv : wr.ownsRow w0.heap.size 3 1 v H.length (ints H) := O.row.hd
            clear ih hk hk1 hk2 hk3 hlt
            go_region_law (first
              | (refine step_append_spill _ rfl (.tmp 22) (.tmp 24) 27 rfl w0.heap.size 3 i0 (.int .i64 0) Try.underlying27 hi hz0 hz1 hz2 rfl v H.length (ints H) rfl (rv.alloc _) ⟨_, 0, none⟩ 1 (.int .i64 y) rfl (new_one _ _ _) rfl (by omega) (by simp; omega) ?_; intro v1 w1 o1 g1 a1 s1; obtain ⟨Y, hY, hback⟩ := O.spill o1 ⟨g1.os, g1.tape, g1.output, g1.size, g1.block⟩ a1 (Spot.drew s1))
              | (go_simp; go_at_call 27; (with_reducible refine (ihk v1 _ Y hY).mono ?_); rintro e w3 ⟨A3, c3, rfl, O3⟩; have T := hback _ _ _ O3)
              | (obtain ⟨xs4, news4, p1, p2, p3, p4, p5, p6⟩ := T.append; refine step_append_any _ rfl (.tmp 21) (.tmp 29) 25 rfl w0.heap.size 27 i1 (.slice none 0 0) 1 24 Try.underlying25 hi1 hq0 hq1 hq2 rfl (by decide) u5 LL.length xs4 rfl p1 A3 MM.length c3 news4 rfl (by rw [p2, Nat.mul_one]) p3 p4 p5 (by unfold maxLen; omega) (by omega) (by have := O3.bel.size; omega) ?_; intro v4 w4 o4 g4 a4; have O4 := p6 v4 w4 o4 g4 a4))
            all_goals
              rw [← hs] at O4
              clear o1 g1 a1 s1 hY hback O3 T p1 p2 p3 p4 p5 p6 o4 g4 a4 O rv hs ihk hq
              go_wp2
              go_roundw
              case rel => exact ⟨y + 1, by omega, by omega, by go_num, O4⟩
              case measure => simp [intOf]; omega
          · rw [if_neg hmod, List.append_nil] at hs
            rw [← hs] at O
            have hyz : ¬ y = 0 := by omega
            clear hs ih
            go_wp2
            go_roundw
            case rel => exact ⟨y + 1, by omega, by omega, by go_num, O⟩
            case measure => simp [intOf]; omega
        · obtain rfl : y = n + 1 := by omega
          rw [show n + 1 - 2 = n - 1 by omega] at O
          have G := O.found
          clear O ih
          go_wp2
          go_ret
          exact G
end Go.Proofs.Ytdnjpekclmiliaa
