/-
  The contract of the program's closure that adds a weight to the sums: every sum with every factor, in memory of the call's own.
-/
import Derived.Test.YtdnjpekclmiliaaVars
import Derived.OwnWalk
namespace Go.Proofs.Ytdnjpekclmiliaa
open Go.ChangeShapes Go.WideShapes Go.ChangeAt Go.RowKit Go.PlainAid

set_option maxHeartbeats 1000000 in
theorem implAdd_any (x : Int) (G S : List Int) (F : Fits G S x) (g1 g2 : Nat) (sv gv : Value) (w wr : World) (O : Own w wr [vrow g1 sv, vrow g2 gv, irow sv S, irow gv G]) :
    Calls Try.prog 47 #[.int .i64 x, .pointer (some ⟨g1, 0, none⟩), .pointer (some ⟨g2, 0, none⟩)] wr fun e w' => e = .returned (.tuple #[]) ∧ ∃ sv', Own w w' [vrow g1 sv', vrow g2 gv, irow sv' (more G x S), irow gv G] := by
  obtain ⟨i0, hi, hz0, hz1, hz2⟩ := info_parts Try.infoIntT
  obtain ⟨A, c, hA⟩ := own_slice O.tl.tl.hd
  obtain ⟨A2, c2, hA2⟩ := own_slice O.tl.tl.tl.hd
  replace hA : sv = .slice A S.length c := hA
  replace hA2 : gv = .slice A2 G.length c2 := hA2
  subst hA hA2
  have k1 := O.vcell (g := g1) (v := .slice A S.length c) (by simp)
  have k2 := O.vcell (g := g2) (v := .slice A2 G.length c2) (by simp)
  obtain ⟨hx0, hx1, gl, sl, ga, sa⟩ := F
  obtain ⟨n, hn⟩ : ∃ n, S.length = n := ⟨_, rfl⟩
  obtain ⟨m, hm⟩ : ∃ m, G.length = m := ⟨_, rfl⟩
  rw [hn] at k1 sl sa
  rw [hm] at k2 gl ga
  have hq : n * m ≤ 6561 := Nat.le_trans (Nat.mul_le_mul sl gl) (by decide)
  obtain ⟨q, hq2⟩ : ∃ q, n * m = q := ⟨_, rfl⟩
  have hq3 : (n : Int) * (m : Int) = (q : Int) := by rw [← hq2]; exact (Int.natCast_mul n m).symm
  rw [hq2] at hq
  clear hq2
  rw [hn, hm] at O
  go_enter Try.func47, Try.ntmps47
  go_wp2_with (at_make; refine wpList_make_own _ rfl _ _ 27 rfl wr.heap.size 3 i0 (.int .i64 0) 1 Try.underlying27 hi hz0 hz1 .i64 .i64 _ q rfl rfl rfl (by rw [hz2]; omega) (by unfold maxLen; omega) (Nat.le_refl _) ?_; intro w0 hown0 hgrow0; replace O := O.fits hown0 hgrow0; replace k1 := O.vcell (g := g1) (v := .slice A n c) (by simp); replace k2 := O.vcell (g := g2) (v := .slice A2 m c2) (by simp); clear hown0 hgrow0)
  have X0 : more G x (S.take 0) = [] := rfl
  rw [← X0] at O
  clear X0 k1 k2 hq3 hq
  go_loopw [4, 17] (fun v i wr => ∃ k : Nat, k ≤ n ∧ i = .int .i64 k ∧ Own w wr [irow v (more G x (S.take k)), vrow g1 (.slice A n c), vrow g2 (.slice A2 m c2), irow (.slice A n c) S, irow (.slice A2 m c2) G]) (fun _ i _ => n - (intOf i).toNat)
  case atStart => exact ⟨0, by omega, rfl, O⟩
  case round =>
    clear O
    obtain ⟨k, hk, rfl, O⟩ := hrel
    by_cases hlt : k < n
    · have k2 := O.vcell (g := g2) (v := .slice A2 m c2) (by simp)
      have rS : IntRow wr A S := O.row (v := .slice A n c) (by simp) rfl hn.symm
      obtain ⟨y, rfl, -, hy⟩ := rS k (by omega)
      have hs := sa k hlt
      have hX : (more G x (S.take k)).length ≤ 6561 := by
        rw [more_length]
        exact Nat.le_trans (Nat.mul_le_mul (show (S.take k).length ≤ 2187 by rw [List.length_take]; omega) (show G.length ≤ 3 by omega)) (by decide)
      have hnext := more_take (G := G) (x := x) (S := S) (k := k) (by omega)
      have hmid := fun j (hj : j < m) => mid_take (G := G) (x := x) (s := S.getD k 0) (j := j) (by omega)
      have hall : ((G.take m).map fun g => S.getD k 0 + g * x) = G.map fun g => S.getD k 0 + g * x := by rw [← hm, List.take_length]
      rw [← hall] at hnext
      have hml : ∀ j, ((G.take j).map fun g => S.getD k 0 + g * x).length ≤ 3 := fun j => by rw [List.length_map, List.length_take]; omega
      clear rS sa hall
      generalize S.getD k 0 = s at hs hy hnext hmid hml
      generalize more G x (S.take k) = X at O hX hnext
      have O0 : Own w wr [irow u4 (X ++ ((G.take 0).map fun g => s + g * x)), vrow g1 (.slice (some y) n c), vrow g2 (.slice A2 m c2), irow (.slice (some y) n c) S, irow (.slice A2 m c2) G] := by simpa using O
      clear O
      go_wp2_with fail
      clear hy k2
      go_loopw [4, 23] (fun v i wr => ∃ j : Nat, j ≤ m ∧ i = .int .i64 j ∧ Own w wr [irow v (X ++ ((G.take j).map fun g => s + g * x)), vrow g1 (.slice (some y) n c), vrow g2 (.slice A2 m c2), irow (.slice (some y) n c) S, irow (.slice A2 m c2) G]) (fun _ i _ => m - (intOf i).toNat)
      case atStart => exact ⟨0, by omega, rfl, O0⟩
      case round =>
        clear O0
        obtain ⟨j, hj, rfl, O⟩ := hrel
        by_cases hjt : j < m
        · have rG : IntRow wr A2 G := O.row (v := .slice A2 m c2) (by simp) rfl hm.symm
          obtain ⟨z, rfl, -, hz⟩ := rG j (by omega)
          obtain ⟨p, hp, hp1, hp2⟩ := ga j hjt
          have e := hmid j hjt
          rw [hp] at e
          have hYl : (X ++ ((G.take j).map fun g => s + g * x)).length ≤ 10000 := by
            have := hml j
            rw [List.length_append]; omega
          have eY : (X ++ ((G.take j).map fun g => s + g * x)) ++ [s + p] = X ++ ((G.take (j + 1)).map fun g => s + g * x) := by rw [e, List.append_assoc]
          clear rG ga hnext hmid hml hX e
          generalize X ++ ((G.take j).map fun g => s + g * x) = Y at O hYl eY
          generalize G.getD j 0 = g at hz hp
          have h1 := O.hd
          have hsz := O.bel.size
          go_wp2_with (at_builtin; refine wpList_append_one rfl (.tmp 27) (.tmp 33) 27 rfl w.heap.size 3 i0 (.int .i64 0) Try.underlying27 hi hz0 hz1 hz2 rfl u4 Y.length _ rfl (h1.alloc _) ⟨wr.heap.size, 0, none⟩ 1 _ rfl (new_one _ _ _) rfl (by omega) (by simp; omega) ?_; intro v' w2 hown1 hg1 hb1; replace O := O.iapp hown1 hg1 hb1; rw [eY] at O; clear hown1 hg1 hb1 eY h1)
          go_wp2
          go_roundw
          case rel => exact ⟨j + 1, by omega, by go_num, O⟩
          case measure => simp [intOf]; omega
        · obtain rfl : j = m := by omega
          rw [← hnext] at O
          clear hnext hmid hml hX ga
          go_wp2
          go_roundw
          case rel => exact ⟨k + 1, by omega, by go_num, O⟩
          case measure => simp [intOf]; omega
    · obtain rfl : k = n := by omega
      have eS : S.take k = S := by rw [← hn, List.take_length]
      rw [eS] at O
      obtain ⟨B, c3, hu⟩ := own_slice O.hd
      replace hu : u4 = .slice B (more G x S).length c3 := hu
      subst hu
      obtain ⟨c1, f1, O2⟩ := O.swap.vstore (.slice B (more G x S).length c3)
      replace O2 := O2.keepFour
      rw [← hm]
      rw [← hm] at O2
      clear O
      go_wp2
      go_end0
      exact ⟨rfl, _, O2⟩
end Go.Proofs.Ytdnjpekclmiliaa
