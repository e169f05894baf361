/-
  The contract of the model's list in ascending order. Only new memory is written.
-/
import Derived.Test.YtfokchmmeflhiaaInsert
import Derived.Test.YtfokchmmeflhiaaOwnMore
import Derived.Test.YtfokchmmeflhiaaAppendAny
import Derived.BigQuiet
import Derived.Lib.Hide
import Derived.OwnWalk
namespace Go.Proofs.Ytfokchmmeflhiaa
open Go.ChangeShapes Go.WideShapes Go.ChangeAt Go.RowKit Go.PlainAid

set_option maxRecDepth 100000 in
set_option maxHeartbeats 800000 in
theorem specSorted_any (A : Option Addr) (c n : Nat) (S : List Int) (w : World) (hn : S.length = n) (hm : n ≤ 1000000) (hA : A = none → n = 0 ∧ c = 0) (h : ∀ a, A = some a → ∀ j u, (ints S)[j]? = some u → ∀ o, (w.alloc o).cell? (a.add j) = some u) :
    Calls Try.prog 38 #[.slice A n c] w (Copied (sortL S) w) := by
  obtain ⟨i0, hi, hj0, hj1, hj2⟩ := info_parts Try.infoIntT
  have hE : (w.alloc (.cells #[] 3)).ownsRow w.heap.size 3 1 (.slice (some ⟨w.heap.size, 0, none⟩) 0 0) 0 [] := World.ownsRow_made w #[] 0 (Nat.le_refl _) (by decide) rfl
  have h1 := ints_one S
  have h2 : (ints S).length = n := by rw [ints_length, hn]
  have hadd : ∀ v' w', w'.ownsRow w.heap.size 3 1 v' (0 + n) ([] ++ ints S) → (w.alloc (.cells #[] 3)).grownBy w' (some w.heap.size) → Own w w' [irow v' S] := fun v' w' o1 g1 => (Own.none w).spread hn o1 g1
  replace hadd := Lib.hid hadd
  go_enter Try.func38, Try.ntmps38
  go_wp2_with (at_builtin; refine wpList_append_any _ rfl (.tmp 7) (.tmp 8) 24 rfl w.heap.size 3 i0 (.int .i64 0) 1 8 Try.underlying24 hi hj0 hj1 hj2 rfl (by decide) (.slice (some ⟨w.heap.size, 0, none⟩) 0 0) 0 [] rfl hE A n c (ints S) rfl (by rw [h2, Nat.mul_one]) hA (fun ad e j u hu => h ad e j u hu _) h1 (by unfold maxLen; omega) (by omega) (by simp) ?_; intro v1 w1 o1 g1 a1; have O1 := hadd.out v1 w1 o1 g1; clear o1 g1 a1)
  clear hE h1 h2 hadd hi hj0 hj1 hj2 h hA
  obtain ⟨B, c1, hv⟩ := own_slice O1.hd
  replace hv : v1 = .slice B S.length c1 := hv
  subst hv
  rw [hn] at O1 ⊢
  have hn1 : (n : Int) ≤ 1000000 := by omega
  replace hn := Lib.hid hn
  go_wp2_with fail
  go_loopw [4] (fun i wr => ∃ (k : Nat) (W : List Int), 1 ≤ k ∧ (k ≤ n ∨ k = 1) ∧ i = .int .i64 k ∧ Upward S k W ∧ Own w wr [irow (.slice B n c1) W]) (fun i _ => n - (intOf i).toNat)
  case atStart => exact ⟨1, S, by omega, by omega, rfl, upward_one S, O1⟩
  case round =>
    clear O1
    obtain ⟨i, W, hi1, hin, rfl, hU, O⟩ := hrel
    have hWl : W.length = n := by rw [hU.len, hn.out]
    by_cases hlt : i < n
    · obtain ⟨g, c2, hv⟩ := own_form O (by omega)
      injection hv with hv hv1 hv2
      clear hv1
      subst hv hv2
      have hii : (i : Int) < n := by omega
      have hx := O.cell hWl hlt
      have hU2 := hU.step (by rw [hn.out]; omega)
      clear hU
      generalize W.getD i 0 = x at hx hU2
      obtain ⟨R, hR⟩ : ∃ R, shUp x i W = R := ⟨_, rfl⟩
      rw [hR] at hU2
      replace hR : Hid (shUp x i W = R) := hR
      replace hU2 := Lib.hid hU2
      replace hWl := Lib.hid hWl
      go_wp2_with fail
      clear hx
      go_loopw [6] (fun k' wr => ∃ (k : Nat) (V : List Int), k ≤ i ∧ k' = .int .i64 k ∧ Hid (V.length = n) ∧ Hid (shUp x k V = R) ∧ Own w wr [irow (.slice (some ⟨g, 0, none⟩) n c1) V]) (fun k' _ => (intOf k').toNat)
      case atStart => exact ⟨i, W, by omega, rfl, hWl, hR, O⟩
      case round =>
        clear O hR hWl
        obtain ⟨k, V, hk, rfl, hVl2, hR, O⟩ := hrel
        have hVl := hVl2.out
        have fin : (shUp x k V = (k, V)) → (∃ u, wr.cell? ⟨g, k, none⟩ = some u) ∧ wr.frozen? ⟨g, k, none⟩ = false ∧ Own w (wr.setCell ⟨g, k, none⟩ (.int .i64 x)) [irow (.slice (some ⟨g, 0, none⟩) n c1) (R.2.set R.1 x)] := fun e => by
          have hR2 := hR.out
          rw [e] at hR2
          subst hR2
          exact O.store hVl (show k < n by omega) x
        have hki : (k : Int) < n := by omega
        by_cases hk0 : k = 0
        · subst hk0
          obtain ⟨⟨u, hu⟩, hf, O2⟩ := fin rfl
          have hd : decide (0 < 0) = false := rfl
          clear O fin hR hVl
          go_wp2_with fail
          clear hu hf
          go_roundw
          case rel => exact ⟨i + 1, _, by omega, by omega, by go_num, hU2.out, O2⟩
          case measure => simp [intOf]; omega
        · obtain ⟨p, hp⟩ : ∃ p, k = p + 1 := ⟨k - 1, by omega⟩
          have hpi : (k : Int) - 1 = (p : Int) := by omega
          have hpn : (p : Int) < n := by omega
          have hk00 : (0 : Int) < k := by omega
          have hcp := O.cell hVl (show p < n by omega)
          by_cases hxy : x < V.getD p 0
          · obtain ⟨⟨u, hu⟩, hf, O2⟩ := O.store hVl (show k < n by omega) (V.getD p 0)
            have hR2 : Hid (shUp x p (V.set k (V.getD p 0)) = R) := by
              have := hR.out
              rw [hp, shUp_go hxy] at this
              rw [hp]
              exact this
            have hl2 : Hid ((V.set k (V.getD p 0)).length = n) := by rw [List.length_set]; exact hVl2
            generalize V.set k (V.getD p 0) = V2 at O2 hR2 hl2
            generalize V.getD p 0 = y at hcp hxy O2
            replace O2 := Lib.hid O2
            clear O fin hR hVl hp
            go_wp2_with fail
            have O3 := O2.out
            clear hcp hu hf O2
            go_roundw
            case rel => exact ⟨p, V2, by omega, by go_num, hl2, hR2, O3⟩
            case measure => simp [intOf]; omega
          · obtain ⟨⟨u, hu⟩, hf, O2⟩ := fin (by rw [hp]; exact shUp_stop hxy)
            generalize V.getD p 0 = y at hcp hxy
            replace O2 := Lib.hid O2
            clear O fin hR hVl hp
            go_wp2_with fail
            have O3 := O2.out
            clear hcp hu hf O2
            go_roundw
            case rel => exact ⟨i + 1, _, by omega, by omega, by go_num, hU2.out, O3⟩
            case measure => simp [intOf]; omega
    · have hni : ¬ (i : Int) < n := by omega
      have e := hU.all (by rw [hn.out]; omega)
      subst e
      have O2 : Own w wr [irow (.slice B (sortL S).length c1) (sortL S)] := by rw [sortL_length, hn.out]; exact O
      have hc := O2.copied
      rw [sortL_length, hn.out] at hc
      clear O O2 hU hWl
      go_wp2_with fail
      go_ret
      exact hc
end Go.Proofs.Ytfokchmmeflhiaa
