/-
  The contracts of the model's list of lengths and of its two checks. Only new memory is written.
-/
import Derived.Test.YtokengeaiknmhaaRulerLen
import Derived.Test.YtokengeaiknmhaaSpecRuler
import Derived.Test.YtokengeaiknmhaaSpecCounts
namespace Go.Proofs.Ytokengeaiknmhaa
open Go.ChangeShapes Go.WideShapes Go.ChangeAt Go.RowKit Go.PlainAid

set_option maxRecDepth 100000 in
set_option maxHeartbeats 2000000 in
theorem specLengths_any (A : Option Addr) (c n : Nat) (L : List Int) (w : World) (hn : L.length = n) (hm : n ≤ 1000000000) (h : IntRow w A L) :
    Calls Try.prog 25 #[.slice A n c] w (Copied (lenL L) w) := by
  obtain ⟨i0, hi, hz0, hz1, hz2⟩ := info_parts Try.infoIntT
  have O0 := (Own.none w).empty
  have hR := fun W r => specRuler_any A c n L W hn hm r
  obtain ⟨X, hX⟩ : ∃ X, lenL L = X := ⟨_, rfl⟩
  rw [hX]
  go_enter Try.func25, Try.ntmps25
  go_wp2_with fail
  refine (hR _ (h.keep O0.bel)).mono ?_
  rintro e w1 ⟨rfl, q, rfl⟩
  replace O0 := O0.drew q
  generalize (w.alloc (.cells #[] 3)).drewN q = w1 at O0 ⊢
  clear hR
  rcases hb : rulB L with _ | _
  · obtain rfl : X = [] := hX.symm.trans (lenL_no hb)
    have hc := O0.copied
    clear hX
    clear h O0
    go_wp2
    go_ret
    exact hc
  · rw [lenL_yes hb] at hX
    have hP := rulB_P hb
    have hC := fun W r => specCounts_any A c n L W hn hP r
    go_wp2_with fail
    refine (hC _ (h.keep O0.bel)).mono ?_
    rintro e w2 ⟨A2, c2, rfl, o, b⟩
    replace O0 := (O0.add b o)
    obtain ⟨g, c3, hv⟩ := own_form (v := .slice A2 (tab (lens L)).length c2) (L := tab (lens L)) O0 (by rw [tab_len]; omega)
    injection hv with hA _ hc
    subst hA hc
    have hD := lens_length hP.1.1.2
    generalize lens L = D at O0 hD hX ⊢
    replace hX : Hid (outTo D 60 = X) := hX
    replace O0 : Own w w2 [irow (.slice (some ⟨g, 0, none⟩) 61 c2) (tab D), irow (.slice (some ⟨w.heap.size, 0, none⟩) 0 0) []] := by
      have := tab_len D
      rw [← this]
      exact O0
    replace O0 := O0.swap
    rw [tab_len]
    clear hC h hP hb b o
    go_wp2_with fail
    go_loopw [3, 5] (fun v i wr => ∃ k : Nat, 1 ≤ k ∧ k ≤ 61 ∧ i = .int .i64 k ∧ Own w wr [irow v (outTo D (k - 1)), irow (.slice (some ⟨g, 0, none⟩) 61 c2) (tab D)]) (fun _ i _ => 61 - (intOf i).toNat)
    case atStart => exact ⟨1, by omega, by omega, rfl, O0⟩
    case round =>
      clear O0
      obtain ⟨k, hk1, hk, rfl, O⟩ := hrel
      by_cases hlt : k < 61
      · have hP := outTo_length D 28 hD (k - 1)
        have e := outTo_at D hk1
        have hm := count_small hD (k : Int)
        have hg := tab_get D hlt
        have hl := tab_len D
        generalize outTo D (k - 1) = P at O hP e
        generalize tab D = T at O hg hl
        generalize hmm : D.count (k : Int) = m at e hm hg
        replace e : Hid (outTo D k = P ++ List.replicate m (k : Int)) := e
        have hcell : ∀ W r, Own w W [r, irow (.slice (some ⟨g, 0, none⟩) 61 c2) T] → W.cell? ⟨g, k, none⟩ = some (.int .i64 (m : Int)) := fun W r O => by
          have := O.swap.cell hl hlt
          rwa [hg] at this
        have O1 : Own w wr [irow u3 (P ++ List.replicate 0 (k : Int)), irow (.slice (some ⟨g, 0, none⟩) 61 c2) T] := by
          rw [List.replicate_zero, List.append_nil]; exact O
        have hki : (k : Int) < 61 := by omega
        clear O hmm hg hl
        go_wp2_with fail
        go_loopw [3, 6] (fun v i wr => ∃ j : Nat, j ≤ m ∧ i = .int .i64 j ∧ Own w wr [irow v (P ++ List.replicate j (k : Int)), irow (.slice (some ⟨g, 0, none⟩) 61 c2) T]) (fun _ i _ => m - (intOf i).toNat)
        case atStart => exact ⟨0, by omega, rfl, O1⟩
        case round =>
          clear O1
          obtain ⟨j, hj, rfl, O⟩ := hrel
          have hcx := hcell _ _ O
          by_cases hjm : j < m
          · have eY := more_one P j (k : Int)
            have hY : (P ++ List.replicate j (k : Int)).length ≤ 2000 := by rw [List.length_append, List.length_replicate]; omega
            generalize P ++ List.replicate j (k : Int) = Y at O eY hY
            have h1 := O.hd
            have hsz := O.bel.size
            clear hcell e
            go_wp2_with (at_builtin; refine wpList_append_one rfl (.tmp 28) (.tmp 30) 24 rfl w.heap.size 3 i0 (.int .i64 0) Try.underlying24 hi hz0 hz1 hz2 rfl u3 Y.length _ rfl (h1.alloc _) ⟨wr.heap.size, 0, none⟩ 1 _ rfl (new_one _ _ _) rfl (by omega) (by simp; omega) ?_; intro v' w3 hown1 hg1 hb1; replace O := O.iapp hown1 hg1 hb1; rw [eY] at O; clear hown1 hg1 hb1 eY h1)
            go_roundw
            case rel => exact ⟨j + 1, by omega, by go_num, O⟩
            case measure => simp [intOf]; omega
          · obtain rfl : j = m := by omega
            clear hcell
            go_wp2
            go_roundw
            case rel => exact ⟨k + 1, by omega, by omega, by go_num, by rw [Nat.add_sub_cancel, e.out]; exact O⟩
            case measure => simp [intOf]; omega
      · obtain rfl : k = 61 := by omega
        have hc := O.copied
        rw [hX.out] at hc
        clear O hX
        go_wp2
        go_ret
        exact hc

set_option maxRecDepth 100000 in
set_option maxHeartbeats 2000000 in
theorem specGolomb_any (A : Option Addr) (c n : Nat) (L : List Int) (w : World) (hn : L.length = n) (hm : n ≤ 1000000000) (h : IntRow w A L) :
    Calls Try.prog 28 #[.slice A n c] w (SaysB (golB L) w) := by
  have hR := specRuler_any A c n L w hn hm h
  obtain ⟨z, hz⟩ : ∃ z, golB L = z := ⟨_, rfl⟩
  rw [hz]
  replace hz : Hid (golB L = z) := hz
  go_enter Try.func28, Try.ntmps28
  go_wp2_with fail
  refine hR.mono ?_
  rintro e w1 ⟨rfl, q, rfl⟩
  have O0 := (Own.none w).drew q
  generalize w.drewN q = w1 at O0 ⊢
  clear hR
  rcases hb : rulB L with _ | _
  · obtain rfl : z = false := hz.out.symm.trans (golB_no hb)
    have hc := O0.bel
    clear h O0
    go_wp2
    go_ret
    exact ⟨rfl, hc⟩
  · have hP := rulB_P hb
    have hC := fun W r => specCounts_any A c n L W hn hP r
    go_wp2_with fail
    refine (hC _ (h.keep O0.bel)).mono ?_
    rintro e w2 ⟨A2, c2, rfl, o, b⟩
    replace O0 := (O0.add b o)
    obtain ⟨g, c3, hv⟩ := own_form (v := .slice A2 (tab (lens L)).length c2) (L := tab (lens L)) O0 (by rw [tab_len]; omega)
    injection hv with hA _ hc
    subst hA hc
    have hg1 := (golB_count hb).2
    have hg2 := fun g v a b => (golB_count hb).1 g v a b
    generalize lens L = D at O0 hg1 hg2 ⊢
    replace O0 : Own w w2 [irow (.slice (some ⟨g, 0, none⟩) 61 c2) (tab D)] := by
      have := tab_len D
      rw [← this]
      exact O0
    rw [tab_len]
    have hcell : ∀ k, k < 61 → w2.cell? ⟨g, k, none⟩ = some (.int .i64 (D.count (k : Int) : Nat)) := fun k hk => by
      have := O0.cell (tab_len D) hk
      rwa [tab_get D hk] at this
    have hbel := O0.bel
    clear hC h hP hb b o O0
    go_wp2_with fail
    go_loopw [4] (fun i wr => ∃ k : Nat, 1 ≤ k ∧ k ≤ 61 ∧ i = .int .i64 k ∧ (∀ v : Nat, 1 ≤ v → v < k → D.count (v : Int) ≤ 1) ∧ w2 = wr) (fun i _ => 61 - (intOf i).toNat)
    case atStart => exact ⟨1, by omega, by omega, rfl, fun v h1 h2 => by omega, rfl⟩
    case round =>
      obtain ⟨k, hk1, hk, rfl, hf, rfl⟩ := hrel
      by_cases hlt : k < 61
      · have hx := hcell k hlt
        have hki : (k : Int) < 61 := by omega
        by_cases hc : D.count (k : Int) ≤ 1
        · have hf2 : ∀ v : Nat, 1 ≤ v → v < k + 1 → D.count (v : Int) ≤ 1 := fun v h1 h2 => by
            by_cases e : v = k
            · subst e; exact hc
            · exact hf v h1 (by omega)
          clear hg1 hg2 hcell hf
          have hd : ((D.count (k : Int) : Nat) : Int) ≤ 1 := by omega
          clear hc
          generalize ((D.count (k : Int) : Nat) : Int) = m at hx hd
          go_wp2
          go_roundw
          case rel => exact ⟨k + 1, by omega, by omega, by go_num, hf2, by first | rfl | trivial⟩
          case measure => simp [intOf]; omega
        · have hy : golB L = false := by
            rcases e : golB L with _ | _
            · rfl
            · exact absurd (hg2 e k hk1 (by omega)) hc
          clear hg1 hg2 hcell hf
          have hd : 1 < ((D.count (k : Int) : Nat) : Int) := by omega
          clear hc
          generalize ((D.count (k : Int) : Nat) : Int) = m at hx hd
          go_wp2
          go_ret
          obtain rfl : z = false := hz.out.symm.trans hy
          exact ⟨rfl, hbel⟩
      · obtain rfl : k = 61 := by omega
        have hy : golB L = true := hg1 fun v a b => hf v a (by omega)
        clear hg1 hg2 hcell hf
        go_wp2
        go_ret
        obtain rfl : z = true := hz.out.symm.trans hy
        exact ⟨rfl, hbel⟩

set_option maxRecDepth 100000 in
set_option maxHeartbeats 2000000 in
theorem specMeasures_any (A : Option Addr) (c n : Nat) (L : List Int) (w : World) (hn : L.length = n) (hm : n ≤ 1000000000) (h : IntRow w A L) :
    Calls Try.prog 29 #[.slice A n c] w (SaysB (measB L) w) := by
  have hR := specRuler_any A c n L w hn hm h
  obtain ⟨z, hz⟩ : ∃ z, measB L = z := ⟨_, rfl⟩
  rw [hz]
  replace hz : Hid (measB L = z) := hz
  go_enter Try.func29, Try.ntmps29
  go_wp2_with fail
  refine hR.mono ?_
  rintro e w1 ⟨rfl, q, rfl⟩
  have O0 := (Own.none w).drew q
  generalize w.drewN q = w1 at O0 ⊢
  clear hR
  rcases hb : rulB L with _ | _
  · obtain rfl : z = false := hz.out.symm.trans (measB_no hb)
    have hc := O0.bel
    clear h O0
    go_wp2
    go_ret
    exact ⟨rfl, hc⟩
  · have hP := rulB_P hb
    have hC := fun W r => specCounts_any A c n L W hn hP r
    go_wp2_with fail
    refine (hC _ (h.keep O0.bel)).mono ?_
    rintro e w2 ⟨A2, c2, rfl, o, b⟩
    replace O0 := (O0.add b o)
    obtain ⟨g, c3, hv⟩ := own_form (v := .slice A2 (tab (lens L)).length c2) (L := tab (lens L)) O0 (by rw [tab_len]; omega)
    injection hv with hA _ hc
    subst hA hc
    have hg1 := (measB_count hb).2
    have hg2 := fun g v a b => (measB_count hb).1 g v a b
    have hl := hP.last
    have hn8 := hP.1.1
    have h2 := h.keep O0.bel
    obtain ⟨p, hp⟩ : ∃ p, n = p + 1 := ⟨n - 1, by omega⟩
    obtain ⟨x, rfl, -, hx⟩ := h2 p (by omega)
    have ep : L.getD p 0 = lastL L := by unfold lastL; rw [hn, hp, Nat.add_sub_cancel]
    rw [ep] at hx
    have hpi : (n : Int) - 1 = p := by omega
    have hpn : (p : Int) < n := by omega
    clear ep h2 hp
    generalize lastL L = t at hx hg1 hg2 hl
    generalize lens L = D at O0 hg1 hg2 ⊢
    replace O0 : Own w w2 [irow (.slice (some ⟨g, 0, none⟩) 61 c2) (tab D)] := by
      have := tab_len D
      rw [← this]
      exact O0
    rw [tab_len]
    have hcell : ∀ k, k < 61 → w2.cell? ⟨g, k, none⟩ = some (.int .i64 (D.count (k : Int) : Nat)) := fun k hk => by
      have := O0.cell (tab_len D) hk
      rwa [tab_get D hk] at this
    have hbel := O0.bel
    clear hC h hP hb b o O0
    go_wp2_with fail
    go_loopw [4] (fun i wr => ∃ k : Nat, 1 ≤ k ∧ k ≤ t.toNat + 1 ∧ i = .int .i64 k ∧ (∀ v : Nat, 1 ≤ v → v < k → D.count (v : Int) ≠ 0) ∧ w2 = wr) (fun i _ => t.toNat + 1 - (intOf i).toNat)
    case atStart => exact ⟨1, by omega, by omega, rfl, fun v h1 h2 => by omega, rfl⟩
    case round =>
      obtain ⟨k, hk1, hk, rfl, hf, rfl⟩ := hrel
      by_cases hlt : (k : Int) ≤ t
      · have hx2 := hcell k (by omega)
        have hki : (k : Int) < 61 := by omega
        by_cases hc : D.count (k : Int) = 0
        · have hy : measB L = false := by
            rcases e : measB L with _ | _
            · rfl
            · exact absurd hc (hg2 e k hk1 (by omega))
          have hd : ((D.count (k : Int) : Nat) : Int) = 0 := by omega
          rw [hd] at hx2
          clear hg1 hg2 hcell hf hc hd
          go_wp2
          go_ret
          obtain rfl : z = false := hz.out.symm.trans hy
          exact ⟨rfl, hbel⟩
        · have hf2 : ∀ v : Nat, 1 ≤ v → v < k + 1 → D.count (v : Int) ≠ 0 := fun v h1 h2 => by
            by_cases e : v = k
            · subst e; exact hc
            · exact hf v h1 (by omega)
          clear hg1 hg2 hcell hf
          have hd : ¬ ((D.count (k : Int) : Nat) : Int) = 0 := by omega
          clear hc
          generalize ((D.count (k : Int) : Nat) : Int) = m at hx2 hd
          go_wp2
          go_roundw
          case rel => exact ⟨k + 1, by omega, by omega, by go_num, hf2, by first | rfl | trivial⟩
          case measure => simp [intOf]; omega
      · have hy : measB L = true := hg1 fun v a b => hf v a (by omega)
        clear hg1 hg2 hcell hf
        go_wp2
        go_ret
        obtain rfl : z = true := hz.out.symm.trans hy
        exact ⟨rfl, hbel⟩
end Go.Proofs.Ytokengeaiknmhaa
