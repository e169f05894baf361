/-
  The contract of the model's marks that are stretched. Only new memory is written.
-/
import Derived.Test.YtfokchmmeflhiaaSpecMove
namespace Go.Proofs.Ytfokchmmeflhiaa
open Go.ChangeShapes Go.WideShapes Go.ChangeAt Go.RowKit Go.PlainAid

set_option maxRecDepth 100000 in
set_option maxHeartbeats 800000 in
theorem specStretch_any (N b : Int) (A : Option Addr) (c n : Nat) (L : List Int) (w : World) (hn : L.length = n) (hm : n ≤ 1000000000) (h : IntRow w A L) :
    Calls Try.prog 29 #[.int .i64 N, .slice A n c, .int .i64 b] w (Copied (strA N L b) w) := by
  obtain ⟨i0, hi, hj0, hj1, hj2⟩ := info_parts Try.infoIntT
  have hS := fun W (r : IntRow W A L) => specCircle_any N A c n L W hn hm r
  have hE := (Own.none w).empty
  have hfin : ∀ (v : Value) (W : World) (X : List Int), X.length ≤ 8 → Own w W [irow v X] → Calls Try.prog 38 #[v] W (Copied (sortL X) w) := fun v W X hX O => by
    obtain ⟨B, c1, hv⟩ := own_slice O.hd
    replace hv : v = .slice B X.length c1 := hv
    subst hv
    obtain ⟨f1, f2⟩ := own_feeds O rfl
    refine (specSorted_any B c1 _ X W rfl (by omega) f1 f2).mono ?_
    rintro e w' ⟨B2, c2, rfl, o, kb⟩
    exact Own.copied (O.add kb o)
  obtain ⟨X, hX⟩ : ∃ X, strA N L b = X := ⟨_, rfl⟩
  rw [hX]
  replace hX := Lib.hid hX
  go_enter Try.func29, Try.ntmps29
  go_wp2_with fail
  by_cases hok : circB N L = true ∧ (1 ≤ b ∧ b < N) ∧ Int.gcd b N = 1
  · obtain ⟨hb, h0, hg⟩ := hok
    have hX2 := hX.out.symm.trans (strA_yes hb h0 hg)
    replace hX2 := Lib.hid hX2
    clear hX
    rw [hb] at hS
    have hP := circB_P hb
    have hN : 1 ≤ N ∧ N ≤ 60 := hP.1.1
    have hn8 : 1 ≤ n ∧ n ≤ 8 := by have := hP.1.2; omega
    have hI := fun W => in_to true b 1 (N - 1) W (decide_eq_true (by omega))
    have hG := fun W => specGcd_any b N W (by omega) (by omega) (by omega) (by omega)
    rw [hg] at hG
    have hw0 := Lib.hid fun k (hk : k < n) => mov_walk hP (f := b) (b := 0) (by omega) (by omega) (k := k) (by omega)
    have hval : Hid (∀ k, k < n → 0 ≤ L.getD k 0 ∧ L.getD k 0 ≤ 59) := fun k hk => (hP.2 k (by omega)).1
    have htk : Hid (∀ k, k < n → movL N b 0 (L.take (k + 1)) = movL N b 0 (L.take k) ++ [(L.getD k 0 * b) % N]) := fun k hk => by
      have := movL_take (n := N) (f := b) (b := 0) (L := L) (k := k) (by omega)
      rw [Int.add_zero] at this
      exact this
    have hlen : Hid (∀ k, k ≤ n → (movL N b 0 (L.take k)).length = k) := fun k hk => by rw [movL_len, List.length_take]; omega
    have hall : Hid (movL N b 0 (L.take n) = movL N b 0 L) := by
      show _ = _
      rw [← hn, List.take_length]
    have hE2 : Own w (w.alloc (.cells #[] 3)) [irow (.slice (some ⟨w.heap.size, 0, none⟩) 0 0) (movL N b 0 (L.take 0))] := hE
    clear hE hP
    go_loopw [7, 8] (fun v i wr => ∃ k : Nat, k ≤ n ∧ i = .int .i64 k ∧ Own w wr [irow v (movL N b 0 (L.take k))]) (fun _ i _ => n - (intOf i).toNat)
    case atStart => exact ⟨0, by omega, rfl, hE2⟩
    case round =>
      clear hE2
      obtain ⟨k, hk, rfl, O⟩ := hrel
      by_cases hlt : k < n
      · have hki : (k : Int) < n := by omega
        replace hS := hS wr (h.keep O.bel)
        go_wp2_with fail
        refine hS.mono ?_
        clear hS
        rintro e w1 ⟨rfl, q, rfl⟩
        have O1 := O.drew q
        clear O
        generalize wr.drewN q = w1 at O1 ⊢
        go_wp2_with fail
        refine (hI _).mono ?_
        clear hI
        rintro e w2 ⟨rfl, rfl⟩
        go_wp2_with fail
        refine (hG _).mono ?_
        clear hG
        rintro e w2 ⟨rfl, kb⟩
        replace O1 := O1.keep kb
        clear kb
        obtain ⟨x, rfl, hx0, hx⟩ := h k (by omega)
        replace hx := (O1.bel.cell (by rw [addr_add_block]; exact hx0)).trans hx
        have v1 := hval.out k hlt
        obtain ⟨m1, m2, -⟩ := hw0.out k hlt
        have ht := htk.out k hlt
        have hl := hlen.out k hk
        have hsz := O1.bel.size
        clear h hfin
        generalize movL N b 0 (L.take k) = P at O1 ht hl
        generalize L.getD k 0 = z at hx ht v1 m1 m2
        replace ht := Lib.hid ht
        have hP8 : P.length ≤ 8 := by omega
        replace hl := Lib.hid hl
        go_wp2_with (at_builtin; refine wpList_append_one rfl (.tmp 33) (.tmp 42) 24 rfl w.heap.size 3 i0 (.int .i64 0) Try.underlying24 hi hj0 hj1 hj2 rfl _ P.length _ rfl (O1.hd.alloc _) ⟨w2.heap.size, 0, none⟩ 1 _ rfl (new_one _ _ _) rfl (by omega) (by simp; omega) ?_; intro v'' w3 hown1 hg1 hb1; replace O1 := O1.iapp hown1 hg1 hb1; clear hown1 hg1 hb1)
        rw [← ht.out] at O1
        clear ht hl hx
        go_wp2_with fail
        go_roundw
        case rel => exact ⟨k + 1, by omega, by go_num, O1⟩
        case measure => simp [intOf]; omega
      · obtain rfl : k = n := by omega
        have hl := hlen.out k hk
        rw [hall.out] at O hl
        obtain rfl := hX2.out
        have hF := hfin _ _ _ (by omega) O
        have hki : ¬ (k : Int) < k := by omega
        clear O h hS hI hG hfin hl
        go_wp2_with fail
        refine hF.mono ?_
        clear hF
        intro e w2 hc
        obtain ⟨B, c2, rfl, o, kb⟩ := hc
        have hc : Copied (sortL (movL N b 0 L)) w (.returned (.slice B (sortL (movL N b 0 L)).length c2)) w2 := ⟨B, c2, rfl, o, kb⟩
        clear o kb
        go_wp2_with fail
        go_ret
        exact hc
  · have hE2 : ∃ w1, w.alloc (.cells #[] 3) = w1 ∧ Own w w1 [irow (.slice (some ⟨w.heap.size, 0, none⟩) 0 0) []] := ⟨_, rfl, hE⟩
    obtain ⟨w1, hw1, O⟩ := hE2
    rw [hw1]
    obtain rfl : X = [] := hX.out.symm.trans (by
      rcases hb : circB N L with _ | _
      · exact strA_no hb
      · by_cases g : 1 ≤ b ∧ b < N
        · exact strA_gcd fun g' => hok ⟨hb, g, g'⟩
        · exact strA_out g)
    replace h := h.keep O.bel
    clear hE hw1 hX
    have hF := fun W (O : Own w W [irow (.slice (some ⟨w.heap.size, 0, none⟩) 0 0) []]) => hfin _ W [] (by decide) O
    rw [sortL_nil] at hF
    clear hfin
    refine wp_loop_rounds 1 ?_
    rw [rounds_succ]
    rcases Nat.eq_zero_or_pos n with hz | hz
    · subst hz
      have hF := hF _ O
      clear O h hS
      go_wp2_with fail
      refine hF.mono ?_
      clear hF
      intro e w2 hc
      obtain ⟨B, c2, rfl, o, kb⟩ := hc
      have hc : Copied [] w (.returned (.slice B ([] : List Int).length c2)) w2 := ⟨B, c2, rfl, o, kb⟩
      clear o kb
      go_wp2_with fail
      go_ret
      exact hc
    · have hzi : (0 : Int) < n := by omega
      replace hS := hS _ h
      have O2 := fun q => O.drew q
      clear O h
      rcases hb : circB N L with _ | _
      · rw [hb] at hS
        go_wp2_with fail
        refine hS.mono ?_
        clear hS
        rintro e w2 ⟨rfl, q, rfl⟩
        have hF := hF _ (O2 q)
        clear O2
        generalize w1.drewN q = w2 at hF ⊢
        go_wp2_with fail
        refine hF.mono ?_
        clear hF
        intro e w3 hc
        obtain ⟨B, c2, rfl, o, kb⟩ := hc
        have hc : Copied [] w (.returned (.slice B ([] : List Int).length c2)) w3 := ⟨B, c2, rfl, o, kb⟩
        clear o kb
        go_wp2_with fail
        go_ret
        exact hc
      · rw [hb] at hS
        have hN : 1 ≤ N ∧ N ≤ 60 := (circB_P hb).1.1
        by_cases hr : 1 ≤ b ∧ b < N
        · have hg1 : ¬ Int.gcd b N = 1 := fun g => hok ⟨hb, hr, g⟩
          have hI := fun W => in_to true b 1 (N - 1) W (decide_eq_true (by omega))
          have hG := fun W => specGcd_any b N W (by omega) (by omega) (by omega) (by omega)
          generalize Int.gcd b N = d at hG hg1
          have hdi : ((d : Int) == 1) = false := by
            rcases g : ((d : Int) == 1) with _ | _
            · rfl
            · have := beq_iff_eq.1 g
              omega
          clear hok hb hg1
          go_wp2_with fail
          refine hS.mono ?_
          clear hS
          rintro e w2 ⟨rfl, q, rfl⟩
          have O3 := O2 q
          clear O2
          generalize w1.drewN q = w2 at O3 ⊢
          go_wp2_with fail
          refine (hI _).mono ?_
          clear hI
          rintro e w3 ⟨rfl, rfl⟩
          go_wp2_with fail
          refine (hG _).mono ?_
          clear hG
          rintro e w4 ⟨rfl, kb⟩
          have hF := hF _ (O3.keep kb)
          clear kb O3
          go_wp2_with fail
          refine hF.mono ?_
          clear hF
          intro e w3 hc
          obtain ⟨B, c2, rfl, o, kb⟩ := hc
          have hc : Copied [] w (.returned (.slice B ([] : List Int).length c2)) w3 := ⟨B, c2, rfl, o, kb⟩
          clear o kb
          go_wp2_with fail
          go_ret
          exact hc
        · have hI := fun W => in_to false b 1 (N - 1) W (decide_eq_false fun g => hr (by omega))
          clear hok hb
          go_wp2_with fail
          refine hS.mono ?_
          clear hS
          rintro e w2 ⟨rfl, q, rfl⟩
          have hF := hF _ (O2 q)
          clear O2
          generalize w1.drewN q = w2 at hF ⊢
          go_wp2_with fail
          refine (hI _).mono ?_
          clear hI
          rintro e w3 ⟨rfl, rfl⟩
          go_wp2_with fail
          refine hF.mono ?_
          clear hF
          intro e w3 hc
          obtain ⟨B, c2, rfl, o, kb⟩ := hc
          have hc : Copied [] w (.returned (.slice B ([] : List Int).length c2)) w3 := ⟨B, c2, rfl, o, kb⟩
          clear o kb
          go_wp2_with fail
          go_ret
          exact hc
end Go.Proofs.Ytfokchmmeflhiaa
