/-
  The contract of the model's least weights. Only new memory is written.
-/
import Derived.Test.YthefcbninpkncaaSpecMore
import Derived.Test.YthefcbninpkncaaAppendAny
import Derived.Test.YthefcbninpkncaaGcdSpec
namespace Go.Proofs.Ythefcbninpkncaa
open Go.ChangeShapes Go.WideShapes Go.ChangeAt Go.RowKit Go.PlainAid

set_option maxHeartbeats 2000000 in
theorem specLeast_no (A : Option Addr) (n c : Nat) (L : List PartT) (w : World) (hn : L.length = n) (hm : n ≤ 1048576) (hA : A = none → n = 0 ∧ c = 0) (r : PartRow w A L) (hb : ¬ MOk L) :
    Calls Try.prog 25 #[.slice A n c] w (GivesPartB L false w) := by
  obtain ⟨i0, hi, hz0, hz1, hz2⟩ := info_parts Try.infoPartT
  have hB := fun W (r : PartRow W A L) => specMok A n c L W hn hm r
  have hN := ptRow_news r
  have OO := Own.none w
  rw [mok_no hb] at hB
  clear hb
  go_enter Try.func25, Try.ntmps25
  go_wp2_with (at_builtin; refine wpList_append_any _ rfl (.tmp 11) (.tmp 12) 24 rfl w.heap.size 33 i0 (.agg #[.int .i64 0, .int .i64 0, .int .i64 0, .int .i64 0, .int .i64 0]) 5 40 Try.underlying24 hi hz0 hz1 hz2 rfl (by decide) (.slice (some ⟨w.heap.size, 0, none⟩) 0 0) 0 [] rfl (World.ownsRow_made w #[] 0 (Nat.le_refl _) (by decide) rfl) A n c (ptcells L) rfl (by rw [ptcells_len, hn]) hA (fun ad he j u hu => (World.cell?_alloc_lt _ _ _ (lt_of_cell (hN ad he j u hu))).trans (hN ad he j u hu)) (ptcells_one L) (by unfold maxLen; omega) (by omega) (by simp) ?_; intro v1 w1 o1 g1 a1; have O1 := ptrow_append OO hn o1 g1; clear o1 g1 a1; obtain ⟨A1, c1, hv⟩ := ptrow_slice O1; rw [hn] at hv; subst hv)
  replace r := r.keep O1.bel
  clear hN hA OO
  refine (hB _ r).mono ?_
  rintro e w2 ⟨rfl, b⟩
  replace O1 := O1.keep b
  clear hB r b
  go_wp2_with fail
  go_ret2
  exact ptrow_givesB O1 false

theorem own_sub {w wr : World} {R R' : List Rw} (h : Own w wr R) (hs : R'.Sublist R) : Own w wr R' := ⟨fun p hp => h.own p (hs.subset hp), h.ne.sublist hs, h.bel⟩
theorem least_fine {L : List PartT} (hL : MOk L) {k : Nat} (hk : k < L.length) (b : Bm L k) {u : Nat → Int} (s : Small L (k + 1)) (hu : ∀ x, x < L.length → ¬ Bm L x → 1 ≤ u x ∧ u x ≤ 1000) {z1 z2 : Int} (iv : Inv L k (mulU L (rc L k) z2 (mulU L (lc L k) z1 u))) (h : ¬ BigAt L k) :
    Small L k ∧ ∀ x, x < L.length → ¬ Bm L x → 1 ≤ mulU L (rc L k) z2 (mulU L (lc L k) z1 u) x ∧ mulU L (rc L k) z2 (mulU L (lc L k) z1 u) x ≤ 1000 := by
  have f := (at_le hL hk b).1 h
  refine ⟨small_next s f, fun x hx bx => ?_⟩
  by_cases e : x ∈ lv L k
  · rw [iv k ⟨hk, Nat.le_refl _, fun m _ c => by have := c.lt; omega⟩ x e]
    exact ⟨so_pos hL k hk x e, f x e⟩
  · rw [lv_bm b, List.mem_append] at e
    have e1 : x ∉ lv L (lc L k) := fun g => e (.inl g)
    have e2 : x ∉ lv L (rc L k) := fun g => e (.inr g)
    unfold mulU
    rw [if_neg e2, if_neg e1]
    exact hu x hx bx
set_option maxRecDepth 100000 in
set_option maxHeartbeats 4000000 in
theorem specLeast_yes (A : Option Addr) (n c : Nat) (L : List PartT) (w : World) (hn : L.length = n) (hA : A = none → n = 0 ∧ c = 0) (r : PartRow w A L) (hL : MOk L) :
    Calls Try.prog 25 #[.slice A n c] w (GivesPartB (lwA L) (lwZ L) w) := by
  obtain ⟨i0, hi, hz0, hz1, hz2⟩ := info_parts Try.infoPartT
  have n15 : n ≤ 15 := by have := hL.len; omega
  have hB := fun W (r : PartRow W A L) => specMok A n c L W hn (by omega) r
  have hN := ptRow_news r
  have OO := Own.none w
  rw [mok_yes hL] at hB
  have hyes : lwOk L → lwA L = put L (so L 0) ∧ lwZ L = true := fun g => ⟨if_pos ⟨hL, g⟩, decide_eq_true ⟨hL, g⟩⟩
  have hno : ¬ lwOk L → lwA L = L ∧ lwZ L = false := fun g => ⟨if_neg fun h => g h.2, decide_eq_false fun h => g h.2⟩
  generalize lwA L = M at hyes hno ⊢
  generalize lwZ L = z at hyes hno ⊢
  go_enter Try.func25, Try.ntmps25
  go_wp2_with (at_builtin; refine wpList_append_any _ rfl (.tmp 11) (.tmp 12) 24 rfl w.heap.size 33 i0 (.agg #[.int .i64 0, .int .i64 0, .int .i64 0, .int .i64 0, .int .i64 0]) 5 40 Try.underlying24 hi hz0 hz1 hz2 rfl (by decide) (.slice (some ⟨w.heap.size, 0, none⟩) 0 0) 0 [] rfl (World.ownsRow_made w #[] 0 (Nat.le_refl _) (by decide) rfl) A n c (ptcells L) rfl (by rw [ptcells_len, hn]) hA (fun ad he j u hu => (World.cell?_alloc_lt _ _ _ (lt_of_cell (hN ad he j u hu))).trans (hN ad he j u hu)) (ptcells_one L) (by unfold maxLen; omega) (by omega) (by simp) ?_; intro v1 w1 o1 g1 a1; have O1 := ptrow_append OO hn o1 g1; clear o1 g1 a1; obtain ⟨A1, c1, hv⟩ := ptrow_slice O1; rw [hn] at hv; subst hv)
  replace r := r.keep O1.bel
  clear hN OO
  refine (hB _ r).mono ?_
  rintro e w2 ⟨rfl, b⟩
  replace O1 := O1.keep b
  replace r := r.keep b
  have hN := ptRow_news r
  clear hB b
  go_wp2_with (at_builtin; refine wpList_append_any _ rfl (.tmp 18) (.tmp 19) 24 rfl w2.heap.size 33 i0 (.agg #[.int .i64 0, .int .i64 0, .int .i64 0, .int .i64 0, .int .i64 0]) 5 40 Try.underlying24 hi hz0 hz1 hz2 rfl (by decide) (.slice (some ⟨w2.heap.size, 0, none⟩) 0 0) 0 [] rfl (World.ownsRow_made w2 #[] 0 (Nat.le_refl _) (by decide) rfl) A n c (ptcells L) rfl (by rw [ptcells_len, hn]) hA (fun ad he j u hu => (World.cell?_alloc_lt _ _ _ (lt_of_cell (hN ad he j u hu))).trans (hN ad he j u hu)) (ptcells_one L) (by unfold maxLen; omega) (by omega) (by simp) ?_; intro v2 w3 o1 g1 a1; have O2 := ptrow_append O1 hn o1 g1; clear o1 g1 a1; obtain ⟨A2, c2, hv⟩ := ptrow_slice O2; rw [hn] at hv; subst hv)
  clear hN hA r O1
  rw [← put_wu L] at O2
  have O3 : Own w w3 [ptrow (.slice A2 n c2) (put L (wu L)), ptrow (.slice A1 n c1) L] := by
    have := O2
    rw [put_wu] at this ⊢
    exact this
  clear O2
  have hs := inv_end L (wu L)
  rw [hn] at hs
  have hs2 := small_end L
  rw [hn] at hs2
  have hu0 : ∀ x, x < L.length → ¬ Bm L x → 1 ≤ wu L x ∧ wu L x ≤ 1000 := fun x hx b => wu_le hL hx b
  go_wp2_with fail
  go_loopw [6] (fun i wr => ∃ (j : Nat) (u : Nat → Int), j ≤ n ∧ i = .int .i64 ((j : Int) - 1) ∧ Inv L j u ∧ Small L j ∧ (∀ x, x < L.length → ¬ Bm L x → 1 ≤ u x ∧ u x ≤ 1000) ∧ Own w wr [ptrow (.slice A2 n c2) (put L u), ptrow (.slice A1 n c1) L]) (fun i _ => (intOf i + 1).toNat)
  case atStart => exact ⟨n, wu L, Nat.le_refl _, rfl, hs, hs2, hu0, O3⟩
  case round =>
    clear O3 hs hs2 hu0
    obtain ⟨j, u, hj, rfl, iv, sml, hu, O⟩ := hrel
    rcases Nat.eq_zero_or_pos j with rfl | hpos
    · obtain ⟨rfl, rfl⟩ := hyes (small_zero hL sml)
      rw [inv_zero hL iv] at O
      clear hyes hno iv sml hu
      have O' := own_sub O (R' := [ptrow (.slice A2 n c2) (put L (so L 0))]) (.cons_cons _ (List.nil_sublist _))
      go_wp2_with fail
      go_ret2
      exact ptrow_givesB O' true
    · obtain ⟨k, rfl⟩ : ∃ k, j = k + 1 := ⟨j - 1, by omega⟩
      have hk : k < L.length := by omega
      have hkn : k < n := by omega
      have hki : ((k + 1 : Nat) : Int) - 1 = (k : Int) := by omega
      rw [hki]
      have hlp : (put L u).length = n := by rw [put_length]; exact hn
      obtain ⟨g, cc, hA1⟩ := ptrow_form O (by omega)
      injection hA1 with hA1 hA3 hA4
      clear hA3 hA4
      subst hA1
      obtain ⟨q0, q1, q2, q3, q4⟩ := ptrow_cell O hlp hkn
      have O' := own_box O (ptget (put L u) k)
      by_cases hbm : Bm L k
      · skip
        have b := hbm.2
        have q := hL.bm hk hbm.1
        have e1 := q.2.1
        have e2 := q.2.2.1
        have sums := inv_sums hL hbm iv
        have bd := ml_le hL hk hbm sml
        have hW := specWt hL (u := u) (fun x hx bx => by have := hu x hx bx; omega) (some ⟨g, 0, none⟩) n c2 hn
        have hX := specMx hL (u := u) (fun x hx bx => by have := hu x hx bx; omega) (some ⟨g, 0, none⟩) n c2 hn
        have i1 := fun W r => hW (lc L k) (by omega) W r
        have i2 := fun W r => hW (rc L k) (by omega) W r
        have m1 := fun W r => hX (lc L k) (by omega) W r
        have m2 := fun W r => hX (rc L k) (by omega) W r
        have hu0 : ∀ x, x < L.length → ¬ Bm L x → 0 ≤ u x ∧ u x ≤ 1000 := fun x hx bx => by have := hu x hx bx; omega
        have gm := gcd_ml bd.1.1 bd.2.1.1
        have hG := fun W => specGcd_any (soA L k) (soB L k) W (by omega) (by omega) (by omega) (by omega)
        have iv2 := inv_bm hL hbm iv
        have sc1 := fun R W O => specScale hL w (some ⟨g, 0, none⟩) n c2 (ml (soA L k) (soB L k)) hn (by omega) (lc L k) (by omega) u R W (fun x hx => hu0 x (lv_lt (by omega) hx) (lv_wt_of _ _ hx)) O
        have sc2 := fun R W O => specScale hL w (some ⟨g, 0, none⟩) n c2 (mr (soA L k) (soB L k)) hn (by omega) (rc L k) (by omega) (mulU L (lc L k) (ml (soA L k) (soB L k)) u) R W (fun x hx => by
          have := hu0 x (lv_lt (by omega) hx) (lv_wt_of _ _ hx)
          unfold mulU
          rw [if_neg fun g => hL.lv_apart hbm g hx]
          exact this) O
        have big : 1000 < mx L u (lc L k) * ml (soA L k) (soB L k) ∨ 1000 < mx L u (rc L k) * mr (soA L k) (soB L k) → M = L ∧ z = false := fun h => hno (big_no hL hk hbm (by unfold BigAt; rw [← sums.2.2.1, ← sums.2.2.2]; exact h))
        have fine := fun h : ¬ (1000 < mx L u (lc L k) * ml (soA L k) (soB L k) ∨ 1000 < mx L u (rc L k) * mr (soA L k) (soB L k)) => least_fine hL hk hbm sml hu iv2 (fun g : BigAt L k => h (by unfold BigAt at g; rw [← sums.2.2.1, ← sums.2.2.2] at g; exact g))
        rw [← sums.2.2.1, ← sums.2.2.2] at bd
        have ta : (soA L k).tdiv (Int.gcd (soA L k) (soB L k) : Int) = mr (soA L k) (soB L k) := Int.tdiv_eq_ediv_of_nonneg (by omega)
        have tb : (soB L k).tdiv (Int.gcd (soA L k) (soB L k) : Int) = ml (soA L k) (soB L k) := Int.tdiv_eq_ediv_of_nonneg (by omega)
        have g1 := gm.1
        have ha := sums.1
        have hb := sums.2.1
        rw [put_bm hk hbm] at q0 q1 q2 q3 q4 O'
        clear hyes hno iv sml hu hu0 O sums gm hW hX hlp b q hbm
        generalize ml (soA L k) (soB L k) = z1 at *
        generalize mr (soA L k) (soB L k) = z2 at *
        generalize (Int.gcd (soA L k) (soB L k) : Int) = gg at *
        generalize soA L k = a at *
        generalize soB L k = a' at *
        generalize sm L u (lc L k) = v1 at *
        generalize sm L u (rc L k) = v2 at *
        generalize mx L u (lc L k) = y1 at *
        generalize mx L u (rc L k) = y2 at *
        generalize mulU L (lc L k) z1 u = u1 at *
        generalize mulU L (rc L k) z2 u1 = u2 at *
        generalize lc L k = p1 at *
        generalize rc L k = p2 at *
        obtain ⟨⟨a0, a9⟩, ⟨b0, b9⟩, ⟨z10, z19⟩, ⟨z20, z29⟩, ⟨y10, y19⟩, ⟨y20, y29⟩⟩ := bd
        generalize ptget L k = y at *
        obtain ⟨yl, yr, ya, yb, yw⟩ := y
        dsimp only at *
        subst e1 e2
        have wa : IntKind.i64.wrap a = a := by rw [IntKind.wrap_i64] <;> omega
        have wa' : IntKind.i64.wrap a' = a' := by rw [IntKind.wrap_i64] <;> omega
        have wz1 : IntKind.i64.wrap z1 = z1 := by rw [IntKind.wrap_i64] <;> omega
        have wz2 : IntKind.i64.wrap z2 = z2 := by rw [IntKind.wrap_i64] <;> omega
        have py1 := Int.mul_le_mul y19 z19 (by omega) (by omega)
        have py2 := Int.mul_le_mul y29 z29 (by omega) (by omega)
        have ny1 := Int.mul_nonneg (show 0 ≤ y1 by omega) (show 0 ≤ z1 by omega)
        have ny2 := Int.mul_nonneg (show 0 ≤ y2 by omega) (show 0 ≤ z2 by omega)
        have wy1 : IntKind.i64.wrap (y1 * z1) = y1 * z1 := by rw [IntKind.wrap_i64] <;> omega
        have wy2 : IntKind.i64.wrap (y2 * z2) = y2 * z2 := by rw [IntKind.wrap_i64] <;> omega
        have gn : gg ≠ 0 := by omega
        have O : Own w (wr.alloc (.cells #[.int .i64 (p1 : Nat), .int .i64 (p2 : Nat), .int .i64 ya, .int .i64 yb, .int .i64 yw] 33)) [bxrow wr.heap.size ⟨(p1 : Nat), (p2 : Nat), ya, yb, yw⟩, ptrow (.slice (some ⟨g, 0, none⟩) n c2) (put L u), ptrow (.slice A1 n c1) L] := O'
        clear O'
        go_upto_region 11 with fail
        generalize wr.heap.size = p at O ⊢
        generalize wr.alloc (.cells #[.int .i64 (p1 : Nat), .int .i64 (p2 : Nat), .int .i64 ya, .int .i64 yb, .int .i64 yw] 33) = W1 at O ⊢
        clear q0 q1 q2 q3 q4
        replace O := O.keep (below_drew' (Below.refl _ _))
        refine held_drew (fun W => W.cell? ⟨p, 0, none⟩ = some (.int .i64 (p1 : Nat)) ∧ W.cell? ⟨p, 1, none⟩ = some (.int .i64 (p2 : Nat)) ∧ W.cell? ⟨p, 2, none⟩ = some (.int .i64 ya) ∧ W.cell? ⟨p, 3, none⟩ = some (.int .i64 yb) ∧ W.cell? ⟨p, 4, none⟩ = some (.int .i64 yw)) (by kernel_rfl) (bx_cells O (p := p) List.mem_cons_self) (fun hHeld => ?_)
        refine held_take 0 (by kernel_rfl) (by kernel_rfl) (by kernel_rfl) (by kernel_rfl) hHeld ?_
        intro o ho
        simp only [List.getElem?_toArray, List.getElem?_cons_zero, Option.some.injEq] at ho
        subst ho
        refine ⟨?_, fun _ _ _ h => h, Or.inl ⟨by rfl, ?_⟩, ?_⟩
        case refine_2 =>
          intro w hSw
          (try dsimp only at hSw)
          go_simp
          try with_reducible rfl
        simp only [Act.put, List.setIfInBounds_toArray, List.set_cons_zero, List.set_cons_succ]
        refine held_take 1 (by kernel_rfl) (by kernel_rfl) (by kernel_rfl) (by kernel_rfl) hHeld ?_
        intro o ho
        simp only [List.getElem?_toArray, List.getElem?_cons_zero, List.getElem?_cons_succ, Option.some.injEq] at ho
        subst ho
        refine ⟨?_, fun _ _ _ h => h, Or.inl ⟨by rfl, ?_⟩, ?_⟩
        case refine_2 =>
          intro w hSw
          (try dsimp only at hSw)
          go_simp
          try with_reducible rfl
        simp only [Act.put, List.setIfInBounds_toArray, List.set_cons_zero, List.set_cons_succ]
        refine held_take 2 (by kernel_rfl) (by kernel_rfl) (by kernel_rfl) (by kernel_rfl) hHeld ?_
        intro o ho
        simp only [List.getElem?_toArray, List.getElem?_cons_zero, List.getElem?_cons_succ, Option.some.injEq] at ho
        subst ho
        refine ⟨?_, fun _ _ _ h => h, Or.inl ⟨by rfl, ?_⟩, ?_⟩
        case refine_2 =>
          intro w hSw
          (try dsimp only at hSw)
          go_simp
          try with_reducible rfl
        simp only [Act.put, List.setIfInBounds_toArray, List.set_cons_zero, List.set_cons_succ]
        refine held_take 4 (by kernel_rfl) (by kernel_rfl) (by kernel_rfl) (by kernel_rfl) hHeld ?_
        intro o ho
        simp only [List.getElem?_toArray, List.getElem?_cons_zero, List.getElem?_cons_succ, Option.some.injEq] at ho
        subst ho
        refine ⟨?_, fun _ _ _ h => h, Or.inl ⟨by rfl, ?_⟩, ?_⟩
        case refine_2 =>
          intro w hSw
          (try dsimp only at hSw)
          go_simp
          try with_reducible rfl
        simp only [Act.put, List.setIfInBounds_toArray, List.set_cons_zero, List.set_cons_succ]
        refine held_take 5 (by kernel_rfl) (by kernel_rfl) (by kernel_rfl) (by kernel_rfl) hHeld ?_
        intro o ho
        simp only [List.getElem?_toArray, List.getElem?_cons_zero, List.getElem?_cons_succ, Option.some.injEq] at ho
        subst ho
        refine ⟨?_, fun _ _ _ h => h, Or.inl ⟨by rfl, ?_⟩, ?_⟩
        case refine_2 =>
          intro w hSw
          (try dsimp only at hSw)
          go_simp
          try with_reducible rfl
        simp only [Act.put, List.setIfInBounds_toArray, List.set_cons_zero, List.set_cons_succ]
        refine held_only 3 (by kernel_rfl) (by kernel_rfl) ?_
        intro o ho K hK
        simp only [List.getElem?_toArray, List.getElem?_cons_zero, List.getElem?_cons_succ, Option.some.injEq] at ho
        subst ho
        go_simp
        go_at_call 42
        (with_reducible refine (i1 _ (ptrow_reads O (List.mem_cons_of_mem _ List.mem_cons_self) rfl (by rw [put_length, hn]))).mono ?_)
        rintro e w3 ⟨rfl, b⟩
        replace O := O.keep b
        clear b
        refine hK.out _ _ (bx_cells O (p := p) List.mem_cons_self) (fun hHeld => ?_)
        clear hK K
        try simp only [Act.put, List.setIfInBounds_toArray, List.set_cons_zero, List.set_cons_succ]
        refine held_take 6 (by kernel_rfl) (by kernel_rfl) (by kernel_rfl) (by kernel_rfl) hHeld ?_
        intro o ho
        simp only [List.getElem?_toArray, List.getElem?_cons_zero, List.getElem?_cons_succ, Option.some.injEq] at ho
        subst ho
        refine ⟨?_, fun _ _ _ h => h, Or.inl ⟨by rfl, ?_⟩, ?_⟩
        case refine_2 =>
          intro w hSw
          (try dsimp only at hSw)
          go_simp
          try with_reducible rfl
        simp only [Act.put, List.setIfInBounds_toArray, List.set_cons_zero, List.set_cons_succ]
        refine held_take 7 (by kernel_rfl) (by kernel_rfl) (by kernel_rfl) (by kernel_rfl) hHeld ?_
        intro o ho
        simp only [List.getElem?_toArray, List.getElem?_cons_zero, List.getElem?_cons_succ, Option.some.injEq] at ho
        subst ho
        refine ⟨?_, fun _ _ _ h => h, Or.inl ⟨by rfl, ?_⟩, ?_⟩
        case refine_2 =>
          intro w hSw
          (try dsimp only at hSw)
          go_simp
          try with_reducible rfl
        simp only [Act.put, List.setIfInBounds_toArray, List.set_cons_zero, List.set_cons_succ]
        refine wpAnyH_done (by kernel_rfl) ?_ _

        clear i1
        go_upto_region 12 with fail
        replace O := O.keep (below_drew' (Below.refl _ _))
        refine held_drew (fun W => W.cell? ⟨p, 0, none⟩ = some (.int .i64 (p1 : Nat)) ∧ W.cell? ⟨p, 1, none⟩ = some (.int .i64 (p2 : Nat)) ∧ W.cell? ⟨p, 2, none⟩ = some (.int .i64 ya) ∧ W.cell? ⟨p, 3, none⟩ = some (.int .i64 yb) ∧ W.cell? ⟨p, 4, none⟩ = some (.int .i64 yw)) (by kernel_rfl) (bx_cells O (p := p) List.mem_cons_self) (fun hHeld => ?_)
        refine held_take 0 (by kernel_rfl) (by kernel_rfl) (by kernel_rfl) (by kernel_rfl) hHeld ?_
        intro o ho
        simp only [List.getElem?_toArray, List.getElem?_cons_zero, Option.some.injEq] at ho
        subst ho
        refine ⟨?_, fun _ _ _ h => h, Or.inl ⟨by rfl, ?_⟩, ?_⟩
        case refine_2 =>
          intro w hSw
          (try dsimp only at hSw)
          go_simp
          try with_reducible rfl
        simp only [Act.put, List.setIfInBounds_toArray, List.set_cons_zero, List.set_cons_succ]
        refine held_take 1 (by kernel_rfl) (by kernel_rfl) (by kernel_rfl) (by kernel_rfl) hHeld ?_
        intro o ho
        simp only [List.getElem?_toArray, List.getElem?_cons_zero, List.getElem?_cons_succ, Option.some.injEq] at ho
        subst ho
        refine ⟨?_, fun _ _ _ h => h, Or.inl ⟨by rfl, ?_⟩, ?_⟩
        case refine_2 =>
          intro w hSw
          (try dsimp only at hSw)
          go_simp
          try with_reducible rfl
        simp only [Act.put, List.setIfInBounds_toArray, List.set_cons_zero, List.set_cons_succ]
        refine held_take 2 (by kernel_rfl) (by kernel_rfl) (by kernel_rfl) (by kernel_rfl) hHeld ?_
        intro o ho
        simp only [List.getElem?_toArray, List.getElem?_cons_zero, List.getElem?_cons_succ, Option.some.injEq] at ho
        subst ho
        refine ⟨?_, fun _ _ _ h => h, Or.inl ⟨by rfl, ?_⟩, ?_⟩
        case refine_2 =>
          intro w hSw
          (try dsimp only at hSw)
          go_simp
          try with_reducible rfl
        simp only [Act.put, List.setIfInBounds_toArray, List.set_cons_zero, List.set_cons_succ]
        refine held_take 4 (by kernel_rfl) (by kernel_rfl) (by kernel_rfl) (by kernel_rfl) hHeld ?_
        intro o ho
        simp only [List.getElem?_toArray, List.getElem?_cons_zero, List.getElem?_cons_succ, Option.some.injEq] at ho
        subst ho
        refine ⟨?_, fun _ _ _ h => h, Or.inl ⟨by rfl, ?_⟩, ?_⟩
        case refine_2 =>
          intro w hSw
          (try dsimp only at hSw)
          go_simp
          try with_reducible rfl
        simp only [Act.put, List.setIfInBounds_toArray, List.set_cons_zero, List.set_cons_succ]
        refine held_take 5 (by kernel_rfl) (by kernel_rfl) (by kernel_rfl) (by kernel_rfl) hHeld ?_
        intro o ho
        simp only [List.getElem?_toArray, List.getElem?_cons_zero, List.getElem?_cons_succ, Option.some.injEq] at ho
        subst ho
        refine ⟨?_, fun _ _ _ h => h, Or.inl ⟨by rfl, ?_⟩, ?_⟩
        case refine_2 =>
          intro w hSw
          (try dsimp only at hSw)
          go_simp
          try with_reducible rfl
        simp only [Act.put, List.setIfInBounds_toArray, List.set_cons_zero, List.set_cons_succ]
        refine held_only 3 (by kernel_rfl) (by kernel_rfl) ?_
        intro o ho K hK
        simp only [List.getElem?_toArray, List.getElem?_cons_zero, List.getElem?_cons_succ, Option.some.injEq] at ho
        subst ho
        go_simp
        go_at_call 42
        (with_reducible refine (i2 _ (ptrow_reads O (List.mem_cons_of_mem _ List.mem_cons_self) rfl (by rw [put_length, hn]))).mono ?_)
        rintro e w4 ⟨rfl, b⟩
        replace O := O.keep b
        clear b
        refine hK.out _ _ (bx_cells O (p := p) List.mem_cons_self) (fun hHeld => ?_)
        clear hK K
        try simp only [Act.put, List.setIfInBounds_toArray, List.set_cons_zero, List.set_cons_succ]
        refine held_take 6 (by kernel_rfl) (by kernel_rfl) (by kernel_rfl) (by kernel_rfl) hHeld ?_
        intro o ho
        simp only [List.getElem?_toArray, List.getElem?_cons_zero, List.getElem?_cons_succ, Option.some.injEq] at ho
        subst ho
        refine ⟨?_, fun _ _ _ h => h, Or.inl ⟨by rfl, ?_⟩, ?_⟩
        case refine_2 =>
          intro w hSw
          (try dsimp only at hSw)
          go_simp
          try with_reducible rfl
        simp only [Act.put, List.setIfInBounds_toArray, List.set_cons_zero, List.set_cons_succ]
        refine held_take 7 (by kernel_rfl) (by kernel_rfl) (by kernel_rfl) (by kernel_rfl) hHeld ?_
        intro o ho
        simp only [List.getElem?_toArray, List.getElem?_cons_zero, List.getElem?_cons_succ, Option.some.injEq] at ho
        subst ho
        refine ⟨?_, fun _ _ _ h => h, Or.inl ⟨by rfl, ?_⟩, ?_⟩
        case refine_2 =>
          intro w hSw
          (try dsimp only at hSw)
          go_simp
          try with_reducible rfl
        simp only [Act.put, List.setIfInBounds_toArray, List.set_cons_zero, List.set_cons_succ]
        refine wpAnyH_done (by kernel_rfl) ?_ _

        clear i2 ha hb
        go_wp2_with fail
        refine (hG _).mono ?_
        rintro e w9 ⟨rfl, b9⟩
        replace O := O.keep b9
        clear b9 hG
        go_upto_region 14 with fail

        by_cases g1000 : 1000 < y1 * z1
        · replace O := O.keep (below_drew' (Below.refl _ _))
          refine held_drew (fun W => W.cell? ⟨p, 0, none⟩ = some (.int .i64 (p1 : Nat)) ∧ W.cell? ⟨p, 1, none⟩ = some (.int .i64 (p2 : Nat)) ∧ W.cell? ⟨p, 2, none⟩ = some (.int .i64 ya) ∧ W.cell? ⟨p, 3, none⟩ = some (.int .i64 yb) ∧ W.cell? ⟨p, 4, none⟩ = some (.int .i64 yw)) (by kernel_rfl) (bx_cells O (p := p) List.mem_cons_self) (fun hHeld => ?_)
          refine held_take 0 (by kernel_rfl) (by kernel_rfl) (by kernel_rfl) (by kernel_rfl) hHeld ?_
          intro o ho
          simp only [List.getElem?_toArray, List.getElem?_cons_zero, Option.some.injEq] at ho
          subst ho
          refine ⟨?_, fun _ _ _ h => h, Or.inl ⟨by rfl, ?_⟩, ?_⟩
          case refine_2 =>
            intro w hSw
            (try dsimp only at hSw)
            go_simp
            try with_reducible rfl
          simp only [Act.put, List.setIfInBounds_toArray, List.set_cons_zero, List.set_cons_succ]
          refine held_take 1 (by kernel_rfl) (by kernel_rfl) (by kernel_rfl) (by kernel_rfl) hHeld ?_
          intro o ho
          simp only [List.getElem?_toArray, List.getElem?_cons_zero, List.getElem?_cons_succ, Option.some.injEq] at ho
          subst ho
          refine ⟨?_, fun _ _ _ h => h, Or.inl ⟨by rfl, ?_⟩, ?_⟩
          case refine_2 =>
            intro w hSw
            (try dsimp only at hSw)
            go_simp
            try with_reducible rfl
          simp only [Act.put, List.setIfInBounds_toArray, List.set_cons_zero, List.set_cons_succ]
          refine held_take 2 (by kernel_rfl) (by kernel_rfl) (by kernel_rfl) (by kernel_rfl) hHeld ?_
          intro o ho
          simp only [List.getElem?_toArray, List.getElem?_cons_zero, List.getElem?_cons_succ, Option.some.injEq] at ho
          subst ho
          refine ⟨?_, fun _ _ _ h => h, Or.inl ⟨by rfl, ?_⟩, ?_⟩
          case refine_2 =>
            intro w hSw
            (try dsimp only at hSw)
            go_simp
            try with_reducible rfl
          simp only [Act.put, List.setIfInBounds_toArray, List.set_cons_zero, List.set_cons_succ]
          refine held_take 4 (by kernel_rfl) (by kernel_rfl) (by kernel_rfl) (by kernel_rfl) hHeld ?_
          intro o ho
          simp only [List.getElem?_toArray, List.getElem?_cons_zero, List.getElem?_cons_succ, Option.some.injEq] at ho
          subst ho
          refine ⟨?_, fun _ _ _ h => h, Or.inl ⟨by rfl, ?_⟩, ?_⟩
          case refine_2 =>
            intro w hSw
            (try dsimp only at hSw)
            go_simp
            try with_reducible rfl
          simp only [Act.put, List.setIfInBounds_toArray, List.set_cons_zero, List.set_cons_succ]
          refine held_take 5 (by kernel_rfl) (by kernel_rfl) (by kernel_rfl) (by kernel_rfl) hHeld ?_
          intro o ho
          simp only [List.getElem?_toArray, List.getElem?_cons_zero, List.getElem?_cons_succ, Option.some.injEq] at ho
          subst ho
          refine ⟨?_, fun _ _ _ h => h, Or.inl ⟨by rfl, ?_⟩, ?_⟩
          case refine_2 =>
            intro w hSw
            (try dsimp only at hSw)
            go_simp
            try with_reducible rfl
          simp only [Act.put, List.setIfInBounds_toArray, List.set_cons_zero, List.set_cons_succ]
          refine held_take 6 (by kernel_rfl) (by kernel_rfl) (by kernel_rfl) (by kernel_rfl) hHeld ?_
          intro o ho
          simp only [List.getElem?_toArray, List.getElem?_cons_zero, List.getElem?_cons_succ, Option.some.injEq] at ho
          subst ho
          refine ⟨?_, fun _ _ _ h => h, Or.inl ⟨by rfl, ?_⟩, ?_⟩
          case refine_2 =>
            intro w hSw
            (try dsimp only at hSw)
            go_simp
            try with_reducible rfl
          simp only [Act.put, List.setIfInBounds_toArray, List.set_cons_zero, List.set_cons_succ]
          refine held_only 3 (by kernel_rfl) (by kernel_rfl) ?_
          intro o ho K hK
          simp only [List.getElem?_toArray, List.getElem?_cons_zero, List.getElem?_cons_succ, Option.some.injEq] at ho
          subst ho
          go_simp
          go_at_call 44
          (with_reducible refine (m1 _ (ptrow_reads O (List.mem_cons_of_mem _ List.mem_cons_self) rfl (by rw [put_length, hn]))).mono ?_)
          rintro e w5 ⟨rfl, b⟩
          replace O := O.keep b
          clear b
          refine hK.out _ _ (bx_cells O (p := p) List.mem_cons_self) (fun hHeld => ?_)
          clear hK K
          try simp only [Act.put, List.setIfInBounds_toArray, List.set_cons_zero, List.set_cons_succ]
          refine held_take 7 (by kernel_rfl) (by kernel_rfl) (by kernel_rfl) (by kernel_rfl) hHeld ?_
          intro o ho
          simp only [List.getElem?_toArray, List.getElem?_cons_zero, List.getElem?_cons_succ, Option.some.injEq] at ho
          subst ho
          refine ⟨?_, fun _ _ _ h => h, Or.inl ⟨by rfl, ?_⟩, ?_⟩
          case refine_2 =>
            intro w hSw
            (try dsimp only at hSw)
            go_simp
            try with_reducible rfl
          simp only [Act.put, List.setIfInBounds_toArray, List.set_cons_zero, List.set_cons_succ]
          refine held_take 8 (by kernel_rfl) (by kernel_rfl) (by kernel_rfl) (by kernel_rfl) hHeld ?_
          intro o ho
          simp only [List.getElem?_toArray, List.getElem?_cons_zero, List.getElem?_cons_succ, Option.some.injEq] at ho
          subst ho
          refine ⟨?_, fun _ _ _ h => h, Or.inl ⟨by rfl, ?_⟩, ?_⟩
          case refine_2 =>
            intro w hSw
            (try dsimp only at hSw)
            go_simp
            try with_reducible rfl
          simp only [Act.put, List.setIfInBounds_toArray, List.set_cons_zero, List.set_cons_succ]
          refine held_take 9 (by kernel_rfl) (by kernel_rfl) (by kernel_rfl) (by kernel_rfl) hHeld ?_
          intro o ho
          simp only [List.getElem?_toArray, List.getElem?_cons_zero, List.getElem?_cons_succ, Option.some.injEq] at ho
          subst ho
          refine ⟨?_, fun _ _ _ h => h, Or.inl ⟨by rfl, ?_⟩, ?_⟩
          case refine_2 =>
            intro w hSw
            (try dsimp only at hSw)
            go_simp
            try with_reducible rfl
          simp only [Act.put, List.setIfInBounds_toArray, List.set_cons_zero, List.set_cons_succ]
          refine held_take 10 (by kernel_rfl) (by kernel_rfl) (by kernel_rfl) (by kernel_rfl) hHeld ?_
          intro o ho
          simp only [List.getElem?_toArray, List.getElem?_cons_zero, List.getElem?_cons_succ, Option.some.injEq] at ho
          subst ho
          refine ⟨_, fun _ _ _ h => h, Or.inr ⟨by rfl, rfl⟩, ?_⟩
          simp only [Act.put, List.setIfInBounds_toArray, List.set_cons_zero, List.set_cons_succ]
          refine held_take 11 (by kernel_rfl) (by kernel_rfl) (by kernel_rfl) (by kernel_rfl) hHeld ?_
          intro o ho
          simp only [List.getElem?_toArray, List.getElem?_cons_zero, List.getElem?_cons_succ, Option.some.injEq] at ho
          subst ho
          refine ⟨_, fun _ _ _ h => h, Or.inr ⟨by rfl, rfl⟩, ?_⟩
          simp only [Act.put, List.setIfInBounds_toArray, List.set_cons_zero, List.set_cons_succ]
          refine held_take 12 (by kernel_rfl) (by kernel_rfl) (by kernel_rfl) (by kernel_rfl) hHeld ?_
          intro o ho
          simp only [List.getElem?_toArray, List.getElem?_cons_zero, List.getElem?_cons_succ, Option.some.injEq] at ho
          subst ho
          refine ⟨_, fun _ _ _ h => h, Or.inr ⟨by rfl, rfl⟩, ?_⟩
          simp only [Act.put, List.setIfInBounds_toArray, List.set_cons_zero, List.set_cons_succ]
          refine held_take 13 (by kernel_rfl) (by kernel_rfl) (by kernel_rfl) (by kernel_rfl) hHeld ?_
          intro o ho
          simp only [List.getElem?_toArray, List.getElem?_cons_zero, List.getElem?_cons_succ, Option.some.injEq] at ho
          subst ho
          refine ⟨_, fun _ _ _ h => h, Or.inr ⟨by rfl, rfl⟩, ?_⟩
          simp only [Act.put, List.setIfInBounds_toArray, List.set_cons_zero, List.set_cons_succ]
          refine held_take 14 (by kernel_rfl) (by kernel_rfl) (by kernel_rfl) (by kernel_rfl) hHeld ?_
          intro o ho
          simp only [List.getElem?_toArray, List.getElem?_cons_zero, List.getElem?_cons_succ, Option.some.injEq] at ho
          subst ho
          refine ⟨_, fun _ _ _ h => h, Or.inr ⟨by rfl, rfl⟩, ?_⟩
          simp only [Act.put, List.setIfInBounds_toArray, List.set_cons_zero, List.set_cons_succ]
          refine held_take 15 (by kernel_rfl) (by kernel_rfl) (by kernel_rfl) (by kernel_rfl) hHeld ?_
          intro o ho
          simp only [List.getElem?_toArray, List.getElem?_cons_zero, List.getElem?_cons_succ, Option.some.injEq] at ho
          subst ho
          refine ⟨_, fun _ _ _ h => h, Or.inr ⟨by rfl, rfl⟩, ?_⟩
          simp only [Act.put, List.setIfInBounds_toArray, List.set_cons_zero, List.set_cons_succ]
          refine held_take 16 (by kernel_rfl) (by kernel_rfl) (by kernel_rfl) (by kernel_rfl) hHeld ?_
          intro o ho
          simp only [List.getElem?_toArray, List.getElem?_cons_zero, List.getElem?_cons_succ, Option.some.injEq] at ho
          subst ho
          refine ⟨_, fun _ _ _ h => h, Or.inr ⟨by rfl, rfl⟩, ?_⟩
          simp only [Act.put, List.setIfInBounds_toArray, List.set_cons_zero, List.set_cons_succ]
          refine held_take 17 (by kernel_rfl) (by kernel_rfl) (by kernel_rfl) (by kernel_rfl) hHeld ?_
          intro o ho
          simp only [List.getElem?_toArray, List.getElem?_cons_zero, List.getElem?_cons_succ, Option.some.injEq] at ho
          subst ho
          refine ⟨_, fun _ _ _ h => h, Or.inr ⟨by rfl, rfl⟩, ?_⟩
          simp only [Act.put, List.setIfInBounds_toArray, List.set_cons_zero, List.set_cons_succ]
          refine held_take 18 (by kernel_rfl) (by kernel_rfl) (by kernel_rfl) (by kernel_rfl) hHeld ?_
          intro o ho
          simp only [List.getElem?_toArray, List.getElem?_cons_zero, List.getElem?_cons_succ, Option.some.injEq] at ho
          subst ho
          refine ⟨_, fun _ _ _ h => h, Or.inr ⟨by rfl, rfl⟩, ?_⟩
          simp only [Act.put, List.setIfInBounds_toArray, List.set_cons_zero, List.set_cons_succ]
          refine held_take 19 (by kernel_rfl) (by kernel_rfl) (by kernel_rfl) (by kernel_rfl) hHeld ?_
          intro o ho
          simp only [List.getElem?_toArray, List.getElem?_cons_zero, List.getElem?_cons_succ, Option.some.injEq] at ho
          subst ho
          refine ⟨?_, fun _ _ _ h => h, Or.inl ⟨by rfl, ?_⟩, ?_⟩
          case refine_2 =>
            intro w hSw
            (try dsimp only at hSw)
            go_simp
            try with_reducible rfl
          simp only [Act.put, List.setIfInBounds_toArray, List.set_cons_zero, List.set_cons_succ]
          refine wpAnyH_done (by kernel_rfl) ?_ _
          go_wp2_with fail
          go_ret2
          obtain ⟨rfl, rfl⟩ := big (.inl g1000)
          exact ptrow_givesB (own_sub O (R' := [ptrow (.slice A1 n c1) _]) (.cons _ (.cons _ (List.Sublist.refl _)))) false
        by_cases h1000 : 1000 < y2 * z2
        · replace O := O.keep (below_drew' (Below.refl _ _))
          refine held_drew (fun W => W.cell? ⟨p, 0, none⟩ = some (.int .i64 (p1 : Nat)) ∧ W.cell? ⟨p, 1, none⟩ = some (.int .i64 (p2 : Nat)) ∧ W.cell? ⟨p, 2, none⟩ = some (.int .i64 ya) ∧ W.cell? ⟨p, 3, none⟩ = some (.int .i64 yb) ∧ W.cell? ⟨p, 4, none⟩ = some (.int .i64 yw)) (by kernel_rfl) (bx_cells O (p := p) List.mem_cons_self) (fun hHeld => ?_)
          refine held_take 0 (by kernel_rfl) (by kernel_rfl) (by kernel_rfl) (by kernel_rfl) hHeld ?_
          intro o ho
          simp only [List.getElem?_toArray, List.getElem?_cons_zero, Option.some.injEq] at ho
          subst ho
          refine ⟨?_, fun _ _ _ h => h, Or.inl ⟨by rfl, ?_⟩, ?_⟩
          case refine_2 =>
            intro w hSw
            (try dsimp only at hSw)
            go_simp
            try with_reducible rfl
          simp only [Act.put, List.setIfInBounds_toArray, List.set_cons_zero, List.set_cons_succ]
          refine held_take 1 (by kernel_rfl) (by kernel_rfl) (by kernel_rfl) (by kernel_rfl) hHeld ?_
          intro o ho
          simp only [List.getElem?_toArray, List.getElem?_cons_zero, List.getElem?_cons_succ, Option.some.injEq] at ho
          subst ho
          refine ⟨?_, fun _ _ _ h => h, Or.inl ⟨by rfl, ?_⟩, ?_⟩
          case refine_2 =>
            intro w hSw
            (try dsimp only at hSw)
            go_simp
            try with_reducible rfl
          simp only [Act.put, List.setIfInBounds_toArray, List.set_cons_zero, List.set_cons_succ]
          refine held_take 2 (by kernel_rfl) (by kernel_rfl) (by kernel_rfl) (by kernel_rfl) hHeld ?_
          intro o ho
          simp only [List.getElem?_toArray, List.getElem?_cons_zero, List.getElem?_cons_succ, Option.some.injEq] at ho
          subst ho
          refine ⟨?_, fun _ _ _ h => h, Or.inl ⟨by rfl, ?_⟩, ?_⟩
          case refine_2 =>
            intro w hSw
            (try dsimp only at hSw)
            go_simp
            try with_reducible rfl
          simp only [Act.put, List.setIfInBounds_toArray, List.set_cons_zero, List.set_cons_succ]
          refine held_take 4 (by kernel_rfl) (by kernel_rfl) (by kernel_rfl) (by kernel_rfl) hHeld ?_
          intro o ho
          simp only [List.getElem?_toArray, List.getElem?_cons_zero, List.getElem?_cons_succ, Option.some.injEq] at ho
          subst ho
          refine ⟨?_, fun _ _ _ h => h, Or.inl ⟨by rfl, ?_⟩, ?_⟩
          case refine_2 =>
            intro w hSw
            (try dsimp only at hSw)
            go_simp
            try with_reducible rfl
          simp only [Act.put, List.setIfInBounds_toArray, List.set_cons_zero, List.set_cons_succ]
          refine held_take 5 (by kernel_rfl) (by kernel_rfl) (by kernel_rfl) (by kernel_rfl) hHeld ?_
          intro o ho
          simp only [List.getElem?_toArray, List.getElem?_cons_zero, List.getElem?_cons_succ, Option.some.injEq] at ho
          subst ho
          refine ⟨?_, fun _ _ _ h => h, Or.inl ⟨by rfl, ?_⟩, ?_⟩
          case refine_2 =>
            intro w hSw
            (try dsimp only at hSw)
            go_simp
            try with_reducible rfl
          simp only [Act.put, List.setIfInBounds_toArray, List.set_cons_zero, List.set_cons_succ]
          refine held_take 6 (by kernel_rfl) (by kernel_rfl) (by kernel_rfl) (by kernel_rfl) hHeld ?_
          intro o ho
          simp only [List.getElem?_toArray, List.getElem?_cons_zero, List.getElem?_cons_succ, Option.some.injEq] at ho
          subst ho
          refine ⟨?_, fun _ _ _ h => h, Or.inl ⟨by rfl, ?_⟩, ?_⟩
          case refine_2 =>
            intro w hSw
            (try dsimp only at hSw)
            go_simp
            try with_reducible rfl
          simp only [Act.put, List.setIfInBounds_toArray, List.set_cons_zero, List.set_cons_succ]
          refine held_only 3 (by kernel_rfl) (by kernel_rfl) ?_
          intro o ho K hK
          simp only [List.getElem?_toArray, List.getElem?_cons_zero, List.getElem?_cons_succ, Option.some.injEq] at ho
          subst ho
          go_simp
          go_at_call 44
          (with_reducible refine (m1 _ (ptrow_reads O (List.mem_cons_of_mem _ List.mem_cons_self) rfl (by rw [put_length, hn]))).mono ?_)
          rintro e w5 ⟨rfl, b⟩
          replace O := O.keep b
          clear b
          refine hK.out _ _ (bx_cells O (p := p) List.mem_cons_self) (fun hHeld => ?_)
          clear hK K
          try simp only [Act.put, List.setIfInBounds_toArray, List.set_cons_zero, List.set_cons_succ]
          refine held_take 7 (by kernel_rfl) (by kernel_rfl) (by kernel_rfl) (by kernel_rfl) hHeld ?_
          intro o ho
          simp only [List.getElem?_toArray, List.getElem?_cons_zero, List.getElem?_cons_succ, Option.some.injEq] at ho
          subst ho
          refine ⟨?_, fun _ _ _ h => h, Or.inl ⟨by rfl, ?_⟩, ?_⟩
          case refine_2 =>
            intro w hSw
            (try dsimp only at hSw)
            go_simp
            try with_reducible rfl
          simp only [Act.put, List.setIfInBounds_toArray, List.set_cons_zero, List.set_cons_succ]
          refine held_take 8 (by kernel_rfl) (by kernel_rfl) (by kernel_rfl) (by kernel_rfl) hHeld ?_
          intro o ho
          simp only [List.getElem?_toArray, List.getElem?_cons_zero, List.getElem?_cons_succ, Option.some.injEq] at ho
          subst ho
          refine ⟨?_, fun _ _ _ h => h, Or.inl ⟨by rfl, ?_⟩, ?_⟩
          case refine_2 =>
            intro w hSw
            (try dsimp only at hSw)
            go_simp
            try with_reducible rfl
          simp only [Act.put, List.setIfInBounds_toArray, List.set_cons_zero, List.set_cons_succ]
          refine held_take 9 (by kernel_rfl) (by kernel_rfl) (by kernel_rfl) (by kernel_rfl) hHeld ?_
          intro o ho
          simp only [List.getElem?_toArray, List.getElem?_cons_zero, List.getElem?_cons_succ, Option.some.injEq] at ho
          subst ho
          refine ⟨?_, fun _ _ _ h => h, Or.inl ⟨by rfl, ?_⟩, ?_⟩
          case refine_2 =>
            intro w hSw
            (try dsimp only at hSw)
            go_simp
            try with_reducible rfl
          simp only [Act.put, List.setIfInBounds_toArray, List.set_cons_zero, List.set_cons_succ]
          refine held_take 10 (by kernel_rfl) (by kernel_rfl) (by kernel_rfl) (by kernel_rfl) hHeld ?_
          intro o ho
          simp only [List.getElem?_toArray, List.getElem?_cons_zero, List.getElem?_cons_succ, Option.some.injEq] at ho
          subst ho
          refine ⟨?_, fun _ _ _ h => h, Or.inl ⟨by rfl, ?_⟩, ?_⟩
          case refine_2 =>
            intro w hSw
            (try dsimp only at hSw)
            go_simp
            try with_reducible rfl
          simp only [Act.put, List.setIfInBounds_toArray, List.set_cons_zero, List.set_cons_succ]
          refine held_take 11 (by kernel_rfl) (by kernel_rfl) (by kernel_rfl) (by kernel_rfl) hHeld ?_
          intro o ho
          simp only [List.getElem?_toArray, List.getElem?_cons_zero, List.getElem?_cons_succ, Option.some.injEq] at ho
          subst ho
          refine ⟨?_, fun _ _ _ h => h, Or.inl ⟨by rfl, ?_⟩, ?_⟩
          case refine_2 =>
            intro w hSw
            (try dsimp only at hSw)
            go_simp
            try with_reducible rfl
          simp only [Act.put, List.setIfInBounds_toArray, List.set_cons_zero, List.set_cons_succ]
          refine held_take 12 (by kernel_rfl) (by kernel_rfl) (by kernel_rfl) (by kernel_rfl) hHeld ?_
          intro o ho
          simp only [List.getElem?_toArray, List.getElem?_cons_zero, List.getElem?_cons_succ, Option.some.injEq] at ho
          subst ho
          refine ⟨?_, fun _ _ _ h => h, Or.inl ⟨by rfl, ?_⟩, ?_⟩
          case refine_2 =>
            intro w hSw
            (try dsimp only at hSw)
            go_simp
            try with_reducible rfl
          simp only [Act.put, List.setIfInBounds_toArray, List.set_cons_zero, List.set_cons_succ]
          refine held_take 14 (by kernel_rfl) (by kernel_rfl) (by kernel_rfl) (by kernel_rfl) hHeld ?_
          intro o ho
          simp only [List.getElem?_toArray, List.getElem?_cons_zero, List.getElem?_cons_succ, Option.some.injEq] at ho
          subst ho
          refine ⟨?_, fun _ _ _ h => h, Or.inl ⟨by rfl, ?_⟩, ?_⟩
          case refine_2 =>
            intro w hSw
            (try dsimp only at hSw)
            go_simp
            try with_reducible rfl
          simp only [Act.put, List.setIfInBounds_toArray, List.set_cons_zero, List.set_cons_succ]
          refine held_take 15 (by kernel_rfl) (by kernel_rfl) (by kernel_rfl) (by kernel_rfl) hHeld ?_
          intro o ho
          simp only [List.getElem?_toArray, List.getElem?_cons_zero, List.getElem?_cons_succ, Option.some.injEq] at ho
          subst ho
          refine ⟨?_, fun _ _ _ h => h, Or.inl ⟨by rfl, ?_⟩, ?_⟩
          case refine_2 =>
            intro w hSw
            (try dsimp only at hSw)
            go_simp
            try with_reducible rfl
          simp only [Act.put, List.setIfInBounds_toArray, List.set_cons_zero, List.set_cons_succ]
          refine held_take 16 (by kernel_rfl) (by kernel_rfl) (by kernel_rfl) (by kernel_rfl) hHeld ?_
          intro o ho
          simp only [List.getElem?_toArray, List.getElem?_cons_zero, List.getElem?_cons_succ, Option.some.injEq] at ho
          subst ho
          refine ⟨?_, fun _ _ _ h => h, Or.inl ⟨by rfl, ?_⟩, ?_⟩
          case refine_2 =>
            intro w hSw
            (try dsimp only at hSw)
            go_simp
            try with_reducible rfl
          simp only [Act.put, List.setIfInBounds_toArray, List.set_cons_zero, List.set_cons_succ]
          refine held_only 13 (by kernel_rfl) (by kernel_rfl) ?_
          intro o ho K hK
          simp only [List.getElem?_toArray, List.getElem?_cons_zero, List.getElem?_cons_succ, Option.some.injEq] at ho
          subst ho
          go_simp
          go_at_call 44
          (with_reducible refine (m2 _ (ptrow_reads O (List.mem_cons_of_mem _ List.mem_cons_self) rfl (by rw [put_length, hn]))).mono ?_)
          rintro e w6 ⟨rfl, b⟩
          replace O := O.keep b
          clear b
          refine hK.out _ _ (bx_cells O (p := p) List.mem_cons_self) (fun hHeld => ?_)
          clear hK K
          try simp only [Act.put, List.setIfInBounds_toArray, List.set_cons_zero, List.set_cons_succ]
          refine held_take 17 (by kernel_rfl) (by kernel_rfl) (by kernel_rfl) (by kernel_rfl) hHeld ?_
          intro o ho
          simp only [List.getElem?_toArray, List.getElem?_cons_zero, List.getElem?_cons_succ, Option.some.injEq] at ho
          subst ho
          refine ⟨?_, fun _ _ _ h => h, Or.inl ⟨by rfl, ?_⟩, ?_⟩
          case refine_2 =>
            intro w hSw
            (try dsimp only at hSw)
            go_simp
            try with_reducible rfl
          simp only [Act.put, List.setIfInBounds_toArray, List.set_cons_zero, List.set_cons_succ]
          refine held_take 18 (by kernel_rfl) (by kernel_rfl) (by kernel_rfl) (by kernel_rfl) hHeld ?_
          intro o ho
          simp only [List.getElem?_toArray, List.getElem?_cons_zero, List.getElem?_cons_succ, Option.some.injEq] at ho
          subst ho
          refine ⟨?_, fun _ _ _ h => h, Or.inl ⟨by rfl, ?_⟩, ?_⟩
          case refine_2 =>
            intro w hSw
            (try dsimp only at hSw)
            go_simp
            try with_reducible rfl
          simp only [Act.put, List.setIfInBounds_toArray, List.set_cons_zero, List.set_cons_succ]
          refine held_take 19 (by kernel_rfl) (by kernel_rfl) (by kernel_rfl) (by kernel_rfl) hHeld ?_
          intro o ho
          simp only [List.getElem?_toArray, List.getElem?_cons_zero, List.getElem?_cons_succ, Option.some.injEq] at ho
          subst ho
          refine ⟨?_, fun _ _ _ h => h, Or.inl ⟨by rfl, ?_⟩, ?_⟩
          case refine_2 =>
            intro w hSw
            (try dsimp only at hSw)
            go_simp
            try with_reducible rfl
          simp only [Act.put, List.setIfInBounds_toArray, List.set_cons_zero, List.set_cons_succ]
          refine wpAnyH_done (by kernel_rfl) ?_ _
          go_wp2_with fail
          go_ret2
          obtain ⟨rfl, rfl⟩ := big (.inr h1000)
          exact ptrow_givesB (own_sub O (R' := [ptrow (.slice A1 n c1) _]) (.cons _ (.cons _ (List.Sublist.refl _)))) false
        have small := fine (by omega)
        clear big fine
        replace O := O.keep (below_drew' (Below.refl _ _))
        refine held_drew (fun W => W.cell? ⟨p, 0, none⟩ = some (.int .i64 (p1 : Nat)) ∧ W.cell? ⟨p, 1, none⟩ = some (.int .i64 (p2 : Nat)) ∧ W.cell? ⟨p, 2, none⟩ = some (.int .i64 ya) ∧ W.cell? ⟨p, 3, none⟩ = some (.int .i64 yb) ∧ W.cell? ⟨p, 4, none⟩ = some (.int .i64 yw)) (by kernel_rfl) (bx_cells O (p := p) List.mem_cons_self) (fun hHeld => ?_)
        refine held_take 0 (by kernel_rfl) (by kernel_rfl) (by kernel_rfl) (by kernel_rfl) hHeld ?_
        intro o ho
        simp only [List.getElem?_toArray, List.getElem?_cons_zero, Option.some.injEq] at ho
        subst ho
        refine ⟨?_, fun _ _ _ h => h, Or.inl ⟨by rfl, ?_⟩, ?_⟩
        case refine_2 =>
          intro w hSw
          (try dsimp only at hSw)
          go_simp
          try with_reducible rfl
        simp only [Act.put, List.setIfInBounds_toArray, List.set_cons_zero, List.set_cons_succ]
        refine held_take 1 (by kernel_rfl) (by kernel_rfl) (by kernel_rfl) (by kernel_rfl) hHeld ?_
        intro o ho
        simp only [List.getElem?_toArray, List.getElem?_cons_zero, List.getElem?_cons_succ, Option.some.injEq] at ho
        subst ho
        refine ⟨?_, fun _ _ _ h => h, Or.inl ⟨by rfl, ?_⟩, ?_⟩
        case refine_2 =>
          intro w hSw
          (try dsimp only at hSw)
          go_simp
          try with_reducible rfl
        simp only [Act.put, List.setIfInBounds_toArray, List.set_cons_zero, List.set_cons_succ]
        refine held_take 2 (by kernel_rfl) (by kernel_rfl) (by kernel_rfl) (by kernel_rfl) hHeld ?_
        intro o ho
        simp only [List.getElem?_toArray, List.getElem?_cons_zero, List.getElem?_cons_succ, Option.some.injEq] at ho
        subst ho
        refine ⟨?_, fun _ _ _ h => h, Or.inl ⟨by rfl, ?_⟩, ?_⟩
        case refine_2 =>
          intro w hSw
          (try dsimp only at hSw)
          go_simp
          try with_reducible rfl
        simp only [Act.put, List.setIfInBounds_toArray, List.set_cons_zero, List.set_cons_succ]
        refine held_take 4 (by kernel_rfl) (by kernel_rfl) (by kernel_rfl) (by kernel_rfl) hHeld ?_
        intro o ho
        simp only [List.getElem?_toArray, List.getElem?_cons_zero, List.getElem?_cons_succ, Option.some.injEq] at ho
        subst ho
        refine ⟨?_, fun _ _ _ h => h, Or.inl ⟨by rfl, ?_⟩, ?_⟩
        case refine_2 =>
          intro w hSw
          (try dsimp only at hSw)
          go_simp
          try with_reducible rfl
        simp only [Act.put, List.setIfInBounds_toArray, List.set_cons_zero, List.set_cons_succ]
        refine held_take 5 (by kernel_rfl) (by kernel_rfl) (by kernel_rfl) (by kernel_rfl) hHeld ?_
        intro o ho
        simp only [List.getElem?_toArray, List.getElem?_cons_zero, List.getElem?_cons_succ, Option.some.injEq] at ho
        subst ho
        refine ⟨?_, fun _ _ _ h => h, Or.inl ⟨by rfl, ?_⟩, ?_⟩
        case refine_2 =>
          intro w hSw
          (try dsimp only at hSw)
          go_simp
          try with_reducible rfl
        simp only [Act.put, List.setIfInBounds_toArray, List.set_cons_zero, List.set_cons_succ]
        refine held_take 6 (by kernel_rfl) (by kernel_rfl) (by kernel_rfl) (by kernel_rfl) hHeld ?_
        intro o ho
        simp only [List.getElem?_toArray, List.getElem?_cons_zero, List.getElem?_cons_succ, Option.some.injEq] at ho
        subst ho
        refine ⟨?_, fun _ _ _ h => h, Or.inl ⟨by rfl, ?_⟩, ?_⟩
        case refine_2 =>
          intro w hSw
          (try dsimp only at hSw)
          go_simp
          try with_reducible rfl
        simp only [Act.put, List.setIfInBounds_toArray, List.set_cons_zero, List.set_cons_succ]
        refine held_only 3 (by kernel_rfl) (by kernel_rfl) ?_
        intro o ho K hK
        simp only [List.getElem?_toArray, List.getElem?_cons_zero, List.getElem?_cons_succ, Option.some.injEq] at ho
        subst ho
        go_simp
        go_at_call 44
        (with_reducible refine (m1 _ (ptrow_reads O (List.mem_cons_of_mem _ List.mem_cons_self) rfl (by rw [put_length, hn]))).mono ?_)
        rintro e w5 ⟨rfl, b⟩
        replace O := O.keep b
        clear b
        refine hK.out _ _ (bx_cells O (p := p) List.mem_cons_self) (fun hHeld => ?_)
        clear hK K
        try simp only [Act.put, List.setIfInBounds_toArray, List.set_cons_zero, List.set_cons_succ]
        refine held_take 7 (by kernel_rfl) (by kernel_rfl) (by kernel_rfl) (by kernel_rfl) hHeld ?_
        intro o ho
        simp only [List.getElem?_toArray, List.getElem?_cons_zero, List.getElem?_cons_succ, Option.some.injEq] at ho
        subst ho
        refine ⟨?_, fun _ _ _ h => h, Or.inl ⟨by rfl, ?_⟩, ?_⟩
        case refine_2 =>
          intro w hSw
          (try dsimp only at hSw)
          go_simp
          try with_reducible rfl
        simp only [Act.put, List.setIfInBounds_toArray, List.set_cons_zero, List.set_cons_succ]
        refine held_take 8 (by kernel_rfl) (by kernel_rfl) (by kernel_rfl) (by kernel_rfl) hHeld ?_
        intro o ho
        simp only [List.getElem?_toArray, List.getElem?_cons_zero, List.getElem?_cons_succ, Option.some.injEq] at ho
        subst ho
        refine ⟨?_, fun _ _ _ h => h, Or.inl ⟨by rfl, ?_⟩, ?_⟩
        case refine_2 =>
          intro w hSw
          (try dsimp only at hSw)
          go_simp
          try with_reducible rfl
        simp only [Act.put, List.setIfInBounds_toArray, List.set_cons_zero, List.set_cons_succ]
        refine held_take 9 (by kernel_rfl) (by kernel_rfl) (by kernel_rfl) (by kernel_rfl) hHeld ?_
        intro o ho
        simp only [List.getElem?_toArray, List.getElem?_cons_zero, List.getElem?_cons_succ, Option.some.injEq] at ho
        subst ho
        refine ⟨?_, fun _ _ _ h => h, Or.inl ⟨by rfl, ?_⟩, ?_⟩
        case refine_2 =>
          intro w hSw
          (try dsimp only at hSw)
          go_simp
          try with_reducible rfl
        simp only [Act.put, List.setIfInBounds_toArray, List.set_cons_zero, List.set_cons_succ]
        refine held_take 10 (by kernel_rfl) (by kernel_rfl) (by kernel_rfl) (by kernel_rfl) hHeld ?_
        intro o ho
        simp only [List.getElem?_toArray, List.getElem?_cons_zero, List.getElem?_cons_succ, Option.some.injEq] at ho
        subst ho
        refine ⟨?_, fun _ _ _ h => h, Or.inl ⟨by rfl, ?_⟩, ?_⟩
        case refine_2 =>
          intro w hSw
          (try dsimp only at hSw)
          go_simp
          try with_reducible rfl
        simp only [Act.put, List.setIfInBounds_toArray, List.set_cons_zero, List.set_cons_succ]
        refine held_take 11 (by kernel_rfl) (by kernel_rfl) (by kernel_rfl) (by kernel_rfl) hHeld ?_
        intro o ho
        simp only [List.getElem?_toArray, List.getElem?_cons_zero, List.getElem?_cons_succ, Option.some.injEq] at ho
        subst ho
        refine ⟨?_, fun _ _ _ h => h, Or.inl ⟨by rfl, ?_⟩, ?_⟩
        case refine_2 =>
          intro w hSw
          (try dsimp only at hSw)
          go_simp
          try with_reducible rfl
        simp only [Act.put, List.setIfInBounds_toArray, List.set_cons_zero, List.set_cons_succ]
        refine held_take 12 (by kernel_rfl) (by kernel_rfl) (by kernel_rfl) (by kernel_rfl) hHeld ?_
        intro o ho
        simp only [List.getElem?_toArray, List.getElem?_cons_zero, List.getElem?_cons_succ, Option.some.injEq] at ho
        subst ho
        refine ⟨?_, fun _ _ _ h => h, Or.inl ⟨by rfl, ?_⟩, ?_⟩
        case refine_2 =>
          intro w hSw
          (try dsimp only at hSw)
          go_simp
          try with_reducible rfl
        simp only [Act.put, List.setIfInBounds_toArray, List.set_cons_zero, List.set_cons_succ]
        refine held_take 14 (by kernel_rfl) (by kernel_rfl) (by kernel_rfl) (by kernel_rfl) hHeld ?_
        intro o ho
        simp only [List.getElem?_toArray, List.getElem?_cons_zero, List.getElem?_cons_succ, Option.some.injEq] at ho
        subst ho
        refine ⟨?_, fun _ _ _ h => h, Or.inl ⟨by rfl, ?_⟩, ?_⟩
        case refine_2 =>
          intro w hSw
          (try dsimp only at hSw)
          go_simp
          try with_reducible rfl
        simp only [Act.put, List.setIfInBounds_toArray, List.set_cons_zero, List.set_cons_succ]
        refine held_take 15 (by kernel_rfl) (by kernel_rfl) (by kernel_rfl) (by kernel_rfl) hHeld ?_
        intro o ho
        simp only [List.getElem?_toArray, List.getElem?_cons_zero, List.getElem?_cons_succ, Option.some.injEq] at ho
        subst ho
        refine ⟨?_, fun _ _ _ h => h, Or.inl ⟨by rfl, ?_⟩, ?_⟩
        case refine_2 =>
          intro w hSw
          (try dsimp only at hSw)
          go_simp
          try with_reducible rfl
        simp only [Act.put, List.setIfInBounds_toArray, List.set_cons_zero, List.set_cons_succ]
        refine held_take 16 (by kernel_rfl) (by kernel_rfl) (by kernel_rfl) (by kernel_rfl) hHeld ?_
        intro o ho
        simp only [List.getElem?_toArray, List.getElem?_cons_zero, List.getElem?_cons_succ, Option.some.injEq] at ho
        subst ho
        refine ⟨?_, fun _ _ _ h => h, Or.inl ⟨by rfl, ?_⟩, ?_⟩
        case refine_2 =>
          intro w hSw
          (try dsimp only at hSw)
          go_simp
          try with_reducible rfl
        simp only [Act.put, List.setIfInBounds_toArray, List.set_cons_zero, List.set_cons_succ]
        refine held_only 13 (by kernel_rfl) (by kernel_rfl) ?_
        intro o ho K hK
        simp only [List.getElem?_toArray, List.getElem?_cons_zero, List.getElem?_cons_succ, Option.some.injEq] at ho
        subst ho
        go_simp
        go_at_call 44
        (with_reducible refine (m2 _ (ptrow_reads O (List.mem_cons_of_mem _ List.mem_cons_self) rfl (by rw [put_length, hn]))).mono ?_)
        rintro e w6 ⟨rfl, b⟩
        replace O := O.keep b
        clear b
        refine hK.out _ _ (bx_cells O (p := p) List.mem_cons_self) (fun hHeld => ?_)
        clear hK K
        try simp only [Act.put, List.setIfInBounds_toArray, List.set_cons_zero, List.set_cons_succ]
        refine held_take 17 (by kernel_rfl) (by kernel_rfl) (by kernel_rfl) (by kernel_rfl) hHeld ?_
        intro o ho
        simp only [List.getElem?_toArray, List.getElem?_cons_zero, List.getElem?_cons_succ, Option.some.injEq] at ho
        subst ho
        refine ⟨?_, fun _ _ _ h => h, Or.inl ⟨by rfl, ?_⟩, ?_⟩
        case refine_2 =>
          intro w hSw
          (try dsimp only at hSw)
          go_simp
          try with_reducible rfl
        simp only [Act.put, List.setIfInBounds_toArray, List.set_cons_zero, List.set_cons_succ]
        refine held_take 18 (by kernel_rfl) (by kernel_rfl) (by kernel_rfl) (by kernel_rfl) hHeld ?_
        intro o ho
        simp only [List.getElem?_toArray, List.getElem?_cons_zero, List.getElem?_cons_succ, Option.some.injEq] at ho
        subst ho
        refine ⟨?_, fun _ _ _ h => h, Or.inl ⟨by rfl, ?_⟩, ?_⟩
        case refine_2 =>
          intro w hSw
          (try dsimp only at hSw)
          go_simp
          try with_reducible rfl
        simp only [Act.put, List.setIfInBounds_toArray, List.set_cons_zero, List.set_cons_succ]
        refine held_take 19 (by kernel_rfl) (by kernel_rfl) (by kernel_rfl) (by kernel_rfl) hHeld ?_
        intro o ho
        simp only [List.getElem?_toArray, List.getElem?_cons_zero, List.getElem?_cons_succ, Option.some.injEq] at ho
        subst ho
        refine ⟨?_, fun _ _ _ h => h, Or.inl ⟨by rfl, ?_⟩, ?_⟩
        case refine_2 =>
          intro w hSw
          (try dsimp only at hSw)
          go_simp
          try with_reducible rfl
        simp only [Act.put, List.setIfInBounds_toArray, List.set_cons_zero, List.set_cons_succ]
        refine wpAnyH_done (by kernel_rfl) ?_ _
        go_upto_region 16 with fail
        replace O := O.keep (below_drew' (Below.refl _ _))
        refine held_drew (fun W => W.cell? ⟨p, 0, none⟩ = some (.int .i64 (p1 : Nat)) ∧ W.cell? ⟨p, 1, none⟩ = some (.int .i64 (p2 : Nat)) ∧ W.cell? ⟨p, 2, none⟩ = some (.int .i64 ya) ∧ W.cell? ⟨p, 3, none⟩ = some (.int .i64 yb) ∧ W.cell? ⟨p, 4, none⟩ = some (.int .i64 yw)) (by kernel_rfl) (bx_cells O (p := p) List.mem_cons_self) (fun hHeld => ?_)
        refine held_take 0 (by kernel_rfl) (by kernel_rfl) (by kernel_rfl) (by kernel_rfl) hHeld ?_
        intro o ho
        simp only [List.getElem?_toArray, List.getElem?_cons_zero, Option.some.injEq] at ho
        subst ho
        refine ⟨?_, fun _ _ _ h => h, Or.inl ⟨by rfl, ?_⟩, ?_⟩
        case refine_2 =>
          intro w hSw
          (try dsimp only at hSw)
          go_simp
          try with_reducible rfl
        simp only [Act.put, List.setIfInBounds_toArray, List.set_cons_zero, List.set_cons_succ]
        refine held_take 1 (by kernel_rfl) (by kernel_rfl) (by kernel_rfl) (by kernel_rfl) hHeld ?_
        intro o ho
        simp only [List.getElem?_toArray, List.getElem?_cons_zero, List.getElem?_cons_succ, Option.some.injEq] at ho
        subst ho
        refine ⟨?_, fun _ _ _ h => h, Or.inl ⟨by rfl, ?_⟩, ?_⟩
        case refine_2 =>
          intro w hSw
          (try dsimp only at hSw)
          go_simp
          try with_reducible rfl
        simp only [Act.put, List.setIfInBounds_toArray, List.set_cons_zero, List.set_cons_succ]
        refine held_take 2 (by kernel_rfl) (by kernel_rfl) (by kernel_rfl) (by kernel_rfl) hHeld ?_
        intro o ho
        simp only [List.getElem?_toArray, List.getElem?_cons_zero, List.getElem?_cons_succ, Option.some.injEq] at ho
        subst ho
        refine ⟨?_, fun _ _ _ h => h, Or.inl ⟨by rfl, ?_⟩, ?_⟩
        case refine_2 =>
          intro w hSw
          (try dsimp only at hSw)
          go_simp
          try with_reducible rfl
        simp only [Act.put, List.setIfInBounds_toArray, List.set_cons_zero, List.set_cons_succ]
        refine held_take 3 (by kernel_rfl) (by kernel_rfl) (by kernel_rfl) (by kernel_rfl) hHeld ?_
        intro o ho
        simp only [List.getElem?_toArray, List.getElem?_cons_zero, List.getElem?_cons_succ, Option.some.injEq] at ho
        subst ho
        refine ⟨?_, fun _ _ _ h => h, Or.inl ⟨by rfl, ?_⟩, ?_⟩
        case refine_2 =>
          intro w hSw
          (try dsimp only at hSw)
          go_simp
          try with_reducible rfl
        simp only [Act.put, List.setIfInBounds_toArray, List.set_cons_zero, List.set_cons_succ]
        refine held_take 4 (by kernel_rfl) (by kernel_rfl) (by kernel_rfl) (by kernel_rfl) hHeld ?_
        intro o ho
        simp only [List.getElem?_toArray, List.getElem?_cons_zero, List.getElem?_cons_succ, Option.some.injEq] at ho
        subst ho
        refine ⟨?_, fun _ _ _ h => h, Or.inl ⟨by rfl, ?_⟩, ?_⟩
        case refine_2 =>
          intro w hSw
          (try dsimp only at hSw)
          go_simp
          try with_reducible rfl
        simp only [Act.put, List.setIfInBounds_toArray, List.set_cons_zero, List.set_cons_succ]
        refine held_take 5 (by kernel_rfl) (by kernel_rfl) (by kernel_rfl) (by kernel_rfl) hHeld ?_
        intro o ho
        simp only [List.getElem?_toArray, List.getElem?_cons_zero, List.getElem?_cons_succ, Option.some.injEq] at ho
        subst ho
        refine ⟨?_, fun _ _ _ h => h, Or.inl ⟨by rfl, ?_⟩, ?_⟩
        case refine_2 =>
          intro w hSw
          (try dsimp only at hSw)
          go_simp
          try with_reducible rfl
        simp only [Act.put, List.setIfInBounds_toArray, List.set_cons_zero, List.set_cons_succ]
        refine held_only 6 (by kernel_rfl) (by kernel_rfl) ?_
        intro o ho K hK
        simp only [List.getElem?_toArray, List.getElem?_cons_zero, List.getElem?_cons_succ, Option.some.injEq] at ho
        subst ho
        go_simp
        go_at_call 45
        (with_reducible refine (sc1 _ _ O.swap).mono ?_)
        rintro e w7 ⟨rfl, O'⟩
        replace O := O'.swap
        clear O'
        refine hK.out _ _ (bx_cells O (p := p) List.mem_cons_self) (fun hHeld => ?_)
        clear hK K
        try simp only [Act.put, List.setIfInBounds_toArray, List.set_cons_zero, List.set_cons_succ]
        refine wpAnyH_done (by kernel_rfl) ?_ _
        clear sc1
        go_upto_region 17 with fail
        replace O := O.keep (below_drew' (Below.refl _ _))
        refine held_drew (fun W => W.cell? ⟨p, 0, none⟩ = some (.int .i64 (p1 : Nat)) ∧ W.cell? ⟨p, 1, none⟩ = some (.int .i64 (p2 : Nat)) ∧ W.cell? ⟨p, 2, none⟩ = some (.int .i64 ya) ∧ W.cell? ⟨p, 3, none⟩ = some (.int .i64 yb) ∧ W.cell? ⟨p, 4, none⟩ = some (.int .i64 yw)) (by kernel_rfl) (bx_cells O (p := p) List.mem_cons_self) (fun hHeld => ?_)
        refine held_take 0 (by kernel_rfl) (by kernel_rfl) (by kernel_rfl) (by kernel_rfl) hHeld ?_
        intro o ho
        simp only [List.getElem?_toArray, List.getElem?_cons_zero, Option.some.injEq] at ho
        subst ho
        refine ⟨?_, fun _ _ _ h => h, Or.inl ⟨by rfl, ?_⟩, ?_⟩
        case refine_2 =>
          intro w hSw
          (try dsimp only at hSw)
          go_simp
          try with_reducible rfl
        simp only [Act.put, List.setIfInBounds_toArray, List.set_cons_zero, List.set_cons_succ]
        refine held_take 1 (by kernel_rfl) (by kernel_rfl) (by kernel_rfl) (by kernel_rfl) hHeld ?_
        intro o ho
        simp only [List.getElem?_toArray, List.getElem?_cons_zero, List.getElem?_cons_succ, Option.some.injEq] at ho
        subst ho
        refine ⟨?_, fun _ _ _ h => h, Or.inl ⟨by rfl, ?_⟩, ?_⟩
        case refine_2 =>
          intro w hSw
          (try dsimp only at hSw)
          go_simp
          try with_reducible rfl
        simp only [Act.put, List.setIfInBounds_toArray, List.set_cons_zero, List.set_cons_succ]
        refine held_take 2 (by kernel_rfl) (by kernel_rfl) (by kernel_rfl) (by kernel_rfl) hHeld ?_
        intro o ho
        simp only [List.getElem?_toArray, List.getElem?_cons_zero, List.getElem?_cons_succ, Option.some.injEq] at ho
        subst ho
        refine ⟨?_, fun _ _ _ h => h, Or.inl ⟨by rfl, ?_⟩, ?_⟩
        case refine_2 =>
          intro w hSw
          (try dsimp only at hSw)
          go_simp
          try with_reducible rfl
        simp only [Act.put, List.setIfInBounds_toArray, List.set_cons_zero, List.set_cons_succ]
        refine held_take 3 (by kernel_rfl) (by kernel_rfl) (by kernel_rfl) (by kernel_rfl) hHeld ?_
        intro o ho
        simp only [List.getElem?_toArray, List.getElem?_cons_zero, List.getElem?_cons_succ, Option.some.injEq] at ho
        subst ho
        refine ⟨?_, fun _ _ _ h => h, Or.inl ⟨by rfl, ?_⟩, ?_⟩
        case refine_2 =>
          intro w hSw
          (try dsimp only at hSw)
          go_simp
          try with_reducible rfl
        simp only [Act.put, List.setIfInBounds_toArray, List.set_cons_zero, List.set_cons_succ]
        refine held_take 4 (by kernel_rfl) (by kernel_rfl) (by kernel_rfl) (by kernel_rfl) hHeld ?_
        intro o ho
        simp only [List.getElem?_toArray, List.getElem?_cons_zero, List.getElem?_cons_succ, Option.some.injEq] at ho
        subst ho
        refine ⟨?_, fun _ _ _ h => h, Or.inl ⟨by rfl, ?_⟩, ?_⟩
        case refine_2 =>
          intro w hSw
          (try dsimp only at hSw)
          go_simp
          try with_reducible rfl
        simp only [Act.put, List.setIfInBounds_toArray, List.set_cons_zero, List.set_cons_succ]
        refine held_take 5 (by kernel_rfl) (by kernel_rfl) (by kernel_rfl) (by kernel_rfl) hHeld ?_
        intro o ho
        simp only [List.getElem?_toArray, List.getElem?_cons_zero, List.getElem?_cons_succ, Option.some.injEq] at ho
        subst ho
        refine ⟨?_, fun _ _ _ h => h, Or.inl ⟨by rfl, ?_⟩, ?_⟩
        case refine_2 =>
          intro w hSw
          (try dsimp only at hSw)
          go_simp
          try with_reducible rfl
        simp only [Act.put, List.setIfInBounds_toArray, List.set_cons_zero, List.set_cons_succ]
        refine held_only 6 (by kernel_rfl) (by kernel_rfl) ?_
        intro o ho K hK
        simp only [List.getElem?_toArray, List.getElem?_cons_zero, List.getElem?_cons_succ, Option.some.injEq] at ho
        subst ho
        go_simp
        go_at_call 45
        (with_reducible refine (sc2 _ _ O.swap).mono ?_)
        rintro e w8 ⟨rfl, O'⟩
        replace O := O'.swap
        clear O'
        refine hK.out _ _ (bx_cells O (p := p) List.mem_cons_self) (fun hHeld => ?_)
        clear hK K
        try simp only [Act.put, List.setIfInBounds_toArray, List.set_cons_zero, List.set_cons_succ]
        refine wpAnyH_done (by kernel_rfl) ?_ _
        clear sc2
        replace O := own_sub O (R' := [ptrow (.slice (some ⟨g, 0, none⟩) n c2) (put L u2), ptrow (.slice A1 n c1) L]) (.cons _ (List.Sublist.refl _))
        go_wp2_with fail
        go_roundw
        case rel => exact ⟨k, u2, by omega, rfl, iv2, small.1, small.2, O⟩
        case measure => simp [intOf]
      · have e1 : (ptget (put L u) k).left = -1 := by
          rw [(put_left hk).1]
          exact Decidable.byContradiction fun g => hbm (hL.bm hk g).1
        have f4 := ptrow_free O'.swap hlp (k * 5 + 4)
        have k4 := (ptrow_cell O'.swap hlp hkn).2.2.2.2
        have O2 := ptrow_st4 O'.swap hlp hkn 1
        rw [put_set hk hbm] at O2
        replace O2 := O2.perm (List.Perm.cons _ (List.Perm.swap _ _ []))
        replace O2 := own_sub O2 (R' := [ptrow (.slice (some ⟨g, 0, none⟩) n c2) (put L (fun i => if i = k then 1 else u i)), ptrow (.slice A1 n c1) L]) (.cons_cons _ (.cons_cons _ (List.nil_sublist _)))
        have iv2 := inv_wt hbm iv
        have sm2 : Small L k := small_next sml fun x hx => by
          rw [so_wt hbm]; omega
        have hu2 : ∀ x, x < L.length → ¬ Bm L x → 1 ≤ (if x = k then 1 else u x) ∧ (if x = k then 1 else u x) ≤ 1000 := fun x hx b => by
          split
          · omega
          · exact hu x hx b
        obtain ⟨x0, x1, x2, x3, x4⟩ := bx_cells O' (p := wr.heap.size) List.mem_cons_self
        generalize ptget (put L u) k = y at q0 q1 q2 q3 q4 e1 x0 x1 x2 x3 x4 f4 k4 O2
        obtain ⟨yl, yr, ya, yb, yw⟩ := y
        dsimp only at q0 q1 q2 q3 q4 e1 x0 x1 x2 x3 x4 f4 k4 O2
        subst e1
        clear hyes hno iv sml hu O O' hlp
        go_wp2_with fail
        go_roundw
        case rel => exact ⟨k, _, by omega, rfl, iv2, sm2, hu2, O2⟩
        case measure => simp [intOf]
end Go.Proofs.Ythefcbninpkncaa
