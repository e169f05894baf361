/-
  The contracts of the model's weight of a part, first tilted beam, balance and numbers of parts. Only new memory is written.
-/
import Derived.Test.YthefcbninpkncaaSpecMok
import Derived.Test.YthefcbninpkncaaMobVals
import Derived.Test.YthefcbninpkncaaHeldBy
namespace Go.Proofs.Ythefcbninpkncaa
open Go.ChangeShapes Go.WideShapes Go.ChangeAt Go.RowKit Go.PlainAid

theorem specWt' {L : List PartT} (hL : MOk L) (A : Option Addr) (n c : Nat) (hn : L.length = n) (k : Nat) (hk : k < n) (W : World) (r : PartRow W A L) : Calls Try.prog 42 #[.slice A n c, .int .i64 (k : Nat)] W (SaysI (sm L (wu L) k) W) :=
  specWt hL (fun x hx b => by have := wu_le hL hx b; omega) A n c hn k (by omega) W (by rw [put_wu]; exact r)
theorem sm_wu {L : List PartT} (hL : MOk L) {k : Nat} (hk : k < L.length) : 0 ≤ sm L (wu L) k ∧ sm L (wu L) k ≤ 32768000 :=
  sm_le hL.len hk fun x hx => by have := wu_le hL (lv_lt hk hx) (lv_wt_of _ _ hx); omega
set_option maxHeartbeats 1000000 in
theorem specWof (A : Option Addr) (n c : Nat) (L : List PartT) (m : Int) (w : World) (hn : L.length = n) (hm : n ≤ 1048576) (r : PartRow w A L) :
    Calls Try.prog 22 #[.slice A n c, .int .i64 m] w (SaysI (wof L m) w) := by
  have hB := fun W (r : PartRow W A L) => specMok A n c L W hn hm r
  by_cases hb : MOk L
  · rw [mok_yes hb] at hB
    by_cases h : 0 ≤ m ∧ m ≤ (n : Int) - 1
    · obtain ⟨k, rfl⟩ := Int.eq_ofNat_of_zero_le h.1
      have hW := fun W (r : PartRow W A L) => specWt' hb A n c hn k (by omega) W r
      rw [wof_yes hb (by omega)]
      generalize sm L (wu L) k = v at hW ⊢
      go_enter Try.func22, Try.ntmps22
      go_wp2_with fail
      refine (hB _ r).mono ?_
      rintro e w1 ⟨rfl, b⟩
      replace r := r.keep b
      clear hB
      go_wp2_with fail
      refine (in_to true (k : Int) 0 ((n : Int) - 1) _ (decide_eq_true h)).mono ?_
      rintro e w9 ⟨rfl, rfl⟩
      go_wp2_with fail
      refine (hW _ r).mono ?_
      rintro e w2 ⟨rfl, b2⟩
      clear hW
      go_wp2_with fail
      go_ret
      exact ⟨rfl, below_more b b.size b2⟩
    · rw [wof_no (fun g => h (by rw [hn] at g; exact g.2))]
      go_enter Try.func22, Try.ntmps22
      go_wp2_with fail
      refine (hB _ r).mono ?_
      rintro e w1 ⟨rfl, b⟩
      clear hB r
      go_wp2_with fail
      refine (in_to false m 0 ((n : Int) - 1) _ (decide_eq_false h)).mono ?_
      rintro e w9 ⟨rfl, rfl⟩
      go_wp2_with fail
      go_ret
      exact ⟨rfl, b⟩
  · rw [mok_no hb] at hB
    rw [wof_no (fun g => hb g.1)]
    go_enter Try.func22, Try.ntmps22
    go_wp2_with fail
    refine (hB _ r).mono ?_
    rintro e w1 ⟨rfl, b⟩
    clear hB r
    go_wp2_with fail
    go_ret
    exact ⟨rfl, b⟩

theorem part_cells4 {w : World} {p : Nat} {a b c d e : Value} {t : TypeId} (h : w.heap[p]? = some (.cells #[a, b, c, d, e] t)) : w.cell? ⟨p, 0, none⟩ = some a ∧ w.cell? ⟨p, 1, none⟩ = some b ∧ w.cell? ⟨p, 2, none⟩ = some c ∧ w.cell? ⟨p, 3, none⟩ = some d := by
  refine ⟨?_, ?_, ?_, ?_⟩ <;> simp [World.cell?, h]
set_option maxHeartbeats 4000000 in
theorem specTilt (A : Option Addr) (n c : Nat) (L : List PartT) (w : World) (hn : L.length = n) (hm : n ≤ 1048576) (r : PartRow w A L) :
    Calls Try.prog 24 #[.slice A n c] w (SaysI (ft L) w) := by
  have hB := fun W (r : PartRow W A L) => specMok A n c L W hn hm r
  by_cases hb : MOk L
  · rw [mok_yes hb] at hB
    obtain ⟨z, hz⟩ : ∃ z, ft L = z := ⟨_, rfl⟩
    rw [hz]
    have n15 : n ≤ 15 := by have := hb.len; omega
    go_enter Try.func24, Try.ntmps24
    go_wp2_with fail
    go_loopw [3] (fun i wr => ∃ k : Nat, k ≤ n ∧ i = .int .i64 k ∧ (∀ j, j < k → ¬ Tilt L j) ∧ Below w.heap.size w wr) (fun i _ => n - (intOf i).toNat)
    case atStart => exact ⟨0, by omega, rfl, (fun j h => by omega), Below.refl _ _⟩
    case round =>
      obtain ⟨k, hk, rfl, P, b⟩ := hrel
      by_cases hlt : k < n
      · go_wp2_with fail
        refine (hB _ (r.keep b)).mono ?_
        rintro e w1 ⟨rfl, b1⟩
        replace b := below_more b b.size b1
        clear b1
        have r1 := r.keep b
        obtain ⟨x, rfl, hx, c0, d1, d2, d3, d4⟩ := r1.at (j := k) (by omega)
        replace c0 := c0.1
        have bs := b.size
        by_cases hbm : Bm L k
        · have q := hb.bm (k := k) (by omega) hbm.1
          have bb := hbm.2
          have s1 := sm_wu hb (k := lc L k) (by omega)
          have s2 := sm_wu hb (k := rc L k) (by omega)
          have i1 := fun W r => specWt' hb (some x) n c hn (lc L k) (by omega) W r
          have i2 := fun W r => specWt' hb (some x) n c hn (rc L k) (by omega) W r
          have hT : sm L (wu L) (lc L k) * (ptget L k).armLeft ≠ sm L (wu L) (rc L k) * (ptget L k).armRight → z = (k : Int) := fun g => by rw [← hz]; exact ft_some hb (by omega) ⟨hbm, g⟩ P
          have hF : sm L (wu L) (lc L k) * (ptget L k).armLeft = sm L (wu L) (rc L k) * (ptget L k).armRight → ∀ j, j < k + 1 → ¬ Tilt L j := fun g j hj => by
            by_cases e : j = k
            · subst e; exact fun t => t.2 g
            · exact P j (by omega)
          have e1 := q.2.1
          have e2 := q.2.2.1
          have m1 := Int.mul_le_mul s1.2 q.2.2.2.1.2 (by omega) (by omega)
          have m2 := Int.mul_le_mul s2.2 q.2.2.2.2.1.2 (by omega) (by omega)
          have m3 := Int.mul_nonneg s1.1 (show 0 ≤ (ptget L k).armLeft by omega)
          have m4 := Int.mul_nonneg s2.1 (show 0 ≤ (ptget L k).armRight by omega)
          have hL := hb
          generalize sm L (wu L) (lc L k) = v1 at i1 s1 hT hF m1 m3
          generalize sm L (wu L) (rc L k) = v2 at i2 s2 hT hF m2 m4
          generalize lc L k = p1 at e1 i1
          generalize rc L k = p2 at e2 i2
          generalize ptget L k = y at c0 d1 d2 d3 d4 e1 e2 hT hF m1 m2 m3 m4
          obtain ⟨yl, yr, ya, yb, yw⟩ := y
          dsimp only at c0 d1 d2 d3 d4 e1 e2 hT hF m1 m2 m3 m4
          subst e1 e2
          obtain ⟨a, ha⟩ : ∃ a, v1 * ya = a := ⟨_, rfl⟩
          obtain ⟨a', ha'⟩ : ∃ a, v2 * yb = a := ⟨_, rfl⟩
          rw [ha] at hT hF m1 m3
          rw [ha'] at hT hF m2 m4
          have hb1 : (w1.alloc (.cells #[.int .i64 (p1 : Nat), .int .i64 (p2 : Nat), .int .i64 ya, .int .i64 yb, .int .i64 yw] 33)).heap[w1.heap.size]? = some (.cells #[.int .i64 (p1 : Nat), .int .i64 (p2 : Nat), .int .i64 ya, .int .i64 yb, .int .i64 yw] 33) := heap_alloc_new w1 _
          have r2 : PartRow (w1.alloc (.cells #[.int .i64 (p1 : Nat), .int .i64 (p2 : Nat), .int .i64 ya, .int .i64 yb, .int .i64 yw] 33)) (some x) L := r1.keep ((Below.refl _ _).alloc (Nat.le_refl _) _)
          have b2 : Below w.heap.size w (w1.alloc (.cells #[.int .i64 (p1 : Nat), .int .i64 (p2 : Nat), .int .i64 ya, .int .i64 yb, .int .i64 yw] 33)) := b.alloc bs _
          clear P q bb hb hB r r1 hbm hz hL b bs
          go_upto_region 5 with fail
          generalize w1.heap.size = g at hb1 ⊢
          generalize w1.alloc (.cells #[.int .i64 (p1 : Nat), .int .i64 (p2 : Nat), .int .i64 ya, .int .i64 yb, .int .i64 yw] 33) = W1 at hb1 r2 b2 ⊢
          obtain ⟨a0, a1, a2, a3⟩ := part_cells4 hb1
          clear c0 d1 d2 d3 d4 hx
          replace hb1 : W1.drew.heap[g]? = some (.cells #[.int .i64 (p1 : Nat), .int .i64 (p2 : Nat), .int .i64 ya, .int .i64 yb, .int .i64 yw] 33) := hb1
          replace r2 := r2.keep (below_drew' (Below.refl _ _))
          replace b2 := below_drew' b2
          clear a0 a1 a2 a3
          refine held_drew (fun W => W.cell? ⟨g, 0, none⟩ = some (.int .i64 (p1 : Nat)) ∧ W.cell? ⟨g, 1, none⟩ = some (.int .i64 (p2 : Nat)) ∧ W.cell? ⟨g, 2, none⟩ = some (.int .i64 ya) ∧ W.cell? ⟨g, 3, none⟩ = some (.int .i64 yb)) (by kernel_rfl) (part_cells4 hb1) (fun hHeld => ?_)
          refine held_take 0 (by kernel_rfl) (by kernel_rfl) (by kernel_rfl) (by kernel_rfl) hHeld ?_
          intro o ho
          simp only [List.getElem?_toArray, List.getElem?_cons_zero, Option.some.injEq] at ho
          subst ho
          refine ⟨?_, fun _ _ _ h => h, Or.inl ⟨by rfl, ?_⟩, ?_⟩
          case refine_2 =>
            intro w hSw
            (try dsimp only at hSw)
            go_simp
            try with_reducible rfl
          simp only [Act.put, List.setIfInBounds_toArray, List.set_cons_zero, List.set_cons_succ]
          refine held_take 1 (by kernel_rfl) (by kernel_rfl) (by kernel_rfl) (by kernel_rfl) hHeld ?_
          intro o ho
          simp only [List.getElem?_toArray, List.getElem?_cons_zero, List.getElem?_cons_succ, Option.some.injEq] at ho
          subst ho
          refine ⟨?_, fun _ _ _ h => h, Or.inl ⟨by rfl, ?_⟩, ?_⟩
          case refine_2 =>
            intro w hSw
            (try dsimp only at hSw)
            go_simp
            try with_reducible rfl
          simp only [Act.put, List.setIfInBounds_toArray, List.set_cons_zero, List.set_cons_succ]
          refine held_take 2 (by kernel_rfl) (by kernel_rfl) (by kernel_rfl) (by kernel_rfl) hHeld ?_
          intro o ho
          simp only [List.getElem?_toArray, List.getElem?_cons_zero, List.getElem?_cons_succ, Option.some.injEq] at ho
          subst ho
          refine ⟨?_, fun _ _ _ h => h, Or.inl ⟨by rfl, ?_⟩, ?_⟩
          case refine_2 =>
            intro w hSw
            (try dsimp only at hSw)
            go_simp
            try with_reducible rfl
          simp only [Act.put, List.setIfInBounds_toArray, List.set_cons_zero, List.set_cons_succ]
          refine held_take 3 (by kernel_rfl) (by kernel_rfl) (by kernel_rfl) (by kernel_rfl) hHeld ?_
          intro o ho
          simp only [List.getElem?_toArray, List.getElem?_cons_zero, List.getElem?_cons_succ, Option.some.injEq] at ho
          subst ho
          refine ⟨?_, fun _ _ _ h => h, Or.inl ⟨by rfl, ?_⟩, ?_⟩
          case refine_2 =>
            intro w hSw
            (try dsimp only at hSw)
            go_simp
            try with_reducible rfl
          simp only [Act.put, List.setIfInBounds_toArray, List.set_cons_zero, List.set_cons_succ]
          refine held_take 4 (by kernel_rfl) (by kernel_rfl) (by kernel_rfl) (by kernel_rfl) hHeld ?_
          intro o ho
          simp only [List.getElem?_toArray, List.getElem?_cons_zero, List.getElem?_cons_succ, Option.some.injEq] at ho
          subst ho
          refine ⟨?_, fun _ _ _ h => h, Or.inl ⟨by rfl, ?_⟩, ?_⟩
          case refine_2 =>
            intro w hSw
            (try dsimp only at hSw)
            go_simp
            try with_reducible rfl
          simp only [Act.put, List.setIfInBounds_toArray, List.set_cons_zero, List.set_cons_succ]
          refine held_take 5 (by kernel_rfl) (by kernel_rfl) (by kernel_rfl) (by kernel_rfl) hHeld ?_
          intro o ho
          simp only [List.getElem?_toArray, List.getElem?_cons_zero, List.getElem?_cons_succ, Option.some.injEq] at ho
          subst ho
          refine ⟨?_, fun _ _ _ h => h, Or.inl ⟨by rfl, ?_⟩, ?_⟩
          case refine_2 =>
            intro w hSw
            (try dsimp only at hSw)
            go_simp
            try with_reducible rfl
          simp only [Act.put, List.setIfInBounds_toArray, List.set_cons_zero, List.set_cons_succ]
          refine held_take 6 (by kernel_rfl) (by kernel_rfl) (by kernel_rfl) (by kernel_rfl) hHeld ?_
          intro o ho
          simp only [List.getElem?_toArray, List.getElem?_cons_zero, List.getElem?_cons_succ, Option.some.injEq] at ho
          subst ho
          refine ⟨?_, fun _ _ _ h => h, Or.inl ⟨by rfl, ?_⟩, ?_⟩
          case refine_2 =>
            intro w hSw
            (try dsimp only at hSw)
            go_simp
            try with_reducible rfl
          simp only [Act.put, List.setIfInBounds_toArray, List.set_cons_zero, List.set_cons_succ]
          refine held_take 8 (by kernel_rfl) (by kernel_rfl) (by kernel_rfl) (by kernel_rfl) hHeld ?_
          intro o ho
          simp only [List.getElem?_toArray, List.getElem?_cons_zero, List.getElem?_cons_succ, Option.some.injEq] at ho
          subst ho
          refine ⟨?_, fun _ _ _ h => h, Or.inl ⟨by rfl, ?_⟩, ?_⟩
          case refine_2 =>
            intro w hSw
            (try dsimp only at hSw)
            go_simp
            try with_reducible rfl
          simp only [Act.put, List.setIfInBounds_toArray, List.set_cons_zero, List.set_cons_succ]
          refine held_take 9 (by kernel_rfl) (by kernel_rfl) (by kernel_rfl) (by kernel_rfl) hHeld ?_
          intro o ho
          simp only [List.getElem?_toArray, List.getElem?_cons_zero, List.getElem?_cons_succ, Option.some.injEq] at ho
          subst ho
          refine ⟨?_, fun _ _ _ h => h, Or.inl ⟨by rfl, ?_⟩, ?_⟩
          case refine_2 =>
            intro w hSw
            (try dsimp only at hSw)
            go_simp
            try with_reducible rfl
          simp only [Act.put, List.setIfInBounds_toArray, List.set_cons_zero, List.set_cons_succ]
          refine held_take 11 (by kernel_rfl) (by kernel_rfl) (by kernel_rfl) (by kernel_rfl) hHeld ?_
          intro o ho
          simp only [List.getElem?_toArray, List.getElem?_cons_zero, List.getElem?_cons_succ, Option.some.injEq] at ho
          subst ho
          refine ⟨?_, fun _ _ _ h => h, Or.inl ⟨by rfl, ?_⟩, ?_⟩
          case refine_2 =>
            intro w hSw
            (try dsimp only at hSw)
            go_simp
            try with_reducible rfl
          simp only [Act.put, List.setIfInBounds_toArray, List.set_cons_zero, List.set_cons_succ]
          refine held_take 12 (by kernel_rfl) (by kernel_rfl) (by kernel_rfl) (by kernel_rfl) hHeld ?_
          intro o ho
          simp only [List.getElem?_toArray, List.getElem?_cons_zero, List.getElem?_cons_succ, Option.some.injEq] at ho
          subst ho
          refine ⟨?_, fun _ _ _ h => h, Or.inl ⟨by rfl, ?_⟩, ?_⟩
          case refine_2 =>
            intro w hSw
            (try dsimp only at hSw)
            go_simp
            try with_reducible rfl
          simp only [Act.put, List.setIfInBounds_toArray, List.set_cons_zero, List.set_cons_succ]
          refine held_take 13 (by kernel_rfl) (by kernel_rfl) (by kernel_rfl) (by kernel_rfl) hHeld ?_
          intro o ho
          simp only [List.getElem?_toArray, List.getElem?_cons_zero, List.getElem?_cons_succ, Option.some.injEq] at ho
          subst ho
          refine ⟨?_, fun _ _ _ h => h, Or.inl ⟨by rfl, ?_⟩, ?_⟩
          case refine_2 =>
            intro w hSw
            (try dsimp only at hSw)
            go_simp
            try with_reducible rfl
          simp only [Act.put, List.setIfInBounds_toArray, List.set_cons_zero, List.set_cons_succ]
          refine held_take 15 (by kernel_rfl) (by kernel_rfl) (by kernel_rfl) (by kernel_rfl) hHeld ?_
          intro o ho
          simp only [List.getElem?_toArray, List.getElem?_cons_zero, List.getElem?_cons_succ, Option.some.injEq] at ho
          subst ho
          refine ⟨?_, fun _ _ _ h => h, Or.inl ⟨by rfl, ?_⟩, ?_⟩
          case refine_2 =>
            intro w hSw
            (try dsimp only at hSw)
            go_simp
            try with_reducible rfl
          simp only [Act.put, List.setIfInBounds_toArray, List.set_cons_zero, List.set_cons_succ]
          refine held_take 16 (by kernel_rfl) (by kernel_rfl) (by kernel_rfl) (by kernel_rfl) hHeld ?_
          intro o ho
          simp only [List.getElem?_toArray, List.getElem?_cons_zero, List.getElem?_cons_succ, Option.some.injEq] at ho
          subst ho
          refine ⟨?_, fun _ _ _ h => h, Or.inl ⟨by rfl, ?_⟩, ?_⟩
          case refine_2 =>
            intro w hSw
            (try dsimp only at hSw)
            go_simp
            try with_reducible rfl
          simp only [Act.put, List.setIfInBounds_toArray, List.set_cons_zero, List.set_cons_succ]
          refine held_only 7 (by kernel_rfl) (by kernel_rfl) ?_
          intro o ho K hK
          simp only [List.getElem?_toArray, List.getElem?_cons_zero, List.getElem?_cons_succ, Option.some.injEq] at ho
          subst ho
          go_simp
          go_at_call 42
          (with_reducible refine (i1 _ r2).mono ?_)
          rintro e w2 ⟨rfl, b3⟩
          replace hb1 := part_keep hb1 b3
          replace r2 := r2.keep b3
          replace b2 := below_more b2 b2.size b3
          clear b3
          refine hK.out _ _ (part_cells4 hb1) (fun hHeld => ?_)
          clear hK K
          try simp only [Act.put, List.setIfInBounds_toArray, List.set_cons_zero, List.set_cons_succ]
          refine held_take 10 (by kernel_rfl) (by kernel_rfl) (by kernel_rfl) (by kernel_rfl) hHeld ?_
          intro o ho
          simp only [List.getElem?_toArray, List.getElem?_cons_zero, List.getElem?_cons_succ, Option.some.injEq] at ho
          subst ho
          refine ⟨?_, fun _ _ _ h => h, Or.inl ⟨by rfl, ?_⟩, ?_⟩
          case refine_2 =>
            intro w hSw
            (try dsimp only at hSw)
            go_simp
            try with_reducible rfl
          simp only [Act.put, List.setIfInBounds_toArray, List.set_cons_zero, List.set_cons_succ]
          refine held_only 14 (by kernel_rfl) (by kernel_rfl) ?_
          intro o ho K hK
          simp only [List.getElem?_toArray, List.getElem?_cons_zero, List.getElem?_cons_succ, Option.some.injEq] at ho
          subst ho
          go_simp
          go_at_call 42
          (with_reducible refine (i2 _ r2).mono ?_)
          rintro e w3 ⟨rfl, b3⟩
          replace hb1 := part_keep hb1 b3
          replace r2 := r2.keep b3
          replace b2 := below_more b2 b2.size b3
          clear b3
          refine hK.out _ _ (part_cells4 hb1) (fun hHeld => ?_)
          clear hK K
          try simp only [Act.put, List.setIfInBounds_toArray, List.set_cons_zero, List.set_cons_succ]
          refine held_take 17 (by kernel_rfl) (by kernel_rfl) (by kernel_rfl) (by kernel_rfl) hHeld ?_
          intro o ho
          simp only [List.getElem?_toArray, List.getElem?_cons_zero, List.getElem?_cons_succ, Option.some.injEq] at ho
          subst ho
          refine ⟨?_, fun _ _ _ h => h, Or.inl ⟨by rfl, ?_⟩, ?_⟩
          case refine_2 =>
            intro w hSw
            (try dsimp only at hSw)
            go_simp
            try with_reducible rfl
          simp only [Act.put, List.setIfInBounds_toArray, List.set_cons_zero, List.set_cons_succ]
          refine held_take 18 (by kernel_rfl) (by kernel_rfl) (by kernel_rfl) (by kernel_rfl) hHeld ?_
          intro o ho
          simp only [List.getElem?_toArray, List.getElem?_cons_zero, List.getElem?_cons_succ, Option.some.injEq] at ho
          subst ho
          refine ⟨?_, fun _ _ _ h => h, Or.inl ⟨by rfl, ?_⟩, ?_⟩
          case refine_2 =>
            intro w hSw
            (try dsimp only at hSw)
            go_simp
            try with_reducible rfl
          simp only [Act.put, List.setIfInBounds_toArray, List.set_cons_zero, List.set_cons_succ]
          refine held_take 19 (by kernel_rfl) (by kernel_rfl) (by kernel_rfl) (by kernel_rfl) hHeld ?_
          intro o ho
          simp only [List.getElem?_toArray, List.getElem?_cons_zero, List.getElem?_cons_succ, Option.some.injEq] at ho
          subst ho
          refine ⟨?_, fun _ _ _ h => h, Or.inl ⟨by rfl, ?_⟩, ?_⟩
          case refine_2 =>
            intro w hSw
            (try dsimp only at hSw)
            go_simp
            try with_reducible rfl
          simp only [Act.put, List.setIfInBounds_toArray, List.set_cons_zero, List.set_cons_succ]
          refine wpAnyH_done (by kernel_rfl) ?_ _
          clear hb1 r2 i1 i2
          by_cases hne : a = a'
          · subst hne
            have P2 := hF rfl
            go_wp2_with fail
            go_roundw
            case rel => exact ⟨k + 1, by omega, by go_num, P2, b2⟩
            case measure => simp [intOf]; omega
          · obtain rfl := hT hne
            have w1 : IntKind.i64.wrap a = a := by rw [IntKind.wrap_i64] <;> omega
            have w2 : IntKind.i64.wrap a' = a' := by rw [IntKind.wrap_i64] <;> omega
            have hq : (IntKind.i64.wrap a != IntKind.i64.wrap a') = true := by rw [w1, w2]; simpa using hne
            clear w1 w2
            go_wp2_with fail
            go_ret
            exact ⟨rfl, b2⟩
        · have hleft : (ptget L k).left = -1 := Decidable.byContradiction fun g => hbm (hb.bm (by omega) g).1
          have P2 : ∀ j, j < k + 1 → ¬ Tilt L j := fun j hj => by
            by_cases e : j = k
            · subst e; exact fun t => hbm t.1
            · exact P j (by omega)
          rw [hleft] at c0
          clear P hB hbm hb hz
          go_wp2_with fail
          go_quiet (fail)
          go_wp2_with fail
          go_roundw
          case rel => exact ⟨k + 1, by omega, by go_num, P2, below_drewN (b.alloc bs _) _⟩
          case measure => simp [intOf]; omega
      · obtain rfl : k = n := by omega
        obtain rfl : z = -1 := by rw [← hz]; exact ft_none hb fun j hj => P j (by omega)
        clear P hB hb hz
        go_wp2_with fail
        go_ret
        exact ⟨rfl, b⟩
  · rw [mok_no hb] at hB
    rw [ft_no hb]
    go_enter Try.func24, Try.ntmps24
    go_wp2_with fail
    refine wp_loop_rounds 1 ?_
    rw [rounds_succ]
    by_cases h0 : 0 < n
    · go_wp2_with fail
      refine (hB _ r).mono ?_
      rintro e w1 ⟨rfl, b⟩
      clear hB r
      go_wp2_with fail
      go_ret
      exact ⟨rfl, b⟩
    · obtain rfl : n = 0 := by omega
      clear hB r
      go_wp2_with fail
      go_ret
      exact ⟨rfl, Below.refl _ _⟩
end Go.Proofs.Ythefcbninpkncaa
