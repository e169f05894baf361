/-
  The contracts of the program's copy of a beam, and of the program's and the model's moved beam. Only new memory is written.
-/
import Derived.Test.YtajndcggafjmeaaSpecBeam
import Derived.Test.YtajndcggafjmeaaAppendAny
namespace Go.Proofs.Ytajndcggafjmeaa
open Go.ChangeShapes Go.WideShapes Go.ChangeAt Go.RowKit Go.PlainAid

theorem hangRow_news {w : World} {A : Option Addr} {L : List Hg} (r : HangRow w A L) : ∀ ad, A = some ad → ∀ j u, (hcells L)[j]? = some u → w.cell? (ad.add j) = some u := fun ad he j u hu => by
  have hj : j < L.length * 2 := by
    have := (List.getElem?_eq_some_iff.1 hu).1
    rw [hcells_len] at this
    exact this
  obtain ⟨x, hx, -, hc, hd⟩ := r (j / 2) (by omega)
  rw [he] at hx
  injection hx with hx
  subst hx
  obtain ⟨g0, g1⟩ := hcells_get L (j / 2) (by omega)
  rcases Nat.mod_two_eq_zero_or_one j with e | e
  · have e2 : j / 2 * 2 = j := by omega
    rw [e2] at hc g0
    rw [hc, ← hu, g0]
  · have e2 : j / 2 * 2 + 1 = j := by omega
    rw [e2] at hd g1
    rw [hd, ← hu, g1]
theorem nil_cap {w : World} {B n c : Nat} {T : TypeId} {s : Nat} {A : Option Addr} {xs : List Value} (o : w.ownsRow B T s (.slice A n c) n xs) : A = none → n = 0 ∧ c = 0 := fun h => by
  rcases o.2 with ⟨e, h0⟩ | ⟨g, cap, cur, e, -⟩
  · injection e with _ _ e3
    exact ⟨h0, e3⟩
  · injection e with e1
    rw [h] at e1; cases e1

theorem implCopy_h (A : Option Addr) (n c : Nat) (L : List Hg) (w : World) (hn : L.length = n) (hm : n ≤ 1048576) (hA : A = none → n = 0 ∧ c = 0) (r : HangRow w A L) :
    Calls Try.prog 37 #[.slice A n c] w (HCopied L w) := by
  obtain ⟨i0, hi, hz0, hz1, hz2⟩ := info_parts Try.infoHangT
  have hN := hangRow_news r
  have h1 := hcells_one L
  have h2 := hcells_len L
  have hadd : ∀ v' w', w'.ownsRow w.heap.size 34 2 v' (0 + n) ([] ++ hcells L) → w.grownBy w' (Value.ownBlock (.slice none 0 0)) → HCopied L w (.returned v') w' := fun v' w' o1 g1 => by
    rw [List.nil_append, Nat.zero_add] at o1
    subst hn
    exact own_hcopied rfl o1 ((Below.refl w.heap.size w).grown g1 (Nat.le_refl _) (fun k e => by cases e))
  rw [hn] at h2
  clear r
  generalize hcells L = xs at hN h1 h2 hadd
  clear hn
  go_enter Try.func37, Try.ntmps37
  go_wp2_with (at_builtin; refine wpList_append_any _ rfl (.const (.slice none 0 0)) (.tmp 3) 24 rfl w.heap.size 34 i0 (.agg #[.int .i64 0, .int .i64 0]) 2 16 Try.underlying24 hi hz0 hz1 hz2 rfl (by decide) (.slice none 0 0) 0 [] rfl (World.ownsRow_nil _ _ _ _) A n c xs rfl h2 hA hN h1 (by unfold maxLen; omega) (by omega) (Nat.le_refl _) ?_; intro v1 w1 o1 g1 a1; have O1 := hadd v1 w1 o1 g1; clear o1 g1 a1)
  go_ret
  exact O1

theorem Own.hcopy {w wr w1 : World} {R : List Rw} {L : List Hg} {A : Option Addr} {c : Nat} (h : Own w wr R) (o : w1.ownsRow wr.heap.size 34 2 (.slice A L.length c) L.length (hcells L)) (b : Below wr.heap.size wr w1) : Own w w1 (hrow (.slice A L.length c) L :: R) := h.add b o

set_option maxHeartbeats 1000000 in
theorem implShift_no (A : Option Addr) (n c : Nat) (L : List Hg) (z : Int) (w : World) (hn : L.length = n) (hm : n ≤ 1048576) (hA : A = none → n = 0 ∧ c = 0) (r : HangRow w A L) (h : ¬ (BOk L ∧ -200 ≤ z ∧ z ≤ 200)) :
    Calls Try.prog 15 #[.slice A n c, .int .i64 z] w (GivesHB L false w) := by
  have hB := fun W (r : HangRow W A L) => implOk_beam A n c L W hn r
  have hC := fun W (r : HangRow W A L) => implCopy_h A n c L W hn hm hA r
  clear hA
  by_cases hb : BOk L
  · rw [bok_yes hb] at hB
    by_cases h1 : z < -200
    · clear h hb
      go_enter Try.func15, Try.ntmps15
      go_wp2_with fail
      refine (hB _ r).mono ?_
      rintro e w1 ⟨rfl, b⟩
      replace r := r.keep b
      clear hB
      go_wp2_with fail
      refine (hC _ r).mono ?_
      rintro e w2 ⟨A2, c2, rfl, o, b2⟩
      have O := ((Own.none w).keep b).hcopy o b2
      rw [hn] at O
      clear hC r o b b2
      go_wp2_with fail
      go_ret2
      exact O.givesHB false
    · have h2 : 200 < z := Int.not_le.1 fun g => h ⟨hb, by omega, g⟩
      clear h hb
      go_enter Try.func15, Try.ntmps15
      go_wp2_with fail
      refine (hB _ r).mono ?_
      rintro e w1 ⟨rfl, b⟩
      replace r := r.keep b
      clear hB
      go_wp2_with fail
      refine (hC _ r).mono ?_
      rintro e w2 ⟨A2, c2, rfl, o, b2⟩
      have O := ((Own.none w).keep b).hcopy o b2
      rw [hn] at O
      clear hC r o b b2
      go_wp2_with fail
      go_ret2
      exact O.givesHB false
  · rw [bok_no hb] at hB
    clear h hb
    go_enter Try.func15, Try.ntmps15
    go_wp2_with fail
    refine (hB _ r).mono ?_
    rintro e w1 ⟨rfl, b⟩
    replace r := r.keep b
    clear hB
    go_wp2_with fail
    refine (hC _ r).mono ?_
    rintro e w2 ⟨A2, c2, rfl, o, b2⟩
    have O := ((Own.none w).keep b).hcopy o b2
    rw [hn] at O
    clear hC r o b b2
    go_wp2_with fail
    go_ret2
    exact O.givesHB false

/-- What a moved beam is answered as. -/
def shA (L : List Hg) (z : Int) : List Hg := if BOk (shift L z) then shift L z else L
set_option maxHeartbeats 2000000 in
theorem implShift_yes (A : Option Addr) (n c : Nat) (L : List Hg) (z : Int) (w : World) (hn : L.length = n) (hA : A = none → n = 0 ∧ c = 0) (r : HangRow w A L) (hb : BOk L) (h : -200 ≤ z ∧ z ≤ 200) :
    Calls Try.prog 15 #[.slice A n c, .int .i64 z] w (GivesHB (shA L z) (bok (shift L z)) w) := by
  have h12 : n ≤ 12 := by have := hb.1; omega
  have hB := fun W (r : HangRow W A L) => implOk_beam A n c L W hn r
  have hC := fun W (r : HangRow W A L) => implCopy_h A n c L W hn (by omega) hA r
  have hS := fun B d W (r : HangRow W B (shift L z)) => implOk_beam B n d (shift L z) W (by rw [shift_length]; exact hn) r
  rw [bok_yes hb] at hB
  have h1 : ¬ z < -200 := by omega
  have h2 : ¬ 200 < z := by omega
  have hend1 : bok (shift L z) = true → shA L z = shift L z := fun g => if_pos (of_decide_eq_true g)
  have hend0 : bok (shift L z) = false → shA L z = L := fun g => if_neg (of_decide_eq_false g)
  generalize bok (shift L z) = ok at hS hend1 hend0 ⊢
  generalize shA L z = M at hend1 hend0 ⊢
  clear hA
  go_enter Try.func15, Try.ntmps15
  go_wp2_with fail
  refine (hB _ r).mono ?_
  rintro e w1 ⟨rfl, b⟩
  have r1 := r.keep b
  clear hB
  go_wp2_with fail
  refine (hC _ r1).mono ?_
  rintro e w2 ⟨A2, c2, rfl, o, b2⟩
  have O := ((Own.none w).keep b).hcopy o b2
  clear r1 o b b2
  rw [hn] at O ⊢
  go_wp2_with fail
  go_loopw [25] (fun i wr => ∃ k : Nat, k ≤ n ∧ i = .int .i64 k ∧ Own w wr [hrow (.slice A2 n c2) (shTo L z k)]) (fun i _ => n - (intOf i).toNat)
  case atStart => exact ⟨0, by omega, rfl, by rw [shTo_zero]; exact O⟩
  case round =>
    clear O
    obtain ⟨k, hk, rfl, O⟩ := hrel
    have hl : (shTo L z k).length = n := by rw [shTo_len]; exact hn
    by_cases hlt : k < n
    · obtain ⟨g, cc, hA⟩ := hrow_form O (by omega)
      injection hA with hA
      subst hA
      obtain ⟨c0, c1⟩ := O.hcell hl hlt
      have t1 := (hb.2 k (by omega)).1
      have hs := shTo_set (L := L) (z := z) (k := k) (by omega)
      have e := shTo_get (L := L) (z := z) (k := k) (by omega)
      obtain ⟨X, Y, hXY⟩ : ∃ X Y, hget L k = (X, Y) := ⟨_, _, rfl⟩
      obtain ⟨f0, O2⟩ := O.hstore0 hl hlt (X + z)
      rw [e] at c0 c1 O2
      rw [hXY] at c0 c1 t1 hs O2
      dsimp only at c0 c1 t1 hs O2
      rw [hs] at O2
      clear hXY e hs O hl r hb hn hC hS hend1 hend0
      go_wp2_with fail
      go_roundw
      case rel => exact ⟨k + 1, by omega, by go_num, O2⟩
      case measure => simp [intOf]; omega
    · obtain rfl : k = n := by omega
      subst hn
      rw [shTo_all] at O hl
      have rS : HangRow wr A2 (shift L z) := O.hangs List.mem_cons_self rfl (shift_length L z).symm
      clear hb
      go_wp2_with fail
      refine (hS _ _ _ rS).mono ?_
      rintro e w3 ⟨rfl, b⟩
      replace O := O.keep b
      clear rS b hS
      cases ok
      · obtain rfl := hend0 rfl
        have r3 := r.keep O.bel
        clear hend0 hend1 r
        go_wp2_with fail
        refine (hC _ r3).mono ?_
        rintro e w4 ⟨A4, c4, rfl, o, b⟩
        have O2 := ((Own.none w).keep O.bel).hcopy o b
        clear hC r3 o b O hl
        go_wp2_with fail
        go_ret2
        exact O2.givesHB false
      · obtain rfl := hend1 rfl
        clear hend0 hend1 r hC hl
        go_wp2_with fail
        go_ret2
        exact O.givesHB true

/-! ### The model -/
theorem Own.happend {w wr w1 : World} {v' : Value} {L : List Hg} {n : Nat} {R : List Rw} (h : Own w wr R) (hn : L.length = n)
    (o : w1.ownsRow wr.heap.size 34 2 v' (0 + n) ([] ++ hcells L)) (g : (wr.alloc (.cells #[] 34)).grownBy w1 (some wr.heap.size)) : Own w w1 (hrow v' L :: R) := by
  have b : Below wr.heap.size wr w1 := ((Below.refl wr.heap.size wr).alloc (Nat.le_refl _) _).grown g (by simp) (fun k e => by injection e with e; omega)
  rw [List.nil_append, Nat.zero_add] at o
  subst hn
  exact h.add b o

set_option maxHeartbeats 1000000 in
theorem specShift_no (A : Option Addr) (n c : Nat) (L : List Hg) (z : Int) (w : World) (hn : L.length = n) (hm : n ≤ 1048576) (hA : A = none → n = 0 ∧ c = 0) (r : HangRow w A L) (h : ¬ (BOk L ∧ -200 ≤ z ∧ z ≤ 200)) :
    Calls Try.prog 30 #[.slice A n c, .int .i64 z] w (GivesHB L false w) := by
  obtain ⟨i0, hi, hz0, hz1, hz2⟩ := info_parts Try.infoHangT
  have hB := fun W (r : HangRow W A L) => specOk_beam A n c L W hn hm r
  have hN := hangRow_news r
  have OO := Own.none w
  by_cases hb : BOk L
  · rw [bok_yes hb] at hB
    have hI := fun W => in_to false z (-200) 200 W (decide_eq_false fun g => h ⟨hb, g⟩)
    clear h hb
    go_enter Try.func30, Try.ntmps30
    go_wp2_with (at_builtin; refine wpList_append_any _ rfl (.tmp 8) (.tmp 9) 24 rfl w.heap.size 34 i0 (.agg #[.int .i64 0, .int .i64 0]) 2 16 Try.underlying24 hi hz0 hz1 hz2 rfl (by decide) (.slice (some ⟨w.heap.size, 0, none⟩) 0 0) 0 [] rfl (World.ownsRow_made w #[] 0 (Nat.le_refl _) (by decide) rfl) A n c (hcells L) rfl (by rw [hcells_len, hn]) hA (fun ad he j u hu => (World.cell?_alloc_lt _ _ _ (lt_of_cell (hN ad he j u hu))).trans (hN ad he j u hu)) (hcells_one L) (by unfold maxLen; omega) (by omega) (by simp) ?_; intro v1 w1 o1 g1 a1; have O1 := OO.happend hn o1 g1; clear o1 g1 a1; obtain ⟨A1, c1, hv⟩ := hrow_slice O1; rw [hn] at hv; subst hv)
    replace r := r.keep O1.bel
    clear hN hA OO
    refine (hB _ r).mono ?_
    rintro e w2 ⟨rfl, b⟩
    replace O1 := O1.keep b
    clear hB r b
    go_wp2_with fail
    refine (hI _).mono ?_
    rintro e w3 ⟨rfl, rfl⟩
    clear hI
    go_wp2_with fail
    go_ret2
    exact O1.givesHB false
  · rw [bok_no hb] at hB
    clear h hb
    go_enter Try.func30, Try.ntmps30
    go_wp2_with (at_builtin; refine wpList_append_any _ rfl (.tmp 8) (.tmp 9) 24 rfl w.heap.size 34 i0 (.agg #[.int .i64 0, .int .i64 0]) 2 16 Try.underlying24 hi hz0 hz1 hz2 rfl (by decide) (.slice (some ⟨w.heap.size, 0, none⟩) 0 0) 0 [] rfl (World.ownsRow_made w #[] 0 (Nat.le_refl _) (by decide) rfl) A n c (hcells L) rfl (by rw [hcells_len, hn]) hA (fun ad he j u hu => (World.cell?_alloc_lt _ _ _ (lt_of_cell (hN ad he j u hu))).trans (hN ad he j u hu)) (hcells_one L) (by unfold maxLen; omega) (by omega) (by simp) ?_; intro v1 w1 o1 g1 a1; have O1 := OO.happend hn o1 g1; clear o1 g1 a1; obtain ⟨A1, c1, hv⟩ := hrow_slice O1; rw [hn] at hv; subst hv)
    replace r := r.keep O1.bel
    clear hN hA OO
    refine (hB _ r).mono ?_
    rintro e w2 ⟨rfl, b⟩
    replace O1 := O1.keep b
    clear hB r b
    go_wp2_with fail
    go_ret2
    exact O1.givesHB false

set_option maxHeartbeats 2000000 in
theorem specShift_yes (A : Option Addr) (n c : Nat) (L : List Hg) (z : Int) (w : World) (hn : L.length = n) (hA : A = none → n = 0 ∧ c = 0) (r : HangRow w A L) (hb : BOk L) (h : -200 ≤ z ∧ z ≤ 200) :
    Calls Try.prog 30 #[.slice A n c, .int .i64 z] w (GivesHB (shA L z) (bok (shift L z)) w) := by
  obtain ⟨i0, hi, hz0, hz1, hz2⟩ := info_parts Try.infoHangT
  have h12 : n ≤ 12 := by have := hb.1; omega
  have hB := fun W (r : HangRow W A L) => specOk_beam A n c L W hn (by omega) r
  have hS := fun B d W (r : HangRow W B (shift L z)) => specOk_beam B n d (shift L z) W (by rw [shift_length]; exact hn) (by omega) r
  have hI := fun W => in_to true z (-200) 200 W (decide_eq_true h)
  have hN := hangRow_news r
  have OO := Own.none w
  rw [bok_yes hb] at hB
  have hend1 : bok (shift L z) = true → shA L z = shift L z := fun g => if_pos (of_decide_eq_true g)
  have hend0 : bok (shift L z) = false → shA L z = L := fun g => if_neg (of_decide_eq_false g)
  generalize bok (shift L z) = ok at hS hend1 hend0 ⊢
  generalize shA L z = M at hend1 hend0 ⊢
  go_enter Try.func30, Try.ntmps30
  go_wp2_with (at_builtin; refine wpList_append_any _ rfl (.tmp 8) (.tmp 9) 24 rfl w.heap.size 34 i0 (.agg #[.int .i64 0, .int .i64 0]) 2 16 Try.underlying24 hi hz0 hz1 hz2 rfl (by decide) (.slice (some ⟨w.heap.size, 0, none⟩) 0 0) 0 [] rfl (World.ownsRow_made w #[] 0 (Nat.le_refl _) (by decide) rfl) A n c (hcells L) rfl (by rw [hcells_len, hn]) hA (fun ad he j u hu => (World.cell?_alloc_lt _ _ _ (lt_of_cell (hN ad he j u hu))).trans (hN ad he j u hu)) (hcells_one L) (by unfold maxLen; omega) (by omega) (by simp) ?_; intro v1 w1 o1 g1 a1; have O1 := OO.happend hn o1 g1; clear o1 g1 a1; obtain ⟨A1, c1, hv⟩ := hrow_slice O1; rw [hn] at hv; subst hv)
  have r1 := r.keep O1.bel
  clear hN OO
  refine (hB _ r1).mono ?_
  rintro e w2 ⟨rfl, b⟩
  have O := O1.keep b
  clear hB r1 b O1
  go_wp2_with fail
  refine (hI _).mono ?_
  rintro e w3 ⟨rfl, rfl⟩
  clear hI
  go_wp2_with fail
  go_loopw [7] (fun i wr => ∃ k : Nat, k ≤ n ∧ i = .int .i64 k ∧ Own w wr [hrow (.slice A1 n c1) (shTo L z k)]) (fun i _ => n - (intOf i).toNat)
  case atStart => exact ⟨0, by omega, rfl, by rw [shTo_zero]; exact O⟩
  case round =>
    clear O
    obtain ⟨k, hk, rfl, O⟩ := hrel
    have hl : (shTo L z k).length = n := by rw [shTo_len]; exact hn
    by_cases hlt : k < n
    · obtain ⟨g, cc, hA1⟩ := hrow_form O (by omega)
      injection hA1 with hA1
      subst hA1
      obtain ⟨p0, p1⟩ := O.hcell hl hlt
      have t1 := (hb.2 k (by omega)).1
      have hs := shTo_set (L := L) (z := z) (k := k) (by omega)
      have e := shTo_get (L := L) (z := z) (k := k) (by omega)
      obtain ⟨X, Y, hXY⟩ : ∃ X Y, hget L k = (X, Y) := ⟨_, _, rfl⟩
      obtain ⟨f0, O2⟩ := O.hstore0 hl hlt (X + z)
      rw [e] at p0 p1 O2
      rw [hXY] at p0 p1 t1 hs O2
      dsimp only at p0 p1 t1 hs O2
      rw [hs] at O2
      clear hXY e hs O hl r hb hn hS hend1 hend0 hA
      go_wp2_with fail
      go_roundw
      case rel => exact ⟨k + 1, by omega, by go_num, O2⟩
      case measure => simp [intOf]; omega
    · obtain rfl : k = n := by omega
      rw [← hn, shTo_all] at O
      rw [hn] at O
      have rS : HangRow wr A1 (shift L z) := O.hangs List.mem_cons_self rfl ((shift_length L z).trans hn).symm
      clear hb hl
      go_wp2_with fail
      refine (hS _ _ _ rS).mono ?_
      rintro e w4 ⟨rfl, b⟩
      replace O := O.keep b
      clear rS b hS
      cases ok
      · obtain rfl := hend0 rfl
        have r3 := r.keep O.bel
        have hN := hangRow_news r3
        have OO := (Own.none w).keep O.bel
        clear hend0 hend1 r r3 O
        go_wp2_with (at_builtin; refine wpList_append_any _ rfl (.tmp 40) (.tmp 41) 24 rfl w4.heap.size 34 i0 (.agg #[.int .i64 0, .int .i64 0]) 2 16 Try.underlying24 hi hz0 hz1 hz2 rfl (by decide) (.slice (some ⟨w4.heap.size, 0, none⟩) 0 0) 0 [] rfl (World.ownsRow_made w4 #[] 0 (Nat.le_refl _) (by decide) rfl) A k c (hcells M) rfl (by rw [hcells_len, hn]) hA (fun ad he j u hu => (World.cell?_alloc_lt _ _ _ (lt_of_cell (hN ad he j u hu))).trans (hN ad he j u hu)) (hcells_one M) (by unfold maxLen; omega) (by omega) (by simp) ?_; intro v5 w5 o1 g1 a1; have O5 := OO.happend hn o1 g1; clear o1 g1 a1; obtain ⟨A5, c5, hv⟩ := hrow_slice O5; rw [hn] at hv; subst hv)
        go_ret2
        clear hA hN OO
        exact O5.givesHB false
      · obtain rfl := hend1 rfl
        clear hend0 hend1 r hA
        go_wp2_with fail
        go_ret2
        exact O.givesHB true
end Go.Proofs.Ytajndcggafjmeaa
