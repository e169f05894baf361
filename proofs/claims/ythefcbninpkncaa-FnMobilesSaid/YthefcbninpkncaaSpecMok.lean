/-
  The contract of the model's check of a mobile. Only new memory is written.
-/
import Derived.Test.YthefcbninpkncaaSpecMob
namespace Go.Proofs.Ythefcbninpkncaa
open Go.ChangeShapes Go.WideShapes Go.ChangeAt Go.RowKit Go.PlainAid

theorem mok_yes {L : List PartT} (h : MOk L) : mok L = true := decide_eq_true h
theorem mok_no {L : List PartT} (h : ¬ MOk L) : mok L = false := decide_eq_false h
/-- From how many places each part hangs, among the first k. -/
def usedL (L : List PartT) (n k : Nat) : List Int := (List.range n).map fun j => (cnt L j k : Int)
def usedA (L : List PartT) (n k a : Nat) : List Int := (List.range n).map fun j => (cnt L j k : Int) + if a = j then 1 else 0
theorem usedL_get {L : List PartT} {n k j : Nat} (h : j < n) : (usedL L n k).getD j 0 = (cnt L j k : Int) := by
  unfold usedL
  rw [List.getD_eq_getElem?_getD, List.getElem?_map, List.getElem?_range h]; rfl
theorem usedA_get {L : List PartT} {n k a j : Nat} (h : j < n) : (usedA L n k a).getD j 0 = (cnt L j k : Int) + if a = j then 1 else 0 := by
  unfold usedA
  rw [List.getD_eq_getElem?_getD, List.getElem?_map, List.getElem?_range h]; rfl
theorem usedL_zero (L : List PartT) (n : Nat) : usedL L n 0 = List.replicate n 0 := by
  have : (fun j => ((cnt L j 0 : Nat) : Int)) = fun _ => 0 := rfl
  unfold usedL
  rw [this, List.map_const', List.length_range]
theorem range_ext {g : Nat → Int} {n : Nat} {M : List Int} (hl : M.length = n) (h : ∀ j, j < n → M.getD j 0 = g j) : M = (List.range n).map g := by
  refine List.ext_getElem (by simpa using hl) fun i h1 h2 => ?_
  have := h i (by omega)
  rw [List.getD_eq_getElem?_getD, List.getElem?_eq_getElem h1] at this
  simpa using this
theorem getD_set_int (U : List Int) (a j : Nat) (x : Int) (h : j < U.length) : (U.set a x).getD j 0 = if a = j then x else U.getD j 0 := by
  rw [List.getD_eq_getElem?_getD, List.getD_eq_getElem?_getD]
  by_cases e : a = j
  · subst e
    rw [if_pos rfl, List.getElem?_set_self h]; rfl
  · rw [if_neg e, List.getElem?_set_ne e]
theorem used_one (L : List PartT) (n k a : Nat) : (usedL L n k).set a ((cnt L a k : Int) + 1) = usedA L n k a := by
  have hl : (usedL L n k).length = n := by simp [usedL]
  refine range_ext (by rw [List.length_set]; exact hl) fun j hj => ?_
  rw [getD_set_int _ _ _ _ (by omega), usedL_get hj]
  by_cases e : a = j
  · subst e; rw [if_pos rfl, if_pos rfl]
  · rw [if_neg e, if_neg e, Int.add_zero]
theorem used_two {L : List PartT} {n k a b : Nat} (h1 : (ptget L k).left = (a : Int)) (h2 : (ptget L k).right = (b : Int)) : (usedA L n k a).set b ((cnt L b k : Int) + (if a = b then 1 else 0) + 1) = usedL L n (k + 1) := by
  have hl : (usedA L n k a).length = n := by simp [usedA]
  refine range_ext (by rw [List.length_set]; exact hl) fun j hj => ?_
  rw [getD_set_int _ _ _ _ (by omega), usedA_get hj]
  have e1 : cnt L j (k + 1) = cnt L j k + (if (ptget L k).left = (j : Int) then 1 else 0) + (if (ptget L k).right = (j : Int) then 1 else 0) := rfl
  rw [e1, h1, h2]
  by_cases e : b = j
  · subst e
    rw [if_pos rfl]
    by_cases e2 : a = b
    · subst e2; simp
    · have : ¬ (a : Int) = b := by omega
      simp [e2, this]
  · have n2 : ¬ (b : Int) = j := by omega
    rw [if_neg e, if_neg n2]
    by_cases e2 : a = j
    · subst e2; simp
    · have : ¬ (a : Int) = j := by omega
      simp [e2, this]
theorem used_wt {L : List PartT} {n k : Nat} (h1 : (ptget L k).left = -1) (h2 : (ptget L k).right = -1) : usedL L n (k + 1) = usedL L n k := by
  unfold usedL
  refine List.map_congr_left fun j _ => ?_
  have e1 : cnt L j (k + 1) = cnt L j k + (if (ptget L k).left = (j : Int) then 1 else 0) + (if (ptget L k).right = (j : Int) then 1 else 0) := rfl
  rw [e1, h1, h2, if_neg (by omega)]
  rfl
theorem cnt_le (L : List PartT) (j : Nat) : ∀ k, cnt L j k ≤ 2 * k
  | 0 => Nat.le_refl _
  | k + 1 => by
    have := cnt_le L j k
    show cnt L j k + _ + _ ≤ _
    split <;> split <;> omega
set_option maxRecDepth 100000 in
set_option maxHeartbeats 3000000 in
theorem specMok (A : Option Addr) (n c : Nat) (L : List PartT) (w : World) (hn : L.length = n) (hm : n ≤ 1048576) (r : PartRow w A L) :
    Calls Try.prog 18 #[.slice A n c] w (SaysB (mok L) w) := by
  obtain ⟨i0, hi, hz0, hz1, hz2⟩ := info_parts Try.infoIntT
  by_cases hlen : 1 ≤ (n : Int) ∧ (n : Int) ≤ 15
  · obtain ⟨z, hz⟩ : ∃ z, mok L = z := ⟨_, rfl⟩
    rw [hz]
    have n0 := Own.none w
    go_enter Try.func18, Try.ntmps18
    go_wp2_with fail
    refine (in_to true n 1 15 _ (decide_eq_true hlen)).mono ?_
    rintro e w9 ⟨rfl, rfl⟩
    go_wp2_with (at_make; refine wpList_make_full _ rfl _ _ 51 rfl w.heap.size 3 i0 (.int .i64 0) 1 Try.underlying51 hi hz0 hz1 .i64 .i64 _ _ n rfl rfl rfl rfl (by rw [hz2]; omega) (by unfold maxLen; omega) (Nat.le_refl _) ?_; intro w1 hown0 hgrow0)
    have O0 := n0.made hown0 hgrow0
    rw [← usedL_zero L n] at O0
    clear hown0 hgrow0 n0
    generalize w.heap.size = g at O0 ⊢
    go_loopw [5] (fun i wr => ∃ k : Nat, k ≤ n ∧ i = .int .i64 k ∧ (∀ j, j < k → PtOk n j (ptget L j)) ∧ Own w wr [irow (.slice (some ⟨g, 0, none⟩) n n) (usedL L n k)]) (fun i _ => n - (intOf i).toNat)
    case atStart => exact ⟨0, by omega, rfl, (fun j h => by omega), O0⟩
    case round =>
      clear O0
      obtain ⟨k, hk, rfl, P, O⟩ := hrel
      by_cases hlt : k < n
      · obtain ⟨x, rfl, hx, c0, d1, d2, d3, d4⟩ := (r.keep O.bel).at (j := k) (by omega)
        replace c0 := c0.1
        have hQ0 : PtOk n k (ptget L k) → ∀ j, j < k + 1 → PtOk n j (ptget L j) := fun q j hj => by
          by_cases e : j = k
          · subst e; exact q
          · exact P j (by omega)
        have hZ0 : ¬ PtOk n k (ptget L k) → z = false := fun q => by
          rw [← hz]
          exact mok_no fun m => q (by have := m.part k (by omega); rwa [hn] at this)
        have O' := own_box O (ptget L k)
        obtain ⟨yl, hXl⟩ : ∃ y, (ptget L k).left = y := ⟨_, rfl⟩
        obtain ⟨yr, hXr⟩ : ∃ y, (ptget L k).right = y := ⟨_, rfl⟩
        obtain ⟨ya, hXa⟩ : ∃ y, (ptget L k).armLeft = y := ⟨_, rfl⟩
        obtain ⟨yb, hXb⟩ : ∃ y, (ptget L k).armRight = y := ⟨_, rfl⟩
        obtain ⟨yw, hXw⟩ : ∃ y, (ptget L k).weight = y := ⟨_, rfl⟩
        unfold PtOk WtOk BmOk at hQ0 hZ0
        unfold bxobj bxrow at O'
        rw [hXl, hXr, hXa, hXb, hXw] at hQ0 hZ0 O' 
        rw [hXl] at c0
        rw [hXr] at d1
        rw [hXa] at d2
        rw [hXb] at d3
        rw [hXw] at d4
        replace O' : Own w (wr.alloc (.cells #[.int .i64 yl, .int .i64 yr, .int .i64 ya, .int .i64 yb, .int .i64 yw] 33)) [bxrow wr.heap.size ⟨yl, yr, ya, yb, yw⟩, irow (.slice (some ⟨g, 0, none⟩) n n) (usedL L n k)] := O'
        clear hXa hXb hXw O
        have hz1 := hz
        clear hz
        go_upto_region 9 with fail
        generalize wr.heap.size = p at O' ⊢
        generalize wr.alloc (.cells #[.int .i64 yl, .int .i64 yr, .int .i64 ya, .int .i64 yb, .int .i64 yw] 33) = W0 at O' ⊢
        have O := O'
        clear O' c0 d1 d2 d3 d4 hx
        obtain ⟨x0, x1, x2, x3, x4⟩ := bx_cells O (p := p) List.mem_cons_self
        by_cases hl : yl = -1
        · rw [if_pos hl] at hQ0 hZ0
          have hQ := hQ0
          have hZ := hZ0
          subst hl
          clear hQ0 hZ0 P
          by_cases h0 : yr = -1
          · skip
            by_cases h1 : ya = 0
            · skip
              by_cases h2 : yb = 0
              · skip
                by_cases h3 : 1 ≤ yw ∧ yw ≤ 1000
                · skip
                  have P2 := hQ ⟨h0, h1, h2, h3⟩
                  have U2 := used_wt (n := n) hXl (hXr.trans h0)
                  rw [← U2] at O
                  replace O := O.tl
                  clear hQ hZ
                  go_wp2_with fail
                  refine (in_to true yw 1 1000 _ (decide_eq_true h3)).mono ?_
                  rintro e w9 ⟨rfl, rfl⟩
                  go_wp2_with fail
                  go_roundw
                  case rel => exact ⟨k + 1, by omega, by go_num, P2, O⟩
                  case measure => simp [intOf]; omega
                · obtain rfl : z = false := hZ (fun q => h3 (q.2.2.2))
                  clear hQ hZ
                  go_wp2_with fail
                  refine (in_to false yw 1 1000 _ (decide_eq_false h3)).mono ?_
                  rintro e w9 ⟨rfl, rfl⟩
                  go_wp2_with fail
                  go_ret
                  exact ⟨rfl, O.bel⟩
              · obtain rfl : z = false := hZ (fun q => h2 (q.2.2.1))
                clear hQ hZ
                go_wp2_with fail
                go_ret
                exact ⟨rfl, O.bel⟩
            · obtain rfl : z = false := hZ (fun q => h1 (q.2.1))
              clear hQ hZ
              go_wp2_with fail
              go_ret
              exact ⟨rfl, O.bel⟩
          · obtain rfl : z = false := hZ (fun q => h0 (q.1))
            clear hQ hZ
            go_wp2_with fail
            go_ret
            exact ⟨rfl, O.bel⟩
        · rw [if_neg hl] at hQ0 hZ0
          have hQ := hQ0
          have hZ := hZ0
          clear hQ0 hZ0 P
          by_cases h0 : (k : Int) + 1 ≤ yl ∧ yl ≤ (n : Int) - 1
          · skip
            by_cases h1 : (k : Int) + 1 ≤ yr ∧ yr ≤ (n : Int) - 1
            · skip
              by_cases h2 : 1 ≤ ya ∧ ya ≤ 20
              · skip
                by_cases h3 : 1 ≤ yb ∧ yb ≤ 20
                · skip
                  by_cases h4 : yw = 0
                  · skip
                    have P2 := hQ ⟨h0, h1, h2, h3, h4⟩
                    obtain ⟨a, rfl⟩ := Int.eq_ofNat_of_zero_le (show 0 ≤ yl by omega)
                    obtain ⟨b, rfl⟩ := Int.eq_ofNat_of_zero_le (show 0 ≤ yr by omega)
                    have ha : a < n := by omega
                    have hb : b < n := by omega
                    have hlen : (usedL L n k).length = n := by simp [usedL]
                    have hlen1 : (usedA L n k a).length = n := by simp [usedA]
                    have g1 := usedL_get (L := L) (k := k) ha
                    have g2 := usedA_get (L := L) (k := k) (a := a) hb
                    have l1 := cnt_le L a k
                    have l2 := cnt_le L b k
                    have k1 := O.swap.cell hlen ha
                    obtain ⟨-, f1, O1⟩ := O.swap.store hlen ha ((cnt L a k : Int) + 1)
                    rw [used_one] at O1
                    rw [g1] at k1
                    replace O1 := O1.keep (below_drew' (Below.refl _ _))
                    have k2 := O1.cell hlen1 hb
                    obtain ⟨-, f2, O2⟩ := O1.store hlen1 hb ((cnt L b k : Int) + (if a = b then 1 else 0) + 1)
                    rw [used_two hXl hXr] at O2
                    rw [g2] at k2
                    replace O2 := (O2.keep (below_drew' (Below.refl _ _))).swap.tl
                    obtain ⟨y0, y1, y2, y3, y4⟩ := bx_cells O1 (p := p) (List.mem_cons_of_mem _ List.mem_cons_self)
                    obtain ⟨c, hc⟩ : ∃ c : Nat, cnt L a k = c := ⟨_, rfl⟩
                    obtain ⟨d, hd⟩ : ∃ d : Int, (cnt L b k : Int) + (if a = b then 1 else 0) = d := ⟨_, rfl⟩
                    have hd2 : 0 ≤ d ∧ d ≤ 40 := by rw [← hd]; split <;> omega
                    rw [hc] at k1 k2 f2 O2 l1 y0 y1
                    rw [hd] at k2 O2
                    generalize hW2 : (W0.setCell ⟨g, a, none⟩ (.int .i64 ((c : Int) + 1))).drew = W2 at k2 f2 O2 y0 y1
                    clear hQ hZ y2 y3 y4 O1 g1 g2 hlen hlen1 l2 hc hd hXl hXr hz1
                    go_wp2_with fail
                    refine (in_to true (a : Int) ((k : Int) + 1) ((n : Int) - 1) _ (decide_eq_true h0)).mono ?_
                    rintro e w9 ⟨rfl, rfl⟩
                    go_wp2_with fail
                    refine (in_to true (b : Int) ((k : Int) + 1) ((n : Int) - 1) _ (decide_eq_true h1)).mono ?_
                    rintro e w9 ⟨rfl, rfl⟩
                    go_wp2_with fail
                    refine (in_to true ya 1 20 _ (decide_eq_true h2)).mono ?_
                    rintro e w9 ⟨rfl, rfl⟩
                    go_wp2_with fail
                    refine (in_to true yb 1 20 _ (decide_eq_true h3)).mono ?_
                    rintro e w9 ⟨rfl, rfl⟩
                    go_wp2_with fail
                    go_region
                    all_goals
                      (try rw [hW2])
                      clear hW2 k1 f1
                      go_wp2_with fail
                      go_region
                      all_goals
                        clear k2 f2 y0 y1
                        go_wp2_with fail
                        go_roundw
                        case rel => exact ⟨k + 1, by omega, by go_num, P2, O2⟩
                        case measure => simp [intOf]; omega
                  · obtain rfl : z = false := hZ (fun q => h4 (q.2.2.2.2))
                    clear hQ hZ
                    go_wp2_with fail
                    refine (in_to true yl ((k : Int) + 1) ((n : Int) - 1) _ (decide_eq_true h0)).mono ?_
                    rintro e w9 ⟨rfl, rfl⟩
                    go_wp2_with fail
                    refine (in_to true yr ((k : Int) + 1) ((n : Int) - 1) _ (decide_eq_true h1)).mono ?_
                    rintro e w9 ⟨rfl, rfl⟩
                    go_wp2_with fail
                    refine (in_to true ya 1 20 _ (decide_eq_true h2)).mono ?_
                    rintro e w9 ⟨rfl, rfl⟩
                    go_wp2_with fail
                    refine (in_to true yb 1 20 _ (decide_eq_true h3)).mono ?_
                    rintro e w9 ⟨rfl, rfl⟩
                    go_wp2_with fail
                    go_ret
                    exact ⟨rfl, O.bel⟩
                · obtain rfl : z = false := hZ (fun q => h3 (q.2.2.2.1))
                  clear hQ hZ
                  go_wp2_with fail
                  refine (in_to true yl ((k : Int) + 1) ((n : Int) - 1) _ (decide_eq_true h0)).mono ?_
                  rintro e w9 ⟨rfl, rfl⟩
                  go_wp2_with fail
                  refine (in_to true yr ((k : Int) + 1) ((n : Int) - 1) _ (decide_eq_true h1)).mono ?_
                  rintro e w9 ⟨rfl, rfl⟩
                  go_wp2_with fail
                  refine (in_to true ya 1 20 _ (decide_eq_true h2)).mono ?_
                  rintro e w9 ⟨rfl, rfl⟩
                  go_wp2_with fail
                  refine (in_to false yb 1 20 _ (decide_eq_false h3)).mono ?_
                  rintro e w9 ⟨rfl, rfl⟩
                  go_wp2_with fail
                  go_ret
                  exact ⟨rfl, O.bel⟩
              · obtain rfl : z = false := hZ (fun q => h2 (q.2.2.1))
                clear hQ hZ
                go_wp2_with fail
                refine (in_to true yl ((k : Int) + 1) ((n : Int) - 1) _ (decide_eq_true h0)).mono ?_
                rintro e w9 ⟨rfl, rfl⟩
                go_wp2_with fail
                refine (in_to true yr ((k : Int) + 1) ((n : Int) - 1) _ (decide_eq_true h1)).mono ?_
                rintro e w9 ⟨rfl, rfl⟩
                go_wp2_with fail
                refine (in_to false ya 1 20 _ (decide_eq_false h2)).mono ?_
                rintro e w9 ⟨rfl, rfl⟩
                go_wp2_with fail
                go_ret
                exact ⟨rfl, O.bel⟩
            · obtain rfl : z = false := hZ (fun q => h1 (q.2.1))
              clear hQ hZ
              go_wp2_with fail
              refine (in_to true yl ((k : Int) + 1) ((n : Int) - 1) _ (decide_eq_true h0)).mono ?_
              rintro e w9 ⟨rfl, rfl⟩
              go_wp2_with fail
              refine (in_to false yr ((k : Int) + 1) ((n : Int) - 1) _ (decide_eq_false h1)).mono ?_
              rintro e w9 ⟨rfl, rfl⟩
              go_wp2_with fail
              go_ret
              exact ⟨rfl, O.bel⟩
          · obtain rfl : z = false := hZ (fun q => h0 (q.1))
            clear hQ hZ
            go_wp2_with fail
            refine (in_to false yl ((k : Int) + 1) ((n : Int) - 1) _ (decide_eq_false h0)).mono ?_
            rintro e w9 ⟨rfl, rfl⟩
            go_wp2_with fail
            go_ret
            exact ⟨rfl, O.bel⟩
      · obtain rfl : k = n := by omega
        go_wp2_with fail
        go_loopw [7] (fun i w2 => ∃ j : Nat, 1 ≤ j ∧ j ≤ k ∧ i = .int .i64 j ∧ (∀ t, 1 ≤ t → t < j → cnt L t k = 1) ∧ w2 = wr) (fun i _ => k - (intOf i).toNat)
        case atStart => exact ⟨1, by omega, by omega, rfl, (fun t h1 h2 => by omega), rfl⟩
        case round =>
          obtain ⟨j, h1, hj, rfl, Q, rfl⟩ := hrel
          by_cases hjk : j < k
          · have c1 := O.cell (by simp [usedL]) hjk
            rw [usedL_get hjk] at c1
            by_cases one : cnt L j k = 1
            · rw [one] at c1
              have Q2 : ∀ t, 1 ≤ t → t < j + 1 → cnt L t k = 1 := fun t a b => by
                by_cases e : t = j
                · subst e; exact one
                · exact Q t a (by omega)
              clear one hz
              go_wp2_with fail
              go_roundw
              case rel => exact ⟨j + 1, by omega, by omega, by go_num, Q2, trivial⟩
              case measure => simp [intOf]; omega
            · obtain rfl : z = false := by
                rw [← hz]
                exact mok_no fun m => one (by have := m.once j (by omega) h1; rwa [hn] at this)
              have one2 : ¬ ((cnt L j k : Nat) : Int) = 1 := by omega
              generalize cnt L j k = t at c1 one2
              clear hz one
              go_wp2_with fail
              go_ret
              exact ⟨rfl, O.bel⟩
          · obtain rfl : z = true := by
              rw [← hz]
              exact mok_yes ⟨by omega, by omega, by rw [hn]; exact P, by rw [hn]; exact fun t a b => Q t b (by omega)⟩
            clear hz
            go_wp2_with fail
            go_ret
            exact ⟨rfl, O.bel⟩
  · rw [mok_no fun m => hlen ⟨by have := m.one; omega, by have := m.len; omega⟩]
    clear r
    go_enter Try.func18, Try.ntmps18
    go_wp2_with fail
    refine (in_to false n 1 15 _ (decide_eq_false hlen)).mono ?_
    rintro e w9 ⟨rfl, rfl⟩
    go_wp2_with fail
    go_ret
    exact ⟨rfl, Below.refl _ _⟩
end Go.Proofs.Ythefcbninpkncaa
