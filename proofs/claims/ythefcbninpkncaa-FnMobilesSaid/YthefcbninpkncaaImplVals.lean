/-
  The contracts of the program's weight of a part, first tilted beam, balance and numbers of parts. Only new memory is written.
-/
import Derived.Test.YthefcbninpkncaaImplPull
import Derived.Test.YthefcbninpkncaaSpecMore
namespace Go.Proofs.Ythefcbninpkncaa
open Go.ChangeShapes Go.WideShapes Go.ChangeAt Go.RowKit Go.PlainAid

set_option maxHeartbeats 1000000 in
theorem implWof (A : Option Addr) (n c : Nat) (L : List PartT) (m : Int) (w : World) (hn : L.length = n) (hm : n ≤ 1048576) (r : PartRow w A L) :
    Calls Try.prog 16 #[.slice A n c, .int .i64 m] w (SaysI (wof L m) w) := by
  have hB := fun W (r : PartRow W A L) => implMok A n c L W hn hm r
  by_cases hb : MOk L
  · rw [mok_yes hb] at hB
    by_cases h0 : m < 0
    · rw [wof_no (fun h => by omega)]
      clear hb hn
      go_enter Try.func16, Try.ntmps16
      go_wp2_with fail
      refine (hB _ r).mono ?_
      rintro e w1 ⟨rfl, b⟩
      clear hB r
      go_wp2_with fail
      go_ret
      exact ⟨rfl, b⟩
    · obtain ⟨k, rfl⟩ := Int.eq_ofNat_of_zero_le (show 0 ≤ m by omega)
      by_cases hk : k < n
      · obtain ⟨x, rfl, -⟩ := r.ptAt (j := k) (by omega)
        have s := sm_wu hb (k := k) (by omega)
        have hu : ∀ i ∈ lv L k, 0 ≤ wu L i := fun i hi => by
          have := wu_le hb (lv_lt (by omega) hi) (lv_wt_of _ _ hi)
          omega
        have hW := implWt hb x n c hn k (by omega) hu (by omega)
        rw [put_wu] at hW
        rw [wof_yes hb (by omega)]
        generalize sm L (wu L) k = v at hW s ⊢
        clear hu hb hn h0
        go_enter Try.func16, Try.ntmps16
        go_wp2_with fail
        refine (hB _ r).mono ?_
        rintro e w1 ⟨rfl, b⟩
        replace r := r.keep b
        clear hB
        go_wp2_with fail
        refine (hW _ r).mono ?_
        rintro e w2 ⟨rfl, b2⟩
        clear hW r
        go_wp2_with fail
        go_ret
        exact ⟨rfl, below_more b b.size b2⟩
      · rw [wof_no (fun h => by omega)]
        have hk2 : n ≤ k := by omega
        clear hb hn h0 hk
        go_enter Try.func16, Try.ntmps16
        go_wp2_with fail
        refine (hB _ r).mono ?_
        rintro e w1 ⟨rfl, b⟩
        clear hB r
        go_wp2_with fail
        go_ret
        exact ⟨rfl, b⟩
  · rw [mok_no hb] at hB
    rw [wof_no (fun h => hb h.1)]
    clear hb hn
    go_enter Try.func16, Try.ntmps16
    go_wp2_with fail
    refine (hB _ r).mono ?_
    rintro e w1 ⟨rfl, b⟩
    clear hB r
    go_wp2_with fail
    go_ret
    exact ⟨rfl, b⟩
set_option maxHeartbeats 2000000 in
theorem implFt (A : Option Addr) (n c : Nat) (L : List PartT) (w : World) (hn : L.length = n) (hm : n ≤ 1048576) (r : PartRow w A L) :
    Calls Try.prog 15 #[.slice A n c] w (SaysI (ft L) w) := by
  have hB := fun W (r : PartRow W A L) => implMok A n c L W hn hm r
  by_cases hb : MOk L
  · rw [mok_yes hb] at hB
    have n15 : n ≤ 15 := by have := hb.len; omega
    have hsome := fun {k : Nat} (hk : k < L.length) (ht : Tilt L k) (g : ∀ j, j < k → ¬ Tilt L j) => ft_some hb hk ht g
    have hnone := fun (g : ∀ j, j < L.length → ¬ Tilt L j) => ft_none hb g
    generalize ft L = t at hsome hnone ⊢
    go_enter Try.func15, Try.ntmps15
    go_wp2_with fail
    refine (hB _ r).mono ?_
    rintro e w1 ⟨rfl, b⟩
    replace r := r.keep b
    clear hB
    go_wp2_with fail
    go_loopw [10] (fun i wr => ∃ k : Nat, k ≤ n ∧ i = .int .i64 k ∧ (∀ j, j < k → ¬ Tilt L j) ∧ Below w1.heap.size w1 wr) (fun i _ => n - (intOf i).toNat)
    case atStart => exact ⟨0, by omega, rfl, (fun j h => by omega), Below.refl _ _⟩
    case round =>
      obtain ⟨k, hk, rfl, T, kb⟩ := hrel
      by_cases hlt : k < n
      · have hkl : k < L.length := by omega
        have rk := r.keep kb
        obtain ⟨x, rfl, pt⟩ := rk.ptAt hkl
        have hW := isWt_any _ _ wr pt
        have hT2 : ¬ Tilt L k → ∀ j, j < k + 1 → ¬ Tilt L j := fun q j hj => by
          by_cases e : j = k
          · subst e; exact q
          · exact T j (by omega)
        have hS : Tilt L k → t = (k : Int) := fun q => hsome hkl q T
        by_cases hl : (ptget L k).left = -1
        · rw [decide_eq_true hl] at hW
          replace hT2 := hT2 fun q => q.1.1 hl
          clear hS pt hsome hnone rk T
          go_wp2_with fail
          refine hW.mono ?_
          rintro e w2 ⟨rfl, rfl⟩
          clear hW
          go_wp2_with fail
          go_roundw
          case rel => exact ⟨k + 1, by omega, by go_num, hT2, kb⟩
          case measure => simp [intOf]; omega
        · rw [decide_eq_false hl] at hW
          have bm := (hb.bm hkl hl).1
          have bb := bm.2
          have s1 := sm_wu hb (k := lc L k) (by omega)
          have s2 := sm_wu hb (k := rc L k) (by omega)
          have hu : ∀ i ∈ lv L k, 0 ≤ wu L i := fun i hi => by
            have := wu_le hb (lv_lt hkl hi) (lv_wt_of _ _ hi)
            omega
          have hP := implTilted hb x n c hn k hkl bm hu (by omega) (by omega)
          rw [put_wu] at hP
          replace hP := hP wr rk
          by_cases lev : Lvl L (wu L) k
          · rw [decide_eq_true lev] at hP
            replace hT2 := hT2 fun q => q.2 lev
            clear hS pt hsome hnone rk T hu s1 s2 bb bm hl lev
            go_wp2_with fail
            refine hW.mono ?_
            rintro e w2 ⟨rfl, rfl⟩
            clear hW
            go_wp2_with fail
            refine hP.mono ?_
            rintro e w3 ⟨rfl, b3⟩
            replace kb := below_more kb kb.size b3
            clear hP b3
            go_wp2_with fail
            go_roundw
            case rel => exact ⟨k + 1, by omega, by go_num, hT2, kb⟩
            case measure => simp [intOf]; omega
          · rw [decide_eq_false lev] at hP
            obtain rfl : t = (k : Int) := hS ⟨bm, lev⟩
            clear hS pt hsome hnone rk T hu s1 s2 bb bm hl lev hT2
            go_wp2_with fail
            refine hW.mono ?_
            rintro e w2 ⟨rfl, rfl⟩
            clear hW
            go_wp2_with fail
            refine hP.mono ?_
            rintro e w3 ⟨rfl, b3⟩
            replace kb := below_more kb kb.size b3
            clear hP b3
            go_wp2_with fail
            go_ret
            exact ⟨rfl, below_more b b.size kb⟩
      · obtain rfl : k = n := by omega
        obtain rfl : t = -1 := hnone (by rw [hn]; exact T)
        clear hsome hnone T
        go_wp2_with fail
        go_ret
        exact ⟨rfl, below_more b b.size kb⟩
  · rw [mok_no hb] at hB
    rw [ft_no hb]
    clear hb hn
    go_enter Try.func15, Try.ntmps15
    go_wp2_with fail
    refine (hB _ r).mono ?_
    rintro e w1 ⟨rfl, b⟩
    clear hB r
    go_wp2_with fail
    go_ret
    exact ⟨rfl, b⟩
theorem ftF_ge {L : List PartT} : ∀ f k, ftF L f k < 0 → ftF L f k = -1
  | 0, _, _ => rfl
  | f + 1, k, h => by
    have e : ftF L (f + 1) k = if Tilt L k then (k : Int) else ftF L f (k + 1) := rfl
    rw [e] at h ⊢
    by_cases t : Tilt L k
    · rw [if_pos t] at h; omega
    · rw [if_neg t] at h ⊢
      exact ftF_ge f (k + 1) h
theorem ft_lt {L : List PartT} (h : ft L < 0) : ft L = -1 := by
  unfold ft at h ⊢
  by_cases m : MOk L
  · rw [if_pos m] at h ⊢; exact ftF_ge _ _ h
  · rw [if_neg m]
theorem implBal (A : Option Addr) (n c : Nat) (L : List PartT) (w : World) (hn : L.length = n) (hm : n ≤ 1048576) (r : PartRow w A L) :
    Calls Try.prog 14 #[.slice A n c] w (SaysB (mok L && decide (ft L < 0)) w) := by
  have hB := fun W (r : PartRow W A L) => implMok A n c L W hn hm r
  have hT := fun W (r : PartRow W A L) => implFt A n c L W hn hm r
  have h1 := @ft_lt L
  generalize ft L = t at hT h1 ⊢
  cases h : mok L
  · rw [h] at hB
    clear hT h1 hn
    go_enter Try.func14, Try.ntmps14
    go_wp2_with fail
    refine (hB _ r).mono ?_
    rintro e w1 ⟨rfl, b⟩
    clear hB r
    go_wp2_with fail
    go_ret
    exact ⟨rfl, b⟩
  · rw [h] at hB
    clear hn
    by_cases ht : t < 0
    · obtain rfl : t = -1 := h1 ht
      clear h1 ht
      go_enter Try.func14, Try.ntmps14
      go_wp2_with fail
      refine (hB _ r).mono ?_
      rintro e w1 ⟨rfl, b⟩
      replace r := r.keep b
      clear hB
      go_wp2_with fail
      refine (hT _ r).mono ?_
      rintro e w2 ⟨rfl, b2⟩
      clear hT r
      go_wp2_with fail
      go_ret
      exact ⟨by simp, below_more b b.size b2⟩
    · have hne : ¬ t = -1 := by omega
      clear h1
      go_enter Try.func14, Try.ntmps14
      go_wp2_with fail
      refine (hB _ r).mono ?_
      rintro e w1 ⟨rfl, b⟩
      replace r := r.keep b
      clear hB
      go_wp2_with fail
      refine (hT _ r).mono ?_
      rintro e w2 ⟨rfl, b2⟩
      clear hT r
      go_wp2_with fail
      go_ret
      exact ⟨by rw [decide_eq_false (show ¬ t < 0 by omega)]; simp [hne], below_more b b.size b2⟩
set_option maxHeartbeats 2000000 in
theorem implCount (A : Option Addr) (n c : Nat) (L : List PartT) (w : World) (hn : L.length = n) (hm : n ≤ 1048576) (r : PartRow w A L) :
    Calls Try.prog 13 #[.slice A n c] w (SaysTwo (cpA L) (cpB L) w) := by
  have hB := fun W (r : PartRow W A L) => implMok A n c L W hn hm r
  by_cases hb : MOk L
  · rw [mok_yes hb] at hB
    have e1 : cpA L = (cw L n : Int) := by unfold cpA; rw [if_pos hb, hn]
    have e2 : cpB L = (cb L n : Int) := by unfold cpB; rw [if_pos hb, hn]
    have n15 : n ≤ 15 := by have := hb.len; omega
    have hcb := cw_cb L n
    rw [e1, e2, show (cb L n : Int) = (n : Int) - (cw L n : Int) by omega]
    clear e1 e2 hcb
    go_enter Try.func13, Try.ntmps13
    go_wp2_with fail
    refine (hB _ r).mono ?_
    rintro e w1 ⟨rfl, b⟩
    replace r := r.keep b
    clear hB
    go_wp2_with fail
    go_loopw [12, 4] (fun i x wr => ∃ k : Nat, k ≤ n ∧ i = .int .i64 k ∧ x = .int .i64 (cw L k : Nat) ∧ wr = w1) (fun i _ _ => n - (intOf i).toNat)
    case atStart => exact ⟨0, by omega, rfl, rfl, rfl⟩
    case round =>
      obtain ⟨k, hk, rfl, rfl, rfl⟩ := hrel
      by_cases hlt : k < n
      · obtain ⟨x, rfl, pt⟩ := r.ptAt (j := k) (by omega)
        have hW := isWt_any _ _ wr pt
        have hcb := cw_cb L k
        have s1 : cw L (k + 1) = if (ptget L k).left = -1 then cw L k + 1 else cw L k := rfl
        by_cases hl : (ptget L k).left = -1
        · rw [decide_eq_true hl] at hW
          rw [if_pos hl] at s1
          generalize cw L k = p at s1 hcb ⊢
          clear pt hl
          go_wp2_with fail
          refine hW.mono ?_
          rintro e w2 ⟨rfl, rfl⟩
          clear hW
          go_wp2_with fail
          go_roundw
          case rel => exact ⟨k + 1, by omega, by go_num, congrArg (Value.int .i64) (by omega), trivial⟩
          case measure => simp [intOf]; omega
        · rw [decide_eq_false hl] at hW
          rw [if_neg hl] at s1
          generalize cw L k = p at s1 hcb ⊢
          clear pt hl
          go_wp2_with fail
          refine hW.mono ?_
          rintro e w2 ⟨rfl, rfl⟩
          clear hW
          go_wp2_with fail
          go_roundw
          case rel => exact ⟨k + 1, by omega, by go_num, congrArg (Value.int .i64) (by omega), trivial⟩
          case measure => simp [intOf]; omega
      · obtain rfl : k = n := by omega
        have hcb := cw_cb L k
        have hpk : cw L k ≤ k := by omega
        clear hcb
        go_wp2_with fail
        go_ret2
        exact ⟨rfl, b⟩
  · rw [mok_no hb] at hB
    have e1 : cpA L = 0 := if_neg hb
    have e2 : cpB L = 0 := if_neg hb
    rw [e1, e2]
    clear e1 e2 hb hn
    go_enter Try.func13, Try.ntmps13
    go_wp2_with fail
    refine (hB _ r).mono ?_
    rintro e w1 ⟨rfl, b⟩
    clear hB r
    go_wp2_with fail
    go_ret2
    exact ⟨rfl, b⟩
end Go.Proofs.Ythefcbninpkncaa
