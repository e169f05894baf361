/-
  The contract of the program's merged beam: sorted by the library, then merged hang by hang. Only new memory is written.
-/
import Derived.Test.YtajndcggafjmeaaShift
import Derived.Test.YtajndcggafjmeaaMerge
import Derived.Test.YtajndcggafjmeaaHangSort
import Derived.Deep.DeepCutAuto
namespace Go.Proofs.Ytajndcggafjmeaa
open Go.ChangeShapes Go.WideShapes Go.ChangeAt Go.RowKit Go.PlainAid

theorem below_drew_h {B : Nat} {a w : World} (h : Below B a w) : Below B a w.drew := ⟨h.os, h.tape, h.output, h.size, h.block⟩
theorem set_last (M : List Hg) (a b : Hg) : (M ++ [a]).set M.length b = M ++ [b] := by
  rw [List.set_append_right _ _ (Nat.le_refl _), Nat.sub_self]; rfl
theorem hget_last (M : List Hg) (a : Hg) : hget (M ++ [a]) M.length = a := by
  unfold hget
  rw [List.getD_eq_getElem?_getD, List.getElem?_append_right (Nat.le_refl _), Nat.sub_self]; rfl
theorem nil_or_last (M : List Hg) : M = [] ∨ ∃ M0 p q, M = M0 ++ [(p, q)] := by
  rcases List.eq_nil_or_concat M with h | ⟨M0, ⟨p, q⟩, h⟩
  · exact .inl h
  · exact .inr ⟨M0, p, q, by rw [h]; simp⟩
set_option maxHeartbeats 4000000 in
theorem implMerge (A : Option Addr) (n c : Nat) (L : List Hg) (w : World) (hn : L.length = n) (hA : A = none → n = 0 ∧ c = 0) (r : HangRow w A L) :
    Calls Try.prog 17 #[.slice A n c] w (HCopied (mg L) w) := by
  obtain ⟨i0, hi, hz0, hz1, hz2⟩ := info_parts Try.infoHangT
  have hB := fun W (r : HangRow W A L) => implOk_beam A n c L W hn r
  by_cases hb : BOk L
  · rw [bok_yes hb] at hB
    have h12 : n ≤ 12 := by have := hb.1; omega
    have hL := allOk_iff.1 hb.2
    have hC := fun W (r : HangRow W A L) => implCopy_h A n c L W hn (by omega) hA r
    have hS := fun A2 c2 W (O : Own w W [hrow (.slice A2 L.length c2) L]) => sort_h w A2 c2 L [] W hb.1 O
    clear hA
    go_enter Try.func17, Try.ntmps17
    go_wp2_with fail
    refine (hB _ r).mono ?_
    rintro e w1 ⟨rfl, b⟩
    have r1 := r.keep b
    clear hB
    go_wp2_with fail
    refine (hC _ r1).mono ?_
    rintro e w2 ⟨A2, c2, rfl, o, b2⟩
    have O := ((Own.none w).keep b).hcopy o b2
    replace hS := hS A2 c2 w2 O
    rw [hn] at hS O ⊢
    clear r1 o b b2 hC r O
    go_wp2_with fail
    refine hS.mono ?_
    rintro e w3 ⟨rfl, S, hp, hs, O⟩
    rw [hn] at O
    have sn : S.length = n := hp.length_eq.trans hn
    have hSok : ∀ x ∈ S, Hok x := fun x hx => hL x (hp.mem_iff.1 hx)
    replace O := (O.hnil)
    clear hS
    go_wp2_with fail
    go_loopw [17, 4] (fun i v wr => ∃ (k : Nat) (M : List Hg), k ≤ n ∧ i = .int .i64 k ∧ IsMerge (S.take k) M ∧ M.length ≤ k ∧ Own w wr [hrow v M, hrow (.slice A2 n c2) S]) (fun i _ _ => n - (intOf i).toNat)
    case atStart => exact ⟨0, [], by omega, rfl, IsMerge.nil, Nat.le_refl _, O⟩
    case round =>
      clear O
      obtain ⟨k, M, hk, rfl, im, hml, O⟩ := hrel
      obtain ⟨A1, c1, hv⟩ := hrow_slice O
      subst hv
      by_cases hlt : k < n
      · have rS : HangRow wr A2 S := O.hangs (List.mem_cons_of_mem _ List.mem_cons_self) rfl sn.symm
        obtain ⟨x, rfl, hx, hc0, hc, hc2⟩ := rS.at (j := k) (by omega)
        have tk := take_next (L := S) (k := k) (by omega)
        have hXok := hSok _ (hget_mem (L := S) (j := k) (by omega))
        have hTok : ∀ x ∈ S.take k, Hok x := fun x hx => hSok x (List.mem_of_mem_take hx)
        have hle : ∀ x ∈ S.take k, x.1 ≤ (hget S k).1 := fun x hx => by
          have h2 := List.take_append_drop (k + 1) S
          rw [tk] at h2
          rw [← h2, List.append_assoc] at hs
          exact (List.pairwise_append.1 hs).2.2 x hx _ (List.mem_append_left _ List.mem_cons_self)
        obtain ⟨X, Y, hXY⟩ : ∃ X Y, hget S k = (X, Y) := ⟨_, _, rfl⟩
        rw [hXY] at hc0 hc hc2 hXok hle tk
        dsimp only at hc0 hc hc2 hle
        have hY := hXok.2
        have hX := hXok.1
        dsimp only at hX hY
        have bs0 := O.bel.size
        rcases nil_or_last M with hM | ⟨M0, P, Q, hM⟩
        · subst hM
          have inext : IsMerge (S.take (k + 1)) ([] ++ [(X, Y)]) := by
            rw [tk]
            exact im.further fun y hy => by rw [im.of_nil] at hy; cases hy
          have hl : ([] : List Hg).length = 0 := rfl
          replace O : Own w wr [hrow (.slice A1 0 c1) [], hrow (.slice (some x) n c2) S] := O
          clear im hle hXok hTok hXY tk hs hSok hp hL hb hn sn rS
          have O5 := O.keep ((Below.refl wr.heap.size wr).alloc (Nat.le_refl _) (.cells #[.int .i64 X, .int .i64 Y] 34))
          obtain ⟨p, hp⟩ : ∃ p, wr.heap.size = p := ⟨_, rfl⟩
          have b0 : Box (wr.alloc (.cells #[.int .i64 X, .int .i64 Y] 34)) p X Y 34 := hp ▸ Box.new wr X Y _
          go_upto_region 10 with fail
          (try rw [hp])
          generalize wr.alloc (.cells #[.int .i64 X, .int .i64 Y] 34) = w5 at O5 b0 ⊢
          clear O hp hc0 hc hc2
          have c0 := b0.c0
          have c1' := b0.c1
          have O6 := O5.keep (below_drew_h (Below.refl w5.heap.size w5))
          have b6 : Box w5.drew p X Y 34 := b0
          clear b0 O5
          go_region
          all_goals
            generalize w5.drew = w6 at O6 b6 ⊢
            have c0 := b6.c0
            have c1' := b6.c1
            clear b6
            have hap := fun v6 w7 => O6.happ (x := (X, Y)) (u' := v6) (w1 := w7) (o := .cells #[.int .i64 X, .int .i64 Y] 34)
            have bs := O6.bel.size
            have happ6 : ∀ v6 w7, w7.ownsRow w.heap.size 34 2 v6 (0 + 1) (hcells ([] : List Hg) ++ [.int .i64 X, .int .i64 Y]) → (w6.alloc (.cells #[.int .i64 X, .int .i64 Y] 34)).grownBy w7 (Value.slice A1 0 c1).ownBlock → (v6.ownBlock = (Value.slice A1 0 c1).ownBlock ∨ v6.ownBlock = some (w6.alloc (.cells #[.int .i64 X, .int .i64 Y] 34)).heap.size) → Own w w7 [hrow v6 (([] : List Hg) ++ [(X, Y)]), hrow (.slice (some x) n c2) S] := fun v6 w7 o6 g6 a6 => hap v6 w7 (by rw [hl]; exact o6) g6 a6
            have h5 : w6.ownsRow w.heap.size 34 2 (.slice A1 0 c1) 0 (hcells ([] : List Hg)) := by
              have := O6.hd
              change w6.ownsRow w.heap.size 34 2 (.slice A1 0 c1) (([] : List Hg)).length (hcells ([] : List Hg)) at this
              rw [hl] at this
              exact this
            generalize hcells ([] : List Hg) = xs at happ6 h5
            clear hap O6
            go_wp2_with (at_builtin; refine wpList_append_any _ rfl (.tmp 46) (.tmp 48) 24 rfl w.heap.size 34 i0 _ 2 16 Try.underlying24 hi hz0 hz1 hz2 rfl (by decide) (.slice A1 0 c1) 0 xs rfl (h5.alloc _) (some ⟨w6.heap.size, 0, none⟩) 1 1 [.int .i64 X, .int .i64 Y] rfl rfl (fun e => by cases e) (fun ad he => by injection he with he; subst he; exact news_new w6 [_, _] _) (by simp [Value.oneCell']) (by unfold maxLen; omega) (by omega) (by simp; omega) ?_; intro v6 w7 o6 g6 a6; have O2 := happ6 v6 w7 o6 g6 a6; clear o6 g6 a6)
            clear h5 happ6 c0 c1'
            go_roundw
            case rel => exact ⟨k + 1, _, by omega, by go_num, inext, by rw [List.length_append, hl]; show 0 + 1 ≤ k + 1; omega, O2⟩
            case measure => simp [intOf]; omega

        · subst hM
          obtain ⟨m, hm⟩ : ∃ m, M0.length = m := ⟨_, rfl⟩
          obtain ⟨l, hl⟩ : ∃ l, (M0 ++ [(P, Q)]).length = l := ⟨_, rfl⟩
          have hlm : l = m + 1 := by rw [← hl, List.length_append, hm]; rfl
          have hli : (l : Int) - 1 = (m : Int) := by omega
          have hml1 : m < l := by omega
          obtain ⟨g, cc, hA1⟩ := hrow_form O (by omega)
          injection hA1 with hA1 _ hcc
          subst hA1 hcc
          have last := im.last
          have hQ := (im.2 (P, Q)).1 (List.mem_append_right _ List.mem_cons_self)
          have hQ2 := wt_le hTok P
          have hQ3 : Q = wt (S.take k) P := hQ.2
          rw [← hQ3, List.length_take] at hQ2
          rw [hl] at hml O ⊢
          have hlk : m ≤ k := by omega
          clear hQ hQ3 hTok hlm
          have fin := fun (h : P ≠ X) => im.further (h := (X, Y)) fun y hy => by
            obtain ⟨⟨z, hz, e⟩, u⟩ := last
            have u1 := u y hy
            have u2 := hle z hz
            show y.1 < X
            omega
          rw [← tk] at fin
          have eq_ : P = X → IsMerge (S.take (k + 1)) (M0 ++ [(P, Q + Y)]) := fun h => by
            have := im.onto (y := Y)
            rw [h, ← tk] at this
            rw [h]; exact this
          clear im hle hXok hXY tk hs hSok hp hL hb hn sn rS last
          obtain ⟨d0, d1⟩ := O.hcell (j := m) hl (by omega)
          have el : hget (M0 ++ [(P, Q)]) m = (P, Q) := by rw [← hm]; exact hget_last _ _
          rw [el] at d0 d1
          dsimp only at d0 d1
          have d0' := (World.cell?_alloc_lt wr (.cells #[.int .i64 X, .int .i64 Y] 34) _ (lt_of_cell d0)).trans d0
          have d1' := (World.cell?_alloc_lt wr (.cells #[.int .i64 X, .int .i64 Y] 34) _ (lt_of_cell d1)).trans d1
          clear d0 d1
          by_cases hPX : P = X
          · have inext := eq_ hPX
            clear eq_ fin
            subst hPX
            have O5 := O.keep ((Below.refl wr.heap.size wr).alloc (Nat.le_refl _) (.cells #[.int .i64 P, .int .i64 Y] 34))
            obtain ⟨p, hp⟩ : ∃ p, wr.heap.size = p := ⟨_, rfl⟩
            have b0 : Box (wr.alloc (.cells #[.int .i64 P, .int .i64 Y] 34)) p P Y 34 := hp ▸ Box.new wr P Y _
            have d0 := d0'
            have d1 := d1'
            clear d0' d1'
            go_upto_region 10 with fail
            (try rw [hp])
            generalize wr.alloc (.cells #[.int .i64 P, .int .i64 Y] 34) = w5 at O5 b0 d0 d1 ⊢
            clear O hp hc0 hc hc2
            have c0 := b0.c0
            have c1' := b0.c1
            have O6 := O5.keep (below_drew_h (Below.refl w5.heap.size w5))
            have b6 : Box w5.drew p P Y 34 := b0
            clear b0 O5
            go_region
            all_goals
              have d6 : w5.drew.cell? ⟨g, m * 2 + 1, none⟩ = some (.int .i64 Q) := d1
              generalize w5.drew = w6 at O6 b6 d6 ⊢
              have e1 := b6.c1
              obtain ⟨f7, O8⟩ := O6.hstore1 (j := m) hl (by omega) (Q + Y)
              replace f7 : w6.drew.frozen? ⟨g, m * 2 + 1, none⟩ = false := f7
              rw [el] at O8
              dsimp only at O8
              rw [← hm, set_last] at O8
              rw [hm] at O8
              replace O8 := O8.keep (below_drew_h (Below.refl _ _))
              clear b6 O6 c0 c1' d0 d1 el
              go_wp2_with fail
              go_region
              all_goals
                go_wp2_with fail
                go_roundw
                case rel => exact ⟨k + 1, _, by omega, by go_num, inext, by rw [List.length_append, hm]; show m + 1 ≤ k + 1; omega, O8⟩
                case measure => simp [intOf]; omega
          · have inext := fin hPX
            clear eq_ fin
            have O5 := O.keep ((Below.refl wr.heap.size wr).alloc (Nat.le_refl _) (.cells #[.int .i64 X, .int .i64 Y] 34))
            obtain ⟨p, hp⟩ : ∃ p, wr.heap.size = p := ⟨_, rfl⟩
            have b0 : Box (wr.alloc (.cells #[.int .i64 X, .int .i64 Y] 34)) p X Y 34 := hp ▸ Box.new wr X Y _
            have d0 := d0'
            have d1 := d1'
            clear d0' d1'
            go_upto_region 10 with fail
            (try rw [hp])
            generalize wr.alloc (.cells #[.int .i64 X, .int .i64 Y] 34) = w5 at O5 b0 d0 d1 ⊢
            clear O hp hc0 hc hc2
            have c0 := b0.c0
            have c1' := b0.c1
            have O6 := O5.keep (below_drew_h (Below.refl w5.heap.size w5))
            have b6 : Box w5.drew p X Y 34 := b0
            clear b0 O5
            go_region
            all_goals
              generalize w5.drew = w6 at O6 b6 ⊢
              have c0 := b6.c0
              have c1' := b6.c1
              clear b6 el d0 d1
              have hap := fun v6 w7 => O6.happ (x := (X, Y)) (u' := v6) (w1 := w7) (o := .cells #[.int .i64 X, .int .i64 Y] 34)
              have bs := O6.bel.size
              have happ6 : ∀ v6 w7, w7.ownsRow w.heap.size 34 2 v6 (l + 1) (hcells (M0 ++ [(P, Q)]) ++ [.int .i64 X, .int .i64 Y]) → (w6.alloc (.cells #[.int .i64 X, .int .i64 Y] 34)).grownBy w7 (Value.slice (some ⟨g, 0, none⟩) l c1).ownBlock → (v6.ownBlock = (Value.slice (some ⟨g, 0, none⟩) l c1).ownBlock ∨ v6.ownBlock = some (w6.alloc (.cells #[.int .i64 X, .int .i64 Y] 34)).heap.size) → Own w w7 [hrow v6 ((M0 ++ [(P, Q)]) ++ [(X, Y)]), hrow (.slice (some x) n c2) S] := fun v6 w7 o6 g6 a6 => hap v6 w7 (by rw [hl]; exact o6) g6 a6
              have h5 : w6.ownsRow w.heap.size 34 2 (.slice (some ⟨g, 0, none⟩) l c1) l (hcells (M0 ++ [(P, Q)])) := by
                have := O6.hd
                change w6.ownsRow w.heap.size 34 2 (.slice (some ⟨g, 0, none⟩) l c1) ((M0 ++ [(P, Q)])).length (hcells (M0 ++ [(P, Q)])) at this
                rw [hl] at this
                exact this
              generalize hcells (M0 ++ [(P, Q)]) = xs at happ6 h5
              clear hap O6
              go_wp2_with (at_builtin; refine wpList_append_any _ rfl (.tmp 46) (.tmp 48) 24 rfl w.heap.size 34 i0 _ 2 16 Try.underlying24 hi hz0 hz1 hz2 rfl (by decide) (.slice (some ⟨g, 0, none⟩) l c1) l xs rfl (h5.alloc _) (some ⟨w6.heap.size, 0, none⟩) 1 1 [.int .i64 X, .int .i64 Y] rfl rfl (fun e => by cases e) (fun ad he => by injection he with he; subst he; exact news_new w6 [_, _] _) (by simp [Value.oneCell']) (by unfold maxLen; omega) (by omega) (by simp; omega) ?_; intro v6 w7 o6 g6 a6; have O2 := happ6 v6 w7 o6 g6 a6; clear o6 g6 a6)
              clear h5 happ6 c0 c1'
              go_roundw
              case rel => exact ⟨k + 1, _, by omega, by go_num, inext, by rw [List.length_append, hl]; show l + 1 ≤ k + 1; omega, O2⟩
              case measure => simp [intOf]; omega

      · obtain rfl : k = n := by omega
        rw [List.take_of_length_le (by omega)] at im
        have im2 := im.perm hp
        have hB2 := fun W (r : HangRow W A1 M) => implOk_beam A1 M.length c1 M W rfl r
        have rM : HangRow wr A1 M := O.hangs List.mem_cons_self rfl rfl
        have ok := merged_ok hb im2 (by omega)
        have un := im2.unique (mto_merge hL)
        clear hp hs hSok im im2
        by_cases hMo : MOk L
        · rw [bok_yes (ok.2 hMo)] at hB2
          have fin2 : ∀ e w', HCopied M w e w' → HCopied (mg L) w e w' := fun e w' h => by rw [mg_yes hMo, ← un]; exact h
          clear un hMo ok
          obtain ⟨l, hl⟩ : ∃ l, M.length = l := ⟨_, rfl⟩
          have O' := O
          rw [hl] at hB2 O' ⊢
          clear O
          go_wp2_with fail
          refine (hB2 _ rM).mono ?_
          rintro e w4 ⟨rfl, b⟩
          replace O' := (O'.keep b).hcopied
          replace O' := fin2 _ _ O'
          clear hB2 rM b fin2
          go_wp2_with fail
          go_ret
          exact O'
        · rw [bok_no (fun h => hMo (ok.1 h))] at hB2
          have fin2 : ∀ e w', HCopied [] w e w' → HCopied (mg L) w e w' := fun e w' h => by rw [mg_no hMo]; exact h
          clear un hMo ok
          have b0 := O.bel
          generalize M.length = l at hB2 hml ⊢
          go_wp2_with fail
          refine (hB2 _ rM).mono ?_
          rintro e w4 ⟨rfl, b⟩
          have O' : HCopied [] w (.returned (.slice none 0 0)) w4 := ((Own.none w).keep (below_more b0 b0.size b)).hnil.hcopied
          replace O' := fin2 _ _ O'
          clear hB2 rM b O fin2
          go_wp2_with fail
          go_ret
          exact O'
  · rw [bok_no hb] at hB
    rw [mg_no fun h => hb h.1]
    go_enter Try.func17, Try.ntmps17
    go_wp2_with fail
    refine (hB _ r).mono ?_
    rintro e w1 ⟨rfl, b⟩
    have O' : HCopied [] w (.returned (.slice none 0 0)) w1 := ((Own.none w).keep b).hnil.hcopied
    clear hB r b hb
    go_wp2_with fail
    go_ret
    exact O'
end Go.Proofs.Ytajndcggafjmeaa
