/-
  The contract of the model's merged beam. Only new memory is written.
-/
import Derived.Test.YtajndcggafjmeaaSpecBeam
import Derived.Test.YtajndcggafjmeaaMerge
import Derived.Test.YtajndcggafjmeaaAppendAny
namespace Go.Proofs.Ytajndcggafjmeaa
open Go.ChangeShapes Go.WideShapes Go.ChangeAt Go.RowKit Go.PlainAid

theorem pl_zero : pl 0 = -100 := rfl
set_option maxHeartbeats 2000000 in
theorem specMerge (A : Option Addr) (n c : Nat) (L : List Hg) (w : World) (hn : L.length = n) (hm : n ≤ 1048576) (r : HangRow w A L) :
    Calls Try.prog 33 #[.slice A n c] w (HCopied (mg L) w) := by
  obtain ⟨i0, hi, hz0, hz1, hz2⟩ := info_parts Try.infoHangT
  have hB := fun W (r : HangRow W A L) => specOk_beam A n c L W hn hm r
  have O0 := (Own.none w).hempty
  by_cases hb : BOk L
  · rw [bok_yes hb] at hB
    have h12 : n ≤ 12 := by have := hb.1; omega
    have hL := allOk_iff.1 hb.2
    go_enter Try.func33, Try.ntmps33
    go_wp2_with fail
    go_loopw [4, 3] (fun i v wr => ∃ j : Nat, j ≤ 201 ∧ i = .int .i64 (pl j) ∧ Own w wr [hrow v (mto L j)] ∧ ∀ t, t < j → wt L (pl t) ≤ 1000) (fun i _ _ => (101 - intOf i).toNat)
    case atStart => exact ⟨0, by omega, rfl, O0, fun t h => by omega⟩
    case round =>
      clear O0
      obtain ⟨j, hj, rfl, O, small⟩ := hrel
      obtain ⟨A1, c1, hv⟩ := hrow_slice O
      subst hv
      obtain ⟨p, hp⟩ : ∃ p, pl j = p := ⟨_, rfl⟩
      have hpj : -100 ≤ p ∧ p ≤ 101 := by unfold pl at hp; omega
      by_cases hlt : j < 201
      · have hp1 : p ≤ 100 := by unfold pl at hp; omega
        have hx := mto_next L j
        have hsm : wt L p ≤ 1000 → ∀ t, t < j + 1 → wt L (pl t) ≤ 1000 := fun g t ht => by
          by_cases e : t = j
          · subst e; rw [hp]; exact g
          · exact small t (by omega)
        have hbig : 1000 < wt L p → mg L = [] := fun g => mg_no fun h => by
          have := h.2 j hlt
          rw [hp] at this
          omega
        have hwl := wt_le hL p
        rw [hp] at hx ⊢
        have hml := mto_len L j
        obtain ⟨l, hl⟩ : ∃ l, (mto L j).length = l := ⟨_, rfl⟩
        rw [hl] at hml O ⊢
        clear small
        go_wp2_with fail
        refine (hB _ (r.keep O.bel)).mono ?_
        rintro e w1 ⟨rfl, b⟩
        replace O := O.keep b
        have r1 := r.keep O.bel
        clear b
        go_wp2_with fail
        go_loopw [7, 5, 6] (fun i q z wr => ∃ k : Nat, k ≤ n ∧ i = .int .i64 k ∧ q = .int .i64 (wt (L.take k) p) ∧ z = .bool (has (L.take k) p) ∧ wr = w1) (fun i _ _ _ => n - (intOf i).toNat)
        case atStart => exact ⟨0, by omega, rfl, rfl, rfl, rfl⟩
        case round =>
          obtain ⟨k, hk, rfl, rfl, rfl, rfl⟩ := hrel
          by_cases hkn : k < n
          · obtain ⟨x, rfl, hx1, hc0, hc, hc2⟩ := r1.at (j := k) (by omega)
            have t0 := wt_le (L := L.take k) (fun x hx => hL x (List.mem_of_mem_take hx)) p
            have t1 := (hL _ (hget_mem (L := L) (j := k) (by omega))).2
            have e1 := wt_next (L := L) (k := k) (by omega) p
            have e2 := has_next (L := L) (k := k) (by omega) p
            rw [List.length_take] at t0
            obtain ⟨X, Y, hXY⟩ : ∃ X Y, hget L k = (X, Y) := ⟨_, _, rfl⟩
            rw [hXY] at hc0 hc hc2 t1 e1 e2
            dsimp only at hc0 hc hc2 t1 e1 e2
            generalize wt (L.take k) p = q at t0 e1 ⊢
            generalize has (L.take k) p = z at e2 ⊢
            clear hXY r1 r hB hbig hsm hx O hwl hl hL hb hn
            by_cases hX : X = p
            · subst hX
              rw [if_pos rfl] at e1
              rw [decide_eq_true rfl, Bool.or_true] at e2
              go_wp2_with fail
              go_roundw
              case rel => exact ⟨k + 1, by omega, by go_num, by rw [e1], by rw [e2], trivial⟩
              case measure => simp [intOf]; omega
            · rw [if_neg hX, Int.add_zero] at e1
              rw [decide_eq_false hX, Bool.or_false] at e2
              go_wp2_with fail
              go_roundw
              case rel => exact ⟨k + 1, by omega, by go_num, by rw [e1], by rw [e2], trivial⟩
              case measure => simp [intOf]; omega
          · obtain rfl : k = n := by omega
            rw [List.take_of_length_le (by omega)]
            by_cases hw : 1000 < wt L p
            · have hM := hbig hw
              have hend : HCopied (mg L) w (.returned (.slice (some ⟨wr.heap.size, 0, none⟩) 0 0)) (wr.alloc (.cells #[] 34)) := by
                rw [hM]
                exact ((Own.none w).keep O.bel).hempty.hcopied
              clear O r1 r hB hbig hsm hM hx hl hL hb
              go_wp2_with fail
              go_ret
              exact hend
            · have sm := hsm (Int.not_lt.1 hw)
              obtain ⟨q, hq⟩ : ∃ q, wt L p = q := ⟨_, rfl⟩
              rw [hq] at hx hw hwl ⊢
              cases hz : has L p
              · rw [hz] at hx
                have hx' : mto L (j + 1) = mto L j := hx.trans (List.append_nil _)
                rw [← hx'] at O
                clear r1 hB hbig hsm hx hx' hL hb
                go_wp2_with fail
                go_roundw
                case rel => exact ⟨j + 1, by omega, congrArg (Value.int .i64) (by unfold pl at hp ⊢; omega), O, sm⟩
                case measure => simp [intOf]; omega
              · rw [hz] at hx
                have hx' : mto L (j + 1) = mto L j ++ [(p, q)] := hx
                have bs := O.bel.size
                have happ6 : ∀ v6 w6, w6.ownsRow w.heap.size 34 2 v6 (l + 1) (hcells (mto L j) ++ [.int .i64 p, .int .i64 q]) → (wr.alloc (.cells #[.int .i64 p, .int .i64 q] 34)).grownBy w6 (Value.slice A1 l c1).ownBlock → (v6.ownBlock = (Value.slice A1 l c1).ownBlock ∨ v6.ownBlock = some (wr.alloc (.cells #[.int .i64 p, .int .i64 q] 34)).heap.size) → Own w w6 [hrow v6 (mto L (j + 1))] := fun v6 w6 o6 g6 a6 => by
                  rw [hx']
                  subst hl
                  exact O.happ o6 g6 a6
                have h5 : wr.ownsRow w.heap.size 34 2 (.slice A1 l c1) l (hcells (mto L j)) := by subst hl; exact O.hd
                generalize hcells (mto L j) = xs at happ6 h5
                clear r1 hB hbig hsm hx hx' hL hb O hl
                go_wp2_with (at_builtin; refine wpList_append_any _ rfl (.tmp 41) (.tmp 45) 24 rfl w.heap.size 34 i0 _ 2 16 Try.underlying24 hi hz0 hz1 hz2 rfl (by decide) (.slice A1 l c1) l xs rfl (h5.alloc _) (some ⟨wr.heap.size, 0, none⟩) 1 1 [.int .i64 p, .int .i64 q] rfl rfl (fun e => by cases e) (fun ad he => by injection he with he; subst he; exact news_new wr [_, _] _) (by simp [Value.oneCell']) (by unfold maxLen; omega) (by omega) (by simp; omega) ?_; intro v6 w6 o6 g6 a6; have O2 := happ6 v6 w6 o6 g6 a6; clear o6 g6 a6)
                clear h5 happ6
                go_roundw
                case rel => exact ⟨j + 1, by omega, congrArg (Value.int .i64) (by unfold pl at hp ⊢; omega), O2, sm⟩
                case measure => simp [intOf]; omega
      · obtain rfl : j = 201 := by omega
        have hM : mg L = mto L 201 := mg_yes ⟨hb, small⟩
        have hp1 : ¬ p ≤ 100 := by unfold pl at hp; omega
        have hend : HCopied (mg L) w (.returned (.slice A1 (mto L 201).length c1)) wr := by
          rw [hM]; exact O.hcopied
        rw [hp]
        generalize (mto L 201).length = l at hend ⊢
        clear O small hM hB r hL hb
        go_wp2_with fail
        go_ret
        exact hend
  · rw [bok_no hb] at hB
    have hM : mg L = [] := mg_no fun h => hb h.1
    rw [hM]
    have r0 := r.keep O0.bel
    go_enter Try.func33, Try.ntmps33
    go_wp2_with fail
    refine wp_loop_rounds 1 ?_
    rw [rounds_succ]
    go_wp2_with fail
    refine (hB _ r0).mono ?_
    rintro e w1 ⟨rfl, b⟩
    have hend : HCopied [] w (.returned (.slice (some ⟨w.heap.size, 0, none⟩) 0 0)) w1 := (O0.keep b).hcopied
    clear O0 b hB r r0 hb hM
    go_wp2_with fail
    go_ret
    exact hend
end Go.Proofs.Ytajndcggafjmeaa
