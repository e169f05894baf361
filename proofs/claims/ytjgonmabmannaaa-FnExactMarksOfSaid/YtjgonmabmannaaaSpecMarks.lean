/-
  The contract of the model's MarksOf: the marks in a row, in memory of its own. Only new memory is written.
-/
import Derived.Test.YtjgonmabmannaaaSpecYard
import Derived.Test.YtjgonmabmannaaaFractionSaid
import Derived.Test.YtjgonmabmannaaaAppendAny
import Derived.Deep.DeepCutAuto
import Derived.Deep.Cut
namespace Go.Proofs.Ytjgonmabmannaaa
open Go.ChangeShapes Go.WideShapes Go.ChangeAt Go.RowKit Go.PlainAid

theorem specMarks_out1 (p s e u n : Int) (w : World) (h : n < 0) : Calls Try.prog 24 #[agg3 p s e, .int .i64 u, .int .i64 n] w (FractionCopied [] w) := by
  have O0 := frrow_empty ((Own.none w).keep ((Below.refl w.heap.size w).alloc (Nat.le_refl _) (obj3 p s e 25)))
  rw [show (w.alloc (obj3 p s e 25)).heap.size = w.heap.size + 1 by simp] at O0
  have h0 : ¬ 0 ≤ n := by omega
  clear h
  go_enter Try.func24, Try.ntmps24
  go_wp2_with fail
  go_loopw [7, 8] (fun v i wr => i = .int .i64 0 ∧ Own w wr [frrow v []]) (fun _ _ _ => 0)
  case atStart => exact ⟨rfl, O0⟩
  case round =>
    clear O0
    obtain ⟨rfl, O⟩ := hrel
    have hend := frrow_copied O
    clear O
    go_wp2_with fail
    go_ret
    exact hend

theorem specMarks_out2 (p s e u n : Int) (w : World) (h : 0 ≤ n) (h2 : ¬ (1 ≤ u ∧ u ≤ 100)) : Calls Try.prog 24 #[agg3 p s e, .int .i64 u, .int .i64 n] w (FractionCopied [] w) := by
  have O0 := frrow_empty ((Own.none w).keep ((Below.refl w.heap.size w).alloc (Nat.le_refl _) (obj3 p s e 25)))
  rw [show (w.alloc (obj3 p s e 25)).heap.size = w.heap.size + 1 by simp] at O0
  have hU := fun W => in_to false u 1 100 W (decide_eq_false h2)
  clear h2
  go_enter Try.func24, Try.ntmps24
  go_wp2_with fail
  go_loopw [7, 8] (fun v i wr => i = .int .i64 0 ∧ Own w wr [frrow v []]) (fun _ _ _ => 0)
  case atStart => exact ⟨rfl, O0⟩
  case round =>
    clear O0
    obtain ⟨rfl, O⟩ := hrel
    have hend := frrow_copied O
    clear O
    go_wp2_with fail
    refine (hU _).mono ?_
    rintro en w2 ⟨rfl, rfl⟩
    go_wp2_with fail
    go_ret
    exact hend

theorem specMarks_out3 (p s e u n : Int) (w : World) (h : 0 ≤ n) (h2 : 1 ≤ u ∧ u ≤ 100) (h3 : ¬ (0 ≤ n ∧ n ≤ 20)) : Calls Try.prog 24 #[agg3 p s e, .int .i64 u, .int .i64 n] w (FractionCopied [] w) := by
  have O0 := frrow_empty ((Own.none w).keep ((Below.refl w.heap.size w).alloc (Nat.le_refl _) (obj3 p s e 25)))
  rw [show (w.alloc (obj3 p s e 25)).heap.size = w.heap.size + 1 by simp] at O0
  have hU := fun W => in_to true u 1 100 W (decide_eq_true h2)
  have hN := fun W => in_to false n 0 20 W (decide_eq_false h3)
  clear h2 h3
  go_enter Try.func24, Try.ntmps24
  go_wp2_with fail
  go_loopw [7, 8] (fun v i wr => i = .int .i64 0 ∧ Own w wr [frrow v []]) (fun _ _ _ => 0)
  case atStart => exact ⟨rfl, O0⟩
  case round =>
    clear O0
    obtain ⟨rfl, O⟩ := hrel
    have hend := frrow_copied O
    clear O
    go_wp2_with fail
    refine (hU _).mono ?_
    rintro en w2 ⟨rfl, rfl⟩
    go_wp2_with fail
    refine (hN _).mono ?_
    rintro en w2 ⟨rfl, rfl⟩
    go_wp2_with fail
    go_ret
    exact hend

theorem specMarks_bad (p s e u n : Int) (w : World) (h1 : okS p s e = false) (h2 : 1 ≤ u ∧ u ≤ 100) (h3 : 0 ≤ n ∧ n ≤ 20) : Calls Try.prog 24 #[agg3 p s e, .int .i64 u, .int .i64 n] w (FractionCopied [] w) := by
  have y0 := (Tri.new w p s e 25).alloc (.cells #[] 29)
  have O0 := frrow_empty ((Own.none w).keep ((Below.refl w.heap.size w).alloc (Nat.le_refl _) (obj3 p s e 25)))
  rw [show (w.alloc (obj3 p s e 25)).heap.size = w.heap.size + 1 by simp] at O0
  have hU := fun W => in_to true u 1 100 W (decide_eq_true h2)
  have hN := fun W => in_to true n 0 20 W (decide_eq_true h3)
  have hC := fun W => specMark_no p s e 0 W (by rw [h1]; simp)
  have hn : 0 ≤ n := h3.1
  clear h1 h2 h3
  go_enter Try.func24, Try.ntmps24
  go_wp2_with fail
  go_loopw [7, 8] (fun v i wr => i = .int .i64 0 ∧ Own w wr [frrow v []] ∧ Tri wr w.heap.size p s e 25) (fun _ _ _ => 0)
  case atStart => exact ⟨rfl, O0, y0⟩
  case round =>
    clear O0 y0
    obtain ⟨rfl, O, y⟩ := hrel
    obtain ⟨c0, c1, c2⟩ := y.cells
    go_wp2_with fail
    refine (hU _).mono ?_
    rintro en w2 ⟨rfl, rfl⟩
    go_wp2_with fail
    refine (hN _).mono ?_
    rintro en w2 ⟨rfl, rfl⟩
    go_wp2_with fail
    refine (hC _).mono ?_
    rintro en w1 ⟨rfl, b⟩
    have hend := frrow_copied (frrow_empty ((Own.none w).keep (O.bel.trans ((b.alloc b.size (.cells #[.int .i64 0, .int .i64 0] 29)).mono O.bel.size))))
    rw [show (w1.alloc (.cells #[.int .i64 0, .int .i64 0] 29)).heap.size = w1.heap.size + 1 by simp] at hend
    clear O b hC y c0 c1 c2
    go_wp2_with fail
    go_ret
    exact hend

set_option maxHeartbeats 1000000 in
theorem specMarks_yes (p s e u : Int) (n : Nat) (w : World) (h : okS p s e = true) (hu : 1 ≤ u ∧ u ≤ 100) (hn : n ≤ 20) :
    Calls Try.prog 24 #[agg3 p s e, .int .i64 u, .int .i64 n] w (FractionCopied (mrks p s e u (n + 1)) w) := by
  obtain ⟨i0, hi, hz0, hz1, hz2⟩ := info_parts Try.infoFractionT
  have hM : ∀ k : Nat, k ≤ n → ∃ t : Int, (k : Int) * u = t ∧ 0 ≤ t ∧ t ≤ 2000 ∧ ∀ W : World, Calls Try.prog 20 #[agg3 p s e, .int .i64 t] W (SaysF (mrk p s e u k).top (mrk p s e u k).bottom true W) := fun k hk => by
    have b0 := yb (x := (k : Int)) (y := u) 20 100 (by omega) (by omega) (by omega) (by omega)
    have n0 : 0 ≤ (k : Int) * u := Int.mul_nonneg (by omega) (by omega)
    have ho := (mark_in h (l := (k : Int) * u) (by omega) (by omega)).2.2
    refine ⟨_, rfl, n0, by omega, fun W => ?_⟩
    obtain ⟨e1, e2, e3⟩ := mk_yes (p := p) (s := s) (e := e) (l := (k : Int) * u) ⟨h, by omega, by omega⟩
    have := specMark_any p s e ((k : Int) * u) W
    rw [e1, e2, e3] at this
    rw [← ho]
    exact this
  have y0 := Tri.new w p s e 25
  have kb : Below w.heap.size w (w.alloc (obj3 p s e 25)) := (Below.refl _ _).alloc (Nat.le_refl _) _
  obtain ⟨w0, hw0⟩ : ∃ w0, w.alloc (obj3 p s e 25) = w0 := ⟨_, rfl⟩
  rw [hw0] at y0 kb
  have O0 := frrow_empty (Own.none w0)
  have hU := fun W => in_to true u 1 100 W (decide_eq_true hu)
  have hN := fun W => in_to true n 0 20 W (decide_eq_true ⟨by omega, by omega⟩)
  go_enter Try.func24, Try.ntmps24
  go_wp2_with fail
  go_loopw [7, 8] (fun v i wr => ∃ k : Nat, k ≤ n + 1 ∧ i = .int .i64 k ∧ Own w0 wr [frrow v (mrks p s e u k)]) (fun _ i _ => n + 1 - (intOf i).toNat)
  case atStart => exact ⟨0, by omega, rfl, O0⟩
  case round =>
    clear O0
    obtain ⟨k, hk, rfl, O⟩ := hrel
    have y := y0.keep O.bel y0.lt
    obtain ⟨A1, c1, rfl⟩ := frrow_slice O
    rw [mrks_len] at O ⊢
    by_cases hlt : k ≤ n
    · obtain ⟨t, ht, t0, t1, hC⟩ := hM k hlt
      have hki : decide (k ≤ n) = true := decide_eq_true hlt
      have hx := mrks_more p s e u k
      have hl := mrks_len p s e u k
      obtain ⟨T, B, hTB⟩ : ∃ T B, mrk p s e u k = ⟨T, B⟩ := ⟨_, _, rfl⟩
      rw [hTB] at hx hC
      dsimp only at hC
      obtain ⟨a0, a1, a2⟩ := y.cells
      go_wp2_with fail
      refine (hU _).mono ?_
      rintro en w2 ⟨rfl, rfl⟩
      go_wp2_with fail
      refine (hN _).mono ?_
      rintro en w2 ⟨rfl, rfl⟩
      go_wp2_with fail
      refine (hC _).mono ?_
      rintro en w1 ⟨rfl, b⟩
      have x1 := Box.new w1 T B 29
      replace O := O.keep (b.alloc b.size (.cells #[.int .i64 T, .int .i64 B] 29))
      clear b hC a0 a1 a2 hU hN y
      go_upto_region 6 with fail
      generalize w1.heap.size = g at x1 ⊢
      generalize w1.alloc (.cells #[.int .i64 T, .int .i64 B] 29) = w2 at O x1 ⊢
      obtain ⟨d0, d1⟩ := And.intro x1.c0 x1.c1
      have happ : ∀ v6 w6, w6.ownsRow w0.heap.size 29 2 v6 (k + 1) (frcells (mrks p s e u k) ++ [.int .i64 T, .int .i64 B]) → (w2.alloc (.cells #[.int .i64 T, .int .i64 B] 29)).grownBy w6 (Value.slice A1 k c1).ownBlock → (v6.ownBlock = (Value.slice A1 k c1).ownBlock ∨ v6.ownBlock = some (w2.alloc (.cells #[.int .i64 T, .int .i64 B] 29)).heap.size) → Own w0 w6 [frrow v6 (mrks p s e u (k + 1))] := fun v6 w6 o6 g6 a6 => by
        rw [hx]
        have o7 : w6.ownsRow w0.heap.size 29 2 v6 ((mrks p s e u k).length + 1) (frcells (mrks p s e u k) ++ [.int .i64 T, .int .i64 B]) := by rw [hl]; exact o6
        exact frrow_app (x := ⟨T, B⟩) O o7 g6 a6
      have h5 : w2.ownsRow w0.heap.size 29 2 (.slice A1 k c1) k (frcells (mrks p s e u k)) := by
        have := O.hd
        unfold frrow at this
        rw [hl] at this
        exact this
      have bs := O.bel.size
      generalize frcells (mrks p s e u k) = xs at happ h5
      clear hx hl hTB x1 O
      go_wp2_with (at_builtin; refine wpList_append_any _ rfl (.tmp 36) (.tmp 38) 33 rfl w0.heap.size 29 i0 _ 2 16 Try.underlying33 hi hz0 hz1 hz2 rfl (by decide) (.slice A1 k c1) k xs rfl (h5.alloc _) (some ⟨w2.heap.size, 0, none⟩) 1 1 [.int .i64 T, .int .i64 B] rfl rfl (fun e => by cases e) (fun ad he => by injection he with he; subst he; exact news_new w2 [_, _] _) (by simp [Value.oneCell']) (by unfold maxLen; omega) (by omega) (by simp; omega) ?_; intro v6 w6 o6 g6 a6; have O2 := happ v6 w6 o6 g6 a6; clear o6 g6 a6)
      clear h5 happ
      go_roundw
      case rel => exact ⟨k + 1, by omega, by go_num, O2⟩
      case measure => simp [intOf]; omega
    · obtain rfl : k = n + 1 := by omega
      have hend : FractionCopied (mrks p s e u (n + 1)) w (.returned (.slice A1 (n + 1) c1)) wr := by
        have := frrow_copied (((Own.none w).keep kb).join O)
        exact this
      have hki : decide (n + 1 ≤ n) = false := decide_eq_false (by omega)
      clear O hM y
      go_wp2
      go_ret
      exact hend

theorem specMarks_any (p s e u n : Int) (w : World) : Calls Try.prog 24 #[agg3 p s e, .int .i64 u, .int .i64 n] w (FractionCopied (mkOf p s e u n) w) := by
  by_cases h3 : 0 ≤ n ∧ n ≤ 20
  · by_cases h2 : 1 ≤ u ∧ u ≤ 100
    · cases h1 : okS p s e
      · rw [mkOf_no (by rw [h1]; simp)]
        exact specMarks_bad p s e u n w h1 h2 h3
      · obtain ⟨m, rfl⟩ : ∃ m : Nat, n = m := ⟨n.toNat, by omega⟩
        rw [mkOf_yes h1 h2 (by omega)]
        exact specMarks_yes p s e u m w h1 h2 (by omega)
    · rw [mkOf_no (fun g => h2 g.2.1)]
      exact specMarks_out2 p s e u n w h3.1 h2
  · rw [mkOf_no (fun g => h3 g.2.2)]
    by_cases h0 : n < 0
    · exact specMarks_out1 p s e u n w h0
    · by_cases h2 : 1 ≤ u ∧ u ≤ 100
      · exact specMarks_out3 p s e u n w (by omega) h2 h3
      · exact specMarks_out2 p s e u n w (by omega) h2
end Go.Proofs.Ytjgonmabmannaaa
