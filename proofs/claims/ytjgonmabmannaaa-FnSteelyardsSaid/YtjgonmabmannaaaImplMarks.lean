/-
  The contract of the program's MarksOf: the marks in a row, in memory of its own. Only new memory is written.
-/
import Derived.Test.YtjgonmabmannaaaImplYard
import Derived.Test.YtjgonmabmannaaaFractionSaid
import Derived.Test.YtjgonmabmannaaaAppendAny
import Derived.Deep.DeepCutAuto
import Derived.Deep.Cut
namespace Go.Proofs.Ytjgonmabmannaaa
open Go.ChangeShapes Go.WideShapes Go.ChangeAt Go.RowKit Go.PlainAid

set_option maxHeartbeats 1000000 in
theorem implScale (p s e u : Int) (n : Nat) (w : World) (h : okS p s e = true) (hu : 1 ≤ u ∧ u ≤ 100) (hn : n ≤ 20) :
    Calls Try.prog 35 #[.iface 25 (agg3 p s e), .int .i64 u, .int .i64 n] w (FractionCopied (mrks p s e u (n + 1)) w) := by
  obtain ⟨i0, hi, hz0, hz1, hz2⟩ := info_parts Try.infoFractionT
  have hM : ∀ k : Nat, k ≤ n → ∃ t : Int, (k : Int) * u = t ∧ 0 ≤ t ∧ t ≤ 2000 ∧ ∀ W : World, Calls Try.prog 32 #[agg3 p s e, .int .i64 t] W (SaysF (mrk p s e u k).top (mrk p s e u k).bottom true W) := fun k hk => by
    obtain ⟨hp, hs, he⟩ := (okS_iff p s e).1 h
    have b0 := yb (x := (k : Int)) (y := u) 20 100 (by omega) (by omega) (by omega) (by omega)
    have n0 : 0 ≤ (k : Int) * u := Int.mul_nonneg (by omega) (by omega)
    have b1 := yb (x := e) (y := s) 100 1000 (by omega) (by omega) (by omega) (by omega)
    have b2 := yb (x := (k : Int) * u) (y := p) 2000 100 (by omega) (by omega) (by omega) (by omega)
    have n2 : 0 ≤ (k : Int) * u * p := Int.mul_nonneg (by omega) (by omega)
    have ho := (mark_in h (l := (k : Int) * u) (by omega) (by omega)).2.2
    refine ⟨_, rfl, n0, by omega, fun W => ?_⟩
    rw [← ho]
    exact implPut_mk p s e _ _ _ _ _ _ W rfl rfl (by omega) (by omega) (by omega) (by omega) fun W => implMake_yes _ _ W ⟨by omega, by omega, by omega⟩
  have hm : ∀ W : World, (method 185 25 (agg3 p s e) "loop.example/g00992/impl.markFor").run Try.prog W = .ok (32, agg3 p s e) W := fun _ => by kernel_rfl
  have O0 := frrow_nil (Own.none w)
  go_enter Try.func35, Try.ntmps35
  go_wp2_with fail
  go_loopw [7, 13] (fun v i wr => ∃ k : Nat, k ≤ n + 1 ∧ i = .int .i64 k ∧ Own w wr [frrow v (mrks p s e u k)]) (fun _ i _ => n + 1 - (intOf i).toNat)
  case atStart => exact ⟨0, by omega, rfl, O0⟩
  case round =>
    clear O0
    obtain ⟨k, hk, rfl, O⟩ := hrel
    obtain ⟨A1, c1, rfl⟩ := frrow_slice O
    rw [mrks_len] at O ⊢
    by_cases hlt : k ≤ n
    · obtain ⟨t, ht, t0, t1, hC⟩ := hM k hlt
      have hki : (k : Int) < n + 1 := by omega
      have hx := mrks_more p s e u k
      have hl := mrks_len p s e u k
      obtain ⟨T, B, hTB⟩ : ∃ T B, mrk p s e u k = ⟨T, B⟩ := ⟨_, _, rfl⟩
      rw [hTB] at hx hC
      dsimp only at hC
      go_wp2_with fail
      refine (hC _).mono ?_
      rintro en w1 ⟨rfl, b⟩
      have x1 := Box.new w1 T B 29
      replace O := O.keep (b.alloc b.size (.cells #[.int .i64 T, .int .i64 B] 29))
      clear b hC hm
      go_upto_region 6 with fail
      generalize w1.heap.size = g at x1 ⊢
      generalize w1.alloc (.cells #[.int .i64 T, .int .i64 B] 29) = w2 at O x1 ⊢
      obtain ⟨d0, d1⟩ := And.intro x1.c0 x1.c1
      have happ : ∀ v6 w6, w6.ownsRow w.heap.size 29 2 v6 (k + 1) (frcells (mrks p s e u k) ++ [.int .i64 T, .int .i64 B]) → (w2.alloc (.cells #[.int .i64 T, .int .i64 B] 29)).grownBy w6 (Value.slice A1 k c1).ownBlock → (v6.ownBlock = (Value.slice A1 k c1).ownBlock ∨ v6.ownBlock = some (w2.alloc (.cells #[.int .i64 T, .int .i64 B] 29)).heap.size) → Own w w6 [frrow v6 (mrks p s e u (k + 1))] := fun v6 w6 o6 g6 a6 => by
        rw [hx]
        have o7 : w6.ownsRow w.heap.size 29 2 v6 ((mrks p s e u k).length + 1) (frcells (mrks p s e u k) ++ [.int .i64 T, .int .i64 B]) := by rw [hl]; exact o6
        exact frrow_app (x := ⟨T, B⟩) O o7 g6 a6
      have h5 : w2.ownsRow w.heap.size 29 2 (.slice A1 k c1) k (frcells (mrks p s e u k)) := by
        have := O.hd
        unfold frrow at this
        rw [hl] at this
        exact this
      have bs := O.bel.size
      generalize frcells (mrks p s e u k) = xs at happ h5
      clear hx hl hTB x1 O
      go_wp2_with (at_builtin; refine wpList_append_any _ rfl (.tmp 26) (.tmp 28) 33 rfl w.heap.size 29 i0 _ 2 16 Try.underlying33 hi hz0 hz1 hz2 rfl (by decide) (.slice A1 k c1) k xs rfl (h5.alloc _) (some ⟨w2.heap.size, 0, none⟩) 1 1 [.int .i64 T, .int .i64 B] rfl rfl (fun e => by cases e) (fun ad he => by injection he with he; subst he; exact news_new w2 [_, _] _) (by simp [Value.oneCell']) (by unfold maxLen; omega) (by omega) (by simp; omega) ?_; intro v6 w6 o6 g6 a6; have O2 := happ v6 w6 o6 g6 a6; clear o6 g6 a6)
      clear h5 happ
      go_roundw
      case rel => exact ⟨k + 1, by omega, by go_num, O2⟩
      case measure => simp [intOf]; omega
    · obtain rfl : k = n + 1 := by omega
      have hend : FractionCopied (mrks p s e u (n + 1)) w (.returned (.slice A1 (n + 1) c1)) wr := by
        have := frrow_copied O
        exact this
      clear O hM hm
      go_wp2
      go_ret
      exact hend

theorem implMarks_no1 (p s e u n : Int) (w : World) (h1 : okS p s e = false) : Calls Try.prog 14 #[agg3 p s e, .int .i64 u, .int .i64 n] w (FractionCopied [] w) := by
  have y := Tri.new w p s e 25
  have kb : Below w.heap.size w (w.alloc (obj3 p s e 25)) := (Below.refl _ _).alloc (Nat.le_refl _) _
  have hV := fun W => implYok_any p s e W
  rw [h1] at hV
  clear h1
  go_enter Try.func14, Try.ntmps14
  go_wp2_with fail
  refine (hV _).mono ?_
  rintro en w1 ⟨rfl, b⟩
  replace y := y.under b
  replace kb := below_more kb kb.size b
  clear b hV
  obtain ⟨c0, c1, c2⟩ := y.cells
  have hend := frrow_copied (frrow_nil ((Own.none w).keep kb))
  go_wp2_with fail
  go_ret
  exact hend

theorem implMarks_no2 (p s e u n : Int) (w : World) (h1 : okS p s e = true) (h2 : ¬ (1 ≤ u ∧ u ≤ 100)) : Calls Try.prog 14 #[agg3 p s e, .int .i64 u, .int .i64 n] w (FractionCopied [] w) := by
  have y := Tri.new w p s e 25
  have kb : Below w.heap.size w (w.alloc (obj3 p s e 25)) := (Below.refl _ _).alloc (Nat.le_refl _) _
  have hV := fun W => implYok_any p s e W
  rw [h1] at hV
  have hU := fun W => within_to false u 1 100 W (decide_eq_false h2)
  clear h1 h2
  go_enter Try.func14, Try.ntmps14
  go_wp2_with fail
  refine (hV _).mono ?_
  rintro en w1 ⟨rfl, b⟩
  replace y := y.under b
  replace kb := below_more kb kb.size b
  clear b hV
  obtain ⟨c0, c1, c2⟩ := y.cells
  go_wp2_with fail
  refine (hU _).mono ?_
  rintro en w2 ⟨rfl, rfl⟩
  have hend := frrow_copied (frrow_nil ((Own.none w).keep kb))
  go_wp2_with fail
  go_ret
  exact hend

theorem implMarks_no3 (p s e u n : Int) (w : World) (h1 : okS p s e = true) (h2 : 1 ≤ u ∧ u ≤ 100) (h3 : ¬ (0 ≤ n ∧ n ≤ 20)) : Calls Try.prog 14 #[agg3 p s e, .int .i64 u, .int .i64 n] w (FractionCopied [] w) := by
  have y := Tri.new w p s e 25
  have kb : Below w.heap.size w (w.alloc (obj3 p s e 25)) := (Below.refl _ _).alloc (Nat.le_refl _) _
  have hV := fun W => implYok_any p s e W
  rw [h1] at hV
  have hU := fun W => within_to true u 1 100 W (decide_eq_true h2)
  have hN := fun W => within_to false n 0 20 W (decide_eq_false h3)
  clear h1 h2 h3
  go_enter Try.func14, Try.ntmps14
  go_wp2_with fail
  refine (hV _).mono ?_
  rintro en w1 ⟨rfl, b⟩
  replace y := y.under b
  replace kb := below_more kb kb.size b
  clear b hV
  obtain ⟨c0, c1, c2⟩ := y.cells
  go_wp2_with fail
  refine (hU _).mono ?_
  rintro en w2 ⟨rfl, rfl⟩
  go_wp2_with fail
  refine (hN _).mono ?_
  rintro en w2 ⟨rfl, rfl⟩
  have hend := frrow_copied (frrow_nil ((Own.none w).keep kb))
  go_wp2_with fail
  go_ret
  exact hend

theorem implMarks_yes (p s e u n : Int) (w : World) (X : List FractionT) (h1 : okS p s e = true) (h2 : 1 ≤ u ∧ u ≤ 100) (h3 : 0 ≤ n ∧ n ≤ 20)
    (hC : ∀ W : World, Calls Try.prog 35 #[.iface 25 (agg3 p s e), .int .i64 u, .int .i64 n] W (FractionCopied X W)) : Calls Try.prog 14 #[agg3 p s e, .int .i64 u, .int .i64 n] w (FractionCopied X w) := by
  have y := Tri.new w p s e 25
  have kb : Below w.heap.size w (w.alloc (obj3 p s e 25)) := (Below.refl _ _).alloc (Nat.le_refl _) _
  have hV := fun W => implYok_any p s e W
  rw [h1] at hV
  have hU := fun W => within_to true u 1 100 W (decide_eq_true h2)
  have hN := fun W => within_to true n 0 20 W (decide_eq_true h3)
  clear h1 h2 h3
  go_enter Try.func14, Try.ntmps14
  go_wp2_with fail
  refine (hV _).mono ?_
  rintro en w1 ⟨rfl, b⟩
  replace y := y.under b
  replace kb := below_more kb kb.size b
  clear b hV
  obtain ⟨c0, c1, c2⟩ := y.cells
  go_wp2_with fail
  refine (hU _).mono ?_
  rintro en w2 ⟨rfl, rfl⟩
  go_wp2_with fail
  refine (hN _).mono ?_
  rintro en w2 ⟨rfl, rfl⟩
  clear hU hN
  go_wp2_with fail
  refine (hC _).mono ?_
  rintro en w3 ⟨A, c, rfl, o, b⟩
  have hend := frrow_copied (((Own.none w).keep kb).join (frrow_copy (Own.none _) o b))
  clear o b hC c0 c1 c2 y kb
  go_wp2_with fail
  go_ret
  exact hend

theorem implMarks_any (p s e u n : Int) (w : World) : Calls Try.prog 14 #[agg3 p s e, .int .i64 u, .int .i64 n] w (FractionCopied (mkOf p s e u n) w) := by
  cases h1 : okS p s e
  · rw [mkOf_no (by rw [h1]; simp)]
    exact implMarks_no1 p s e u n w h1
  · by_cases h2 : 1 ≤ u ∧ u ≤ 100
    · by_cases h3 : 0 ≤ n ∧ n ≤ 20
      · obtain ⟨m, rfl⟩ : ∃ m : Nat, n = m := ⟨n.toNat, by omega⟩
        rw [mkOf_yes h1 h2 (by omega)]
        exact implMarks_yes p s e u m w _ h1 h2 h3 fun W => implScale p s e u m W h1 h2 (by omega)
      · rw [mkOf_no (fun g => h3 g.2.2)]
        exact implMarks_no3 p s e u n w h1 h2 h3
    · rw [mkOf_no (fun g => h2 g.2.1)]
      exact implMarks_no2 p s e u n w h1 h2
end Go.Proofs.Ytjgonmabmannaaa
