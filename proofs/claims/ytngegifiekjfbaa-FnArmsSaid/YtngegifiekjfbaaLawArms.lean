/-
  The law on unequal arms: both readings of a wrong balance give the right weight and the ratio of the arms.
-/
import Derived.Test.YtngegifiekjfbaaDrawArms
import Derived.Test.YtngegifiekjfbaaImplArms
import Derived.BigQuiet
import Derived.Deep.DeepCutAuto
namespace Go.Proofs.Ytngegifiekjfbaa
open Go.ChangeShapes Go.WideShapes Go.ChangeAt Go.RowKit Go.PlainAid

set_option maxRecDepth 100000 in
theorem arms_big (a : Option Addr) (len cap : Nat) (w : World) (hl : 1048576 < len) (hm : len ≤ 9223372036854775807) :
    Calls Try.prog 3 #[.slice a len cap] w fun e w' => e = .returned (.bool true) ∧ Below w.heap.size w w' := by
  have hb : (1048576 : Int) < len := by omega
  clear hm
  go_enter Try.func3, Try.ntmps3
  go_wp2_with (go_at_call 10; go_in)
  go_ret
  exact ⟨rfl, Below.refl _ _⟩

/-- What the law's calls answer of small arms and a small object. -/
structure AFacts (a b n lT lB rT rB S qT qB m1 m2 m3 : Int) (O : Bool) : Prop where
  left : ∀ W : World, Calls Try.prog 12 #[.int .i64 a, .int .i64 b, .int .i64 n] W (SaysF lT lB true W)
  right : ∀ W : World, Calls Try.prog 13 #[.int .i64 a, .int .i64 b, .int .i64 n] W (SaysF rT rB true W)
  square : ∀ W : World, Calls Try.prog 14 #[.agg #[.int .i64 lT, .int .i64 lB], .agg #[.int .i64 rT, .int .i64 rB]] W (SaysF S 1 true W)
  subst : ∀ W : World, Calls Try.prog 15 #[.int .i64 a, .int .i64 b, .int .i64 n, .agg #[.int .i64 lT, .int .i64 lB]] W (SaysF n 1 true W)
  arms : ∀ W : World, Calls Try.prog 16 #[.int .i64 a, .int .i64 b] W fun e w' => e = .returned (.bool true) ∧ W = w'
  ratio : ∀ W : World, Calls Try.prog 17 #[.agg #[.int .i64 lT, .int .i64 lB], .agg #[.int .i64 rT, .int .i64 rB]] W (SaysF qT qB O W)
  sq : n * n = S
  low : 0 ≤ S ∧ S ≤ 1000000
  p1 : qT * b = m1
  p2 : m1 * b = m2
  p3 : qB * a = m3
  p4 : m3 * a = m2
  l1 : -1000000000 ≤ m1 ∧ m1 ≤ 1000000000
  l2 : -100000000000 ≤ m2 ∧ m2 ≤ 100000000000
  l3 : -1000000000 ≤ m3 ∧ m3 ≤ 1000000000
  five : O = decide (0 < n)
theorem afacts {a b n : Int} (h : SmallA a b n) : ∃ lT lB rT rB S qT qB m1 m2 m3 O, AFacts a b n lT lB rT rB S qT qB m1 m2 m3 O := by
  obtain ⟨ha, hb, hn⟩ := h
  have hi : rdIn a b n := ⟨(okA_iff a b).2 ⟨by omega, by omega⟩, by omega, by omega⟩
  have o1 := rd_ok hi
  have o2 := rd_ok (rdIn_turn hi)
  have hl := (rd_in hi).2.2
  have hr := (rd_in (rdIn_turn hi)).2.2
  have hq := sq_le (n := n) (by omega) (by omega)
  obtain ⟨s1, s2, s3⟩ := square_is hi
  obtain ⟨t1, t2, t3⟩ := tare_is hi
  have five : raO (rdT a b n) (rdB a b n) (rdT b a n) (rdB b a n) = decide (0 < n) ∧ raT (rdT a b n) (rdB a b n) (rdT b a n) (rdB b a n) * b * b = raB (rdT a b n) (rdB a b n) (rdT b a n) (rdB b a n) * a * a ∧
      (-1000000 ≤ raT (rdT a b n) (rdB a b n) (rdT b a n) (rdB b a n) ∧ raT (rdT a b n) (rdB a b n) (rdT b a n) (rdB b a n) ≤ 1000000) ∧ -1000000 ≤ raB (rdT a b n) (rdB a b n) (rdT b a n) (rdB b a n) ∧ raB (rdT a b n) (rdB a b n) (rdT b a n) (rdB b a n) ≤ 1000000 := by
    by_cases h0 : 0 < n
    · obtain ⟨r1, r2, r3⟩ := ratio_is hi h0
      obtain ⟨x0, x1, x2, x3, -⟩ := (okF_iff _ _).1 r3
      exact ⟨by rw [r1, decide_eq_true h0], r2, ⟨x0, x1⟩, by omega, x3⟩
    · have hz : n = 0 := by omega
      subst hz
      obtain ⟨r1, r2, r3⟩ := ratio_none hi
      rw [r1, r2, r3]
      exact ⟨rfl, by simp, by omega, by omega⟩
  obtain ⟨f1, f2, f3, f4⟩ := five
  refine ⟨rdT a b n, rdB a b n, rdT b a n, rdB b a n, n * n, _, _, _, _, _, _, fun W => ?_, fun W => ?_, fun W => ?_, fun W => ?_, fun W => ?_, fun W => implRatio_any _ _ _ _ W, rfl, hq, rfl, rfl, rfl, f2.symm, ?_, ?_, ?_, f1⟩
  · have h := implLeft_any a b n W
    rw [hl] at h
    exact h
  · have h := implRight_any a b n W
    rw [hr] at h
    exact h
  · have h := fun W => implTimes_any _ _ _ _ W o1 o2
    rw [s1, s2, s3] at h
    exact implSquare_walk _ _ _ _ _ _ _ W h
  · have h := implSubst_any a b n (rdT a b n) (rdB a b n) W
    obtain ⟨e1, e2, e3⟩ := su_yes (a := a) (b := b) (n := n) ⟨hl, rfl, rfl⟩
    rw [e1, e2, e3, t1, t2, t3] at h
    exact h
  · have h := implAok_any a b W
    rw [hi.1] at h
    exact h
  · have := yb (y := b) 1000000 20 f3.1 f3.2 (by omega) (by omega)
    omega
  · have z1 := yb (y := b) 1000000 20 f3.1 f3.2 (by omega) (by omega)
    have z2 := yb (y := b) 20000000 20 z1.1 z1.2 (by omega) (by omega)
    omega
  · have := yb (y := a) 1000000 20 f4.1 f4.2 (by omega) (by omega)
    omega

set_option maxRecDepth 100000 in
set_option maxHeartbeats 4000000 in
theorem arms_any (A : Option Addr) (len cap : Nat) (w : World) (hl : len ≤ 1048576) (hr : Bytes w w.heap.size A len) :
    Calls Try.prog 3 #[.slice A len cap] w fun e w' => e = .returned (.bool true) ∧ Below w.heap.size w w' := by
  have hb : ¬ (1048576 : Int) < len := by omega
  have hD := drawArms_any A len cap w hl hr
  clear hr hl
  go_enter Try.func3, Try.ntmps3
  go_wp2_with (go_at_call 10; go_in)
  refine hD.mono ?_
  clear hD hb
  rintro en w1 ⟨a, b, n, hs, rfl, kb⟩
  obtain ⟨lT, lB, rT, rB, S, qT, qB, m1, m2, m3, O, Z⟩ := afacts hs
  obtain ⟨⟨ha0, ha1⟩, ⟨hb0, hb1⟩, hn0, hn1⟩ := hs
  have hM := Z.left
  go_wp2_with fail
  refine (hM _).mono ?_
  rintro en v2 ⟨rfl, b9⟩
  have x := Box.new v2 lT lB 27
  replace kb := below_more kb kb.size (b9.alloc b9.size (.cells #[.int .i64 lT, .int .i64 lB] 27))
  clear b9 hM 
  go_upto_region 5 with fail
  generalize v2.heap.size = q2 at x ⊢
  generalize v2.alloc (.cells #[.int .i64 lT, .int .i64 lB] 27) = u2 at x  kb ⊢
  have hM := Z.right
  go_wp2_with fail
  refine (hM _).mono ?_
  rintro en v3 ⟨rfl, b9⟩
  replace x := x.under (b9.alloc b9.size (.cells #[.int .i64 rT, .int .i64 rB] 27))
  have y := Box.new v3 rT rB 27
  replace kb := below_more kb kb.size (b9.alloc b9.size (.cells #[.int .i64 rT, .int .i64 rB] 27))
  clear b9 hM 
  go_upto_region 6 with fail
  generalize v3.heap.size = q3 at y ⊢
  generalize v3.alloc (.cells #[.int .i64 rT, .int .i64 rB] 27) = u3 at y x kb ⊢
  have hM := Z.square
  obtain ⟨c00, c01⟩ := And.intro x.c0 x.c1
  obtain ⟨c10, c11⟩ := And.intro y.c0 y.c1
  go_wp2_with fail
  refine (hM _).mono ?_
  rintro en v4 ⟨rfl, b9⟩
  replace x := x.under (b9.alloc b9.size (.cells #[.int .i64 S, .int .i64 1] 27))
  replace y := y.under (b9.alloc b9.size (.cells #[.int .i64 S, .int .i64 1] 27))
  have s := Box.new v4 S 1 27
  replace kb := below_more kb kb.size (b9.alloc b9.size (.cells #[.int .i64 S, .int .i64 1] 27))
  clear b9 hM c00 c01 c10 c11
  go_upto_region 7 with fail
  generalize v4.heap.size = q4 at s ⊢
  generalize v4.alloc (.cells #[.int .i64 S, .int .i64 1] 27) = u4 at s x y kb ⊢
  have hM := Z.subst
  obtain ⟨c00, c01⟩ := And.intro x.c0 x.c1
  go_wp2_with fail
  refine (hM _).mono ?_
  rintro en v5 ⟨rfl, b9⟩
  replace x := x.under (b9.alloc b9.size (.cells #[.int .i64 n, .int .i64 1] 27))
  replace y := y.under (b9.alloc b9.size (.cells #[.int .i64 n, .int .i64 1] 27))
  replace s := s.under (b9.alloc b9.size (.cells #[.int .i64 n, .int .i64 1] 27))
  have t := Box.new v5 n 1 27
  replace kb := below_more kb kb.size (b9.alloc b9.size (.cells #[.int .i64 n, .int .i64 1] 27))
  clear b9 hM c00 c01
  go_upto_region 8 with fail
  generalize v5.heap.size = q5 at t ⊢
  generalize v5.alloc (.cells #[.int .i64 n, .int .i64 1] 27) = u5 at t x y s kb ⊢
  have hM := Z.arms
  have e0 := Z.sq
  obtain ⟨l0, l9⟩ := Z.low
  obtain ⟨c0, c1⟩ := And.intro s.c0 s.c1
  obtain ⟨d0, d1⟩ := And.intro t.c0 t.c1
  go_wp2_with fail
  refine (hM _).mono ?_
  rintro en v6 ⟨rfl, rfl⟩
  clear hM e0 l0 l9 c0 c1 d0 d1 s t
  have hM := Z.ratio
  obtain ⟨c0, c1⟩ := And.intro x.c0 x.c1
  obtain ⟨d0, d1⟩ := And.intro y.c0 y.c1
  go_wp2_with fail
  refine (hM _).mono ?_
  rintro en v7 ⟨rfl, b9⟩
  have z := Box.new v7 qT qB 27
  replace kb := below_more kb kb.size (b9.alloc b9.size (.cells #[.int .i64 qT, .int .i64 qB] 27))
  clear b9 hM c0 c1 d0 d1 x y
  go_upto_region 11 with fail
  generalize v7.heap.size = q7 at z ⊢
  generalize v7.alloc (.cells #[.int .i64 qT, .int .i64 qB] 27) = u7 at z kb ⊢
  have hf := Z.five
  obtain ⟨c0, c1⟩ := And.intro z.c0 z.c1
  obtain ⟨p1, p2, p3, p4⟩ := And.intro Z.p1 (And.intro Z.p2 (And.intro Z.p3 Z.p4))
  obtain ⟨⟨l10, l11⟩, ⟨l20, l21⟩, l30, l31⟩ := And.intro Z.l1 (And.intro Z.l2 Z.l3)
  clear Z z
  by_cases h0 : 0 < n
  · rw [decide_eq_true h0] at hf
    subst hf
    go_wp2_with fail
    go_ret
    exact ⟨rfl, kb⟩
  · rw [decide_eq_false h0] at hf
    subst hf
    have h1 : decide (0 < n) = false := decide_eq_false h0
    clear p1 p2 p3 p4
    go_wp2_with fail
    go_ret
    exact ⟨rfl, kb⟩
end Go.Proofs.Ytngegifiekjfbaa
