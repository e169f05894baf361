/-
  What the calls of the law on fractions answer, for three valid and small fractions.
-/
import Derived.Test.YtdjlohhpgdegfaaLawFrac
namespace Go.Proofs.Ytdjlohhpgdegfaa
open Go.ChangeShapes Go.WideShapes Go.ChangeAt Go.RowKit Go.PlainAid

theorem sh_red {X Y n d : Int} (e : redT X Y = redT n d ∧ redB X Y = redB n d) (h0 : -1000000 ≤ n) (h1 : n ≤ 1000000) (h2 : 0 < d) (h3 : d ≤ 1000000) : shT X Y = redT n d ∧ shB X Y = redB n d ∧ shO X Y = true := by
  have h := red_ok h0 h1 h2 h3
  unfold shT shB shO
  rw [e.1, e.2, h]
  exact ⟨rfl, rfl, rfl⟩

theorem add_red (n1 d1 n2 d2 : Int) (a0 : -1000000 ≤ n1) (a1 : n1 ≤ 1000000) (a2 : 0 < d1) (a3 : d1 ≤ 1000000) (b0 : -1000000 ≤ n2) (b1 : n2 ≤ 1000000) (b2 : 0 < d2) (b3 : d2 ≤ 1000000)
    (h0 : -1000000 ≤ n1 * d2 + n2 * d1) (h1 : n1 * d2 + n2 * d1 ≤ 1000000) (h3 : d1 * d2 ≤ 1000000) (w : World) :
    Calls Try.prog 11 #[.agg #[.int .i64 (redT n1 d1), .int .i64 (redB n1 d1)], .agg #[.int .i64 (redT n2 d2), .int .i64 (redB n2 d2)]] w (SaysF (redT (n1 * d2 + n2 * d1) (d1 * d2)) (redB (n1 * d2 + n2 * d1) (d1 * d2)) true w) := by
  have h := implAdd_any (redT n1 d1) (redB n1 d1) (redT n2 d2) (redB n2 d2) w (red_ok a0 a1 a2 a3) (red_ok b0 b1 b2 b3)
  have e := sh_red (red_add (t1 := n1) (t2 := n2) a2 b2) h0 h1 (Int.mul_pos a2 b2) h3
  rw [e.1, e.2.1, e.2.2] at h
  exact h

theorem times_red (n1 d1 n2 d2 : Int) (a0 : -1000000 ≤ n1) (a1 : n1 ≤ 1000000) (a2 : 0 < d1) (a3 : d1 ≤ 1000000) (b0 : -1000000 ≤ n2) (b1 : n2 ≤ 1000000) (b2 : 0 < d2) (b3 : d2 ≤ 1000000)
    (h0 : -1000000 ≤ n1 * n2) (h1 : n1 * n2 ≤ 1000000) (h3 : d1 * d2 ≤ 1000000) (w : World) :
    Calls Try.prog 12 #[.agg #[.int .i64 (redT n1 d1), .int .i64 (redB n1 d1)], .agg #[.int .i64 (redT n2 d2), .int .i64 (redB n2 d2)]] w (SaysF (redT (n1 * n2) (d1 * d2)) (redB (n1 * n2) (d1 * d2)) true w) := by
  have h := implTimes_any (redT n1 d1) (redB n1 d1) (redT n2 d2) (redB n2 d2) w (red_ok a0 a1 a2 a3) (red_ok b0 b1 b2 b3)
  have e := sh_red (red_times (t1 := n1) (t2 := n2) a2 b2) h0 h1 (Int.mul_pos a2 b2) h3
  rw [e.1, e.2.1, e.2.2] at h
  exact h

theorem cmpV_swap (x y : Int) : cmpV y x = -cmpV x y := by
  unfold cmpV
  by_cases h1 : x < y
  · rw [if_pos h1, if_neg (by omega), if_pos h1]; rfl
  · by_cases h2 : y < x
    · rw [if_pos h2, if_neg h1, if_pos h2]
    · rw [if_neg h2, if_neg h1, if_neg h1, if_neg h2]; rfl

theorem mulb {x y : Int} {m n : Nat} (k : Nat) (e : m * n = k) (h0 : -(m : Int) ≤ x) (h1 : x ≤ m) (h2 : -(n : Int) ≤ y) (h3 : y ≤ n) : -(k : Int) ≤ x * y ∧ x * y ≤ k := e ▸ mul_bound h0 h1 h2 h3

theorem facts_any (a1 a2 b1 b2 c1 c2 : Int) (ga : Small a1 a2) (gb : Small b1 b2) (gc : Small c1 c2) : ∃ x1 x2 y1 y2 z1 z2 p1 p2 q1 q2 r1 r2 d1 d2 K : Int, Facts a1 a2 b1 b2 c1 c2 x1 x2 y1 y2 z1 z2 p1 p2 q1 q2 r1 r2 d1 d2 K := by
  have ea := red_self ga.ok
  have eb := red_self gb.ok
  have ec := red_self gc.ok
  have en := red_self (okF_neg gb.ok)
  obtain ⟨oa, a0, a1', a2', a3⟩ := ga
  obtain ⟨ob, b0, b1', b2', b3⟩ := gb
  obtain ⟨oc, c0, c1', c2', c3⟩ := gc
  have m1 := mulb (x := a1) (y := b2) (m := 20) (n := 12) 240 rfl (by omega) (by omega) (by omega) (by omega)
  have m2 := mulb (x := b1) (y := a2) (m := 20) (n := 12) 240 rfl (by omega) (by omega) (by omega) (by omega)
  have m3 := mulb (x := a2) (y := b2) (m := 12) (n := 12) 144 rfl (by omega) (by omega) (by omega) (by omega)
  have p3 : 0 < a2 * b2 := Int.mul_pos (by omega) (by omega)
  have m4 := mulb (x := b1) (y := c2) (m := 20) (n := 12) 240 rfl (by omega) (by omega) (by omega) (by omega)
  have m5 := mulb (x := c1) (y := b2) (m := 20) (n := 12) 240 rfl (by omega) (by omega) (by omega) (by omega)
  have m6 := mulb (x := b2) (y := c2) (m := 12) (n := 12) 144 rfl (by omega) (by omega) (by omega) (by omega)
  have p6 : 0 < b2 * c2 := Int.mul_pos (by omega) (by omega)
  have m7 := mulb (x := a1 * b2 + b1 * a2) (y := c2) (m := 480) (n := 12) 5760 rfl (by omega) (by omega) (by omega) (by omega)
  have m8 := mulb (x := c1) (y := a2 * b2) (m := 20) (n := 144) 2880 rfl (by omega) (by omega) (by omega) (by omega)
  have m9 := mulb (x := a2 * b2) (y := c2) (m := 144) (n := 12) 1728 rfl (by omega) (by omega) (by omega) (by omega)
  have m10 := mulb (x := a1) (y := b2 * c2) (m := 20) (n := 144) 2880 rfl (by omega) (by omega) (by omega) (by omega)
  have m11 := mulb (x := b1 * c2 + c1 * b2) (y := a2) (m := 480) (n := 12) 5760 rfl (by omega) (by omega) (by omega) (by omega)
  have m12 := mulb (x := a2) (y := b2 * c2) (m := 12) (n := 144) 1728 rfl (by omega) (by omega) (by omega) (by omega)
  have p12 : 0 < a2 * (b2 * c2) := Int.mul_pos (by omega) p6
  have m13 := mulb (x := a1) (y := b1 * c2 + c1 * b2) (m := 20) (n := 480) 9600 rfl (by omega) (by omega) (by omega) (by omega)
  have m14 := mulb (x := a1) (y := b1) (m := 20) (n := 20) 400 rfl (by omega) (by omega) (by omega) (by omega)
  have m15 := mulb (x := a1) (y := c1) (m := 20) (n := 20) 400 rfl (by omega) (by omega) (by omega) (by omega)
  have m16 := mulb (x := a2) (y := c2) (m := 12) (n := 12) 144 rfl (by omega) (by omega) (by omega) (by omega)
  have p16 : 0 < a2 * c2 := Int.mul_pos (by omega) (by omega)
  have m17 := mulb (x := a1 * b1) (y := a2 * c2) (m := 400) (n := 144) 57600 rfl (by omega) (by omega) (by omega) (by omega)
  have m18 := mulb (x := a1 * c1) (y := a2 * b2) (m := 400) (n := 144) 57600 rfl (by omega) (by omega) (by omega) (by omega)
  have m19 := mulb (x := a2 * b2) (y := a2 * c2) (m := 144) (n := 144) 20736 rfl (by omega) (by omega) (by omega) (by omega)
  have m20 : -b1 * a2 = -(b1 * a2) := Int.neg_mul _ _
  have hx := fun W => add_red a1 a2 b1 b2 (by omega) (by omega) (by omega) (by omega) (by omega) (by omega) (by omega) (by omega) (by omega) (by omega) (by omega) W
  have hz := fun W => add_red b1 b2 c1 c2 (by omega) (by omega) (by omega) (by omega) (by omega) (by omega) (by omega) (by omega) (by omega) (by omega) (by omega) W
  have hy := fun W => add_red (a1 * b2 + b1 * a2) (a2 * b2) c1 c2 (by omega) (by omega) (by omega) (by omega) (by omega) (by omega) (by omega) (by omega) (by omega) (by omega) (by omega) W
  have hw := fun W => add_red a1 a2 (b1 * c2 + c1 * b2) (b2 * c2) (by omega) (by omega) (by omega) (by omega) (by omega) (by omega) (by omega) (by omega) (by omega) (by omega) (by omega) W
  have hp := fun W => times_red a1 a2 (b1 * c2 + c1 * b2) (b2 * c2) (by omega) (by omega) (by omega) (by omega) (by omega) (by omega) (by omega) (by omega) (by omega) (by omega) (by omega) W
  have hq := fun W => times_red a1 a2 b1 b2 (by omega) (by omega) (by omega) (by omega) (by omega) (by omega) (by omega) (by omega) (by omega) (by omega) (by omega) W
  have hr := fun W => times_red a1 a2 c1 c2 (by omega) (by omega) (by omega) (by omega) (by omega) (by omega) (by omega) (by omega) (by omega) (by omega) (by omega) W
  have hs := fun W => add_red (a1 * b1) (a2 * b2) (a1 * c1) (a2 * c2) (by omega) (by omega) (by omega) (by omega) (by omega) (by omega) (by omega) (by omega) (by omega) (by omega) (by omega) W
  have hd := fun W => add_red a1 a2 (-b1) b2 (by omega) (by omega) (by omega) (by omega) (by omega) (by omega) (by omega) (by omega) (by omega) (by omega) (by omega) W
  have hm := fun W => implMake_yes (6 * a1) (6 * a2) W ⟨by omega, by omega, by omega⟩
  have em := sh_red (red_mul (k := 6) (t := a1) (b := a2) (by omega) (by omega)) (by omega) (by omega) (by omega) (by omega)
  rw [em.1, em.2.1, em.2.2] at hm
  have i1 : a1 * (b2 * c2) + (b1 * c2 + c1 * b2) * a2 = (a1 * b2 + b1 * a2) * c2 + c1 * (a2 * b2) := by grind
  have i2 : a2 * (b2 * c2) = a2 * b2 * c2 := by grind
  have i3 : a1 * b1 * (a2 * c2) + a1 * c1 * (a2 * b2) = a2 * (a1 * (b1 * c2 + c1 * b2)) := by grind
  have i4 : a2 * b2 * (a2 * c2) = a2 * (a2 * (b2 * c2)) := by grind
  have es := red_mul (k := a2) (t := a1 * (b1 * c2 + c1 * b2)) (b := a2 * (b2 * c2)) (by omega) p12
  rw [i3, i4, es.1, es.2] at hs
  have hf := fun W => implOk_any (redT ((a1 * b2 + b1 * a2) * c2 + c1 * (a2 * b2)) (a2 * b2 * c2)) (redB ((a1 * b2 + b1 * a2) * c2 + c1 * (a2 * b2)) (a2 * b2 * c2)) W
  have of := red_ok (n := (a1 * b2 + b1 * a2) * c2 + c1 * (a2 * b2)) (d := a2 * b2 * c2) (by omega) (by omega) (by omega) (by omega)
  rw [of] at hf
  rw [i1] at hw
  rw [i2] at hw hp hs
  have sg := red_sign (n := a1 * b2 + -b1 * a2) (d := a2 * b2) p3
  have hk := fun W => implCompare_any a1 a2 b1 b2 W oa ob
  have hk2 := fun W => implCompare_any b1 b2 a1 a2 W ob oa
  rw [cmpV_swap (a1 * b2) (b1 * a2)] at hk2
  rw [ea.1, ea.2] at hx hw hp hq hr hd hm
  rw [eb.1, eb.2] at hx hz hq
  rw [ec.1, ec.2] at hz hy hr
  rw [en.1, en.2] at hd
  refine ⟨_, _, _, _, _, _, _, _, _, _, _, _, _, _, _, ⟨?_, hx, hy, hz, hw, hp, hq, hr, hs, hd, hm, hk, hk2, hf⟩⟩
  unfold cmpV
  by_cases g1 : a1 * b2 < b1 * a2
  · exact .inr (.inl ⟨sg.2.1 (by omega), by rw [if_pos g1]⟩)
  · by_cases g2 : b1 * a2 < a1 * b2
    · exact .inl ⟨sg.1 (by omega), by rw [if_neg g1, if_pos g2]⟩
    · exact .inr (.inr ⟨sg.2.2 (by omega), by rw [if_neg g1, if_neg g2]⟩)

theorem fractions_any (a : Option Addr) (len cap : Nat) (w : World) (hl : len ≤ 1048576) (hr : Bytes w w.heap.size a len) :
    Calls Try.prog 3 #[.slice a len cap] w fun e w' => e = .returned (.bool true) ∧ Below w.heap.size w w' := fractions_small facts_any a len cap w hl hr

set_option maxRecDepth 100000 in
theorem fractions_big (a : Option Addr) (len cap : Nat) (w : World) (hl : 1048576 < len) (hm : len ≤ 9223372036854775807) :
    Calls Try.prog 3 #[.slice a len cap] w fun e w' => e = .returned (.bool true) ∧ Below w.heap.size w w' := by
  have hb : (1048576 : Int) < len := by omega
  go_enter Try.func3, Try.ntmps3
  go_wp2_with (go_at_call 9; go_in)
  go_ret
  exact ⟨rfl, Below.refl _ _⟩
end Go.Proofs.Ytdjlohhpgdegfaa
