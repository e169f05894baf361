/-
  The law on lines: what an instrument shows can be corrected, two points determine its line, and a chain shows what the second instrument shows of the first one's.
-/
import Derived.Test.YtploanbnbkhciaaDrawLine
import Derived.Test.YtploanbnbkhciaaLineLaw
import Derived.Test.YtploanbnbkhciaaLineThr
import Derived.BigQuiet
import Derived.Deep.DeepCutAuto
namespace Go.Proofs.Ytploanbnbkhciaa
open Go.ChangeShapes Go.WideShapes Go.ChangeAt Go.RowKit Go.PlainAid

set_option maxRecDepth 100000 in
theorem lines_big (a : Option Addr) (len cap : Nat) (w : World) (hl : 1048576 < len) (hm : len ≤ 9223372036854775807) :
    Calls Try.prog 3 #[.slice a len cap] w fun e w' => e = .returned (.bool true) ∧ Below w.heap.size w w' := by
  have hb : (1048576 : Int) < len := by omega
  clear hm
  go_enter Try.func3, Try.ntmps3
  go_wp2_with (go_at_call 9; go_in)
  go_ret
  exact ⟨rfl, Below.refl _ _⟩

/-- What the law's calls answer of two small lines and a small value. -/
structure LFacts (p q r s t u x y m n sT sB wT wB tT tB cT cB cU cV xT xB yT yB : Int) (O7 O8 : Bool) : Prop where
  one : ∀ W : World, Calls Try.prog 11 #[.agg #[.int .i64 p, .int .i64 q, .int .i64 r, .int .i64 s], .agg #[.int .i64 m, .int .i64 n]] W (SaysF sT sB true W)
  two : ∀ W : World, Calls Try.prog 12 #[.agg #[.int .i64 p, .int .i64 q, .int .i64 r, .int .i64 s], .agg #[.int .i64 sT, .int .i64 sB]] W (SaysF m n true W)
  three : ∀ W : World, Calls Try.prog 13 #[.agg #[.int .i64 m, .int .i64 n], .agg #[.int .i64 1, .int .i64 1]] W (SaysF wT wB true W)
  four : ∀ W : World, Calls Try.prog 11 #[.agg #[.int .i64 p, .int .i64 q, .int .i64 r, .int .i64 s], .agg #[.int .i64 wT, .int .i64 wB]] W (SaysF tT tB true W)
  five : ∀ W : World, Calls Try.prog 14 #[.agg #[.int .i64 m, .int .i64 n], .agg #[.int .i64 sT, .int .i64 sB], .agg #[.int .i64 wT, .int .i64 wB], .agg #[.int .i64 tT, .int .i64 tB]] W (SaysL p q r s true W)
  six : ∀ W : World, Calls Try.prog 15 #[.agg #[.int .i64 p, .int .i64 q, .int .i64 r, .int .i64 s], .agg #[.int .i64 t, .int .i64 u, .int .i64 x, .int .i64 y]] W (SaysL cT cB cU cV true W)
  seven : ∀ W : World, Calls Try.prog 11 #[.agg #[.int .i64 t, .int .i64 u, .int .i64 x, .int .i64 y], .agg #[.int .i64 sT, .int .i64 sB]] W (SaysF xT xB O7 W)
  eight : ∀ W : World, Calls Try.prog 11 #[.agg #[.int .i64 cT, .int .i64 cB, .int .i64 cU, .int .i64 cV], .agg #[.int .i64 m, .int .i64 n]] W (SaysF yT yB O8 W)
  same : O7 = true → O8 = true → xT = yT ∧ xB = yB
  nine : ∀ W : World, Calls Try.prog 16 #[.agg #[.int .i64 cT, .int .i64 cB, .int .i64 cU, .int .i64 cV]] W (SaysB true W)
theorem lfacts {p q r s t u x y m n : Int} (ha : Small p q) (hb : SmallU r s) (hc : Small t u) (hd : SmallU x y) (hv : Small m n) :
    ∃ sT sB wT wB tT tB cT cB cU cV xT xB yT yB O7 O8, LFacts p q r s t u x y m n sT sB wT wB tT tB cT cB cU cV xT xB yT yB O7 O8 := by
  obtain ⟨v0, v1, v2, v3⟩ := And.intro hv.t0 (And.intro hv.t1 (And.intro hv.b0 hv.b1))
  obtain ⟨w1, w2, w3, w4⟩ := one_more hv
  obtain ⟨-, a2, -⟩ := shown_small ha hb hv.ok (by omega) (by omega) v3
  obtain ⟨-, b2, -⟩ := shown_small ha hb w4 (by omega) (by omega) v3
  obtain ⟨c1, c2, c3⟩ := cor_is a2
  obtain ⟨t1, t2, t3, t4, t5⟩ := thr_is ha hb hv
  obtain ⟨h1, h2, -, -⟩ := ch_is ha hb hc hd
  refine ⟨shwT p q r s m n, shwB p q r s m n, m + n, n, shwT p q r s (m + n) n, shwB p q r s (m + n) n, shwT t u x y p q, shwB t u x y p q, prT x y r s, prB x y r s, _, _, _, _, _, _,
    fun W => ?_, fun W => ?_, fun W => ?_, fun W => ?_, fun W => ?_, fun W => ?_, fun W => implShown_any _ _ _ _ _ _ W, fun W => implShown_any _ _ _ _ _ _ W, same_is ha hb hc hd hv, fun W => ?_⟩
  · have h := implShown_any p q r s m n W
    rw [a2] at h
    exact h
  · have h := implCor_any p q r s (shwT p q r s m n) (shwB p q r s m n) W
    rw [c1, c2, c3] at h
    exact h
  · have h := implAdd_any m n 1 1 W hv.ok (by decide)
    change Calls _ _ _ _ (SaysF (smT m n 1 1) (smB m n 1 1) (smO m n 1 1) W) at h
    rw [w1, w2, w3] at h
    exact h
  · have h := implShown_any p q r s (m + n) n W
    rw [b2] at h
    exact h
  · have h := implThr_any m n (shwT p q r s m n) (shwB p q r s m n) (m + n) n (shwT p q r s (m + n) n) (shwB p q r s (m + n) n) W
    obtain ⟨e1, e2, e3, e4, e5⟩ := th_yes t1
    rw [e1, e2, e3, e4, e5, t2, t3, t4, t5] at h
    exact h
  · have h := implCh_any p q r s t u x y W
    obtain ⟨e1, e2, e3, e4, e5⟩ := ch_yes h1
    rw [e1, e2, e3, e4, e5] at h
    exact h
  · have h := implLok_any (shwT t u x y p q) (shwB t u x y p q) (prT x y r s) (prB x y r s) W
    rw [h2] at h
    exact h

set_option maxRecDepth 100000 in
set_option maxHeartbeats 4000000 in
theorem lines_any (A : Option Addr) (len cap : Nat) (w : World) (hl : len ≤ 1048576) (hr : Bytes w w.heap.size A len) :
    Calls Try.prog 3 #[.slice A len cap] w fun e w' => e = .returned (.bool true) ∧ Below w.heap.size w w' := by
  have hb : ¬ (1048576 : Int) < len := by omega
  have hD := drawLines_any A len cap w hl hr
  clear hr hl
  go_enter Try.func3, Try.ntmps3
  go_wp2_with (go_at_call 9; go_in)
  refine hD.mono ?_
  clear hD hb
  rintro en v0 ⟨p, q, r, s, t, u, x, y, m, n, ⟨h1, h2⟩, ⟨h3, h4⟩, h5, rfl, kb⟩
  obtain ⟨sT, sB, wT, wB, tT, tB, cT, cB, cU, cV, xT, xB, yT, yB, O7, O8, Z⟩ := lfacts h1 h2 h3 h4 h5
  clear h1 h2 h3 h4 h5
  go_upto_region 4 with fail
  have a := ((Quad.new v0 p q r s 27).alloc (.cells #[.int .i64 t, .int .i64 u, .int .i64 x, .int .i64 y] 27)).alloc (.cells #[.int .i64 m, .int .i64 n] 25)
  have c := (Quad.new_at (w := v0.alloc (.cells #[.int .i64 p, .int .i64 q, .int .i64 r, .int .i64 s] 27)) (a := t) (b := u) (c := x) (d := y) (t := 27) (p := v0.heap.size + 1) (by simp)).alloc (.cells #[.int .i64 m, .int .i64 n] 25)
  have d := Box.new_at (w := (v0.alloc (.cells #[.int .i64 p, .int .i64 q, .int .i64 r, .int .i64 s] 27)).alloc (.cells #[.int .i64 t, .int .i64 u, .int .i64 x, .int .i64 y] 27)) (t := m) (b := n) (ty := 25) (p := v0.heap.size + 1 + 1) (by simp)
  replace kb := ((kb.alloc kb.size (.cells #[.int .i64 p, .int .i64 q, .int .i64 r, .int .i64 s] 27)).alloc (by have := kb.size; simp <;> omega) (.cells #[.int .i64 t, .int .i64 u, .int .i64 x, .int .i64 y] 27)).alloc (by have := kb.size; simp <;> omega) (.cells #[.int .i64 m, .int .i64 n] 25)
  generalize ((v0.alloc (.cells #[.int .i64 p, .int .i64 q, .int .i64 r, .int .i64 s] 27)).alloc (.cells #[.int .i64 t, .int .i64 u, .int .i64 x, .int .i64 y] 27)).alloc (.cells #[.int .i64 m, .int .i64 n] 25) = u0 at a c d kb ⊢
  generalize v0.heap.size + 1 + 1 = q3 at d ⊢
  generalize v0.heap.size + 1 = q2 at c ⊢
  generalize v0.heap.size = q1 at a ⊢
  have hM := Z.one
  obtain ⟨ac0, ac1, ac2, ac3⟩ := a.cells
  obtain ⟨dc0, dc1⟩ := d.cells
  go_wp2_with fail
  refine (hM _).mono ?_
  rintro en v1 ⟨rfl, b9⟩
  replace a := a.under (b9.alloc b9.size (.cells #[.int .i64 sT, .int .i64 sB] 25))
  replace c := c.under (b9.alloc b9.size (.cells #[.int .i64 sT, .int .i64 sB] 25))
  replace d := d.under (b9.alloc b9.size (.cells #[.int .i64 sT, .int .i64 sB] 25))
  have e := Box.new v1 sT sB 25
  replace kb := below_more kb kb.size (b9.alloc b9.size (.cells #[.int .i64 sT, .int .i64 sB] 25))
  clear b9 hM ac0 ac1 ac2 ac3 dc0 dc1
  go_upto_region 5 with fail
  generalize v1.heap.size = r1 at e ⊢
  generalize v1.alloc (.cells #[.int .i64 sT, .int .i64 sB] 25) = u1 at e a c d kb ⊢
  have hM := Z.two
  obtain ⟨ac0, ac1, ac2, ac3⟩ := a.cells
  obtain ⟨ec0, ec1⟩ := e.cells
  go_wp2_with fail
  refine (hM _).mono ?_
  rintro en v2 ⟨rfl, b9⟩
  replace a := a.under (b9.alloc b9.size (.cells #[.int .i64 m, .int .i64 n] 25))
  replace c := c.under (b9.alloc b9.size (.cells #[.int .i64 m, .int .i64 n] 25))
  replace d := d.under (b9.alloc b9.size (.cells #[.int .i64 m, .int .i64 n] 25))
  replace e := e.under (b9.alloc b9.size (.cells #[.int .i64 m, .int .i64 n] 25))
  have f := Box.new v2 m n 25
  replace kb := below_more kb kb.size (b9.alloc b9.size (.cells #[.int .i64 m, .int .i64 n] 25))
  clear b9 hM ac0 ac1 ac2 ac3 ec0 ec1
  go_upto_region 6 with fail
  generalize v2.heap.size = r2 at f ⊢
  generalize v2.alloc (.cells #[.int .i64 m, .int .i64 n] 25) = u2 at f a c d e kb ⊢
  have hM := Z.three
  obtain ⟨dc0, dc1⟩ := d.cells
  go_wp2_with fail
  refine (hM _).mono ?_
  rintro en v3 ⟨rfl, b9⟩
  replace a := a.under (b9.alloc b9.size (.cells #[.int .i64 wT, .int .i64 wB] 25))
  replace c := c.under (b9.alloc b9.size (.cells #[.int .i64 wT, .int .i64 wB] 25))
  replace d := d.under (b9.alloc b9.size (.cells #[.int .i64 wT, .int .i64 wB] 25))
  replace e := e.under (b9.alloc b9.size (.cells #[.int .i64 wT, .int .i64 wB] 25))
  replace f := f.under (b9.alloc b9.size (.cells #[.int .i64 wT, .int .i64 wB] 25))
  have g := Box.new v3 wT wB 25
  replace kb := below_more kb kb.size (b9.alloc b9.size (.cells #[.int .i64 wT, .int .i64 wB] 25))
  clear b9 hM dc0 dc1
  go_upto_region 7 with fail
  generalize v3.heap.size = r3 at g ⊢
  generalize v3.alloc (.cells #[.int .i64 wT, .int .i64 wB] 25) = u3 at g a c d e f kb ⊢
  have hM := Z.four
  obtain ⟨ac0, ac1, ac2, ac3⟩ := a.cells
  obtain ⟨gc0, gc1⟩ := g.cells
  go_wp2_with fail
  refine (hM _).mono ?_
  rintro en v4 ⟨rfl, b9⟩
  replace a := a.under (b9.alloc b9.size (.cells #[.int .i64 tT, .int .i64 tB] 25))
  replace c := c.under (b9.alloc b9.size (.cells #[.int .i64 tT, .int .i64 tB] 25))
  replace d := d.under (b9.alloc b9.size (.cells #[.int .i64 tT, .int .i64 tB] 25))
  replace e := e.under (b9.alloc b9.size (.cells #[.int .i64 tT, .int .i64 tB] 25))
  replace f := f.under (b9.alloc b9.size (.cells #[.int .i64 tT, .int .i64 tB] 25))
  replace g := g.under (b9.alloc b9.size (.cells #[.int .i64 tT, .int .i64 tB] 25))
  have h := Box.new v4 tT tB 25
  replace kb := below_more kb kb.size (b9.alloc b9.size (.cells #[.int .i64 tT, .int .i64 tB] 25))
  clear b9 hM ac0 ac1 ac2 ac3 gc0 gc1
  go_upto_region 8 with fail
  generalize v4.heap.size = r4 at h ⊢
  generalize v4.alloc (.cells #[.int .i64 tT, .int .i64 tB] 25) = u4 at h a c d e f g kb ⊢
  have hM := Z.five
  obtain ⟨dc0, dc1⟩ := d.cells
  obtain ⟨ec0, ec1⟩ := e.cells
  obtain ⟨gc0, gc1⟩ := g.cells
  obtain ⟨hc0, hc1⟩ := h.cells
  go_wp2_with fail
  refine (hM _).mono ?_
  rintro en v5 ⟨rfl, b9⟩
  replace a := a.under (b9.alloc b9.size (.cells #[.int .i64 p, .int .i64 q, .int .i64 r, .int .i64 s] 27))
  replace c := c.under (b9.alloc b9.size (.cells #[.int .i64 p, .int .i64 q, .int .i64 r, .int .i64 s] 27))
  replace d := d.under (b9.alloc b9.size (.cells #[.int .i64 p, .int .i64 q, .int .i64 r, .int .i64 s] 27))
  replace e := e.under (b9.alloc b9.size (.cells #[.int .i64 p, .int .i64 q, .int .i64 r, .int .i64 s] 27))
  replace f := f.under (b9.alloc b9.size (.cells #[.int .i64 p, .int .i64 q, .int .i64 r, .int .i64 s] 27))
  replace g := g.under (b9.alloc b9.size (.cells #[.int .i64 p, .int .i64 q, .int .i64 r, .int .i64 s] 27))
  replace h := h.under (b9.alloc b9.size (.cells #[.int .i64 p, .int .i64 q, .int .i64 r, .int .i64 s] 27))
  have i := Quad.new v5 p q r s 27
  replace kb := below_more kb kb.size (b9.alloc b9.size (.cells #[.int .i64 p, .int .i64 q, .int .i64 r, .int .i64 s] 27))
  clear b9 hM dc0 dc1 ec0 ec1 gc0 gc1 hc0 hc1
  go_upto_region 9 with fail
  generalize v5.heap.size = r5 at i ⊢
  generalize v5.alloc (.cells #[.int .i64 p, .int .i64 q, .int .i64 r, .int .i64 s] 27) = u5 at i a c d e f g h kb ⊢
  have hM := Z.six
  obtain ⟨ac0, ac1, ac2, ac3⟩ := a.cells
  obtain ⟨cc0, cc1, cc2, cc3⟩ := c.cells
  go_wp2_with fail
  refine (hM _).mono ?_
  rintro en v6 ⟨rfl, b9⟩
  replace a := a.under (b9.alloc b9.size (.cells #[.int .i64 cT, .int .i64 cB, .int .i64 cU, .int .i64 cV] 27))
  replace c := c.under (b9.alloc b9.size (.cells #[.int .i64 cT, .int .i64 cB, .int .i64 cU, .int .i64 cV] 27))
  replace d := d.under (b9.alloc b9.size (.cells #[.int .i64 cT, .int .i64 cB, .int .i64 cU, .int .i64 cV] 27))
  replace e := e.under (b9.alloc b9.size (.cells #[.int .i64 cT, .int .i64 cB, .int .i64 cU, .int .i64 cV] 27))
  replace f := f.under (b9.alloc b9.size (.cells #[.int .i64 cT, .int .i64 cB, .int .i64 cU, .int .i64 cV] 27))
  replace g := g.under (b9.alloc b9.size (.cells #[.int .i64 cT, .int .i64 cB, .int .i64 cU, .int .i64 cV] 27))
  replace h := h.under (b9.alloc b9.size (.cells #[.int .i64 cT, .int .i64 cB, .int .i64 cU, .int .i64 cV] 27))
  replace i := i.under (b9.alloc b9.size (.cells #[.int .i64 cT, .int .i64 cB, .int .i64 cU, .int .i64 cV] 27))
  have j := Quad.new v6 cT cB cU cV 27
  replace kb := below_more kb kb.size (b9.alloc b9.size (.cells #[.int .i64 cT, .int .i64 cB, .int .i64 cU, .int .i64 cV] 27))
  clear b9 hM ac0 ac1 ac2 ac3 cc0 cc1 cc2 cc3
  go_upto_region 10 with fail
  generalize v6.heap.size = r6 at j ⊢
  generalize v6.alloc (.cells #[.int .i64 cT, .int .i64 cB, .int .i64 cU, .int .i64 cV] 27) = u6 at j a c d e f g h i kb ⊢
  have hM := Z.seven
  obtain ⟨cc0, cc1, cc2, cc3⟩ := c.cells
  obtain ⟨ec0, ec1⟩ := e.cells
  go_wp2_with fail
  refine (hM _).mono ?_
  rintro en v7 ⟨rfl, b9⟩
  replace a := a.under (b9.alloc b9.size (.cells #[.int .i64 xT, .int .i64 xB] 25))
  replace c := c.under (b9.alloc b9.size (.cells #[.int .i64 xT, .int .i64 xB] 25))
  replace d := d.under (b9.alloc b9.size (.cells #[.int .i64 xT, .int .i64 xB] 25))
  replace e := e.under (b9.alloc b9.size (.cells #[.int .i64 xT, .int .i64 xB] 25))
  replace f := f.under (b9.alloc b9.size (.cells #[.int .i64 xT, .int .i64 xB] 25))
  replace g := g.under (b9.alloc b9.size (.cells #[.int .i64 xT, .int .i64 xB] 25))
  replace h := h.under (b9.alloc b9.size (.cells #[.int .i64 xT, .int .i64 xB] 25))
  replace i := i.under (b9.alloc b9.size (.cells #[.int .i64 xT, .int .i64 xB] 25))
  replace j := j.under (b9.alloc b9.size (.cells #[.int .i64 xT, .int .i64 xB] 25))
  have k := Box.new v7 xT xB 25
  replace kb := below_more kb kb.size (b9.alloc b9.size (.cells #[.int .i64 xT, .int .i64 xB] 25))
  clear b9 hM cc0 cc1 cc2 cc3 ec0 ec1
  go_upto_region 11 with fail
  generalize v7.heap.size = r7 at k ⊢
  generalize v7.alloc (.cells #[.int .i64 xT, .int .i64 xB] 25) = u7 at k a c d e f g h i j kb ⊢
  have hM := Z.eight
  obtain ⟨jc0, jc1, jc2, jc3⟩ := j.cells
  obtain ⟨dc0, dc1⟩ := d.cells
  go_wp2_with fail
  refine (hM _).mono ?_
  rintro en v8 ⟨rfl, b9⟩
  replace a := a.under (b9.alloc b9.size (.cells #[.int .i64 yT, .int .i64 yB] 25))
  replace c := c.under (b9.alloc b9.size (.cells #[.int .i64 yT, .int .i64 yB] 25))
  replace d := d.under (b9.alloc b9.size (.cells #[.int .i64 yT, .int .i64 yB] 25))
  replace e := e.under (b9.alloc b9.size (.cells #[.int .i64 yT, .int .i64 yB] 25))
  replace f := f.under (b9.alloc b9.size (.cells #[.int .i64 yT, .int .i64 yB] 25))
  replace g := g.under (b9.alloc b9.size (.cells #[.int .i64 yT, .int .i64 yB] 25))
  replace h := h.under (b9.alloc b9.size (.cells #[.int .i64 yT, .int .i64 yB] 25))
  replace i := i.under (b9.alloc b9.size (.cells #[.int .i64 yT, .int .i64 yB] 25))
  replace j := j.under (b9.alloc b9.size (.cells #[.int .i64 yT, .int .i64 yB] 25))
  replace k := k.under (b9.alloc b9.size (.cells #[.int .i64 yT, .int .i64 yB] 25))
  have l := Box.new v8 yT yB 25
  replace kb := below_more kb kb.size (b9.alloc b9.size (.cells #[.int .i64 yT, .int .i64 yB] 25))
  clear b9 hM jc0 jc1 jc2 jc3 dc0 dc1
  go_upto_region 12 with fail
  generalize v8.heap.size = r8 at l ⊢
  generalize v8.alloc (.cells #[.int .i64 yT, .int .i64 yB] 25) = u8 at l a c d e f g h i j k kb ⊢
  have hM := Z.nine
  have hS := Z.same
  clear Z e g h c
  obtain ⟨fc0, fc1⟩ := f.cells
  obtain ⟨dc0, dc1⟩ := d.cells
  obtain ⟨ic0, ic1, ic2, ic3⟩ := i.cells
  obtain ⟨ac0, ac1, ac2, ac3⟩ := a.cells
  obtain ⟨kc0, kc1⟩ := k.cells
  obtain ⟨lc0, lc1⟩ := l.cells
  obtain ⟨jc0, jc1, jc2, jc3⟩ := j.cells
  clear f d i a k l j
  cases O7
  · clear hS
    go_wp2_with fail
    refine (hM _).mono ?_
    rintro en v9 ⟨rfl, b9⟩
    replace kb := below_more kb kb.size b9
    clear hM b9 fc0 fc1 dc0 dc1 ic0 ic1 ic2 ic3 ac0 ac1 ac2 ac3 kc0 kc1 lc0 lc1 jc0 jc1 jc2 jc3
    go_wp2_with fail
    go_ret
    exact ⟨rfl, kb⟩
  · cases O8
    · clear hS
      go_wp2_with fail
      refine (hM _).mono ?_
      rintro en v9 ⟨rfl, b9⟩
      replace kb := below_more kb kb.size b9
      clear hM b9 fc0 fc1 dc0 dc1 ic0 ic1 ic2 ic3 ac0 ac1 ac2 ac3 kc0 kc1 lc0 lc1 jc0 jc1 jc2 jc3
      go_wp2_with fail
      go_ret
      exact ⟨rfl, kb⟩
    · obtain ⟨rfl, rfl⟩ := hS rfl rfl
      clear hS
      go_wp2_with fail
      refine (hM _).mono ?_
      rintro en v9 ⟨rfl, b9⟩
      replace kb := below_more kb kb.size b9
      clear hM b9 fc0 fc1 dc0 dc1 ic0 ic1 ic2 ic3 ac0 ac1 ac2 ac3 kc0 kc1 lc0 lc1 jc0 jc1 jc2 jc3
      go_wp2_with fail
      go_ret
      exact ⟨rfl, kb⟩
end Go.Proofs.Ytploanbnbkhciaa
