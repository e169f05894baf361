/-
  The contracts of the program's functions on lines, at every argument, in the words of XLine. Only new memory is written.
-/
import Derived.Test.YtploanbnbkhciaaImplLine
namespace Go.Proofs.Ytploanbnbkhciaa
open Go.ChangeShapes Go.WideShapes Go.ChangeAt Go.RowKit Go.PlainAid

theorem implPlus (t b x y : Int) (w : World) (h1 : okF t b = true) (h2 : okF x y = true) : Calls Try.prog 34 #[.agg #[.int .i64 t, .int .i64 b], .agg #[.int .i64 x, .int .i64 y]] w (SaysF (smT t b x y) (smB t b x y) (smO t b x y) w) := by
  obtain ⟨x0, x1, x2, x3, -⟩ := (okF_iff t b).1 h1
  obtain ⟨y0, y1, y2, y3, -⟩ := (okF_iff x y).1 h2
  have m1 := mul_in t y (by omega) (by omega) (by omega) (by omega)
  have m2 := mul_in x b (by omega) (by omega) (by omega) (by omega)
  have m3 := mul_in b y (by omega) (by omega) (by omega) (by omega)
  have p3 : 0 < b * y := Int.mul_pos (by omega) (by omega)
  exact plus_walk t b x y _ _ _ _ _ _ w rfl rfl rfl m1.1 m1.2 m2.1 m2.2 m3.1 m3.2 fun W => short_any _ _ W (by omega) (by omega) (by omega) (by omega) (by omega)
theorem implTi (t b x y : Int) (w : World) (h1 : okF t b = true) (h2 : okF x y = true) : Calls Try.prog 37 #[.agg #[.int .i64 t, .int .i64 b], .agg #[.int .i64 x, .int .i64 y]] w (SaysF (prT t b x y) (prB t b x y) (prO t b x y) w) := by
  obtain ⟨x0, x1, x2, x3, -⟩ := (okF_iff t b).1 h1
  obtain ⟨y0, y1, y2, y3, -⟩ := (okF_iff x y).1 h2
  have m1 := mul_in t x (by omega) (by omega) (by omega) (by omega)
  have m3 := mul_in b y (by omega) (by omega) (by omega) (by omega)
  have p3 : 0 < b * y := Int.mul_pos (by omega) (by omega)
  exact times_walk t b x y _ _ _ _ _ w rfl rfl m1.1 m1.2 m3.1 m3.2 fun W => short_any _ _ W (by omega) (by omega) (by omega) (by omega) (by omega)
theorem implOv (t b x y : Int) (w : World) (h1 : okF t b = true) (h2 : okF x y = true) (hx : x ≠ 0) : Calls Try.prog 47 #[.agg #[.int .i64 t, .int .i64 b], .agg #[.int .i64 x, .int .i64 y]] w (SaysF (quT t b x y) (quB t b x y) (quO t b x y) w) := by
  obtain ⟨x0, x1, x2, x3, -⟩ := (okF_iff t b).1 h1
  obtain ⟨y0, y1, y2, y3, -⟩ := (okF_iff x y).1 h2
  have m1 := mul_in t y (by omega) (by omega) (by omega) (by omega)
  have m2 := mul_in b x (by omega) (by omega) (by omega) (by omega)
  have hn : b * x ≠ 0 := Int.mul_ne_zero (by omega) hx
  exact implOver_mk t b x y _ _ _ _ _ w rfl rfl m1.1 m1.2 m2.1 m2.2 fun W => short_any _ _ W (by omega) (by omega) hn (by omega) (by omega)
theorem implMi (t b x y : Int) (w : World) (h1 : okF t b = true) (h2 : okF x y = true) : Calls Try.prog 50 #[.agg #[.int .i64 t, .int .i64 b], .agg #[.int .i64 x, .int .i64 y]] w (SaysF (smT t b (-x) y) (smB t b (-x) y) (smO t b (-x) y) w) := by
  obtain ⟨l0, l1⟩ := ok_in h2
  exact implMinus_mk t b x y _ _ w _ l0 l1 fun W => implPlus t b (-x) y W h1 (okF_neg.trans h2)

theorem implShown_any (a b c d t u : Int) (w : World) : Calls Try.prog 11 #[.agg #[.int .i64 a, .int .i64 b, .int .i64 c, .int .i64 d], .agg #[.int .i64 t, .int .i64 u]] w (SaysF (shwT a b c d t u) (shwB a b c d t u) (shwO a b c d t u) w) := by
  by_cases h : shwIn a b c d t u
  · obtain ⟨e1, e2, e3⟩ := shw_yes h
    rw [e1, e2, e3]
    obtain ⟨h1, h2, h3⟩ := h
    obtain ⟨g1, g2, -⟩ := lnOk_iff.1 h1
    exact implShown_mk a b c d t u _ _ w _ h1 h2 fun W => dialShown_yes a b c d t u _ _ _ _ W _ (fun W => h3 ▸ implTi c d t u W g2 h2) fun W => after_mk a b _ _ _ _ W _ fun W => implPlus a b _ _ W g1 (pr_ok h3)
  · obtain ⟨e1, e2, e3⟩ := shw_no h
    rw [e1, e2, e3]
    cases h1 : lnOk a b c d
    · exact implShown_no1 a b c d t u w h1
    · obtain ⟨g1, g2, -⟩ := lnOk_iff.1 h1
      cases h2 : okF t u
      · exact implShown_no2 a b c d t u w h1 h2
      · have h3 : prO c d t u = false := by
          cases h3 : prO c d t u
          · rfl
          · exact absurd ⟨h1, h2, h3⟩ h
        exact implShown_mk a b c d t u _ _ w _ h1 h2 fun W => dialShown_no a b c d t u _ _ W (fun W => h3 ▸ implTi c d t u W g2 h2)

theorem implCor_any (a b c d t u : Int) (w : World) : Calls Try.prog 12 #[.agg #[.int .i64 a, .int .i64 b, .int .i64 c, .int .i64 d], .agg #[.int .i64 t, .int .i64 u]] w (SaysF (corT a b c d t u) (corB a b c d t u) (corO a b c d t u) w) := by
  by_cases h : corIn a b c d t u
  · obtain ⟨e1, e2, e3⟩ := cor_yes h
    rw [e1, e2, e3]
    obtain ⟨h1, h2, h3⟩ := h
    obtain ⟨g1, g2, g3⟩ := lnOk_iff.1 h1
    exact implCor_mk a b c d t u _ _ w _ h1 h2 fun W => dialCor_yes a b c d t u _ _ _ _ W _ (fun W => dist_mk a b t u _ _ W _ fun W => h3 ▸ implMi t u a b W h2 g1) fun W => implOv _ _ c d W (sm_ok h3) g2 (by omega)
  · obtain ⟨e1, e2, e3⟩ := cor_no h
    rw [e1, e2, e3]
    cases h1 : lnOk a b c d
    · exact implCor_no1 a b c d t u w h1
    · obtain ⟨g1, g2, -⟩ := lnOk_iff.1 h1
      cases h2 : okF t u
      · exact implCor_no2 a b c d t u w h1 h2
      · have h3 : smO t u (-a) b = false := by
          cases h3 : smO t u (-a) b
          · rfl
          · exact absurd ⟨h1, h2, h3⟩ h
        exact implCor_mk a b c d t u _ _ w _ h1 h2 fun W => dialCor_no a b c d t u _ _ W (fun W => dist_mk a b t u _ _ W _ fun W => h3 ▸ implMi t u a b W h2 g1)

theorem implCh_any (a b c d e f g h : Int) (w : World) : Calls Try.prog 15 #[.agg #[.int .i64 a, .int .i64 b, .int .i64 c, .int .i64 d], .agg #[.int .i64 e, .int .i64 f, .int .i64 g, .int .i64 h]] w (SaysL (chT a b c d e f g h) (chB a b c d e f g h) (chU a b c d e f g h) (chV a b c d e f g h) (chO a b c d e f g h) w) := by
  obtain ⟨t1, t2, t3⟩ := pr_turn c d g h
  by_cases k : chIn a b c d e f g h
  · obtain ⟨e1, e2, e3, e4, e5⟩ := ch_yes k
    rw [e1, e2, e3, e4, e5, t1, t2]
    obtain ⟨h1, h2, h3, h4⟩ := k
    obtain ⟨-, g2, -⟩ := lnOk_iff.1 h1
    obtain ⟨-, g4, -⟩ := lnOk_iff.1 h2
    rw [t3] at h3
    exact implCh_yes a b c d e f g h _ _ _ _ w h1 h2 (fun W => h3 ▸ implTi c d g h W g2 g4) (fun W => h4 ▸ implShown_any e f g h a b W)
  · obtain ⟨e1, e2, e3, e4, e5⟩ := ch_no k
    rw [e1, e2, e3, e4, e5]
    cases h1 : lnOk a b c d
    · exact implCh_no1 a b c d e f g h w h1
    cases h2 : lnOk e f g h
    · exact implCh_no2 a b c d e f g h w h1 h2
    obtain ⟨-, g2, -⟩ := lnOk_iff.1 h1
    obtain ⟨-, g4, -⟩ := lnOk_iff.1 h2
    cases h3 : prO c d g h
    · exact implCh_no3 a b c d e f g h _ _ w h1 h2 (fun W => h3 ▸ implTi c d g h W g2 g4)
    cases h4 : shwO e f g h a b
    · exact implCh_no4 a b c d e f g h _ _ _ _ w h1 h2 (fun W => h3 ▸ implTi c d g h W g2 g4) (fun W => h4 ▸ implShown_any e f g h a b W)
    exact absurd ⟨h1, h2, t3.trans h3, h4⟩ k
end Go.Proofs.Ytploanbnbkhciaa
