/-
  The contracts of the model's functions on lines, at every argument, in the words of XLine. Only new memory is written.
-/
import Derived.Test.YtploanbnbkhciaaSpecLine
namespace Go.Proofs.Ytploanbnbkhciaa
open Go.ChangeShapes Go.WideShapes Go.ChangeAt Go.RowKit Go.PlainAid

theorem specPr (t b x y : Int) (w : World) (h1 : okF t b = true) (h2 : okF x y = true) : Calls Try.prog 39 #[.agg #[.int .i64 t, .int .i64 b], .agg #[.int .i64 x, .int .i64 y]] w (SaysF (prT t b x y) (prB t b x y) (prO t b x y) w) :=
  specTimes_any t b x y w h1 h2
theorem specSm (t b x y : Int) (w : World) (h1 : okF t b = true) (h2 : okF x y = true) : Calls Try.prog 40 #[.agg #[.int .i64 t, .int .i64 b], .agg #[.int .i64 x, .int .i64 y]] w (SaysF (smT t b x y) (smB t b x y) (smO t b x y) w) :=
  specAdd_any t b x y w h1 h2
theorem specQu (t b x y : Int) (w : World) (h1 : okF t b = true) (h2 : okF x y = true) (hx : x ≠ 0) : Calls Try.prog 42 #[.agg #[.int .i64 t, .int .i64 b], .agg #[.int .i64 x, .int .i64 y]] w (SaysF (quT t b x y) (quB t b x y) (quO t b x y) w) := by
  obtain ⟨x0, x1, x2, x3, -⟩ := (okF_iff t b).1 h1
  obtain ⟨y0, y1, y2, y3, -⟩ := (okF_iff x y).1 h2
  have m1 := mul_in t y (by omega) (by omega) (by omega) (by omega)
  have m2 := mul_in b x (by omega) (by omega) (by omega) (by omega)
  have hn : b * x ≠ 0 := Int.mul_ne_zero (by omega) hx
  exact specOver_mk t b x y _ _ _ _ _ w rfl rfl m1.1 m1.2 m2.1 m2.2 fun W => specMake_yes _ _ W ⟨hn, m1, m2⟩
theorem specShown_any (a b c d t u : Int) (w : World) : Calls Try.prog 19 #[.agg #[.int .i64 a, .int .i64 b, .int .i64 c, .int .i64 d], .agg #[.int .i64 t, .int .i64 u]] w (SaysF (shwT a b c d t u) (shwB a b c d t u) (shwO a b c d t u) w) := by
  by_cases h : shwIn a b c d t u
  · obtain ⟨e1, e2, e3⟩ := shw_yes h
    rw [e1, e2, e3]
    obtain ⟨h1, h2, h3⟩ := h
    obtain ⟨g1, g2, -⟩ := lnOk_iff.1 h1
    exact specShown_yes a b c d t u _ _ _ _ w _ h1 (fun W => h3 ▸ specPr c d t u W g2 h2) (fun W => specSm a b _ _ W g1 (pr_ok h3))
  · obtain ⟨e1, e2, e3⟩ := shw_no h
    rw [e1, e2, e3]
    cases h1 : lnOk a b c d
    · exact specShown_no1 a b c d t u w h1
    · obtain ⟨g1, g2, -⟩ := lnOk_iff.1 h1
      cases h2 : okF t u
      · exact specShown_no2 a b c d t u 0 0 w h1 (fun W => specTimes_no2 c d t u W g2 h2)
      · have h3 : prO c d t u = false := by
          cases h3 : prO c d t u
          · rfl
          · exact absurd ⟨h1, h2, h3⟩ h
        exact specShown_no2 a b c d t u _ _ w h1 (fun W => h3 ▸ specPr c d t u W g2 h2)

theorem specCor_any (a b c d t u : Int) (w : World) : Calls Try.prog 22 #[.agg #[.int .i64 a, .int .i64 b, .int .i64 c, .int .i64 d], .agg #[.int .i64 t, .int .i64 u]] w (SaysF (corT a b c d t u) (corB a b c d t u) (corO a b c d t u) w) := by
  by_cases h : corIn a b c d t u
  · obtain ⟨e1, e2, e3⟩ := cor_yes h
    rw [e1, e2, e3]
    obtain ⟨h1, h2, h3⟩ := h
    obtain ⟨g1, g2, g3⟩ := lnOk_iff.1 h1
    obtain ⟨l0, l1⟩ := ok_in g1
    exact specCor_yes a b c d t u _ _ _ _ w _ h1 h2 l0 l1 (fun W => h3 ▸ specSm t u (-a) b W h2 (okF_neg.trans g1)) (fun W => specQu _ _ c d W (sm_ok h3) g2 (by omega))
  · obtain ⟨e1, e2, e3⟩ := cor_no h
    rw [e1, e2, e3]
    cases h1 : lnOk a b c d
    · exact specCor_no1 a b c d t u w h1
    · obtain ⟨g1, g2, -⟩ := lnOk_iff.1 h1
      obtain ⟨l0, l1⟩ := ok_in g1
      cases h2 : okF t u
      · exact specCor_no2 a b c d t u w h1 h2
      · have h3 : smO t u (-a) b = false := by
          cases h3 : smO t u (-a) b
          · rfl
          · exact absurd ⟨h1, h2, h3⟩ h
        exact specCor_no3 a b c d t u _ _ w h1 h2 l0 l1 (fun W => h3 ▸ specSm t u (-a) b W h2 (okF_neg.trans g1))

theorem specCh_any (a b c d e f g h : Int) (w : World) : Calls Try.prog 25 #[.agg #[.int .i64 a, .int .i64 b, .int .i64 c, .int .i64 d], .agg #[.int .i64 e, .int .i64 f, .int .i64 g, .int .i64 h]] w (SaysL (chT a b c d e f g h) (chB a b c d e f g h) (chU a b c d e f g h) (chV a b c d e f g h) (chO a b c d e f g h) w) := by
  by_cases k : chIn a b c d e f g h
  · obtain ⟨e1, e2, e3, e4, e5⟩ := ch_yes k
    rw [e1, e2, e3, e4, e5]
    obtain ⟨h1, h2, h3, h4⟩ := k
    obtain ⟨-, g2, -⟩ := lnOk_iff.1 h1
    obtain ⟨-, g4, -⟩ := lnOk_iff.1 h2
    exact specCh_yes a b c d e f g h _ _ _ _ w h1 h2 (fun W => h3 ▸ specPr g h c d W g4 g2) (fun W => h4 ▸ specShown_any e f g h a b W)
  · obtain ⟨e1, e2, e3, e4, e5⟩ := ch_no k
    rw [e1, e2, e3, e4, e5]
    cases h1 : lnOk a b c d
    · exact specCh_no1 a b c d e f g h w h1
    cases h2 : lnOk e f g h
    · exact specCh_no2 a b c d e f g h w h1 h2
    obtain ⟨-, g2, -⟩ := lnOk_iff.1 h1
    obtain ⟨-, g4, -⟩ := lnOk_iff.1 h2
    cases h3 : prO g h c d
    · exact specCh_no3 a b c d e f g h _ _ _ _ w _ h1 h2 (fun W => h3 ▸ specPr g h c d W g4 g2) (fun W => specShown_any e f g h a b W)
    cases h4 : shwO e f g h a b
    · exact specCh_no4 a b c d e f g h _ _ _ _ w h1 h2 (fun W => h3 ▸ specPr g h c d W g4 g2) (fun W => h4 ▸ specShown_any e f g h a b W)
    exact absurd ⟨h1, h2, h3, h4⟩ k

end Go.Proofs.Ytploanbnbkhciaa
