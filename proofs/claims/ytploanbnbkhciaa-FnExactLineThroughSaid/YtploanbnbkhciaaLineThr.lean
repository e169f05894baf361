/-
  The line through two points, at every argument: the model's and the program's, in the words of XLine. Only new memory is written.
-/
import Derived.Test.YtploanbnbkhciaaSpecThrA
import Derived.Test.YtploanbnbkhciaaSpecThrB
import Derived.Test.YtploanbnbkhciaaImplThr
import Derived.Test.YtploanbnbkhciaaLineS
import Derived.Test.YtploanbnbkhciaaLineI
namespace Go.Proofs.Ytploanbnbkhciaa
open Go.ChangeShapes Go.WideShapes Go.ChangeAt Go.RowKit Go.PlainAid

/-- The line of the model's steps is the one of XLine. -/
def miT (o : Bool) (t b x y : Int) : Int := if o then prT t b x y else 0
def miB (o : Bool) (t b x y : Int) : Int := if o then prB t b x y else 0
def miO (o : Bool) (t b x y : Int) : Bool := if o then prO t b x y else false
def zmT (o : Bool) (t b x y : Int) : Int := if o then smT t b x y else 0
def zmB (o : Bool) (t b x y : Int) : Int := if o then smB t b x y else 0
def zmO (o : Bool) (t b x y : Int) : Bool := if o then smO t b x y else false
theorem specMi (o : Bool) (t b x y : Int) (w : World) (h1 : okF t b = o) (h2 : okF x y = true) : Calls Try.prog 39 #[.agg #[.int .i64 t, .int .i64 b], .agg #[.int .i64 x, .int .i64 y]] w (SaysF (miT o t b x y) (miB o t b x y) (miO o t b x y) w) := by
  cases o
  · exact specTimes_no1 t b x y w h1
  · exact specPr t b x y w h1 h2
theorem specZm (o : Bool) (t b x y : Int) (w : World) (h1 : okF t b = true) (h2 : okF x y = o) : Calls Try.prog 40 #[.agg #[.int .i64 t, .int .i64 b], .agg #[.int .i64 x, .int .i64 y]] w (SaysF (zmT o t b x y) (zmB o t b x y) (zmO o t b x y) w) := by
  cases o
  · exact specAdd_no2 t b x y w h1 h2
  · exact specSm t b x y w h1 h2
theorem qu_at {t b x y : Int} : okF (quT t b x y) (quB t b x y) = quO t b x y := by
  cases h : quO t b x y
  · obtain ⟨e1, e2⟩ := sh_false h
    unfold quT quB
    rw [e1, e2]
    exact okF_zero
  · exact qu_ok h
theorem mi_at {o : Bool} {t b x y : Int} : okF (miT o t b x y) (miB o t b x y) = miO o t b x y := by
  unfold miT miB miO
  cases o
  · exact okF_zero
  · show okF (prT t b x y) (prB t b x y) = prO t b x y
    cases h : prO t b x y
    · obtain ⟨e1, e2⟩ := sh_false h
      unfold prT prB
      rw [e1, e2]
      exact okF_zero
    · exact pr_ok h
theorem zm_at {o : Bool} {t b x y : Int} : okF (zmT o t b x y) (zmB o t b x y) = zmO o t b x y := by
  unfold zmT zmB zmO
  cases o
  · exact okF_zero
  · show okF (smT t b x y) (smB t b x y) = smO t b x y
    cases h : smO t b x y
    · obtain ⟨e1, e2⟩ := sh_false h
      unfold smT smB
      rw [e1, e2]
      exact okF_zero
    · exact sm_ok h
theorem mi_in {o : Bool} {t b x y : Int} : -1000000 ≤ miT o t b x y ∧ miT o t b x y ≤ 1000000 := by
  cases h : miO o t b x y
  · have h2 := mi_at (o := o) (t := t) (b := b) (x := x) (y := y)
    unfold miO at h
    unfold miT
    cases o
    · show -1000000 ≤ (0 : Int) ∧ (0 : Int) ≤ 1000000
      omega
    · obtain ⟨e1, e2⟩ := sh_false (n := t * x) (m := b * y) h
      show -1000000 ≤ prT t b x y ∧ prT t b x y ≤ 1000000
      unfold prT
      rw [e1]
      exact ⟨by decide, by decide⟩
  · exact ok_in (mi_at.trans h)

/-- What the model's steps come to. -/
theorem steps_are (a b c d e f g h : Int) (h1 : okF a b = true) (h2 : okF c d = true) (h3 : okF e f = true) (h4 : okF g h = true) (hne : ¬ (a = e ∧ b = f)) :
    let T3 := unT a b c d e f g h
    let B3 := unB a b c d e f g h
    let O3 := unO a b c d e f g h
    let T4 := miT O3 T3 B3 a b
    let B4 := miB O3 T3 B3 a b
    let O4 := miO O3 T3 B3 a b
    let T5 := zmT O4 c d (-T4) B4
    let B5 := zmB O4 c d (-T4) B4
    let O5 := zmO O4 c d (-T4) B4
    let o := (smO e f (-a) b && (smO g h (-c) d && (O3 && (O4 && (O5 && lnOk T5 B5 T3 B3)))))
    pk o T5 = thT a b c d e f g h ∧ pk o B5 = thB a b c d e f g h ∧ pk o T3 = thU a b c d e f g h ∧ pk o B3 = thV a b c d e f g h ∧ o = thO a b c d e f g h := by
  intro T3 B3 O3 T4 B4 O4 T5 B5 O5 o
  by_cases k : thIn a b c d e f g h
  · obtain ⟨e1, e2, e3, e4, e5⟩ := th_yes k
    obtain ⟨⟨-, -, -, -, -, k1, k2⟩, k3, k4, k5, k6⟩ := k
    have E3 : O3 = true := k3
    have E4 : O4 = true := by show miO O3 T3 B3 a b = true; rw [E3]; exact k5
    have F4 : T4 = prT T3 B3 a b := by show miT O3 T3 B3 a b = _; rw [E3]; rfl
    have G4 : B4 = prB T3 B3 a b := by show miB O3 T3 B3 a b = _; rw [E3]; rfl
    have E5 : O5 = true := by show zmO O4 c d (-T4) B4 = true; rw [E4, F4, G4]; exact k6
    have F5 : T5 = zeT a b c d T3 B3 := by show zmT O4 c d (-T4) B4 = _; rw [E4, F4, G4]; rfl
    have G5 : B5 = zeB a b c d T3 B3 := by show zmB O4 c d (-T4) B4 = _; rw [E4, F4, G4]; rfl
    have hl : lnOk T5 B5 T3 B3 = true := lnOk_iff.2 ⟨zm_at.trans E5, qu_at.trans k3, k4⟩
    have ho : o = true := by
      show (smO e f (-a) b && (smO g h (-c) d && (O3 && (O4 && (O5 && lnOk T5 B5 T3 B3))))) = true
      rw [k1, k2, E3, E4, E5, hl]; rfl
    rw [ho, e1, e2, e3, e4, e5]
    exact ⟨F5, G5, rfl, rfl, rfl⟩
  · obtain ⟨e1, e2, e3, e4, e5⟩ := th_no k
    have ho : o = false := by
      cases ho : o
      · rfl
      · exfalso
        have ho' : (smO e f (-a) b && (smO g h (-c) d && (O3 && (O4 && (O5 && lnOk T5 B5 T3 B3))))) = true := ho
        simp only [Bool.and_eq_true] at ho'
        obtain ⟨k1, k2, E3, E4, E5, hl⟩ := ho'
        have F4 : T4 = prT T3 B3 a b := by show miT O3 T3 B3 a b = _; rw [E3]; rfl
        have G4 : B4 = prB T3 B3 a b := by show miB O3 T3 B3 a b = _; rw [E3]; rfl
        have k5 : prO T3 B3 a b = true := by
          have : miO O3 T3 B3 a b = true := E4
          rw [E3] at this; exact this
        have k6 : smO c d (-(prT T3 B3 a b)) (prB T3 B3 a b) = true := by
          have : zmO O4 c d (-T4) B4 = true := E5
          rw [E4, F4, G4] at this; exact this
        obtain ⟨-, -, k4⟩ := lnOk_iff.1 hl
        exact k ⟨⟨h1, h2, h3, h4, hne, k1, k2⟩, E3, k4, k5, k6⟩
    rw [ho, e1, e2, e3, e4, e5]
    exact ⟨rfl, rfl, rfl, rfl, rfl⟩

theorem specThr_any (a b c d e f g h : Int) (w : World) : Calls Try.prog 23 #[.agg #[.int .i64 a, .int .i64 b], .agg #[.int .i64 c, .int .i64 d], .agg #[.int .i64 e, .int .i64 f], .agg #[.int .i64 g, .int .i64 h]] w (SaysL (thT a b c d e f g h) (thB a b c d e f g h) (thU a b c d e f g h) (thV a b c d e f g h) (thO a b c d e f g h) w) := by
  by_cases h0 : okF a b = true ∧ okF c d = true ∧ okF e f = true ∧ okF g h = true ∧ ¬ (a = e ∧ b = f)
  · obtain ⟨h1, h2, h3, h4, hne⟩ := h0
    obtain ⟨s1, s2, s3, s4, s5⟩ := steps_are a b c d e f g h h1 h2 h3 h4 hne
    rw [← s1, ← s2, ← s3, ← s4, ← s5]
    have hA := fun W => specSm e f (-a) b W h3 (okF_neg.trans h1)
    have hB := fun W => specSm g h (-c) d W h4 (okF_neg.trans h2)
    have hO : smO e f (-a) b = true → smO g h (-c) d = true → ∀ W : World, Calls Try.prog 42 #[.agg #[.int .i64 (smT g h (-c) d), .int .i64 (smB g h (-c) d)], .agg #[.int .i64 (smT e f (-a) b), .int .i64 (smB e f (-a) b)]] W (SaysF (unT a b c d e f g h) (unB a b c d e f g h) (unO a b c d e f g h) W) :=
      fun o1 o2 W => specQu _ _ _ _ W (sm_ok o2) (sm_ok o1) (sm_ne h1 h3 hne o1)
    have hM := fun W => specMi _ (unT a b c d e f g h) (unB a b c d e f g h) a b W qu_at h1
    have hZ := fun W => specZm _ c d (-(miT (unO a b c d e f g h) (unT a b c d e f g h) (unB a b c d e f g h) a b)) (miB (unO a b c d e f g h) (unT a b c d e f g h) (unB a b c d e f g h) a b) W h2 (okF_neg.trans mi_at)
    obtain ⟨l0, l1⟩ := ok_in h1
    obtain ⟨l2, l3⟩ := ok_in h2
    rcases Decidable.em (a = e) with rfl | hd
    · exact specThr_mid2 a b c d f g h _ _ _ _ _ _ _ _ _ _ w _ _ _ _ _ _ h1 h2 h3 h4 (fun k => hne ⟨rfl, k⟩) l0 l1 l2 l3 (fun _ _ => mi_in) hA hB hO (fun _ _ => hM) (fun _ _ => hZ) (fun _ _ W => specLok_any _ _ _ _ W)
    · exact specThr_mid1 a b c d e f g h _ _ _ _ _ _ _ _ _ _ w _ _ _ _ _ _ h1 h2 h3 h4 hd l0 l1 l2 l3 (fun _ _ => mi_in) hA hB hO (fun _ _ => hM) (fun _ _ => hZ) (fun _ _ W => specLok_any _ _ _ _ W)
  · have hn : ¬ thIn a b c d e f g h := fun k => h0 ⟨k.1.1, k.1.2.1, k.1.2.2.1, k.1.2.2.2.1, k.1.2.2.2.2.1⟩
    obtain ⟨e1, e2, e3, e4, e5⟩ := th_no hn
    rw [e1, e2, e3, e4, e5]
    cases h1 : okF a b
    · exact specThr_no1 a b c d e f g h w h1
    cases h2 : okF c d
    · exact specThr_no2 a b c d e f g h w h1 h2
    cases h3 : okF e f
    · exact specThr_no3 a b c d e f g h w h1 h2 h3
    cases h4 : okF g h
    · exact specThr_no4 a b c d e f g h w h1 h2 h3 h4
    have he : a = e ∧ b = f := Decidable.not_not.1 fun k => h0 ⟨h1, h2, h3, h4, k⟩
    obtain ⟨rfl, rfl⟩ := he
    exact specThr_no5 a b c d g h w h1 h2 h3 h4

/-- The unit through two different points. -/
theorem unit_any (a b c d e f g h : Int) (h1 : okF a b = true) (h2 : okF c d = true) (h3 : okF e f = true) (h4 : okF g h = true) (hne : ¬ (a = e ∧ b = f)) :
    ∃ T B : Int, ∃ O : Bool, (∀ W : World, Calls Try.prog 35 #[.agg #[.int .i64 a, .int .i64 b], .agg #[.int .i64 c, .int .i64 d], .agg #[.int .i64 e, .int .i64 f], .agg #[.int .i64 g, .int .i64 h]] W (SaysF T B O W)) ∧
      (O = true → unIn a b c d e f g h ∧ unO a b c d e f g h = true ∧ T = unT a b c d e f g h ∧ B = unB a b c d e f g h) ∧ (O = false → ¬ (unIn a b c d e f g h ∧ unO a b c d e f g h = true)) := by
  cases k1 : smO e f (-a) b
  · exact ⟨0, 0, false, fun W => unit_no1 a b c d e f g h _ _ W (fun W => k1 ▸ implMi e f a b W h3 h1), (fun k => by cases k), fun _ k => by have := k.1.2.2.2.2.2.1; rw [k1] at this; cases this⟩
  cases k2 : smO g h (-c) d
  · exact ⟨0, 0, false, fun W => unit_no2 a b c d e f g h _ _ _ _ W (fun W => k1 ▸ implMi e f a b W h3 h1) (fun W => k2 ▸ implMi g h c d W h4 h2), (fun k => by cases k), fun _ k => by have := k.1.2.2.2.2.2.2; rw [k2] at this; cases this⟩
  exact ⟨unT a b c d e f g h, unB a b c d e f g h, unO a b c d e f g h, fun W => unit_yes a b c d e f g h _ _ _ _ _ _ W _ (fun W => k1 ▸ implMi e f a b W h3 h1) (fun W => k2 ▸ implMi g h c d W h4 h2) (fun W => implOv _ _ _ _ W (sm_ok k2) (sm_ok k1) (sm_ne h1 h3 hne k1)),
    fun k => ⟨⟨h1, h2, h3, h4, hne, k1, k2⟩, k, rfl, rfl⟩, fun k q => by rw [q.2] at k; cases k⟩
/-- The zero of a unit. -/
theorem start_any (a b c d t u : Int) (h1 : okF a b = true) (h2 : okF c d = true) (h3 : okF t u = true) :
    ∃ X Y : Int, ∃ O : Bool, (∀ W : World, Calls Try.prog 36 #[.agg #[.int .i64 a, .int .i64 b], .agg #[.int .i64 c, .int .i64 d], .agg #[.int .i64 t, .int .i64 u]] W (SaysF X Y O W)) ∧
      (O = true → prO t u a b = true ∧ zeO a b c d t u = true ∧ X = zeT a b c d t u ∧ Y = zeB a b c d t u) ∧ (O = false → ¬ (prO t u a b = true ∧ zeO a b c d t u = true)) := by
  cases k1 : prO t u a b
  · exact ⟨0, 0, false, fun W => start_no a b c d t u _ _ W (fun W => k1 ▸ implTi t u a b W h3 h1), (fun k => by cases k), fun _ k => by cases k.1⟩
  exact ⟨zeT a b c d t u, zeB a b c d t u, zeO a b c d t u, fun W => start_yes a b c d t u _ _ _ _ W _ (fun W => k1 ▸ implTi t u a b W h3 h1) (fun W => implMi c d _ _ W h2 (pr_ok k1)),
    fun k => ⟨rfl, k, rfl, rfl⟩, fun k q => by rw [q.2] at k; cases k⟩

theorem implThr_any (a b c d e f g h : Int) (w : World) : Calls Try.prog 14 #[.agg #[.int .i64 a, .int .i64 b], .agg #[.int .i64 c, .int .i64 d], .agg #[.int .i64 e, .int .i64 f], .agg #[.int .i64 g, .int .i64 h]] w (SaysL (thT a b c d e f g h) (thB a b c d e f g h) (thU a b c d e f g h) (thV a b c d e f g h) (thO a b c d e f g h) w) := by
  by_cases h0 : okF a b = true ∧ okF c d = true ∧ okF e f = true ∧ okF g h = true ∧ ¬ (a = e ∧ b = f)
  · obtain ⟨h1, h2, h3, h4, hne⟩ := h0
    obtain ⟨T, B, O, hU, u1, u2⟩ := unit_any a b c d e f g h h1 h2 h3 h4 hne
    cases O
    · have hn : ¬ thIn a b c d e f g h := fun k => u2 rfl ⟨k.1, k.2.1⟩
      obtain ⟨e1, e2, e3, e4, e5⟩ := th_no hn
      rw [e1, e2, e3, e4, e5]
      rcases Decidable.em (a = e) with rfl | hd
      · exact implThr_no6_2 a b c d f g h T B w h1 h2 h3 h4 (fun k => hne ⟨rfl, k⟩) hU
      · exact implThr_no6_1 a b c d e f g h T B w h1 h2 h3 h4 hd hU
    obtain ⟨v1, v2, v3, v4⟩ := u1 rfl
    by_cases ht : T ≤ 0
    · have hn : ¬ thIn a b c d e f g h := fun k => by have := k.2.2.1; omega
      obtain ⟨e1, e2, e3, e4, e5⟩ := th_no hn
      rw [e1, e2, e3, e4, e5]
      rcases Decidable.em (a = e) with rfl | hd
      · exact implThr_no7_2 a b c d f g h T B w h1 h2 h3 h4 (fun k => hne ⟨rfl, k⟩) ht hU
      · exact implThr_no7_1 a b c d e f g h T B w h1 h2 h3 h4 hd ht hU
    have h5 : okF T B = true := by rw [v3, v4]; exact qu_ok v2
    obtain ⟨X, Y, O, hS, s1, s2⟩ := start_any a b c d T B h1 h2 h5
    cases O
    · have hn : ¬ thIn a b c d e f g h := fun k => s2 rfl (by rw [v3, v4]; exact k.2.2.2)
      obtain ⟨e1, e2, e3, e4, e5⟩ := th_no hn
      rw [e1, e2, e3, e4, e5]
      rcases Decidable.em (a = e) with rfl | hd
      · exact implThr_no8_2 a b c d f g h T B X Y w h1 h2 h3 h4 (fun k => hne ⟨rfl, k⟩) ht hU hS
      · exact implThr_no8_1 a b c d e f g h T B X Y w h1 h2 h3 h4 hd ht hU hS
    obtain ⟨q1, q2, q3, q4⟩ := s1 rfl
    have hy : thIn a b c d e f g h := ⟨v1, v2, by omega, by rw [← v3, ← v4]; exact q1, by rw [← v3, ← v4]; exact q2⟩
    obtain ⟨e1, e2, e3, e4, e5⟩ := th_yes hy
    rw [e1, e2, e3, e4, e5, ← v3, ← v4, ← q3, ← q4]
    rcases Decidable.em (a = e) with rfl | hd
    · exact implThr_yes_2 a b c d f g h T B X Y w h1 h2 h3 h4 (fun k => hne ⟨rfl, k⟩) ht hU hS
    · exact implThr_yes_1 a b c d e f g h T B X Y w h1 h2 h3 h4 hd ht hU hS
  · have hn : ¬ thIn a b c d e f g h := fun k => h0 ⟨k.1.1, k.1.2.1, k.1.2.2.1, k.1.2.2.2.1, k.1.2.2.2.2.1⟩
    obtain ⟨e1, e2, e3, e4, e5⟩ := th_no hn
    rw [e1, e2, e3, e4, e5]
    cases h1 : okF a b
    · exact implThr_no1 a b c d e f g h w h1
    cases h2 : okF c d
    · exact implThr_no2 a b c d e f g h w h1 h2
    cases h3 : okF e f
    · exact implThr_no3 a b c d e f g h w h1 h2 h3
    cases h4 : okF g h
    · exact implThr_no4 a b c d e f g h w h1 h2 h3 h4
    have he : a = e ∧ b = f := Decidable.not_not.1 fun k => h0 ⟨h1, h2, h3, h4, k⟩
    obtain ⟨rfl, rfl⟩ := he
    exact implThr_no5 a b c d g h w h1 h2 h3 h4

end Go.Proofs.Ytploanbnbkhciaa
