/-
  The law on fractions: they are added in any order, and differences tell which is greater. No condition.
-/
import Derived.Test.YtdjlohhpgdegfaaDrawFrac
import Derived.Test.YtdjlohhpgdegfaaCmp
namespace Go.Proofs.Ytdjlohhpgdegfaa
open Go.ChangeShapes Go.WideShapes Go.ChangeAt Go.RowKit Go.PlainAid

/-- The boxes of a law's fractions, the newest first. -/
def Boxes (W : World) (L : List (Nat × Int × Int)) : Prop := ∀ e ∈ L, Box W e.1 e.2.1 e.2.2 25
theorem Boxes.keep {W W' : World} {L : List (Nat × Int × Int)} (h : Boxes W L) (k : Below W.heap.size W W') : Boxes W' L := fun e he => (h e he).under k
theorem Boxes.more {W W' : World} {L : List (Nat × Int × Int)} (h : Boxes W L) (k : Below W.heap.size W W') (t b : Int) : Boxes (W'.alloc (.cells #[.int .i64 t, .int .i64 b] 25)) ((W'.heap.size, t, b) :: L) := fun e he => by
  rcases List.mem_cons.1 he with rfl | he
  · exact Box.new W' t b _
  · exact ((h e he).under k).alloc _
theorem more_below {B : Nat} {w W W' : World} (h : Below B w W) (k : Below W.heap.size W W') (t b : Int) (hB : B ≤ w.heap.size) : Below B w (W'.alloc (.cells #[.int .i64 t, .int .i64 b] 25)) := by
  have h1 := h.trans (k.mono (Nat.le_trans hB h.size))
  exact h1.alloc (Nat.le_trans hB h1.size) _

theorem three_any (w : World) (a1 a2 b1 b2 c1 c2 : Int) :
    Boxes (((w.alloc (.cells #[.int .i64 a1, .int .i64 a2] 25)).alloc (.cells #[.int .i64 b1, .int .i64 b2] 25)).alloc (.cells #[.int .i64 c1, .int .i64 c2] 25)) [(w.heap.size + 1 + 1, c1, c2), (w.heap.size + 1, b1, b2), (w.heap.size, a1, a2)] ∧
    Below w.heap.size w (((w.alloc (.cells #[.int .i64 a1, .int .i64 a2] 25)).alloc (.cells #[.int .i64 b1, .int .i64 b2] 25)).alloc (.cells #[.int .i64 c1, .int .i64 c2] 25)) := by
  have h1 := Box.new (w.alloc (.cells #[.int .i64 a1, .int .i64 a2] 25)) b1 b2 25
  have h2 := Box.new ((w.alloc (.cells #[.int .i64 a1, .int .i64 a2] 25)).alloc (.cells #[.int .i64 b1, .int .i64 b2] 25)) c1 c2 25
  have e1 : (w.alloc (.cells #[.int .i64 a1, .int .i64 a2] 25)).heap.size = w.heap.size + 1 := by simp
  have e2 : ((w.alloc (.cells #[.int .i64 a1, .int .i64 a2] 25)).alloc (.cells #[.int .i64 b1, .int .i64 b2] 25)).heap.size = w.heap.size + 1 + 1 := by simp
  rw [e1] at h1
  rw [e2] at h2
  refine ⟨fun e he => ?_, (((Below.refl _ _).alloc (Nat.le_refl _) _).alloc (by simp) _).alloc (by simp <;> omega) _⟩
  rcases List.mem_cons.1 he with rfl | he
  · exact h2
  · rcases List.mem_cons.1 he with rfl | he
    · exact h1.alloc _
    · rcases List.mem_cons.1 he with rfl | he
      · exact ((Box.new w a1 a2 _).alloc _).alloc _
      · cases he

/-- What the calls of the law answer. -/
structure Facts (a1 a2 b1 b2 c1 c2 x1 x2 y1 y2 z1 z2 p1 p2 q1 q2 r1 r2 d1 d2 K : Int) : Prop where
  hS : (0 < d1 ∧ K = 1) ∨ (d1 < 0 ∧ K = -1) ∨ (d1 = 0 ∧ K = 0)
  hx : ∀ W : World, Calls Try.prog 11 #[.agg #[.int .i64 a1, .int .i64 a2], .agg #[.int .i64 b1, .int .i64 b2]] W (SaysF x1 x2 true W)
  hy : ∀ W : World, Calls Try.prog 11 #[.agg #[.int .i64 x1, .int .i64 x2], .agg #[.int .i64 c1, .int .i64 c2]] W (SaysF y1 y2 true W)
  hz : ∀ W : World, Calls Try.prog 11 #[.agg #[.int .i64 b1, .int .i64 b2], .agg #[.int .i64 c1, .int .i64 c2]] W (SaysF z1 z2 true W)
  hw : ∀ W : World, Calls Try.prog 11 #[.agg #[.int .i64 a1, .int .i64 a2], .agg #[.int .i64 z1, .int .i64 z2]] W (SaysF y1 y2 true W)
  hp : ∀ W : World, Calls Try.prog 12 #[.agg #[.int .i64 a1, .int .i64 a2], .agg #[.int .i64 z1, .int .i64 z2]] W (SaysF p1 p2 true W)
  hq : ∀ W : World, Calls Try.prog 12 #[.agg #[.int .i64 a1, .int .i64 a2], .agg #[.int .i64 b1, .int .i64 b2]] W (SaysF q1 q2 true W)
  hr : ∀ W : World, Calls Try.prog 12 #[.agg #[.int .i64 a1, .int .i64 a2], .agg #[.int .i64 c1, .int .i64 c2]] W (SaysF r1 r2 true W)
  hs : ∀ W : World, Calls Try.prog 11 #[.agg #[.int .i64 q1, .int .i64 q2], .agg #[.int .i64 r1, .int .i64 r2]] W (SaysF p1 p2 true W)
  hd : ∀ W : World, Calls Try.prog 11 #[.agg #[.int .i64 a1, .int .i64 a2], .agg #[.int .i64 (-b1), .int .i64 b2]] W (SaysF d1 d2 true W)
  hm : ∀ W : World, Calls Try.prog 13 #[.int .i64 (6 * a1), .int .i64 (6 * a2)] W (SaysF a1 a2 true W)
  hk : ∀ W : World, Calls Try.prog 14 #[.agg #[.int .i64 a1, .int .i64 a2], .agg #[.int .i64 b1, .int .i64 b2]] W (SaysI K W)
  hk2 : ∀ W : World, Calls Try.prog 14 #[.agg #[.int .i64 b1, .int .i64 b2], .agg #[.int .i64 a1, .int .i64 a2]] W (SaysI (-K) W)
  hf : ∀ W : World, Calls Try.prog 15 #[.agg #[.int .i64 y1, .int .i64 y2]] W (SaysB true W)

set_option maxRecDepth 100000 in
set_option maxHeartbeats 4000000 in
theorem fractions_small (hF : ∀ a1 a2 b1 b2 c1 c2 : Int, Small a1 a2 → Small b1 b2 → Small c1 c2 → ∃ x1 x2 y1 y2 z1 z2 p1 p2 q1 q2 r1 r2 d1 d2 K : Int, Facts a1 a2 b1 b2 c1 c2 x1 x2 y1 y2 z1 z2 p1 p2 q1 q2 r1 r2 d1 d2 K)
    (a : Option Addr) (len cap : Nat) (v0 : World) (hl : len ≤ 1048576) (hr : Bytes v0 v0.heap.size a len) :
    Calls Try.prog 3 #[.slice a len cap] v0 fun e w' => e = .returned (.bool true) ∧ Below v0.heap.size v0 w' := by
  have hb : ¬ (1048576 : Int) < len := by omega
  have hD := drawFractions_any v0.heap.size a len cap v0 rfl hl hr
  clear hl hr
  go_enter Try.func3, Try.ntmps3
  go_wp2_with (go_at_call 9; go_in)
  refine hD.mono ?_
  rintro e v1 ⟨a1, a2, b1, b2, c1, c2, ga, gb, gc, rfl, kb⟩
  obtain ⟨x1, x2, y1, y2, z1, z2, p1, p2, q1, q2, r1, r2, d1, d2, K, hS, hx, hy, hz, hw, hp, hq, hr, hs, hd, hm, hk, hk2, hf⟩ := hF a1 a2 b1 b2 c1 c2 ga gb gc
  have s1 := ga.t0
  have s2 := ga.t1
  have s3 := ga.b0
  have s4 := ga.b1
  have s5 := gb.t0
  have s6 := gb.t1
  clear hF hD ga gb gc hb
  obtain ⟨hb, kc⟩ := three_any v1 a1 a2 b1 b2 c1 c2
  replace kb := kb.trans (kc.mono kb.size)
  clear kc
  have j0 := (hb _ (.tail _ (.tail _ (.head _)))).c0
  have j1 := (hb _ (.tail _ (.tail _ (.head _)))).c1
  have j2 := (hb _ (.tail _ (.head _))).c0
  have j3 := (hb _ (.tail _ (.head _))).c1
  go_wp2_with fail
  refine (hx _).mono ?_
  rintro e v2 ⟨rfl, k⟩
  replace hb := hb.more k x1 x2
  replace kb := more_below kb k x1 x2 (Nat.le_refl _)
  clear hx k j0 j1 j2 j3
  have j0 := (hb _ (.head _)).c0
  have j1 := (hb _ (.head _)).c1
  have j2 := (hb _ (.tail _ (.head _))).c0
  have j3 := (hb _ (.tail _ (.head _))).c1
  go_wp2_with fail
  refine (hy _).mono ?_
  rintro e v3 ⟨rfl, k⟩
  replace hb := hb.more k y1 y2
  replace kb := more_below kb k y1 y2 (Nat.le_refl _)
  clear hy k j0 j1 j2 j3
  have j0 := (hb _ (.tail _ (.tail _ (.tail _ (.head _))))).c0
  have j1 := (hb _ (.tail _ (.tail _ (.tail _ (.head _))))).c1
  have j2 := (hb _ (.tail _ (.tail _ (.head _)))).c0
  have j3 := (hb _ (.tail _ (.tail _ (.head _)))).c1
  go_wp2_with fail
  refine (hz _).mono ?_
  rintro e v4 ⟨rfl, k⟩
  replace hb := hb.more k z1 z2
  replace kb := more_below kb k z1 z2 (Nat.le_refl _)
  clear hz k j0 j1 j2 j3
  have j0 := (hb _ (.tail _ (.tail _ (.tail _ (.tail _ (.tail _ (.head _))))))).c0
  have j1 := (hb _ (.tail _ (.tail _ (.tail _ (.tail _ (.tail _ (.head _))))))).c1
  have j2 := (hb _ (.head _)).c0
  have j3 := (hb _ (.head _)).c1
  go_wp2_with fail
  refine (hw _).mono ?_
  rintro e v5 ⟨rfl, k⟩
  replace hb := hb.more k y1 y2
  replace kb := more_below kb k y1 y2 (Nat.le_refl _)
  clear hw k j0 j1 j2 j3
  have j0 := (hb _ (.tail _ (.tail _ (.tail _ (.tail _ (.tail _ (.tail _ (.head _)))))))).c0
  have j1 := (hb _ (.tail _ (.tail _ (.tail _ (.tail _ (.tail _ (.tail _ (.head _)))))))).c1
  have j2 := (hb _ (.tail _ (.head _))).c0
  have j3 := (hb _ (.tail _ (.head _))).c1
  go_wp2_with fail
  refine (hp _).mono ?_
  rintro e v6 ⟨rfl, k⟩
  replace hb := hb.more k p1 p2
  replace kb := more_below kb k p1 p2 (Nat.le_refl _)
  clear hp k j0 j1 j2 j3
  have j0 := (hb _ (.tail _ (.tail _ (.tail _ (.tail _ (.tail _ (.tail _ (.tail _ (.head _))))))))).c0
  have j1 := (hb _ (.tail _ (.tail _ (.tail _ (.tail _ (.tail _ (.tail _ (.tail _ (.head _))))))))).c1
  have j2 := (hb _ (.tail _ (.tail _ (.tail _ (.tail _ (.tail _ (.tail _ (.head _)))))))).c0
  have j3 := (hb _ (.tail _ (.tail _ (.tail _ (.tail _ (.tail _ (.tail _ (.head _)))))))).c1
  go_wp2_with fail
  refine (hq _).mono ?_
  rintro e v7 ⟨rfl, k⟩
  replace hb := hb.more k q1 q2
  replace kb := more_below kb k q1 q2 (Nat.le_refl _)
  clear hq k j0 j1 j2 j3
  have j0 := (hb _ (.tail _ (.tail _ (.tail _ (.tail _ (.tail _ (.tail _ (.tail _ (.tail _ (.head _)))))))))).c0
  have j1 := (hb _ (.tail _ (.tail _ (.tail _ (.tail _ (.tail _ (.tail _ (.tail _ (.tail _ (.head _)))))))))).c1
  have j2 := (hb _ (.tail _ (.tail _ (.tail _ (.tail _ (.tail _ (.tail _ (.head _)))))))).c0
  have j3 := (hb _ (.tail _ (.tail _ (.tail _ (.tail _ (.tail _ (.tail _ (.head _)))))))).c1
  go_wp2_with fail
  refine (hr _).mono ?_
  rintro e v8 ⟨rfl, k⟩
  replace hb := hb.more k r1 r2
  replace kb := more_below kb k r1 r2 (Nat.le_refl _)
  clear hr k j0 j1 j2 j3
  have j0 := (hb _ (.tail _ (.head _))).c0
  have j1 := (hb _ (.tail _ (.head _))).c1
  have j2 := (hb _ (.head _)).c0
  have j3 := (hb _ (.head _)).c1
  go_wp2_with fail
  refine (hs _).mono ?_
  rintro e v9 ⟨rfl, k⟩
  replace hb := hb.more k p1 p2
  replace kb := more_below kb k p1 p2 (Nat.le_refl _)
  clear hs k j0 j1 j2 j3
  have j0 := (hb _ (.tail _ (.tail _ (.tail _ (.tail _ (.tail _ (.tail _ (.tail _ (.tail _ (.tail _ (.tail _ (.head _)))))))))))).c0
  have j1 := (hb _ (.tail _ (.tail _ (.tail _ (.tail _ (.tail _ (.tail _ (.tail _ (.tail _ (.tail _ (.tail _ (.head _)))))))))))).c1
  have j2 := (hb _ (.tail _ (.tail _ (.tail _ (.tail _ (.tail _ (.tail _ (.tail _ (.tail _ (.tail _ (.head _))))))))))).c0
  have j3 := (hb _ (.tail _ (.tail _ (.tail _ (.tail _ (.tail _ (.tail _ (.tail _ (.tail _ (.tail _ (.head _))))))))))).c1
  go_wp2_with fail
  refine (hd _).mono ?_
  rintro e v10 ⟨rfl, k⟩
  replace hb := hb.more k d1 d2
  replace kb := more_below kb k d1 d2 (Nat.le_refl _)
  clear hd k j0 j1 j2 j3
  have j0 := (hb _ (.tail _ (.tail _ (.tail _ (.tail _ (.tail _ (.tail _ (.tail _ (.tail _ (.tail _ (.tail _ (.tail _ (.head _))))))))))))).c0
  have j1 := (hb _ (.tail _ (.tail _ (.tail _ (.tail _ (.tail _ (.tail _ (.tail _ (.tail _ (.tail _ (.tail _ (.tail _ (.head _))))))))))))).c1
  go_wp2_with fail
  refine (hm _).mono ?_
  rintro e v11 ⟨rfl, k⟩
  replace hb := hb.more k a1 a2
  replace kb := more_below kb k a1 a2 (Nat.le_refl _)
  clear hm k j0 j1
  have j0 := (hb _ (.tail _ (.tail _ (.tail _ (.tail _ (.tail _ (.tail _ (.tail _ (.tail _ (.tail _ (.tail _ (.tail _ (.tail _ (.head _)))))))))))))).c0
  have j1 := (hb _ (.tail _ (.tail _ (.tail _ (.tail _ (.tail _ (.tail _ (.tail _ (.tail _ (.tail _ (.tail _ (.tail _ (.tail _ (.head _)))))))))))))).c1
  have j2 := (hb _ (.tail _ (.tail _ (.tail _ (.tail _ (.tail _ (.tail _ (.tail _ (.tail _ (.tail _ (.tail _ (.tail _ (.head _))))))))))))).c0
  have j3 := (hb _ (.tail _ (.tail _ (.tail _ (.tail _ (.tail _ (.tail _ (.tail _ (.tail _ (.tail _ (.tail _ (.tail _ (.head _))))))))))))).c1
  go_wp2_with fail
  refine (hk _).mono ?_
  rintro e v12 ⟨rfl, k⟩
  replace hb := hb.keep k
  replace kb := below_more kb kb.size k
  clear hk k j0 j1 j2 j3
  have o0 := (hb _ (.tail _ (.tail _ (.tail _ (.tail _ (.tail _ (.tail _ (.tail _ (.tail _ (.tail _ (.tail _ (.tail _ (.tail _ (.head _)))))))))))))).c0
  have o1 := (hb _ (.tail _ (.tail _ (.tail _ (.tail _ (.tail _ (.tail _ (.tail _ (.tail _ (.tail _ (.tail _ (.tail _ (.tail _ (.head _)))))))))))))).c1
  have o2 := (hb _ (.tail _ (.tail _ (.tail _ (.tail _ (.tail _ (.tail _ (.tail _ (.tail _ (.tail _ (.tail _ (.tail _ (.head _))))))))))))).c0
  have o3 := (hb _ (.tail _ (.tail _ (.tail _ (.tail _ (.tail _ (.tail _ (.tail _ (.tail _ (.tail _ (.tail _ (.tail _ (.head _))))))))))))).c1
  have o4 := (hb _ (.tail _ (.tail _ (.tail _ (.tail _ (.tail _ (.tail _ (.tail _ (.tail _ (.head _)))))))))).c0
  have o5 := (hb _ (.tail _ (.tail _ (.tail _ (.tail _ (.tail _ (.tail _ (.tail _ (.tail _ (.head _)))))))))).c1
  have o6 := (hb _ (.tail _ (.tail _ (.tail _ (.tail _ (.tail _ (.tail _ (.head _)))))))).c0
  have o7 := (hb _ (.tail _ (.tail _ (.tail _ (.tail _ (.tail _ (.tail _ (.head _)))))))).c1
  have o8 := (hb _ (.tail _ (.tail _ (.tail _ (.tail _ (.tail _ (.head _))))))).c0
  have o9 := (hb _ (.tail _ (.tail _ (.tail _ (.tail _ (.tail _ (.head _))))))).c1
  have o10 := (hb _ (.tail _ (.tail _ (.head _)))).c0
  have o11 := (hb _ (.tail _ (.tail _ (.head _)))).c1
  have o12 := (hb _ (.head _)).c0
  have o13 := (hb _ (.head _)).c1
  have o14 := (hb _ (.tail _ (.head _))).c0
  have o15 := (hb _ (.tail _ (.head _))).c1
  have kb0 := kb.size
  rcases hS with ⟨h, rfl⟩ | ⟨h, rfl⟩ | ⟨rfl, rfl⟩
  all_goals
    go_wp2_with fail
    refine (hk2 _).mono ?_
    rintro e v13 ⟨rfl, k⟩
    replace hb := hb.keep k
    replace kb := kb.trans (k.mono kb.size)
    clear o0 o1 o2 o3 o4 o5 o6 o7 o8 o9 o10 o11 o12 o13 o14 o15 hk2 k
    have o4 := (hb _ (.tail _ (.tail _ (.tail _ (.tail _ (.tail _ (.tail _ (.tail _ (.tail _ (.head _)))))))))).c0
    have o5 := (hb _ (.tail _ (.tail _ (.tail _ (.tail _ (.tail _ (.tail _ (.tail _ (.tail _ (.head _)))))))))).c1
    clear hb
    go_wp2_with fail
    refine (hf _).mono ?_
    rintro e v14 ⟨rfl, k⟩
    replace kb := kb.trans (k.mono kb.size)
    clear hf o4 o5 k
    go_wp2_with fail
    go_ret
    exact ⟨by first | rfl | (simp; omega), kb⟩
end Go.Proofs.Ytdjlohhpgdegfaa
