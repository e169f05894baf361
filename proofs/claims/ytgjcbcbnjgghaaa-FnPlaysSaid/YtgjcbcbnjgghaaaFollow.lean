/-
  The contracts of the follower's two methods: an input is followed; behind it a deferred call keeps the greatest lag. The follower's block alone is written.
-/
import Derived.Test.YtgjcbcbnjgghaaaImplPlay
import Derived.Defers
namespace Go.Proofs.Ytgjcbcbnjgghaaa
open Go.ChangeShapes Go.WideShapes Go.ChangeAt Go.RowKit Go.PlainAid

/-- The follower's block holds these ints, and it alone was written. -/
def Kept (p : Nat) (h s m g : Int) (w : World) (e : Ending) (w' : World) : Prop := e = .returned (.tuple #[]) ∧ Quad w' p h s m g 43 ∧ w.grownBy w' (some p)

set_option maxHeartbeats 800000 in
theorem keepLag_any (p : Nat) (h s m g x M : Int) (u : FrameMode) (w : World) (q : Quad w p h s m g 43) (hM : gr3 g (x - s) (s - x) = M) (s0 : -20000 ≤ s ∧ s ≤ 20000) (x0 : -20000 ≤ x ∧ x ≤ 20000) :
    CallsD Try.prog 37 #[.pointer (some ⟨p, 0, none⟩), .int .i64 x] u w fun e u' w' => u' = u ∧ Kept p h s m M w e w' := by
  have hmx := run_max3 Try.prog hM
  have c1 := q.c1
  have c3 := q.c3
  have f3 := q.free 3
  have hend : Kept p h s m M w (.returned (.tuple #[])) (w.setCell ⟨p, 3, none⟩ (.int .i64 M)).drew := ⟨rfl, (q.put3 M).drew, grown_drewN (grown_setCell (World.grownBy.refl w _) 3 _) 1⟩
  clear q hM
  go_enter_d Try.func37, Try.ntmps37
  go_wp2_with fail
  go_region
  go_wp2_with fail
  go_end0
  exact hend

set_option maxHeartbeats 800000 in
theorem follow_any (p : Nat) (h s m g x t M : Int) (w : World) (q : Quad w p h s m g 43) (ht : stepV h s x = t) (hM : gr3 g (x - t) (t - x) = M) (t0 : -20000 ≤ t ∧ t ≤ 20000) (x0 : -20000 ≤ x ∧ x ≤ 20000) (m0 : 0 ≤ m ∧ m ≤ 60) :
    Calls Try.prog 36 #[.pointer (some ⟨p, 0, none⟩), .int .i64 x] w (Kept p h t (if t = s then m else m + 1) M w) := by
  have hS := fun W => implStep_any h s x W
  rw [ht] at hS
  have hS2 : ∀ W : World, Calls Try.prog 13 #[.int .i64 h, .int .i64 s, .int .i64 x] W fun e w' => e = .returned (.int .i64 t) ∧ w' = W := fun W => (hS W).mono fun _ _ k => ⟨k.1, k.2.symm⟩
  clear hS ht
  have c0 := q.c0
  have c1 := q.c1
  have c2 := q.c2
  have f1 := q.free 1
  have f2 := q.free 2
  by_cases e : t = s
  · subst e
    rw [if_pos rfl]
    have hK := fun W (k : Quad W p h t m g 43) => keepLag_any p h t m g x M .returning W k hM t0 x0
    clear hM
    go_enter_defers Try.func36, Try.ntmps36
    go_wp2_with fail
    refine wp_region_noPanic ?_
    go_quiet (first | (go_at_call 13; refine Calls.quiet_of_same (hS2 _)))
    refine NoPanic.normal ?_
    have hK2 := hK (w.drewN nq) (q.drewN nq)
    go_wp2_with fail
    refine leaves_cons (f := 37) (args := #[.pointer (some ⟨p, 0, none⟩), .int .i64 x]) (by simp) (by simp [go_sem]) ?_
    refine hK2.mono ?_
    rintro en u' w2 ⟨rfl, rfl, q2, g2⟩
    exact ⟨_, results_none rfl _ _ _, rfl, q2, grown_trans (grown_drewN (World.grownBy.refl w _) nq) g2⟩
  · rw [if_neg e]
    have hK := fun W (k : Quad W p h t (m + 1) g 43) => keepLag_any p h t (m + 1) g x M .returning W k hM t0 x0
    have hts : (t == s) = false := beq_eq_false_iff_ne.2 e
    clear hM e
    go_enter_defers Try.func36, Try.ntmps36
    go_wp2_with fail
    refine wp_region_noPanic ?_
    go_quiet (first | (go_at_call 13; refine Calls.quiet_of_same (hS2 _)))
    refine NoPanic.normal ?_
    have hK2 := hK (((w.drewN nq).setCell ⟨p, 1, none⟩ (.int .i64 t)).setCell ⟨p, 2, none⟩ (.int .i64 (m + 1))) (((q.drewN nq).put1 t).put2 (m + 1))
    go_wp2_with fail
    refine leaves_cons (f := 37) (args := #[.pointer (some ⟨p, 0, none⟩), .int .i64 x]) (by simp) (by simp [go_sem]) ?_
    refine hK2.mono ?_
    rintro en u' w2 ⟨rfl, rfl, q2, g2⟩
    exact ⟨_, results_none rfl _ _ _, rfl, q2, grown_trans (grown_setCell (grown_setCell (grown_drewN (World.grownBy.refl w _) nq) 1 _) 2 _) g2⟩
end Go.Proofs.Ytgjcbcbnjgghaaa
