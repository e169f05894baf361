/-
  The contract of the program's RunOut. Only new memory is written.
-/
import Derived.Test.YtmbhldpbgcfnmaaGlassOk
namespace Go.Proofs.Ytmbhldpbgcfnmaa
open Go.ChangeShapes Go.WideShapes Go.ChangeAt Go.RowKit Go.PlainAid

theorem timeTo_any (a b x y : Int) (w : World) (hx : 0 ≤ x ∧ x ≤ 12) (hy : 0 ≤ y ∧ y ≤ 12) : Calls Try.prog 30 #[jagg a b x y] w (SaysI (tmR x y) w) := by
  have b1 : Below w.heap.size w (w.alloc (jobj a b x y 25)) := (Below.refl _ _).alloc (Nat.le_refl _) _
  by_cases h1 : x = 0
  · subst h1
    have e : tmR 0 y = y := if_pos rfl
    rw [e]
    clear e
    have hm : (if 0 < y then y else 0) = y := by split <;> omega
    go_enter Try.func30, Try.ntmps30
    go_wp2_with fail
    go_ret
    exact ⟨rfl, b1⟩
  · have z1 : (x == 0) = false := by simp [h1]
    by_cases h2 : y = 0
    · subst h2
      have e : tmR x 0 = x := by unfold tmR; rw [if_neg h1, if_pos rfl]
      rw [e]
      clear e
      have hm : (if x < 0 then 0 else x) = x := by split <;> omega
      go_enter Try.func30, Try.ntmps30
      go_wp2_with fail
      go_ret
      exact ⟨rfl, b1⟩
    · have z2 : (y == 0) = false := by simp [h2]
      have hm : (if y < x then y else x) = tmR x y := by
        unfold tmR
        rw [if_neg h1, if_neg h2]
        split <;> split <;> omega
      generalize tmR x y = T at hm
      go_enter Try.func30, Try.ntmps30
      go_wp2_with fail
      go_ret
      exact ⟨rfl, b1⟩

theorem tmR_in {a b x y : Int} (h : 1 ≤ a ∧ a ≤ 12 ∧ 1 ≤ b ∧ b ≤ 12 ∧ 0 ≤ x ∧ x ≤ a ∧ 0 ≤ y ∧ y ≤ b) : 0 ≤ tmR x y ∧ tmR x y ≤ 12 := by
  unfold tmR
  repeat' split
  all_goals omega

set_option maxHeartbeats 1600000 in
theorem implRun_any (a b x y : Int) (w : World) : Calls Try.prog 12 #[jagg a b x y] w (GivesJI a b (roS a b x y).1 (roS a b x y).2 (roN a b x y) w) := by
  have hO := fun W => implGlassesOk_any a b x y W
  have b0 : Below w.heap.size w ((w.alloc (jobj a b x y 25)).alloc (jobj 0 0 0 0 25)) := ((Below.refl _ _).alloc (Nat.le_refl _) _).alloc (by simp) _
  have p1 := (JBox.new w a b x y).alloc (jobj 0 0 0 0 25)
  have p2 := JBox.new (w.alloc (jobj a b x y 25)) 0 0 0 0
  rw [show (w.alloc (jobj a b x y 25)).heap.size = w.heap.size + 1 by simp] at p2
  rcases hb : okG a b x y with _ | _
  · rw [hb] at hO
    have e1 : roS a b x y = (x, y) := by unfold roS; rw [hb]; rfl
    have e2 : roN a b x y = 0 := by unfold roN; rw [hb]; rfl
    rw [e1, e2]
    clear e1 e2
    go_enter Try.func12, Try.ntmps12
    go_wp2_with fail
    refine (hO _).mono ?_
    clear hO
    rintro e w2 ⟨rfl, b2⟩
    replace p1 := p1.keep b2 p1.lt
    replace p2 := p2.keep b2 p2.lt
    replace b0 := below_more b0 b0.size b2
    clear b2
    obtain ⟨c10, c11, c12, c13⟩ := p1.cells
    obtain ⟨f10, f11, f12, f13⟩ := p1.free
    obtain ⟨c20, c21, c22, c23⟩ := p2.cells
    obtain ⟨f20, f21, f22, f23⟩ := p2.free
    have k2 := JBox.set p2 a b (x) (y)
    have k3 := below_jset b0 (Nat.le_add_right w.heap.size 1) a b (x) (y)
    clear p1 p2 b0
    go_wp2_with fail
    (try simp only [Exit.inBlock, Exit.then])
    refine bodyPost_ret (v := .tuple #[jagg a b (x) (y), .int .i64 (0)]) (w := jset w2 (w.heap.size + 1) a b (x) (y)) ?_ rfl ⟨rfl, k3⟩
    obtain ⟨c30, c31, c32, c33⟩ := k2.cells
    rw [results_cell_tmp rfl]
    go_simp
  · rw [hb] at hO
    have e1 : roS a b x y = (less x (tmR x y), less y (tmR x y)) := if_pos hb
    have e2 : roN a b x y = tmR x y := if_pos hb
    rw [e1, e2]
    clear e1 e2
    rw [okG_iff] at hb
    have hT := fun W => timeTo_any a b x y W (by omega) (by omega)
    have hTi := tmR_in hb
    generalize tmR x y = T at hT hTi
    have hm1 : (if x - T < 0 then 0 else x - T) = less x T := by unfold less; split <;> split <;> omega
    have hm2 : (if y - T < 0 then 0 else y - T) = less y T := by unfold less; split <;> split <;> omega
    have hX : 0 ≤ less x T ∧ less x T ≤ 12 := by rw [← hm1]; split <;> omega
    have hY : 0 ≤ less y T ∧ less y T ≤ 12 := by rw [← hm2]; split <;> omega
    generalize less x T = X at hm1 hX ⊢
    generalize less y T = Y at hm2 hY ⊢
    go_enter Try.func12, Try.ntmps12
    go_wp2_with fail
    refine (hO _).mono ?_
    clear hO
    rintro e w2 ⟨rfl, b2⟩
    replace p1 := p1.keep b2 p1.lt
    replace p2 := p2.keep b2 p2.lt
    replace b0 := below_more b0 b0.size b2
    clear b2
    obtain ⟨c10, c11, c12, c13⟩ := p1.cells
    go_wp2_with fail
    refine (hT _).mono ?_
    clear hT c10 c11 c12 c13
    rintro e w3 ⟨rfl, b2⟩
    replace p1 := p1.keep b2 p1.lt
    replace p2 := p2.keep b2 p2.lt
    replace b0 := below_more b0 b0.size b2
    clear b2
    obtain ⟨c10, c11, c12, c13⟩ := p1.cells
    obtain ⟨f10, f11, f12, f13⟩ := p1.free
    have q1 := p1.set2 (X)
    obtain ⟨d10, d11, d12, d13⟩ := q1.cells
    obtain ⟨e10, e11, e12, e13⟩ := q1.free
    have r1 : JBox (w3.setCell ⟨w.heap.size, 2, none⟩ (.int .i64 (X))) (w.heap.size + 1) 0 0 0 0 := (Below.heap_setCell _ _ _ _ (by simp)).trans p2
    have b1 := b0.setCell (Nat.le_refl _) (p := ⟨w.heap.size, 2, none⟩) (.int .i64 (X))
    have q2 := q1.set3 (Y)
    obtain ⟨d20, d21, d22, d23⟩ := q2.cells
    obtain ⟨e20, e21, e22, e23⟩ := q2.free
    have r2 : JBox ((w3.setCell ⟨w.heap.size, 2, none⟩ (.int .i64 (X))).setCell ⟨w.heap.size, 3, none⟩ (.int .i64 (Y))) (w.heap.size + 1) 0 0 0 0 := (Below.heap_setCell _ _ _ _ (by simp)).trans r1
    have b2 := b1.setCell (Nat.le_refl _) (p := ⟨w.heap.size, 3, none⟩) (.int .i64 (Y))
    obtain ⟨c20, c21, c22, c23⟩ := r2.cells
    obtain ⟨f20, f21, f22, f23⟩ := r2.free
    have k2 := JBox.set r2 a b (X) (Y)
    have k3 := below_jset b2 (Nat.le_add_right w.heap.size 1) a b (X) (Y)
    clear p1 p2 b0 q1 r1 b1 q2 r2 b2
    go_wp2_with fail
    (try simp only [Exit.inBlock, Exit.then])
    refine bodyPost_ret (v := .tuple #[jagg a b (X) (Y), .int .i64 (T)]) (w := jset ((w3.setCell ⟨w.heap.size, 2, none⟩ (.int .i64 (X))).setCell ⟨w.heap.size, 3, none⟩ (.int .i64 (Y))) (w.heap.size + 1) a b (X) (Y)) ?_ rfl ⟨rfl, k3⟩
    obtain ⟨c30, c31, c32, c33⟩ := k2.cells
    rw [results_cell_tmp rfl]
    go_simp
end Go.Proofs.Ytmbhldpbgcfnmaa
