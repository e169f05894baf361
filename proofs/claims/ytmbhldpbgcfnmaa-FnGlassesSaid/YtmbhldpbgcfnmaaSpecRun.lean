/-
  The contract of the model's RunOut. Only new memory is written.
-/
import Derived.Test.YtmbhldpbgcfnmaaGlassOk
namespace Go.Proofs.Ytmbhldpbgcfnmaa
open Go.ChangeShapes Go.WideShapes Go.ChangeAt Go.RowKit Go.PlainAid

theorem tmR_inS {a b x y : Int} (h : 1 ≤ a ∧ a ≤ 12 ∧ 1 ≤ b ∧ b ≤ 12 ∧ 0 ≤ x ∧ x ≤ a ∧ 0 ≤ y ∧ y ≤ b) : 0 ≤ tmR x y ∧ tmR x y ≤ 12 := by
  unfold tmR
  repeat' split
  all_goals omega

set_option maxHeartbeats 1600000 in
theorem specRun_any (a b x y : Int) (w : World) : Calls Try.prog 22 #[jagg a b x y] w (GivesJI a b (roS a b x y).1 (roS a b x y).2 (roN a b x y) w) := by
  have hO := fun W => specGlassesOk_any a b x y W
  have b0 : Below w.heap.size w ((w.alloc (jobj a b x y 25)).alloc (jobj 0 0 0 0 25)) := ((Below.refl _ _).alloc (Nat.le_refl _) _).alloc (by simp) _
  have p1 := (JBox.new w a b x y).alloc (jobj 0 0 0 0 25)
  have p2 := JBox.new (w.alloc (jobj a b x y 25)) 0 0 0 0
  rw [show (w.alloc (jobj a b x y 25)).heap.size = w.heap.size + 1 by simp] at p2
  rcases hb : okG a b x y with _ | _
  · rw [hb] at hO
    have e1 : roS a b x y = (x, y) := by unfold roS; rw [hb]; rfl
    have e2 : roN a b x y = 0 := by unfold roN; rw [hb]; rfl
    rw [e1, e2]
    clear e1 e2
    go_enter Try.func22, Try.ntmps22
    go_wp2_with fail
    refine (hO _).mono ?_
    clear hO
    rintro e w2 ⟨rfl, b2⟩
    replace p1 := p1.keep b2 p1.lt
    replace p2 := p2.keep b2 p2.lt
    replace b0 := below_more b0 b0.size b2
    clear b2
    obtain ⟨c10, c11, c12, c13⟩ := p1.cells
    obtain ⟨f10, f11, f12, f13⟩ := p1.free
    obtain ⟨c20, c21, c22, c23⟩ := p2.cells
    obtain ⟨f20, f21, f22, f23⟩ := p2.free
    have k2 := JBox.set p2 a b (x) (y)
    have k3 := below_jset b0 (Nat.le_add_right w.heap.size 1) a b (x) (y)
    clear p1 p2 b0
    go_wp2_with fail
    (try simp only [Exit.inBlock, Exit.then])
    refine bodyPost_ret (v := .tuple #[jagg a b (x) (y), .int .i64 (0)]) (w := jset w2 (w.heap.size + 1) a b (x) (y)) ?_ rfl ⟨rfl, k3⟩
    obtain ⟨c30, c31, c32, c33⟩ := k2.cells
    rw [results_cell_tmp rfl]
    go_simp
  · rw [hb] at hO
    have e1 : roS a b x y = (less x (tmR x y), less y (tmR x y)) := if_pos hb
    have e2 : roN a b x y = tmR x y := if_pos hb
    rw [e1, e2]
    clear e1 e2
    rw [okG_iff] at hb
    have hTi := tmR_inS hb
    by_cases h1 : x = 0
    · subst h1
      by_cases h2 : y = 0
      · subst h2
        have e1 : tmR 0 0 = 0 := rfl
        have e2 : less 0 0 = 0 := rfl
        rw [e1, e2]
        clear e1 e2 hTi
        go_enter Try.func22, Try.ntmps22
        go_wp2_with fail
        refine (hO _).mono ?_
        clear hO
        rintro e w2 ⟨rfl, b2⟩
        replace p1 := p1.keep b2 p1.lt
        replace p2 := p2.keep b2 p2.lt
        replace b0 := below_more b0 b0.size b2
        clear b2
        obtain ⟨c10, c11, c12, c13⟩ := p1.cells
        obtain ⟨f10, f11, f12, f13⟩ := p1.free
        obtain ⟨c20, c21, c22, c23⟩ := p2.cells
        obtain ⟨f20, f21, f22, f23⟩ := p2.free
        have k2 := JBox.set p2 a b (0) (0)
        have k3 := below_jset b0 (Nat.le_add_right w.heap.size 1) a b (0) (0)
        clear p1 p2 b0
        go_wp2_with fail
        (try simp only [Exit.inBlock, Exit.then])
        refine bodyPost_ret (v := .tuple #[jagg a b (0) (0), .int .i64 (0)]) (w := jset w2 (w.heap.size + 1) a b (0) (0)) ?_ rfl ⟨rfl, k3⟩
        obtain ⟨c30, c31, c32, c33⟩ := k2.cells
        rw [results_cell_tmp rfl]
        go_simp
      · have z2 : (y == 0) = false := by simp [h2]
        have e1 : tmR 0 y = y := if_pos rfl
        rw [e1] at hTi ⊢
        clear e1
        have e2 : less 0 y = 0 := by unfold less; split <;> omega
        have e3 : less y y = 0 := by unfold less; split <;> omega
        rw [e2, e3]
        clear e2 e3
        have hm : (if 0 < y then y else 0) = y := by split <;> omega
        have hpy : 0 < y := by omega
        have hn1 : ¬ 0 < -y := by omega
        have hn2 : ¬ 0 < 0 - y := by omega
        have hn3 : ¬ y < 0 := by omega
        have hn4 : ¬ 0 < y - y := by omega
        go_enter Try.func22, Try.ntmps22
        go_wp2_with fail
        refine (hO _).mono ?_
        clear hO
        rintro e w2 ⟨rfl, b2⟩
        replace p1 := p1.keep b2 p1.lt
        replace p2 := p2.keep b2 p2.lt
        replace b0 := below_more b0 b0.size b2
        clear b2
        obtain ⟨c10, c11, c12, c13⟩ := p1.cells
        obtain ⟨f10, f11, f12, f13⟩ := p1.free
        have q1 := p1.set2 (0)
        obtain ⟨d10, d11, d12, d13⟩ := q1.cells
        obtain ⟨e10, e11, e12, e13⟩ := q1.free
        have r1 : JBox (w2.setCell ⟨w.heap.size, 2, none⟩ (.int .i64 (0))) (w.heap.size + 1) 0 0 0 0 := (Below.heap_setCell _ _ _ _ (by simp)).trans p2
        have b1 := b0.setCell (Nat.le_refl _) (p := ⟨w.heap.size, 2, none⟩) (.int .i64 (0))
        have q2 := q1.set3 (0)
        obtain ⟨d20, d21, d22, d23⟩ := q2.cells
        obtain ⟨e20, e21, e22, e23⟩ := q2.free
        have r2 : JBox ((w2.setCell ⟨w.heap.size, 2, none⟩ (.int .i64 (0))).setCell ⟨w.heap.size, 3, none⟩ (.int .i64 (0))) (w.heap.size + 1) 0 0 0 0 := (Below.heap_setCell _ _ _ _ (by simp)).trans r1
        have b2 := b1.setCell (Nat.le_refl _) (p := ⟨w.heap.size, 3, none⟩) (.int .i64 (0))
        obtain ⟨c20, c21, c22, c23⟩ := r2.cells
        obtain ⟨f20, f21, f22, f23⟩ := r2.free
        have k2 := JBox.set r2 a b (0) (0)
        have k3 := below_jset b2 (Nat.le_add_right w.heap.size 1) a b (0) (0)
        clear p1 p2 b0 q1 r1 b1 q2 r2 b2
        go_wp2_with fail
        (try simp only [Exit.inBlock, Exit.then])
        refine bodyPost_ret (v := .tuple #[jagg a b (0) (0), .int .i64 (y)]) (w := jset ((w2.setCell ⟨w.heap.size, 2, none⟩ (.int .i64 (0))).setCell ⟨w.heap.size, 3, none⟩ (.int .i64 (0))) (w.heap.size + 1) a b (0) (0)) ?_ rfl ⟨rfl, k3⟩
        obtain ⟨c30, c31, c32, c33⟩ := k2.cells
        rw [results_cell_tmp rfl]
        go_simp
    · have z1 : (x == 0) = false := by simp [h1]
      have hpx : 0 < x := by omega
      by_cases h2 : y = 0
      · subst h2
        have e1 : tmR x 0 = x := by unfold tmR; rw [if_neg h1, if_pos rfl]
        rw [e1] at hTi ⊢
        clear e1
        have e2 : less 0 x = 0 := by unfold less; split <;> omega
        have e3 : less x x = 0 := by unfold less; split <;> omega
        rw [e2, e3]
        clear e2 e3
        have hm : (if x < 0 then 0 else x) = x := by split <;> omega
        have hn1 : ¬ 0 < -x := by omega
        have hn2 : ¬ 0 < 0 - x := by omega
        have hn3 : ¬ x < 0 := by omega
        have hn4 : ¬ 0 < x - x := by omega
        go_enter Try.func22, Try.ntmps22
        go_wp2_with fail
        refine (hO _).mono ?_
        clear hO
        rintro e w2 ⟨rfl, b2⟩
        replace p1 := p1.keep b2 p1.lt
        replace p2 := p2.keep b2 p2.lt
        replace b0 := below_more b0 b0.size b2
        clear b2
        obtain ⟨c10, c11, c12, c13⟩ := p1.cells
        obtain ⟨f10, f11, f12, f13⟩ := p1.free
        have q1 := p1.set2 (0)
        obtain ⟨d10, d11, d12, d13⟩ := q1.cells
        obtain ⟨e10, e11, e12, e13⟩ := q1.free
        have r1 : JBox (w2.setCell ⟨w.heap.size, 2, none⟩ (.int .i64 (0))) (w.heap.size + 1) 0 0 0 0 := (Below.heap_setCell _ _ _ _ (by simp)).trans p2
        have b1 := b0.setCell (Nat.le_refl _) (p := ⟨w.heap.size, 2, none⟩) (.int .i64 (0))
        have q2 := q1.set3 (0)
        obtain ⟨d20, d21, d22, d23⟩ := q2.cells
        obtain ⟨e20, e21, e22, e23⟩ := q2.free
        have r2 : JBox ((w2.setCell ⟨w.heap.size, 2, none⟩ (.int .i64 (0))).setCell ⟨w.heap.size, 3, none⟩ (.int .i64 (0))) (w.heap.size + 1) 0 0 0 0 := (Below.heap_setCell _ _ _ _ (by simp)).trans r1
        have b2 := b1.setCell (Nat.le_refl _) (p := ⟨w.heap.size, 3, none⟩) (.int .i64 (0))
        obtain ⟨c20, c21, c22, c23⟩ := r2.cells
        obtain ⟨f20, f21, f22, f23⟩ := r2.free
        have k2 := JBox.set r2 a b (0) (0)
        have k3 := below_jset b2 (Nat.le_add_right w.heap.size 1) a b (0) (0)
        clear p1 p2 b0 q1 r1 b1 q2 r2 b2
        go_wp2_with fail
        (try simp only [Exit.inBlock, Exit.then])
        refine bodyPost_ret (v := .tuple #[jagg a b (0) (0), .int .i64 (x)]) (w := jset ((w2.setCell ⟨w.heap.size, 2, none⟩ (.int .i64 (0))).setCell ⟨w.heap.size, 3, none⟩ (.int .i64 (0))) (w.heap.size + 1) a b (0) (0)) ?_ rfl ⟨rfl, k3⟩
        obtain ⟨c30, c31, c32, c33⟩ := k2.cells
        rw [results_cell_tmp rfl]
        go_simp
      · have z2 : (y == 0) = false := by simp [h2]
        have hpy : 0 < y := by omega
        by_cases hlt : x < y
        · have e1 : tmR x y = x := by unfold tmR; rw [if_neg h1, if_neg h2]; split <;> omega
          rw [e1] at hTi ⊢
          clear e1
          have e2 : less x x = 0 := by unfold less; split <;> omega
          have e3 : less y x = y - x := by unfold less; split <;> omega
          rw [e2, e3]
          clear e2 e3
          have hnl : ¬ y < x := by omega
          have hn4 : ¬ 0 < x - x := by omega
          have hp : 0 < y - x := by omega
          go_enter Try.func22, Try.ntmps22
          go_wp2_with fail
          refine (hO _).mono ?_
          clear hO
          rintro e w2 ⟨rfl, b2⟩
          replace p1 := p1.keep b2 p1.lt
          replace p2 := p2.keep b2 p2.lt
          replace b0 := below_more b0 b0.size b2
          clear b2
          obtain ⟨c10, c11, c12, c13⟩ := p1.cells
          obtain ⟨f10, f11, f12, f13⟩ := p1.free
          have q1 := p1.set2 (0)
          obtain ⟨d10, d11, d12, d13⟩ := q1.cells
          obtain ⟨e10, e11, e12, e13⟩ := q1.free
          have r1 : JBox (w2.setCell ⟨w.heap.size, 2, none⟩ (.int .i64 (0))) (w.heap.size + 1) 0 0 0 0 := (Below.heap_setCell _ _ _ _ (by simp)).trans p2
          have b1 := b0.setCell (Nat.le_refl _) (p := ⟨w.heap.size, 2, none⟩) (.int .i64 (0))
          have q2 := q1.set3 (y - x)
          obtain ⟨d20, d21, d22, d23⟩ := q2.cells
          obtain ⟨e20, e21, e22, e23⟩ := q2.free
          have r2 : JBox ((w2.setCell ⟨w.heap.size, 2, none⟩ (.int .i64 (0))).setCell ⟨w.heap.size, 3, none⟩ (.int .i64 (y - x))) (w.heap.size + 1) 0 0 0 0 := (Below.heap_setCell _ _ _ _ (by simp)).trans r1
          have b2 := b1.setCell (Nat.le_refl _) (p := ⟨w.heap.size, 3, none⟩) (.int .i64 (y - x))
          obtain ⟨c20, c21, c22, c23⟩ := r2.cells
          obtain ⟨f20, f21, f22, f23⟩ := r2.free
          have k2 := JBox.set r2 a b (0) (y - x)
          have k3 := below_jset b2 (Nat.le_add_right w.heap.size 1) a b (0) (y - x)
          clear p1 p2 b0 q1 r1 b1 q2 r2 b2
          go_wp2_with fail
          (try simp only [Exit.inBlock, Exit.then])
          refine bodyPost_ret (v := .tuple #[jagg a b (0) (y - x), .int .i64 (x)]) (w := jset ((w2.setCell ⟨w.heap.size, 2, none⟩ (.int .i64 (0))).setCell ⟨w.heap.size, 3, none⟩ (.int .i64 (y - x))) (w.heap.size + 1) a b (0) (y - x)) ?_ rfl ⟨rfl, k3⟩
          obtain ⟨c30, c31, c32, c33⟩ := k2.cells
          rw [results_cell_tmp rfl]
          go_simp
        by_cases hlt2 : y < x
        · have e1 : tmR x y = y := by unfold tmR; rw [if_neg h1, if_neg h2]; split <;> omega
          rw [e1] at hTi ⊢
          clear e1
          have e2 : less x y = x - y := by unfold less; split <;> omega
          have e3 : less y y = 0 := by unfold less; split <;> omega
          rw [e2, e3]
          clear e2 e3
          have hnl : ¬ x < y := by omega
          have hn4 : ¬ 0 < y - y := by omega
          have hp : 0 < x - y := by omega
          go_enter Try.func22, Try.ntmps22
          go_wp2_with fail
          refine (hO _).mono ?_
          clear hO
          rintro e w2 ⟨rfl, b2⟩
          replace p1 := p1.keep b2 p1.lt
          replace p2 := p2.keep b2 p2.lt
          replace b0 := below_more b0 b0.size b2
          clear b2
          obtain ⟨c10, c11, c12, c13⟩ := p1.cells
          obtain ⟨f10, f11, f12, f13⟩ := p1.free
          have q1 := p1.set2 (x - y)
          obtain ⟨d10, d11, d12, d13⟩ := q1.cells
          obtain ⟨e10, e11, e12, e13⟩ := q1.free
          have r1 : JBox (w2.setCell ⟨w.heap.size, 2, none⟩ (.int .i64 (x - y))) (w.heap.size + 1) 0 0 0 0 := (Below.heap_setCell _ _ _ _ (by simp)).trans p2
          have b1 := b0.setCell (Nat.le_refl _) (p := ⟨w.heap.size, 2, none⟩) (.int .i64 (x - y))
          have q2 := q1.set3 (0)
          obtain ⟨d20, d21, d22, d23⟩ := q2.cells
          obtain ⟨e20, e21, e22, e23⟩ := q2.free
          have r2 : JBox ((w2.setCell ⟨w.heap.size, 2, none⟩ (.int .i64 (x - y))).setCell ⟨w.heap.size, 3, none⟩ (.int .i64 (0))) (w.heap.size + 1) 0 0 0 0 := (Below.heap_setCell _ _ _ _ (by simp)).trans r1
          have b2 := b1.setCell (Nat.le_refl _) (p := ⟨w.heap.size, 3, none⟩) (.int .i64 (0))
          obtain ⟨c20, c21, c22, c23⟩ := r2.cells
          obtain ⟨f20, f21, f22, f23⟩ := r2.free
          have k2 := JBox.set r2 a b (x - y) (0)
          have k3 := below_jset b2 (Nat.le_add_right w.heap.size 1) a b (x - y) (0)
          clear p1 p2 b0 q1 r1 b1 q2 r2 b2
          go_wp2_with fail
          (try simp only [Exit.inBlock, Exit.then])
          refine bodyPost_ret (v := .tuple #[jagg a b (x - y) (0), .int .i64 (y)]) (w := jset ((w2.setCell ⟨w.heap.size, 2, none⟩ (.int .i64 (x - y))).setCell ⟨w.heap.size, 3, none⟩ (.int .i64 (0))) (w.heap.size + 1) a b (x - y) (0)) ?_ rfl ⟨rfl, k3⟩
          obtain ⟨c30, c31, c32, c33⟩ := k2.cells
          rw [results_cell_tmp rfl]
          go_simp
        obtain rfl : x = y := by omega
        clear hpy z2 h2
        have e1 : tmR x x = x := by unfold tmR; rw [if_neg h1, if_neg h1]; split <;> rfl
        rw [e1] at hTi ⊢
        clear e1
        have e2 : less x x = 0 := by unfold less; split <;> omega
        have e3 : less x x = 0 := by unfold less; split <;> omega
        rw [e2]
        clear e2 e3
        have hn4 : ¬ 0 < x - x := by omega
        go_enter Try.func22, Try.ntmps22
        go_wp2_with fail
        refine (hO _).mono ?_
        clear hO
        rintro e w2 ⟨rfl, b2⟩
        replace p1 := p1.keep b2 p1.lt
        replace p2 := p2.keep b2 p2.lt
        replace b0 := below_more b0 b0.size b2
        clear b2
        obtain ⟨c10, c11, c12, c13⟩ := p1.cells
        obtain ⟨f10, f11, f12, f13⟩ := p1.free
        have q1 := p1.set2 (0)
        obtain ⟨d10, d11, d12, d13⟩ := q1.cells
        obtain ⟨e10, e11, e12, e13⟩ := q1.free
        have r1 : JBox (w2.setCell ⟨w.heap.size, 2, none⟩ (.int .i64 (0))) (w.heap.size + 1) 0 0 0 0 := (Below.heap_setCell _ _ _ _ (by simp)).trans p2
        have b1 := b0.setCell (Nat.le_refl _) (p := ⟨w.heap.size, 2, none⟩) (.int .i64 (0))
        have q2 := q1.set3 (0)
        obtain ⟨d20, d21, d22, d23⟩ := q2.cells
        obtain ⟨e20, e21, e22, e23⟩ := q2.free
        have r2 : JBox ((w2.setCell ⟨w.heap.size, 2, none⟩ (.int .i64 (0))).setCell ⟨w.heap.size, 3, none⟩ (.int .i64 (0))) (w.heap.size + 1) 0 0 0 0 := (Below.heap_setCell _ _ _ _ (by simp)).trans r1
        have b2 := b1.setCell (Nat.le_refl _) (p := ⟨w.heap.size, 3, none⟩) (.int .i64 (0))
        obtain ⟨c20, c21, c22, c23⟩ := r2.cells
        obtain ⟨f20, f21, f22, f23⟩ := r2.free
        have k2 := JBox.set r2 a b (0) (0)
        have k3 := below_jset b2 (Nat.le_add_right w.heap.size 1) a b (0) (0)
        clear p1 p2 b0 q1 r1 b1 q2 r2 b2
        go_wp2_with fail
        (try simp only [Exit.inBlock, Exit.then])
        refine bodyPost_ret (v := .tuple #[jagg a b (0) (0), .int .i64 (x)]) (w := jset ((w2.setCell ⟨w.heap.size, 2, none⟩ (.int .i64 (0))).setCell ⟨w.heap.size, 3, none⟩ (.int .i64 (0))) (w.heap.size + 1) a b (0) (0)) ?_ rfl ⟨rfl, k3⟩
        obtain ⟨c30, c31, c32, c33⟩ := k2.cells
        rw [results_cell_tmp rfl]
        go_simp
end Go.Proofs.Ytmbhldpbgcfnmaa
