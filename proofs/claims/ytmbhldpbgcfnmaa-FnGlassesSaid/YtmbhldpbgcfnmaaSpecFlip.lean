/-
  The contract of the model's flip. Only new memory is written.
-/
import Derived.Test.YtmbhldpbgcfnmaaGlassOk
namespace Go.Proofs.Ytmbhldpbgcfnmaa
open Go.ChangeShapes Go.WideShapes Go.ChangeAt Go.RowKit Go.PlainAid

theorem specFlip_any (a b x y c : Int) (w : World) : Calls Try.prog 20 #[jagg a b x y, .int .i64 c] w (GivesJ a b (flS a b x y c).1 (flS a b x y c).2 w) := by
  have hO := fun W => specGlassesOk_any a b x y W
  have b0 : Below w.heap.size w ((w.alloc (jobj a b x y 25)).alloc (jobj 0 0 0 0 25)) := ((Below.refl _ _).alloc (Nat.le_refl _) _).alloc (by simp) _
  have p1 := (JBox.new w a b x y).alloc (jobj 0 0 0 0 25)
  have p2 := JBox.new (w.alloc (jobj a b x y 25)) 0 0 0 0
  rw [show (w.alloc (jobj a b x y 25)).heap.size = w.heap.size + 1 by simp] at p2
  rcases hb : okG a b x y with _ | _
  · rw [hb] at hO
    have e : flS a b x y c = (x, y) := by unfold flS; rw [hb]; rfl
    rw [e]
    clear e
    go_enter Try.func20, Try.ntmps20
    go_wp2_with fail
    refine (hO _).mono ?_
    clear hO
    rintro e w2 ⟨rfl, b2⟩
    replace p1 := p1.keep b2 p1.lt
    replace p2 := p2.keep b2 p2.lt
    replace b0 := below_more b0 b0.size b2
    clear b2
    obtain ⟨c10, c11, c12, c13⟩ := p1.cells
    obtain ⟨f10, f11, f12, f13⟩ := p1.free
    obtain ⟨c20, c21, c22, c23⟩ := p2.cells
    obtain ⟨f20, f21, f22, f23⟩ := p2.free
    have k2 := JBox.set p2 a b (x) (y)
    have k3 := below_jset b0 (Nat.le_add_right w.heap.size 1) a b (x) (y)
    clear p1 p2 b0
    go_wp2_with fail
    (try simp only [Exit.inBlock, Exit.then])
    refine bodyPost_ret (v := jagg a b (x) (y)) (w := jset w2 (w.heap.size + 1) a b (x) (y)) ?_ rfl ⟨rfl, k3⟩
    obtain ⟨c30, c31, c32, c33⟩ := k2.cells
    rw [results_cell_one rfl]
    go_simp
  · rw [hb] at hO
    have hok := hb
    rw [okG_iff] at hb
    have hax : 0 ≤ a - x ∧ a - x ≤ 12 := by omega
    have hby : 0 ≤ b - y ∧ b - y ≤ 12 := by omega
    have hI := fun W => in_any c 1 3 W
    by_cases e1 : c = 1
    · subst e1
      have e : flS a b x y 1 = (a - x, y) := by unfold flS; rw [hok]; rfl
      rw [e]
      clear e hok
      rw [show decide ((1 : Int) ≤ 1 ∧ (1 : Int) ≤ 3) = true from rfl] at hI
      go_enter Try.func20, Try.ntmps20
      go_wp2_with fail
      refine (hO _).mono ?_
      clear hO
      rintro e w2 ⟨rfl, b2⟩
      replace p1 := p1.keep b2 p1.lt
      replace p2 := p2.keep b2 p2.lt
      replace b0 := below_more b0 b0.size b2
      clear b2
      go_wp2_with fail
      refine (hI _).mono ?_
      clear hI
      rintro e w3 ⟨rfl, rfl⟩
      obtain ⟨c10, c11, c12, c13⟩ := p1.cells
      obtain ⟨f10, f11, f12, f13⟩ := p1.free
      have q1 := p1.set2 (a - x)
      obtain ⟨d10, d11, d12, d13⟩ := q1.cells
      obtain ⟨e10, e11, e12, e13⟩ := q1.free
      have r1 : JBox (w2.setCell ⟨w.heap.size, 2, none⟩ (.int .i64 (a - x))) (w.heap.size + 1) 0 0 0 0 := (Below.heap_setCell _ _ _ _ (by simp)).trans p2
      have b1 := b0.setCell (Nat.le_refl _) (p := ⟨w.heap.size, 2, none⟩) (.int .i64 (a - x))
      obtain ⟨c20, c21, c22, c23⟩ := r1.cells
      obtain ⟨f20, f21, f22, f23⟩ := r1.free
      have k2 := JBox.set r1 a b (a - x) (y)
      have k3 := below_jset b1 (Nat.le_add_right w.heap.size 1) a b (a - x) (y)
      clear p1 p2 b0 q1 r1 b1
      go_wp2_with fail
      (try simp only [Exit.inBlock, Exit.then])
      refine bodyPost_ret (v := jagg a b (a - x) (y)) (w := jset (w2.setCell ⟨w.heap.size, 2, none⟩ (.int .i64 (a - x))) (w.heap.size + 1) a b (a - x) (y)) ?_ rfl ⟨rfl, k3⟩
      obtain ⟨c30, c31, c32, c33⟩ := k2.cells
      rw [results_cell_one rfl]
      go_simp
    by_cases e2 : c = 2
    · subst e2
      have e : flS a b x y 2 = (x, b - y) := by unfold flS; rw [hok]; rfl
      rw [e]
      clear e hok
      rw [show decide ((1 : Int) ≤ 2 ∧ (2 : Int) ≤ 3) = true from rfl] at hI
      go_enter Try.func20, Try.ntmps20
      go_wp2_with fail
      refine (hO _).mono ?_
      clear hO
      rintro e w2 ⟨rfl, b2⟩
      replace p1 := p1.keep b2 p1.lt
      replace p2 := p2.keep b2 p2.lt
      replace b0 := below_more b0 b0.size b2
      clear b2
      go_wp2_with fail
      refine (hI _).mono ?_
      clear hI
      rintro e w3 ⟨rfl, rfl⟩
      obtain ⟨c10, c11, c12, c13⟩ := p1.cells
      obtain ⟨f10, f11, f12, f13⟩ := p1.free
      have q1 := p1.set3 (b - y)
      obtain ⟨d10, d11, d12, d13⟩ := q1.cells
      obtain ⟨e10, e11, e12, e13⟩ := q1.free
      have r1 : JBox (w2.setCell ⟨w.heap.size, 3, none⟩ (.int .i64 (b - y))) (w.heap.size + 1) 0 0 0 0 := (Below.heap_setCell _ _ _ _ (by simp)).trans p2
      have b1 := b0.setCell (Nat.le_refl _) (p := ⟨w.heap.size, 3, none⟩) (.int .i64 (b - y))
      obtain ⟨c20, c21, c22, c23⟩ := r1.cells
      obtain ⟨f20, f21, f22, f23⟩ := r1.free
      have k2 := JBox.set r1 a b (x) (b - y)
      have k3 := below_jset b1 (Nat.le_add_right w.heap.size 1) a b (x) (b - y)
      clear p1 p2 b0 q1 r1 b1
      go_wp2_with fail
      (try simp only [Exit.inBlock, Exit.then])
      refine bodyPost_ret (v := jagg a b (x) (b - y)) (w := jset (w2.setCell ⟨w.heap.size, 3, none⟩ (.int .i64 (b - y))) (w.heap.size + 1) a b (x) (b - y)) ?_ rfl ⟨rfl, k3⟩
      obtain ⟨c30, c31, c32, c33⟩ := k2.cells
      rw [results_cell_one rfl]
      go_simp
    by_cases e3 : c = 3
    · subst e3
      have e : flS a b x y 3 = (a - x, b - y) := by unfold flS; rw [hok]; rfl
      rw [e]
      clear e hok
      rw [show decide ((1 : Int) ≤ 3 ∧ (3 : Int) ≤ 3) = true from rfl] at hI
      go_enter Try.func20, Try.ntmps20
      go_wp2_with fail
      refine (hO _).mono ?_
      clear hO
      rintro e w2 ⟨rfl, b2⟩
      replace p1 := p1.keep b2 p1.lt
      replace p2 := p2.keep b2 p2.lt
      replace b0 := below_more b0 b0.size b2
      clear b2
      go_wp2_with fail
      refine (hI _).mono ?_
      clear hI
      rintro e w3 ⟨rfl, rfl⟩
      obtain ⟨c10, c11, c12, c13⟩ := p1.cells
      obtain ⟨f10, f11, f12, f13⟩ := p1.free
      have q1 := p1.set2 (a - x)
      obtain ⟨d10, d11, d12, d13⟩ := q1.cells
      obtain ⟨e10, e11, e12, e13⟩ := q1.free
      have r1 : JBox (w2.setCell ⟨w.heap.size, 2, none⟩ (.int .i64 (a - x))) (w.heap.size + 1) 0 0 0 0 := (Below.heap_setCell _ _ _ _ (by simp)).trans p2
      have b1 := b0.setCell (Nat.le_refl _) (p := ⟨w.heap.size, 2, none⟩) (.int .i64 (a - x))
      have q2 := q1.set3 (b - y)
      obtain ⟨d20, d21, d22, d23⟩ := q2.cells
      obtain ⟨e20, e21, e22, e23⟩ := q2.free
      have r2 : JBox ((w2.setCell ⟨w.heap.size, 2, none⟩ (.int .i64 (a - x))).setCell ⟨w.heap.size, 3, none⟩ (.int .i64 (b - y))) (w.heap.size + 1) 0 0 0 0 := (Below.heap_setCell _ _ _ _ (by simp)).trans r1
      have b2 := b1.setCell (Nat.le_refl _) (p := ⟨w.heap.size, 3, none⟩) (.int .i64 (b - y))
      obtain ⟨c20, c21, c22, c23⟩ := r2.cells
      obtain ⟨f20, f21, f22, f23⟩ := r2.free
      have k2 := JBox.set r2 a b (a - x) (b - y)
      have k3 := below_jset b2 (Nat.le_add_right w.heap.size 1) a b (a - x) (b - y)
      clear p1 p2 b0 q1 r1 b1 q2 r2 b2
      go_wp2_with fail
      (try simp only [Exit.inBlock, Exit.then])
      refine bodyPost_ret (v := jagg a b (a - x) (b - y)) (w := jset ((w2.setCell ⟨w.heap.size, 2, none⟩ (.int .i64 (a - x))).setCell ⟨w.heap.size, 3, none⟩ (.int .i64 (b - y))) (w.heap.size + 1) a b (a - x) (b - y)) ?_ rfl ⟨rfl, k3⟩
      obtain ⟨c30, c31, c32, c33⟩ := k2.cells
      rw [results_cell_one rfl]
      go_simp
    have e : flS a b x y c = (x, y) := by
      unfold flS tn
      rw [hok]
      simp [e1, e2, e3]
    rw [e]
    clear e hok
    rw [show decide (1 ≤ c ∧ c ≤ 3) = false from decide_eq_false (by omega)] at hI
    go_enter Try.func20, Try.ntmps20
    go_wp2_with fail
    refine (hO _).mono ?_
    clear hO
    rintro e w2 ⟨rfl, b2⟩
    replace p1 := p1.keep b2 p1.lt
    replace p2 := p2.keep b2 p2.lt
    replace b0 := below_more b0 b0.size b2
    clear b2
    go_wp2_with fail
    refine (hI _).mono ?_
    clear hI
    rintro e w3 ⟨rfl, rfl⟩
    obtain ⟨c10, c11, c12, c13⟩ := p1.cells
    obtain ⟨f10, f11, f12, f13⟩ := p1.free
    obtain ⟨c20, c21, c22, c23⟩ := p2.cells
    obtain ⟨f20, f21, f22, f23⟩ := p2.free
    have k2 := JBox.set p2 a b (x) (y)
    have k3 := below_jset b0 (Nat.le_add_right w.heap.size 1) a b (x) (y)
    clear p1 p2 b0
    go_wp2_with fail
    (try simp only [Exit.inBlock, Exit.then])
    refine bodyPost_ret (v := jagg a b (x) (y)) (w := jset w2 (w.heap.size + 1) a b (x) (y)) ?_ rfl ⟨rfl, k3⟩
    obtain ⟨c30, c31, c32, c33⟩ := k2.cells
    rw [results_cell_one rfl]
    go_simp
end Go.Proofs.Ytmbhldpbgcfnmaa
