/-
  The contract of the program's pour. Only new memory is written.
-/
import Derived.Test.YtmoncfplcmdpcaaJugAfter
import Derived.RegionTactic
import Derived.BigRegion
namespace Go.Proofs.Ytmoncfplcmdpcaa
open Go.ChangeShapes Go.WideShapes Go.ChangeAt Go.RowKit Go.PlainAid

set_option maxHeartbeats 1600000 in
theorem implPour_any (a b x y act : Int) (w : World) : Calls Try.prog 18 #[jagg a b x y, .int .i64 act] w (GivesJB a b (pS a b x y act).1 (pS a b x y act).2 (pO a b x y act) w) := by
  have hO := fun W => implJugsOk_any a b x y W
  unfold pS pO
  have b0 : Below w.heap.size w ((w.alloc (jobj a b x y 30)).alloc (jobj 0 0 0 0 30)) := ((Below.refl _ _).alloc (Nat.le_refl _) _).alloc (by simp) _
  have p1 := (JBox.new w a b x y).alloc (jobj 0 0 0 0 30)
  have p2 := JBox.new (w.alloc (jobj a b x y 30)) 0 0 0 0
  rw [show (w.alloc (jobj a b x y 30)).heap.size = w.heap.size + 1 by simp] at p2
  rcases hb : okJ a b x y with _ | _
  · rw [hb] at hO
    go_enter Try.func18, Try.ntmps18
    go_wp2_with fail
    refine (hO _).mono ?_
    clear hO
    rintro e w2 ⟨rfl, b2⟩
    replace p1 := p1.keep b2 p1.lt
    replace p2 := p2.keep b2 p2.lt
    replace b0 := below_more b0 b0.size b2
    clear b2
    have c1 := p1.cells
    have c2 := p2.cells
    have f2 := p2.free
    have k2 := JBox.set p2 a b x y
    have k3 := below_jset b0 (Nat.le_add_right w.heap.size 1) a b x y
    clear b0 p1 p2
    obtain ⟨c10, c11, c12, c13⟩ := c1
    obtain ⟨c20, c21, c22, c23⟩ := c2
    obtain ⟨f20, f21, f22, f23⟩ := f2
    go_wp2_with fail
    (try simp only [Exit.inBlock, Exit.then])
    refine bodyPost_ret (v := .tuple #[jagg a b x y, .bool false]) (w := jset w2 (w.heap.size + 1) a b x y) ?_ rfl ⟨rfl, k3⟩
    obtain ⟨c30, c31, c32, c33⟩ := k2.cells
    rw [results_cell_tmp rfl]
    go_simp
  · rw [hb] at hO
    have hF := fun W => after_any a b x y act W hb
    have e : (if true = true then aft a b x y act else (x, y)) = aft a b x y act := if_pos rfl
    rw [e, Bool.true_and]
    clear e
    have hneq : ∀ X Y : Int, decide ((X, Y) ≠ (x, y)) = !(X == x && Y == y) := fun X Y => by
      by_cases e1 : X = x <;> by_cases e2 : Y = y <;> simp [e1, e2]
    rw [show decide (aft a b x y act ≠ (x, y)) = _ from hneq (aft a b x y act).1 (aft a b x y act).2]
    generalize (aft a b x y act).1 = X at hF
    generalize (aft a b x y act).2 = Y at hF
    clear hneq
    go_enter Try.func18, Try.ntmps18
    go_wp2_with fail
    refine (hO _).mono ?_
    clear hO
    rintro e w2 ⟨rfl, b2⟩
    replace p1 := p1.keep b2 p1.lt
    replace p2 := p2.keep b2 p2.lt
    replace b0 := below_more b0 b0.size b2
    clear b2
    have c1 := p1.cells
    obtain ⟨c10, c11, c12, c13⟩ := c1
    go_wp2_with fail
    refine (hF _).mono ?_
    clear hF c10 c11 c12 c13
    rintro e w3 ⟨rfl, b3⟩
    replace p1 := p1.keep b3 p1.lt
    replace p2 := p2.keep b3 p2.lt
    replace b0 := below_more b0 b0.size b3
    clear b3
    go_wp2_with fail
    have p3 := JBox.new w3 a b X Y
    have hp1 := p1.lt
    have hp2 := p2.lt
    replace p1 := p1.alloc (jobj a b X Y 30)
    replace p2 := p2.alloc (jobj a b X Y 30)
    replace b0 := b0.alloc b0.size (jobj a b X Y 30)
    generalize hq : w3.heap.size = q at p3 hp1 hp2 ⊢
    generalize w3.alloc (jobj a b X Y 30) = w4 at p1 p2 p3 b0 ⊢
    clear hq
    obtain ⟨c10, c11, c12, c13⟩ := p1.cells
    obtain ⟨c20, c21, c22, c23⟩ := p2.cells
    obtain ⟨c30, c31, c32, c33⟩ := p3.cells
    obtain ⟨f20, f21, f22, f23⟩ := p2.free
    clear p3
    rcases Decidable.em (X = x) with e1 | e1
    · subst e1
      rcases Decidable.em (Y = y) with e2 | e2
      · subst e2
        go_region
        go_wp2_with fail
        (try simp only [Exit.inBlock, Exit.then])
        refine bodyPost_ret (v := .tuple #[jagg a b X Y, .bool false]) ?_ rfl ⟨by simp, ?_⟩
        · rw [results_cell_tmp rfl]
          go_simp
        · exact below_drew (below_jset b0 (Nat.le_add_right _ _) a b X Y)
      · go_region
        go_wp2_with fail
        (try simp only [Exit.inBlock, Exit.then])
        refine bodyPost_ret (v := .tuple #[jagg a b X Y, .bool true]) ?_ rfl ⟨by simp [e2], ?_⟩
        · rw [results_cell_tmp rfl]
          go_simp
        · exact below_drew (below_jset b0 (Nat.le_add_right _ _) a b X Y)
    · go_region
      go_wp2_with fail
      (try simp only [Exit.inBlock, Exit.then])
      refine bodyPost_ret (v := .tuple #[jagg a b X Y, .bool true]) ?_ rfl ⟨by simp [e1], ?_⟩
      · rw [results_cell_tmp rfl]
        go_simp
      · exact below_drew (below_jset b0 (Nat.le_add_right _ _) a b X Y)
end Go.Proofs.Ytmoncfplcmdpcaa
