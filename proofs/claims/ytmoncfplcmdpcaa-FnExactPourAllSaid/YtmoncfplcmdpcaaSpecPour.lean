/-
  The contract of the model's pour. Only new memory is written.
-/
import Derived.Test.YtmoncfplcmdpcaaJugBox
import Derived.RegionTactic
import Derived.BigRegion
import Derived.Deep.DeepCutAuto
import Derived.Lib.Hide
namespace Go.Proofs.Ytmoncfplcmdpcaa
open Go.ChangeShapes Go.WideShapes Go.ChangeAt Go.RowKit Go.PlainAid

/-- Behind the act. -/
def Acted (w : World) (p q r : Nat) (a b x y X Y : Int) (wx : World) : Prop := JBox wx p a b x y ∧ JBox wx q 0 0 0 0 ∧ JBox wx r a b X Y ∧ Below w.heap.size w wx
theorem acted {w w2 : World} {p q r : Nat} {a b x y X Y : Int} (h1 : JBox w2 p a b x y) (h2 : JBox w2 q 0 0 0 0) (b0 : Below w.heap.size w w2) (h : JBox (w2.alloc (jobj a b X Y 30)) r a b X Y) : Acted w p q r a b x y X Y (w2.alloc (jobj a b X Y 30)) :=
  ⟨h1.alloc _, h2.alloc _, h, b0.alloc b0.size _⟩

set_option maxHeartbeats 1600000 in
theorem specPour_any (a b x y act : Int) (w : World) : Calls Try.prog 17 #[jagg a b x y, .int .i64 act] w (GivesJB a b (pS a b x y act).1 (pS a b x y act).2 (pO a b x y act) w) := by
  have hO := fun W => specJugsOk_any a b x y W
  unfold pS pO
  have b0 : Below w.heap.size w ((w.alloc (jobj a b x y 30)).alloc (jobj 0 0 0 0 30)) := ((Below.refl _ _).alloc (Nat.le_refl _) _).alloc (by simp) _
  have p1 := (JBox.new w a b x y).alloc (jobj 0 0 0 0 30)
  have p2 := JBox.new (w.alloc (jobj a b x y 30)) 0 0 0 0
  rw [show (w.alloc (jobj a b x y 30)).heap.size = w.heap.size + 1 by simp] at p2
  rcases hb : okJ a b x y with _ | _
  · rw [hb] at hO
    go_enter Try.func17, Try.ntmps17
    go_wp2_with fail
    refine (hO _).mono ?_
    clear hO
    rintro e w2 ⟨rfl, b2⟩
    replace p1 := p1.keep b2 p1.lt
    replace p2 := p2.keep b2 p2.lt
    replace b0 := below_more b0 b0.size b2
    clear b2
    have c1 := p1.cells
    have c2 := p2.cells
    have f2 := p2.free
    have k2 := JBox.set p2 a b x y
    have k3 := below_jset b0 (Nat.le_add_right w.heap.size 1) a b x y
    clear b0 p1 p2
    obtain ⟨c10, c11, c12, c13⟩ := c1
    obtain ⟨c20, c21, c22, c23⟩ := c2
    obtain ⟨f20, f21, f22, f23⟩ := f2
    go_wp2_with fail
    (try simp only [Exit.inBlock, Exit.then])
    refine bodyPost_ret (v := .tuple #[jagg a b x y, .bool false]) (w := jset w2 (w.heap.size + 1) a b x y) ?_ rfl ⟨rfl, k3⟩
    obtain ⟨c30, c31, c32, c33⟩ := k2.cells
    rw [results_cell_tmp rfl]
    go_simp
  · rw [hb] at hO
    have e : (if true = true then aft a b x y act else (x, y)) = aft a b x y act := if_pos rfl
    rw [e, Bool.true_and]
    clear e
    have hneq : ∀ X Y : Int, decide ((X, Y) ≠ (x, y)) = !(X == x && Y == y) := fun X Y => by
      by_cases e1 : X = x <;> by_cases e2 : Y = y <;> simp [e1, e2]
    rw [show decide (aft a b x y act ≠ (x, y)) = _ from hneq (aft a b x y act).1 (aft a b x y act).2]
    clear hneq
    rw [okJ_iff] at hb
    obtain ⟨h1, h2, h3, h4⟩ := hb
    obtain ⟨X, hX⟩ : ∃ X, (aft a b x y act).1 = X := ⟨_, rfl⟩
    obtain ⟨Y, hY⟩ : ∃ Y, (aft a b x y act).2 = Y := ⟨_, rfl⟩
    rw [hX, hY]
    replace hX := Lib.hid hX
    replace hY := Lib.hid hY
    go_enter Try.func17, Try.ntmps17
    go_wp2_with fail
    refine (hO _).mono ?_
    clear hO
    rintro e w2 ⟨rfl, b2⟩
    replace p1 := p1.keep b2 p1.lt
    replace p2 := p2.keep b2 p2.lt
    replace b0 := below_more b0 b0.size b2
    clear b2
    obtain ⟨c10, c11, c12, c13⟩ := p1.cells
    go_upto_region 4 with fail
    go_step
    go_step
    go_step
    go_step
    go_step
    go_step
    go_step
    have hp1 := p1.lt
    have hp2 := p2.lt
    obtain ⟨r, hr⟩ : ∃ r, w2.heap.size = r := ⟨_, rfl⟩
    rw [hr]
    go_cut [] (fun wx => Acted w w.heap.size (w.heap.size + 1) r a b x y X Y wx)
    case first =>
      have hgo : ∀ X Y : Int, Acted w w.heap.size (w.heap.size + 1) r a b x y X Y (w2.alloc (jobj a b X Y 30)) := fun X Y => acted p1 p2 b0 (hr ▸ JBox.new w2 a b X Y)
      have d10 : ∀ o, (w2.alloc o).cell? ⟨w.heap.size, 0, none⟩ = some (.int .i64 a) := fun o => (p1.alloc o).cells.1
      have d11 : ∀ o, (w2.alloc o).cell? ⟨w.heap.size, 1, none⟩ = some (.int .i64 b) := fun o => (p1.alloc o).cells.2.1
      have d12 : ∀ o, (w2.alloc o).cell? ⟨w.heap.size, 2, none⟩ = some (.int .i64 x) := fun o => (p1.alloc o).cells.2.2.1
      have d13 : ∀ o, (w2.alloc o).cell? ⟨w.heap.size, 3, none⟩ = some (.int .i64 y) := fun o => (p1.alloc o).cells.2.2.2
      clear p1 p2 b0 c10 c11 c12 c13
      by_cases a1 : act = 1
      · subst a1
        replace hX : a = X := hX.out
        replace hY : y = Y := hY.out
        subst hX hY
        go_wp2_with fail
        go_meet
        exact hgo _ _
      by_cases a2 : act = 2
      · subst a2
        clear a1
        replace hX : x = X := hX.out
        replace hY : b = Y := hY.out
        subst hX hY
        go_wp2_with fail
        go_meet
        exact hgo _ _
      by_cases a3 : act = 3
      · subst a3
        clear a1 a2
        replace hX : 0 = X := hX.out
        replace hY : y = Y := hY.out
        subst hX hY
        go_wp2_with fail
        go_meet
        exact hgo _ _
      by_cases a4 : act = 4
      · subst a4
        clear a1 a2 a3
        replace hX : x = X := hX.out
        replace hY : 0 = Y := hY.out
        subst hX hY
        go_wp2_with fail
        go_meet
        exact hgo _ _
      by_cases a5 : act = 5
      · subst a5
        clear a1 a2 a3 a4
        replace hX : x - mn x (b - y) = X := hX.out
        replace hY : y + mn x (b - y) = Y := hY.out
        subst hX hY
        have hm : (if b - y < x then b - y else x) = mn x (b - y) := rfl
        have hr : 0 ≤ mn x (b - y) ∧ mn x (b - y) ≤ 20 := by unfold mn; split <;> omega
        obtain ⟨m, e⟩ : ∃ m, mn x (b - y) = m := ⟨_, rfl⟩
        rw [e] at hm hr
        replace e := Lib.hid e
        go_wp2_with fail
        go_meet
        rw [e.out]
        exact hgo _ _
      by_cases a6 : act = 6
      · subst a6
        clear a1 a2 a3 a4 a5
        replace hX : x + mn y (a - x) = X := hX.out
        replace hY : y - mn y (a - x) = Y := hY.out
        subst hX hY
        have hm : (if a - x < y then a - x else y) = mn y (a - x) := rfl
        have hr : 0 ≤ mn y (a - x) ∧ mn y (a - x) ≤ 20 := by unfold mn; split <;> omega
        obtain ⟨m, e⟩ : ∃ m, mn y (a - x) = m := ⟨_, rfl⟩
        rw [e] at hm hr
        replace e := Lib.hid e
        go_wp2_with fail
        go_meet
        rw [e.out]
        exact hgo _ _
      have e : aft a b x y act = (x, y) := by
        unfold aft
        rw [if_neg a1, if_neg a2, if_neg a3, if_neg a4, if_neg a5, if_neg a6]
      rw [e] at hX hY
      replace hX : x = X := hX.out
      replace hY : y = Y := hY.out
      subst hX hY
      clear e
      have z1 : (act == 1) = false := by simp [a1]
      have z2 : (act == 2) = false := by simp [a2]
      have z3 : (act == 3) = false := by simp [a3]
      have z4 : (act == 4) = false := by simp [a4]
      have z5 : (act == 5) = false := by simp [a5]
      have z6 : (act == 6) = false := by simp [a6]
      go_wp2_with fail
      go_meet
      exact hgo _ _
    case rest =>
      obtain ⟨p1, p2, p3, b0⟩ := hcut
      clear hX hY
      go_wp2_with fail
      obtain ⟨c10, c11, c12, c13⟩ := p1.cells
      obtain ⟨c20, c21, c22, c23⟩ := p2.cells
      obtain ⟨c30, c31, c32, c33⟩ := p3.cells
      obtain ⟨f20, f21, f22, f23⟩ := p2.free
      clear p3
      rcases Decidable.em (X = x) with e1 | e1
      · subst e1
        rcases Decidable.em (Y = y) with e2 | e2
        · subst e2
          go_region
          go_wp2_with fail
          (try simp only [Exit.inBlock, Exit.then])
          refine bodyPost_ret (v := .tuple #[jagg a b X Y, .bool false]) ?_ rfl ⟨by simp, ?_⟩
          · rw [results_cell_tmp rfl]
            go_simp
          · exact below_drew (below_jset b0 (Nat.le_add_right _ _) a b X Y)
        · go_region
          go_wp2_with fail
          (try simp only [Exit.inBlock, Exit.then])
          refine bodyPost_ret (v := .tuple #[jagg a b X Y, .bool true]) ?_ rfl ⟨by simp [e2], ?_⟩
          · rw [results_cell_tmp rfl]
            go_simp
          · exact below_drew (below_jset b0 (Nat.le_add_right _ _) a b X Y)
      · go_region
        go_wp2_with fail
        (try simp only [Exit.inBlock, Exit.then])
        refine bodyPost_ret (v := .tuple #[jagg a b X Y, .bool true]) ?_ rfl ⟨by simp [e1], ?_⟩
        · rw [results_cell_tmp rfl]
          go_simp
        · exact below_drew (below_jset b0 (Nat.le_add_right _ _) a b X Y)
end Go.Proofs.Ytmoncfplcmdpcaa
