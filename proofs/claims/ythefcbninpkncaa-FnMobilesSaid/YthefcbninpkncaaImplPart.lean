/-
  The contracts of the program's checks of one part, reached through a pointer. Nothing is written.
-/
import Derived.Test.YthefcbninpkncaaSpecMok
import Derived.Test.YthefcbninpkncaaMobVals
namespace Go.Proofs.Ythefcbninpkncaa
open Go.ChangeShapes Go.WideShapes Go.ChangeAt Go.RowKit Go.PlainAid

/-- The part at an address reads as this. -/
def PtAt (w : World) (q : Addr) (y : PartT) : Prop :=
  w.cell? q = some (.int .i64 y.left) ∧ w.cell? ⟨q.block, q.off + 1, none⟩ = some (.int .i64 y.right) ∧ w.cell? ⟨q.block, q.off + 2, none⟩ = some (.int .i64 y.armLeft) ∧ w.cell? ⟨q.block, q.off + 3, none⟩ = some (.int .i64 y.armRight) ∧ w.cell? ⟨q.block, q.off + 4, none⟩ = some (.int .i64 y.weight)
theorem PartRow.ptAt {w : World} {A : Option Addr} {L : List PartT} (h : PartRow w A L) {j : Nat} (hj : j < L.length) : ∃ x, A = some x ∧ PtAt w (x.add (j * 5)) (ptget L j) := by
  obtain ⟨x, hA, hx, c0, d1, d2, d3, d4⟩ := h.at hj
  exact ⟨x, hA, c0.1, d1, d2, d3, d4⟩

theorem within_any (n lo hi : Int) (w : World) : Calls Try.prog 51 #[.int .i64 n, .int .i64 lo, .int .i64 hi] w (Tells (decide (lo ≤ n ∧ n ≤ hi)) w) := by
  by_cases h1 : lo ≤ n
  · by_cases h2 : n ≤ hi
    · rw [decide_eq_true ⟨h1, h2⟩]
      go_enter Try.func51, Try.ntmps51
      go_wp2_with fail
      go_ret
      exact ⟨rfl, rfl⟩
    · rw [decide_eq_false (fun h => h2 h.2)]
      go_enter Try.func51, Try.ntmps51
      go_wp2_with fail
      go_ret
      exact ⟨rfl, rfl⟩
  · rw [decide_eq_false (fun h => h1 h.1)]
    go_enter Try.func51, Try.ntmps51
    go_wp2_with fail
    go_ret
    exact ⟨rfl, rfl⟩
theorem isWt_any (q : Addr) (y : PartT) (w : World) (h : PtAt w q y) : Calls Try.prog 33 #[.pointer (some q)] w (Tells (decide (y.left = -1)) w) := by
  obtain ⟨c0, c1, c2, c3, c4⟩ := h
  clear c1 c2 c3 c4
  generalize y.left = t at c0 ⊢
  by_cases e : t = -1
  · subst e
    go_enter Try.func33, Try.ntmps33
    go_wp2_with fail
    go_ret
    exact ⟨rfl, rfl⟩
  · rw [decide_eq_false e]
    go_enter Try.func33, Try.ntmps33
    go_wp2_with fail
    go_ret
    exact ⟨by simp [e], rfl⟩
theorem wt_parts (y : PartT) : decide (WtOk y) = (decide (y.right = -1) && (decide (y.armLeft = 0) && (decide (y.armRight = 0) && decide (1 ≤ y.weight ∧ y.weight ≤ 1000)))) := by
  rw [Bool.eq_iff_iff]
  simp only [Bool.and_eq_true, decide_eq_true_eq]
  exact Iff.rfl
theorem isWtOk_any (q : Addr) (y : PartT) (w : World) (h : PtAt w q y) : Calls Try.prog 38 #[.pointer (some q)] w (Tells (decide (WtOk y)) w) := by
  rw [wt_parts]
  obtain ⟨c0, c1, c2, c3, c4⟩ := h
  clear c0
  obtain ⟨yl, yr, ya, yb, yw⟩ := y
  dsimp only at c1 c2 c3 c4 ⊢
  have hw := fun W => within_any yw 1 1000 W
  generalize decide (1 ≤ yw ∧ yw ≤ 1000) = z at hw ⊢
  by_cases e1 : yr = -1
  · subst e1
    by_cases e2 : ya = 0
    · subst e2
      by_cases e3 : yb = 0
      · subst e3
        go_enter Try.func38, Try.ntmps38
        go_wp2_with fail
        refine (hw _).mono ?_
        rintro e w1 ⟨rfl, rfl⟩
        go_wp2_with fail
        go_ret
        exact ⟨by simp, rfl⟩
      · clear c4 hw
        go_enter Try.func38, Try.ntmps38
        go_wp2_with fail
        go_ret
        exact ⟨by simp [e3], rfl⟩
    · clear c3 c4 hw
      go_enter Try.func38, Try.ntmps38
      go_wp2_with fail
      go_ret
      exact ⟨by simp [e2], rfl⟩
  · clear c2 c3 c4 hw
    go_enter Try.func38, Try.ntmps38
    go_wp2_with fail
    go_ret
    exact ⟨by simp [e1], rfl⟩
theorem bm_parts (n k : Nat) (y : PartT) : decide (BmOk n k y) = (decide ((k : Int) + 1 ≤ y.left ∧ y.left ≤ (n : Int) - 1) && (decide ((k : Int) + 1 ≤ y.right ∧ y.right ≤ (n : Int) - 1) && (decide (1 ≤ y.armLeft ∧ y.armLeft ≤ 20) && (decide (1 ≤ y.armRight ∧ y.armRight ≤ 20) && decide (y.weight = 0))))) := by
  rw [Bool.eq_iff_iff]
  simp only [Bool.and_eq_true, decide_eq_true_eq]
  exact Iff.rfl
set_option maxHeartbeats 1000000 in
theorem isBmOk_any (q : Addr) (n k : Nat) (m : Int) (y : PartT) (w : World) (hm : m = (n : Int) - 1) (hn : n ≤ 1048576) (hk : k ≤ n) (h : PtAt w q y) : Calls Try.prog 39 #[.pointer (some q), .int .i64 (k : Nat), .int .i64 m] w (Tells (decide (BmOk n k y)) w) := by
  rw [bm_parts, ← hm]
  obtain ⟨c0, c1, c2, c3, c4⟩ := h
  obtain ⟨yl, yr, ya, yb, yw⟩ := y
  dsimp only at c0 c1 c2 c3 c4 ⊢
  have h1 := fun W => within_any yl ((k : Int) + 1) m W
  have h2 := fun W => within_any yr ((k : Int) + 1) m W
  have h3 := fun W => within_any ya 1 20 W
  have h4 := fun W => within_any yb 1 20 W
  generalize decide ((k : Int) + 1 ≤ yl ∧ yl ≤ m) = z1 at h1 ⊢
  generalize decide ((k : Int) + 1 ≤ yr ∧ yr ≤ m) = z2 at h2 ⊢
  generalize decide (1 ≤ ya ∧ ya ≤ 20) = z3 at h3 ⊢
  generalize decide (1 ≤ yb ∧ yb ≤ 20) = z4 at h4 ⊢
  clear hm
  go_enter Try.func39, Try.ntmps39
  go_wp2_with fail
  refine (h1 _).mono ?_
  rintro e w1 ⟨rfl, rfl⟩
  cases z1
  · clear h1 h2 h3 h4
    go_wp2_with fail
    go_ret
    exact ⟨by simp, rfl⟩
  · go_wp2_with fail
    refine (h2 _).mono ?_
    rintro e w1 ⟨rfl, rfl⟩
    cases z2
    · clear h1 h2 h3 h4
      go_wp2_with fail
      go_ret
      exact ⟨by simp, rfl⟩
    · go_wp2_with fail
      refine (h3 _).mono ?_
      rintro e w1 ⟨rfl, rfl⟩
      cases z3
      · clear h1 h2 h3 h4
        go_wp2_with fail
        go_ret
        exact ⟨by simp, rfl⟩
      · go_wp2_with fail
        refine (h4 _).mono ?_
        rintro e w1 ⟨rfl, rfl⟩
        cases z4
        · clear h1 h2 h3 h4
          go_wp2_with fail
          go_ret
          exact ⟨by simp, rfl⟩
        · clear h1 h2 h3 h4
          by_cases e : yw = 0
          · subst e
            go_wp2_with fail
            go_ret
            exact ⟨by simp, rfl⟩
          · go_wp2_with fail
            go_ret
            exact ⟨by simp [e], rfl⟩
end Go.Proofs.Ythefcbninpkncaa
