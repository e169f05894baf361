/-
  The contracts of the functions that say whether two jugs are valid, the program's and the model's; of the laws' own type turned into the program's, compared field by field; of the model's number of a state. Only new memory is written.
-/
import Derived.Test.YtmoncfplcmdpcaaJug
import Derived.Test.YtmoncfplcmdpcaaRange
import Derived.Laws.ResultCell
namespace Go.Proofs.Ytmoncfplcmdpcaa
open Go.ChangeShapes Go.WideShapes Go.ChangeAt Go.RowKit Go.PlainAid

/-- Jugs as a value. -/
abbrev jagg (a b x y : Int) : Value := .agg #[.int .i64 a, .int .i64 b, .int .i64 x, .int .i64 y]
/-- A block of jugs that was just made. -/
abbrev jobj (a b x y : Int) (t : TypeId) : Obj := .cells #[.int .i64 a, .int .i64 b, .int .i64 x, .int .i64 y] t

def jugB (s c : Int) : Bool := decide (1 ≤ s ∧ s ≤ 20 ∧ 0 ≤ c ∧ c ≤ s)
theorem isJug_any (s c : Int) (w : World) : Calls Try.prog 28 #[.int .i64 s, .int .i64 c] w (Tells (jugB s c) w) := by
  by_cases h1 : 1 ≤ s
  · by_cases h2 : s ≤ 20
    · by_cases h3 : 0 ≤ c
      · by_cases h4 : c ≤ s
        · have e : jugB s c = true := decide_eq_true ⟨h1, h2, h3, h4⟩
          have d : decide (c ≤ s) = true := decide_eq_true h4
          rw [e]
          go_enter Try.func28, Try.ntmps28
          go_wp2_with fail
          go_ret
          exact ⟨rfl, rfl⟩
        · have e : jugB s c = false := decide_eq_false fun h => h4 h.2.2.2
          have d : decide (c ≤ s) = false := decide_eq_false h4
          rw [e]
          go_enter Try.func28, Try.ntmps28
          go_wp2_with fail
          go_ret
          exact ⟨rfl, rfl⟩
      · have e : jugB s c = false := decide_eq_false fun h => h3 h.2.2.1
        rw [e]
        go_enter Try.func28, Try.ntmps28
        go_wp2_with fail
        go_ret
        exact ⟨rfl, rfl⟩
    · have e : jugB s c = false := decide_eq_false fun h => h2 h.2.1
      rw [e]
      go_enter Try.func28, Try.ntmps28
      go_wp2_with fail
      go_ret
      exact ⟨rfl, rfl⟩
  · have e : jugB s c = false := decide_eq_false fun h => h1 h.1
    rw [e]
    go_enter Try.func28, Try.ntmps28
    go_wp2_with fail
    go_ret
    exact ⟨rfl, rfl⟩

theorem implJugsOk_any (a b x y : Int) (w : World) : Calls Try.prog 14 #[jagg a b x y] w (SaysB (okJ a b x y) w) := by
  have b1 : Below w.heap.size w (w.alloc (jobj a b x y 30)) := (Below.refl _ _).alloc (Nat.le_refl _) _
  have hA := isJug_any a x (w.alloc (jobj a b x y 30))
  have hB := isJug_any b y (w.alloc (jobj a b x y 30))
  have e : okJ a b x y = (jugB a x && jugB b y) := by
    unfold okJ jugB
    rw [← Bool.decide_and]
    exact decide_eq_decide.2 (by omega)
  rw [e]
  generalize jugB a x = p at hA
  generalize jugB b y = q at hB
  clear e
  cases p
  · clear hB
    go_enter Try.func14, Try.ntmps14
    go_wp2_with fail
    refine hA.mono ?_
    rintro e w2 ⟨rfl, rfl⟩
    go_wp2_with fail
    go_ret
    exact ⟨rfl, b1⟩
  · go_enter Try.func14, Try.ntmps14
    go_wp2_with fail
    refine hA.mono ?_
    rintro e w2 ⟨rfl, rfl⟩
    clear hA
    go_wp2_with fail
    refine hB.mono ?_
    rintro e w2 ⟨rfl, rfl⟩
    go_wp2_with fail
    go_ret
    exact ⟨rfl, b1⟩

theorem specJugsOk_any (a b x y : Int) (w : World) : Calls Try.prog 15 #[jagg a b x y] w (SaysB (okJ a b x y) w) := by
  have b1 : Below w.heap.size w (w.alloc (jobj a b x y 30)) := (Below.refl _ _).alloc (Nat.le_refl _) _
  have hA := in_any a 1 20 (w.alloc (jobj a b x y 30))
  have hB := in_any b 1 20 (w.alloc (jobj a b x y 30))
  have hC := in_any x 0 a (w.alloc (jobj a b x y 30))
  have hD := in_any y 0 b (w.alloc (jobj a b x y 30))
  have e : okJ a b x y = (decide (1 ≤ a ∧ a ≤ 20) && decide (1 ≤ b ∧ b ≤ 20) && decide (0 ≤ x ∧ x ≤ a) && decide (0 ≤ y ∧ y ≤ b)) := by
    unfold okJ
    simp only [Bool.decide_and, Bool.and_assoc]
  rw [e]
  generalize decide (1 ≤ a ∧ a ≤ 20) = p at hA
  generalize decide (1 ≤ b ∧ b ≤ 20) = q at hB
  generalize decide (0 ≤ x ∧ x ≤ a) = r at hC
  generalize decide (0 ≤ y ∧ y ≤ b) = s at hD
  clear e
  cases p
  · clear hB hC hD
    go_enter Try.func15, Try.ntmps15
    go_wp2_with fail
    refine hA.mono ?_
    rintro e w2 ⟨rfl, rfl⟩
    go_wp2_with fail
    go_ret
    exact ⟨rfl, b1⟩
  · cases q
    · clear hC hD
      go_enter Try.func15, Try.ntmps15
      go_wp2_with fail
      refine hA.mono ?_
      rintro e w2 ⟨rfl, rfl⟩
      clear hA
      go_wp2_with fail
      refine hB.mono ?_
      rintro e w2 ⟨rfl, rfl⟩
      go_wp2_with fail
      go_ret
      exact ⟨rfl, b1⟩
    · cases r
      · clear hD
        go_enter Try.func15, Try.ntmps15
        go_wp2_with fail
        refine hA.mono ?_
        rintro e w2 ⟨rfl, rfl⟩
        clear hA
        go_wp2_with fail
        refine hB.mono ?_
        rintro e w2 ⟨rfl, rfl⟩
        clear hB
        go_wp2_with fail
        refine hC.mono ?_
        rintro e w2 ⟨rfl, rfl⟩
        go_wp2_with fail
        go_ret
        exact ⟨rfl, b1⟩
      · go_enter Try.func15, Try.ntmps15
        go_wp2_with fail
        refine hA.mono ?_
        rintro e w2 ⟨rfl, rfl⟩
        clear hA
        go_wp2_with fail
        refine hB.mono ?_
        rintro e w2 ⟨rfl, rfl⟩
        clear hB
        go_wp2_with fail
        refine hC.mono ?_
        rintro e w2 ⟨rfl, rfl⟩
        clear hC
        go_wp2_with fail
        refine hD.mono ?_
        rintro e w2 ⟨rfl, rfl⟩
        go_wp2_with fail
        go_ret
        exact ⟨rfl, b1⟩

theorem results_cell_one {fn : Func} {p : Tmp} {ty : TypeId} (h : fn.results = #[.cell p ty]) (tmps : Array Value) (P : Program) (w : World) :
    (results fn tmps).run P w = ((asAddr (tmps.getD p undef)).run P w).andThen fun a w₁ => (loadVar ty a).run P w₁ := by
  simp only [results, h]
  simp [Sem.run_bind, Result.andThen]

/-- Jugs are answered, only new memory is written. -/
def GivesJ (a b x y : Int) (w : World) (e : Ending) (w' : World) : Prop := e = .returned (jagg a b x y) ∧ Below w.heap.size w w'
/-- .. and a bool. -/
def GivesJB (a b x y : Int) (z : Bool) (w : World) (e : Ending) (w' : World) : Prop := e = .returned (.tuple #[jagg a b x y, .bool z]) ∧ Below w.heap.size w w'

theorem toJugs_any (a b x y : Int) (w : World) : Calls Try.prog 16 #[jagg a b x y] w (GivesJ a b x y w) := by
  go_enter Try.func16, Try.ntmps16
  go_wp2_with fail
  (try simp only [Exit.inBlock, Exit.then])
  refine bodyPost_ret (v := jagg a b x y) ?_ rfl ⟨rfl, ?_⟩
  · rw [results_cell_one rfl]
    go_simp
  · repeat' (first | exact Below.refl _ _ | refine Below.setCell ?_ (by simp <;> omega) _ | refine Below.alloc ?_ (by simp <;> omega) _)

theorem key_any (a b x y : Int) (w : World) (hx : 0 ≤ x ∧ x ≤ 20) (hy : 0 ≤ y ∧ y ≤ 20) : Calls Try.prog 32 #[jagg a b x y] w (SaysI (x * 21 + y) w) := by
  have b1 : Below w.heap.size w (w.alloc (jobj a b x y 30)) := (Below.refl _ _).alloc (Nat.le_refl _) _
  go_enter Try.func32, Try.ntmps32
  go_wp2_with fail
  go_ret
  exact ⟨rfl, b1⟩

/-- The same jugs compare equal. -/
theorem eqJugs_any (a b x y : Int) (w : World) : Calls Try.prog 19 #[jagg a b x y, jagg a b x y] w (SaysB true w) := by
  have b1 : Below w.heap.size w ((w.alloc (jobj a b x y 30)).alloc (jobj a b x y 30)) := ((Below.refl _ _).alloc (Nat.le_refl _) _).alloc (by simp) _
  go_enter Try.func19, Try.ntmps19
  go_wp2_with fail
  go_ret
  exact ⟨rfl, b1⟩
end Go.Proofs.Ytmoncfplcmdpcaa
