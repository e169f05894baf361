/-
  The contracts of the functions that say whether two glasses are valid, the program's and the model's; of the laws' own type turned into the program's, compared field by field. Only new memory is written.
-/
import Derived.Test.YtmbhldpbgcfnmaaGlassBox
namespace Go.Proofs.Ytmbhldpbgcfnmaa
open Go.ChangeShapes Go.WideShapes Go.ChangeAt Go.RowKit Go.PlainAid

def glassB (s c : Int) : Bool := decide (1 ≤ s ∧ s ≤ 12 ∧ 0 ≤ c ∧ c ≤ s)
theorem isGlass_any (s c : Int) (w : World) : Calls Try.prog 32 #[.int .i64 s, .int .i64 c] w (Tells (glassB s c) w) := by
  by_cases h1 : 1 ≤ s
  · by_cases h2 : s ≤ 12
    · by_cases h3 : 0 ≤ c
      · by_cases h4 : c ≤ s
        · have e : glassB s c = true := decide_eq_true ⟨h1, h2, h3, h4⟩
          have d : decide (c ≤ s) = true := decide_eq_true h4
          rw [e]
          go_enter Try.func32, Try.ntmps32
          go_wp2_with fail
          go_ret
          exact ⟨rfl, rfl⟩
        · have e : glassB s c = false := decide_eq_false fun h => h4 h.2.2.2
          have d : decide (c ≤ s) = false := decide_eq_false h4
          rw [e]
          go_enter Try.func32, Try.ntmps32
          go_wp2_with fail
          go_ret
          exact ⟨rfl, rfl⟩
      · have e : glassB s c = false := decide_eq_false fun h => h3 h.2.2.1
        rw [e]
        go_enter Try.func32, Try.ntmps32
        go_wp2_with fail
        go_ret
        exact ⟨rfl, rfl⟩
    · have e : glassB s c = false := decide_eq_false fun h => h2 h.2.1
      rw [e]
      go_enter Try.func32, Try.ntmps32
      go_wp2_with fail
      go_ret
      exact ⟨rfl, rfl⟩
  · have e : glassB s c = false := decide_eq_false fun h => h1 h.1
    rw [e]
    go_enter Try.func32, Try.ntmps32
    go_wp2_with fail
    go_ret
    exact ⟨rfl, rfl⟩

theorem implGlassesOk_any (a b x y : Int) (w : World) : Calls Try.prog 17 #[jagg a b x y] w (SaysB (okG a b x y) w) := by
  have b1 : Below w.heap.size w (w.alloc (jobj a b x y 25)) := (Below.refl _ _).alloc (Nat.le_refl _) _
  have hA := isGlass_any a x (w.alloc (jobj a b x y 25))
  have hB := isGlass_any b y (w.alloc (jobj a b x y 25))
  have e : okG a b x y = (glassB a x && glassB b y) := by
    unfold okG glassB
    rw [← Bool.decide_and]
    exact decide_eq_decide.2 (by omega)
  rw [e]
  generalize glassB a x = p at hA
  generalize glassB b y = q at hB
  clear e
  cases p
  · clear hB
    go_enter Try.func17, Try.ntmps17
    go_wp2_with fail
    refine hA.mono ?_
    rintro e w2 ⟨rfl, rfl⟩
    go_wp2_with fail
    go_ret
    exact ⟨rfl, b1⟩
  · go_enter Try.func17, Try.ntmps17
    go_wp2_with fail
    refine hA.mono ?_
    rintro e w2 ⟨rfl, rfl⟩
    clear hA
    go_wp2_with fail
    refine hB.mono ?_
    rintro e w2 ⟨rfl, rfl⟩
    go_wp2_with fail
    go_ret
    exact ⟨rfl, b1⟩

theorem specGlassesOk_any (a b x y : Int) (w : World) : Calls Try.prog 18 #[jagg a b x y] w (SaysB (okG a b x y) w) := by
  have b1 : Below w.heap.size w (w.alloc (jobj a b x y 25)) := (Below.refl _ _).alloc (Nat.le_refl _) _
  have hA := in_any a 1 12 (w.alloc (jobj a b x y 25))
  have hB := in_any b 1 12 (w.alloc (jobj a b x y 25))
  have hC := in_any x 0 a (w.alloc (jobj a b x y 25))
  have hD := in_any y 0 b (w.alloc (jobj a b x y 25))
  have e : okG a b x y = (decide (1 ≤ a ∧ a ≤ 12) && decide (1 ≤ b ∧ b ≤ 12) && decide (0 ≤ x ∧ x ≤ a) && decide (0 ≤ y ∧ y ≤ b)) := by
    unfold okG
    simp only [Bool.decide_and, Bool.and_assoc]
  rw [e]
  generalize decide (1 ≤ a ∧ a ≤ 12) = p at hA
  generalize decide (1 ≤ b ∧ b ≤ 12) = q at hB
  generalize decide (0 ≤ x ∧ x ≤ a) = r at hC
  generalize decide (0 ≤ y ∧ y ≤ b) = s at hD
  clear e
  cases p
  · clear hB hC hD
    go_enter Try.func18, Try.ntmps18
    go_wp2_with fail
    refine hA.mono ?_
    rintro e w2 ⟨rfl, rfl⟩
    go_wp2_with fail
    go_ret
    exact ⟨rfl, b1⟩
  · cases q
    · clear hC hD
      go_enter Try.func18, Try.ntmps18
      go_wp2_with fail
      refine hA.mono ?_
      rintro e w2 ⟨rfl, rfl⟩
      clear hA
      go_wp2_with fail
      refine hB.mono ?_
      rintro e w2 ⟨rfl, rfl⟩
      go_wp2_with fail
      go_ret
      exact ⟨rfl, b1⟩
    · cases r
      · clear hD
        go_enter Try.func18, Try.ntmps18
        go_wp2_with fail
        refine hA.mono ?_
        rintro e w2 ⟨rfl, rfl⟩
        clear hA
        go_wp2_with fail
        refine hB.mono ?_
        rintro e w2 ⟨rfl, rfl⟩
        clear hB
        go_wp2_with fail
        refine hC.mono ?_
        rintro e w2 ⟨rfl, rfl⟩
        go_wp2_with fail
        go_ret
        exact ⟨rfl, b1⟩
      · go_enter Try.func18, Try.ntmps18
        go_wp2_with fail
        refine hA.mono ?_
        rintro e w2 ⟨rfl, rfl⟩
        clear hA
        go_wp2_with fail
        refine hB.mono ?_
        rintro e w2 ⟨rfl, rfl⟩
        clear hB
        go_wp2_with fail
        refine hC.mono ?_
        rintro e w2 ⟨rfl, rfl⟩
        clear hC
        go_wp2_with fail
        refine hD.mono ?_
        rintro e w2 ⟨rfl, rfl⟩
        go_wp2_with fail
        go_ret
        exact ⟨rfl, b1⟩

theorem toGlasses_any (a b x y : Int) (w : World) : Calls Try.prog 19 #[jagg a b x y] w (GivesJ a b x y w) := by
  go_enter Try.func19, Try.ntmps19
  go_wp2_with fail
  (try simp only [Exit.inBlock, Exit.then])
  refine bodyPost_ret (v := jagg a b x y) ?_ rfl ⟨rfl, ?_⟩
  · rw [results_cell_one rfl]
    go_simp
  · repeat' (first | exact Below.refl _ _ | refine Below.setCell ?_ (by simp <;> omega) _ | refine Below.alloc ?_ (by simp <;> omega) _)

/-- The same glasses compare equal. -/
theorem eqGlasses_any (a b x y : Int) (w : World) : Calls Try.prog 21 #[jagg a b x y, jagg a b x y] w (SaysB true w) := by
  have b1 : Below w.heap.size w ((w.alloc (jobj a b x y 25)).alloc (jobj a b x y 25)) := ((Below.refl _ _).alloc (Nat.le_refl _) _).alloc (by simp) _
  go_enter Try.func21, Try.ntmps21
  go_wp2_with fail
  go_ret
  exact ⟨rfl, b1⟩
end Go.Proofs.Ytmbhldpbgcfnmaa
