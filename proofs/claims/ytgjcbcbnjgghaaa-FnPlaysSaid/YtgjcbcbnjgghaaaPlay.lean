/-
  Play: what is shown after an input, the path of what is shown, how many inputs move it, the greatest lag. No program's walk.
-/
import Derived.Test.YtgjcbcbnjgghaaaRange
namespace Go.Proofs.Ytgjcbcbnjgghaaa
open Go.ChangeShapes Go.WideShapes Go.ChangeAt Go.RowKit Go.PlainAid

def playOk (h s : Int) : Bool := decide (0 ≤ h ∧ h ≤ 100) && decide (-10000 ≤ s ∧ s ≤ 10000)
theorem playOk_iff {h s : Int} : playOk h s = true ↔ (0 ≤ h ∧ h ≤ 100) ∧ (-10000 ≤ s ∧ s ≤ 10000) := by
  unfold playOk
  simp
def stepP (h s x : Int) : Prop := (0 ≤ h ∧ h ≤ 100) ∧ (-20000 ≤ s ∧ s ≤ 20000) ∧ (-20000 ≤ x ∧ x ≤ 20000)
instance (h s x : Int) : Decidable (stepP h s x) := by unfold stepP; infer_instance
/-- What is shown is dragged along. -/
def dragV (h s x : Int) : Int := if s < x - h then x - h else if x + h < s then x + h else s
def stepV (h s x : Int) : Int := if stepP h s x then dragV h s x else s
theorem drag_le {h s x : Int} (h0 : 0 ≤ h) : x - h ≤ dragV h s x ∧ dragV h s x ≤ x + h := by
  unfold dragV
  split
  · omega
  · split <;> omega
theorem stepV_yes {h s x : Int} (g : stepP h s x) : stepV h s x = dragV h s x := if_pos g
theorem stepV_no {h s x : Int} (g : ¬ stepP h s x) : stepV h s x = s := if_neg g

/-- What is shown after k inputs. -/
def sh (h s : Int) (L : List Int) : Nat → Int
  | 0 => s
  | k + 1 => stepV h (sh h s L k) (L.getD k 0)
/-- The start and what is shown after each of k inputs. -/
def pathTo (h s : Int) (L : List Int) (k : Nat) : List Int := (List.range (k + 1)).map (sh h s L)
theorem pathTo_len (h s : Int) (L : List Int) (k : Nat) : (pathTo h s L k).length = k + 1 := by simp [pathTo]
theorem pathTo_zero (h s : Int) (L : List Int) : pathTo h s L 0 = [s] := rfl
theorem pathTo_succ (h s : Int) (L : List Int) (k : Nat) : pathTo h s L (k + 1) = pathTo h s L k ++ [stepV h (sh h s L k) (L.getD k 0)] := by
  unfold pathTo
  rw [List.range_succ (n := k + 1), List.map_append]
  rfl
theorem pathTo_get {h s : Int} {L : List Int} {k j : Nat} (hj : j ≤ k) : (pathTo h s L k).getD j 0 = sh h s L j := by
  unfold pathTo
  rw [List.getD_eq_getElem?_getD, List.getElem?_map, List.getElem?_range (by omega)]
  rfl
/-- How many of k inputs change what is shown. -/
def movs (h s : Int) (L : List Int) : Nat → Int
  | 0 => 0
  | k + 1 => movs h s L k + if sh h s L (k + 1) = sh h s L k then 0 else 1
theorem movs_le (h s : Int) (L : List Int) (k : Nat) : 0 ≤ movs h s L k ∧ movs h s L k ≤ k := by
  induction k with
  | zero => exact ⟨Int.le_refl _, Int.le_refl _⟩
  | succ k ih =>
    show 0 ≤ movs h s L k + (if sh h s L (k + 1) = sh h s L k then 0 else 1) ∧ movs h s L k + (if sh h s L (k + 1) = sh h s L k then 0 else 1) ≤ ((k + 1 : Nat) : Int)
    split <;> omega
theorem movs_same {h s : Int} {L : List Int} {k : Nat} (e : sh h s L (k + 1) = sh h s L k) : movs h s L (k + 1) = movs h s L k := by
  show movs h s L k + (if sh h s L (k + 1) = sh h s L k then 0 else 1) = _
  rw [if_pos e]; omega
theorem movs_moved {h s : Int} {L : List Int} {k : Nat} (e : sh h s L (k + 1) ≠ sh h s L k) : movs h s L (k + 1) = movs h s L k + 1 := by
  show movs h s L k + (if sh h s L (k + 1) = sh h s L k then 0 else 1) = _
  rw [if_neg e]
/-- The greater of two, the greatest of three. -/
def gr (a b : Int) : Int := if b > a then b else a
def gr3 (a b c : Int) : Int := gr (gr a b) c
theorem run_max3 (P : Program) {a b c M : Int} (h : gr3 a b c = M) (ts : Array TypeId) (t : TypeId) (w : World) : (Builtin.max_ ts t #[.int .i64 a, .int .i64 b, .int .i64 c]).run P w = .ok (.int .i64 M) w := by
  subst h
  simp [Builtin.max_, Builtin.max2, gr3, gr]
theorem gr3_le {a b c m : Int} (h1 : a ≤ m) (h2 : b ≤ m) (h3 : c ≤ m) : gr3 a b c ≤ m := by
  unfold gr3 gr
  repeat' split
  all_goals omega
theorem gr3_ge {a b c m : Int} (h1 : m ≤ a) : m ≤ gr3 a b c := by
  unfold gr3 gr
  repeat' split
  all_goals omega
/-- The greatest lag behind k inputs. -/
def lagA (h s : Int) (L : List Int) : Nat → Int
  | 0 => 0
  | k + 1 => gr3 (lagA h s L k) (L.getD k 0 - sh h s L (k + 1)) (sh h s L (k + 1) - L.getD k 0)
theorem gr3_swap (a b c : Int) : gr3 a b c = gr3 a c b := by
  unfold gr3 gr
  repeat' split
  all_goals omega

/-- The inputs can be followed. -/
def playP (h s : Int) (L : List Int) : Prop := ((0 ≤ h ∧ h ≤ 100) ∧ (-10000 ≤ s ∧ s ≤ 10000)) ∧ L.length ≤ 60 ∧ ∀ j, j < L.length → -10000 ≤ L.getD j 0 ∧ L.getD j 0 ≤ 10000
theorem playP_iff {h s : Int} {L : List Int} : playP h s L ↔ playOk h s = true ∧ L.length ≤ 60 ∧ allIn (-10000) 10000 L = true := by
  unfold playP
  rw [playOk_iff, allIn_iff]
instance (h s : Int) (L : List Int) : Decidable (playP h s L) := decidable_of_iff _ playP_iff.symm
theorem sh_in {h s : Int} {L : List Int} (g : playP h s L) : ∀ k, k ≤ L.length → -10100 ≤ sh h s L k ∧ sh h s L k ≤ 10100 ∧ ∀ j, k = j + 1 → stepP h (sh h s L j) (L.getD j 0) ∧ sh h s L k = dragV h (sh h s L j) (L.getD j 0) := by
  obtain ⟨⟨g1, g2⟩, -, g3⟩ := g
  intro k
  induction k with
  | zero => exact fun _ => ⟨by show -10100 ≤ s; omega, by show s ≤ 10100; omega, fun j e => by cases e⟩
  | succ k ih =>
    intro hk
    obtain ⟨i1, i2, -⟩ := ih (by omega)
    have hx := g3 k (by omega)
    have hP : stepP h (sh h s L k) (L.getD k 0) := ⟨g1, by omega, by omega⟩
    have e : sh h s L (k + 1) = dragV h (sh h s L k) (L.getD k 0) := stepV_yes hP
    have hd := drag_le (s := sh h s L k) (x := L.getD k 0) g1.1
    refine ⟨by omega, by omega, fun j ej => ?_⟩
    obtain rfl : k = j := by omega
    exact ⟨hP, e⟩
theorem lag_in {h s : Int} {L : List Int} (g : playP h s L) : ∀ k, k ≤ L.length → 0 ≤ lagA h s L k ∧ lagA h s L k ≤ h := by
  have hh := g.1.1
  intro k
  induction k with
  | zero => exact fun _ => ⟨Int.le_refl _, hh.1⟩
  | succ k ih =>
    intro hk
    obtain ⟨i1, i2⟩ := ih (by omega)
    obtain ⟨-, -, h3⟩ := sh_in g (k + 1) hk
    obtain ⟨-, e⟩ := h3 k rfl
    have hd := drag_le (s := sh h s L k) (x := L.getD k 0) hh.1
    refine ⟨gr3_ge i1, gr3_le i2 ?_ ?_⟩ <;> omega

def pathA (h s : Int) (L : List Int) : List Int := if playP h s L then pathTo h s L L.length else []
def movsA (h s : Int) (L : List Int) : Int := if playP h s L then movs h s L L.length else -1
def lagsA (h s : Int) (L : List Int) : Int := if playP h s L then lagA h s L L.length else -1
theorem pathA_yes {h s : Int} {L : List Int} (g : playP h s L) : pathA h s L = pathTo h s L L.length := if_pos g
theorem pathA_no {h s : Int} {L : List Int} (g : ¬ playP h s L) : pathA h s L = [] := if_neg g
theorem movsA_yes {h s : Int} {L : List Int} (g : playP h s L) : movsA h s L = movs h s L L.length := if_pos g
theorem movsA_no {h s : Int} {L : List Int} (g : ¬ playP h s L) : movsA h s L = -1 := if_neg g
theorem lagsA_yes {h s : Int} {L : List Int} (g : playP h s L) : lagsA h s L = lagA h s L L.length := if_pos g
theorem lagsA_no {h s : Int} {L : List Int} (g : ¬ playP h s L) : lagsA h s L = -1 := if_neg g
theorem pathA_len (h s : Int) (L : List Int) : (pathA h s L).length ≤ 61 := by
  by_cases g : playP h s L
  · rw [pathA_yes g, pathTo_len]
    have := g.2.1
    omega
  · rw [pathA_no g]; simp
end Go.Proofs.Ytgjcbcbnjgghaaa
