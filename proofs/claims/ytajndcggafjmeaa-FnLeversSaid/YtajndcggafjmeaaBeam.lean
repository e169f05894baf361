/-
  Beams: which are valid, torque and load, a beam that is moved. No program's walk.
-/
import Derived.Test.YtajndcggafjmeaaHangs
namespace Go.Proofs.Ytajndcggafjmeaa

def Hok (h : Hg) : Prop := (-100 ≤ h.1 ∧ h.1 ≤ 100) ∧ 0 ≤ h.2 ∧ h.2 ≤ 1000
instance (h : Hg) : Decidable (Hok h) := by unfold Hok; infer_instance
/-- The first k hangs are valid. -/
def AllOk (L : List Hg) (k : Nat) : Prop := ∀ j, j < k → Hok (hget L j)
instance (L : List Hg) (k : Nat) : Decidable (AllOk L k) := by unfold AllOk; infer_instance
def BOk (L : List Hg) : Prop := L.length ≤ 12 ∧ AllOk L L.length
instance (L : List Hg) : Decidable (BOk L) := by unfold BOk; infer_instance
def bok (L : List Hg) : Bool := decide (BOk L)
theorem bok_yes {L : List Hg} (h : BOk L) : bok L = true := decide_eq_true h
theorem bok_no {L : List Hg} (h : ¬ BOk L) : bok L = false := decide_eq_false h
theorem AllOk.zero (L : List Hg) : AllOk L 0 := fun j h => by omega
theorem AllOk.succ {L : List Hg} {k : Nat} (h : AllOk L k) (g : Hok (hget L k)) : AllOk L (k + 1) := fun j hj => by
  by_cases e : j = k
  · subst e; exact g
  · exact h j (by omega)
theorem AllOk.fst {L : List Hg} {k j : Nat} (h : AllOk L k) (hj : j < k) : Hok (hget L j) := h j hj
theorem hget_mem {L : List Hg} {j : Nat} (h : j < L.length) : hget L j ∈ L := by
  unfold hget
  rw [List.getD_eq_getElem?_getD, List.getElem?_eq_getElem h]
  exact List.getElem_mem h
theorem allOk_iff {L : List Hg} : AllOk L L.length ↔ ∀ h ∈ L, Hok h := by
  constructor
  · intro h x hx
    obtain ⟨j, hj, rfl⟩ := List.getElem_of_mem hx
    have := h j hj
    unfold hget at this
    rwa [List.getD_eq_getElem?_getD, List.getElem?_eq_getElem hj] at this
  · intro h j hj
    exact h _ (hget_mem hj)

/-- The torque, the load of the first k hangs. -/
def torq (L : List Hg) : Nat → Int
  | 0 => 0
  | k + 1 => torq L k + (hget L k).1 * (hget L k).2
def load (L : List Hg) : Nat → Int
  | 0 => 0
  | k + 1 => load L k + (hget L k).2
theorem prod_le {h : Hg} (g : Hok h) : -100000 ≤ h.1 * h.2 ∧ h.1 * h.2 ≤ 100000 := by
  obtain ⟨⟨a, b⟩, c, d⟩ := g
  have h1 := Int.mul_le_mul_of_nonneg_right b c
  have h2 := Int.mul_le_mul_of_nonneg_right a c
  omega
theorem torq_le {L : List Hg} {k : Nat} (h : AllOk L k) : -(100000 * (k : Int)) ≤ torq L k ∧ torq L k ≤ 100000 * (k : Int) := by
  induction k with
  | zero => exact ⟨by show -(100000 * ((0 : Nat) : Int)) ≤ 0; omega, by show (0 : Int) ≤ 100000 * ((0 : Nat) : Int); omega⟩
  | succ k ih =>
    have i := ih fun j hj => h j (by omega)
    have p := prod_le (h k (by omega))
    show -(100000 * ((k + 1 : Nat) : Int)) ≤ torq L k + _ ∧ torq L k + _ ≤ 100000 * ((k + 1 : Nat) : Int)
    omega
theorem load_le {L : List Hg} {k : Nat} (h : AllOk L k) : 0 ≤ load L k ∧ load L k ≤ 1000 * (k : Int) := by
  induction k with
  | zero => exact ⟨by show (0 : Int) ≤ 0; omega, by show (0 : Int) ≤ 1000 * ((0 : Nat) : Int); omega⟩
  | succ k ih =>
    have i := ih fun j hj => h j (by omega)
    have p := h k (by omega)
    unfold Hok at p
    show 0 ≤ load L k + _ ∧ load L k + _ ≤ 1000 * ((k + 1 : Nat) : Int)
    omega
/-- What TorqueOf answers. -/
def tq (L : List Hg) : Int := if BOk L then torq L L.length else 0
theorem tq_yes {L : List Hg} (h : BOk L) : tq L = torq L L.length := if_pos h
theorem tq_no {L : List Hg} (h : ¬ BOk L) : tq L = 0 := if_neg h
theorem tq_le (L : List Hg) : -1200000 ≤ tq L ∧ tq L ≤ 1200000 := by
  by_cases h : BOk L
  · rw [tq_yes h]
    have := torq_le h.2
    have := h.1
    omega
  · rw [tq_no h]; omega
def ld (L : List Hg) : Int := load L L.length
theorem ld_le {L : List Hg} (h : BOk L) : 0 ≤ ld L ∧ ld L ≤ 12000 := by
  have := load_le h.2
  have := h.1
  unfold ld
  omega

/-- The beam that is moved. -/
def shift (L : List Hg) (by_ : Int) : List Hg := L.map fun h => (h.1 + by_, h.2)
theorem shift_length (L : List Hg) (z : Int) : (shift L z).length = L.length := by simp [shift]
theorem hget_shift {L : List Hg} {z : Int} {j : Nat} (h : j < L.length) : hget (shift L z) j = ((hget L j).1 + z, (hget L j).2) := by
  unfold hget shift
  rw [List.getD_eq_getElem?_getD, List.getElem?_map, List.getD_eq_getElem?_getD, List.getElem?_eq_getElem h]; rfl
/-- The first k are moved. -/
def shTo (L : List Hg) (z : Int) (k : Nat) : List Hg := shift (L.take k) z ++ L.drop k
theorem shTo_len (L : List Hg) (z : Int) (k : Nat) : (shTo L z k).length = L.length := by
  unfold shTo
  rw [List.length_append, shift_length, List.length_take, List.length_drop]; omega
theorem shTo_zero (L : List Hg) (z : Int) : shTo L z 0 = L := by simp [shTo, shift]
theorem shTo_all (L : List Hg) (z : Int) : shTo L z L.length = shift L z := by simp [shTo]
theorem shTo_get {L : List Hg} {z : Int} {k : Nat} (h : k < L.length) : hget (shTo L z k) k = hget L k := by
  unfold hget shTo
  have hl : (shift (L.take k) z).length = k := by rw [shift_length, List.length_take]; omega
  rw [List.getD_eq_getElem?_getD, List.getElem?_append_right (by omega), hl, Nat.sub_self, List.getElem?_drop, Nat.add_zero, ← List.getD_eq_getElem?_getD]
theorem shTo_set {L : List Hg} {z : Int} {k : Nat} (h : k < L.length) : (shTo L z k).set k ((hget L k).1 + z, (hget L k).2) = shTo L z (k + 1) := by
  unfold shTo
  have hl : (shift (L.take k) z).length = k := by rw [shift_length, List.length_take]; omega
  have hk : hget L k = L[k] := by
    unfold hget
    rw [List.getD_eq_getElem?_getD, List.getElem?_eq_getElem h]; rfl
  rw [List.set_append_right _ _ (by omega), hl, Nat.sub_self, List.take_succ_eq_append_getElem h, List.drop_eq_getElem_cons h, List.set_cons_zero, hk]
  unfold shift
  rw [List.map_append, List.append_assoc]; rfl
theorem torq_shift {L : List Hg} {z : Int} : ∀ k, k ≤ L.length → torq (shift L z) k = torq L k + z * load L k
  | 0, _ => by show (0 : Int) = 0 + z * 0; omega
  | k + 1, h => by
    have ih := torq_shift (L := L) (z := z) k (by omega)
    show torq (shift L z) k + (hget (shift L z) k).1 * (hget (shift L z) k).2 = torq L k + (hget L k).1 * (hget L k).2 + z * (load L k + (hget L k).2)
    rw [ih, hget_shift (by omega), Int.add_mul, Int.mul_add]
    dsimp only
    omega
/-- Whether, and to what, a beam is moved. -/
def ShOk (L : List Hg) (z : Int) : Prop := BOk L ∧ (-200 ≤ z ∧ z ≤ 200) ∧ BOk (shift L z)
end Go.Proofs.Ytajndcggafjmeaa
