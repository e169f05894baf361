/-
  Mobiles: what the functions on them answer. No program's walk.
-/
import Derived.Test.YthefcbninpkncaaMobBound
namespace Go.Proofs.Ythefcbninpkncaa

/-- The mobile's own weights. -/
def wu (L : List PartT) (i : Nat) : Int := (ptget L i).weight
theorem put_wu (L : List PartT) : put L (wu L) = L := put_self L
theorem wu_le {L : List PartT} (hL : MOk L) {x : Nat} (hx : x < L.length) (b : ¬ Bm L x) : 1 ≤ wu L x ∧ wu L x ≤ 1000 := by
  have g : (ptget L x).left = -1 := Decidable.byContradiction fun g => b (hL.bm hx g).1
  have w := hL.wt hx g
  exact ⟨w.2.2.2.1, w.2.2.2.2⟩
theorem bm_iff {L : List PartT} (hL : MOk L) {k : Nat} (hk : k < L.length) : Bm L k ↔ (ptget L k).left ≠ -1 := ⟨fun h => h.1, fun g => (hL.bm hk g).1⟩
/-- WeightOf. -/
def wof (L : List PartT) (k : Int) : Int := if MOk L ∧ 0 ≤ k ∧ k ≤ (L.length : Int) - 1 then sm L (wu L) k.toNat else 0
theorem wof_yes {L : List PartT} {k : Nat} (h : MOk L) (hk : k < L.length) : wof L (k : Int) = sm L (wu L) k := by
  unfold wof
  rw [if_pos ⟨h, by omega, by omega⟩, Int.toNat_natCast]
theorem wof_no {L : List PartT} {k : Int} (h : ¬ (MOk L ∧ 0 ≤ k ∧ k ≤ (L.length : Int) - 1)) : wof L k = 0 := if_neg h
/-- A beam that is not level. -/
def Tilt (L : List PartT) (k : Nat) : Prop := Bm L k ∧ ¬ Lvl L (wu L) k
instance (L : List PartT) (k : Nat) : Decidable (Tilt L k) := by unfold Tilt; infer_instance
def ftF (L : List PartT) : Nat → Nat → Int
  | 0, _ => -1
  | f + 1, k => if Tilt L k then (k : Int) else ftF L f (k + 1)
/-- FirstTilted. -/
def ft (L : List PartT) : Int := if MOk L then ftF L L.length 0 else -1
theorem ftF_some {L : List PartT} {m : Nat} (ht : Tilt L m) : ∀ f k, k ≤ m → m < k + f → (∀ j, k ≤ j → j < m → ¬ Tilt L j) → ftF L f k = (m : Int)
  | 0, k, h1, h2, _ => by omega
  | f + 1, k, h1, h2, h3 => by
    show (if Tilt L k then (k : Int) else ftF L f (k + 1)) = _
    by_cases e : k = m
    · subst e; rw [if_pos ht]
    · rw [if_neg (h3 k (Nat.le_refl _) (by omega))]
      exact ftF_some ht f (k + 1) (by omega) (by omega) fun j a b => h3 j (by omega) b
theorem ftF_none {L : List PartT} : ∀ f k, (∀ j, k ≤ j → j < k + f → ¬ Tilt L j) → ftF L f k = -1
  | 0, _, _ => rfl
  | f + 1, k, h => by
    show (if Tilt L k then (k : Int) else ftF L f (k + 1)) = _
    rw [if_neg (h k (Nat.le_refl _) (by omega))]
    exact ftF_none f (k + 1) fun j a b => h j (by omega) (by omega)
theorem ft_some {L : List PartT} (h : MOk L) {m : Nat} (hm : m < L.length) (ht : Tilt L m) (g : ∀ j, j < m → ¬ Tilt L j) : ft L = (m : Int) := by
  unfold ft
  rw [if_pos h]
  exact ftF_some ht _ _ (by omega) (by omega) fun j _ b => g j b
theorem ft_none {L : List PartT} (h : MOk L) (g : ∀ j, j < L.length → ¬ Tilt L j) : ft L = -1 := by
  unfold ft
  rw [if_pos h]
  exact ftF_none _ _ fun j _ b => g j (by omega)
theorem ft_no {L : List PartT} (h : ¬ MOk L) : ft L = -1 := if_neg h
/-- The numbers of weights and of beams among the first k. -/
def cw (L : List PartT) : Nat → Nat
  | 0 => 0
  | k + 1 => if (ptget L k).left = -1 then cw L k + 1 else cw L k
def cb (L : List PartT) : Nat → Nat
  | 0 => 0
  | k + 1 => if (ptget L k).left = -1 then cb L k else cb L k + 1
theorem cw_cb (L : List PartT) : ∀ k, cw L k + cb L k = k
  | 0 => rfl
  | k + 1 => by
    have := cw_cb L k
    show (if (ptget L k).left = -1 then cw L k + 1 else cw L k) + (if (ptget L k).left = -1 then cb L k else cb L k + 1) = k + 1
    split <;> omega
/-- LeastWeights. -/
def lwA (L : List PartT) : List PartT := if MOk L ∧ lwOk L then put L (so L 0) else L
def lwZ (L : List PartT) : Bool := decide (MOk L ∧ lwOk L)
theorem lwA_length (L : List PartT) : (lwA L).length = L.length := by
  unfold lwA
  split
  · exact put_length _ _
  · rfl
end Go.Proofs.Ythefcbninpkncaa
