/-
  What the law on levers says: torque moves with the beam and stays when hangs are merged; the fractions' products; a further weight at its place. No program's walk.
-/
import Derived.Test.YtajndcggafjmeaaMerge
import Derived.Test.YtajndcggafjmeaaFracOk
namespace Go.Proofs.Ytajndcggafjmeaa

/-- The drawn beams. -/
def LowB (L : List Hg) : Prop := L.length ≤ 6 ∧ ∀ x ∈ L, (-10 ≤ x.1 ∧ x.1 ≤ 10) ∧ 0 ≤ x.2 ∧ x.2 ≤ 39
theorem LowB.nil : LowB [] := ⟨by show 0 ≤ 6; omega, fun x hx => by cases hx⟩
theorem LowB.ok {L : List Hg} (h : LowB L) : BOk L := ⟨by have := h.1; omega, allOk_iff.2 fun x hx => by have := h.2 x hx; unfold Hok; omega⟩
theorem low_prod {h : Hg} (g : (-10 ≤ h.1 ∧ h.1 ≤ 10) ∧ 0 ≤ h.2 ∧ h.2 ≤ 39) : -390 ≤ h.1 * h.2 ∧ h.1 * h.2 ≤ 390 := by
  obtain ⟨⟨a, b⟩, c, d⟩ := g
  have h1 := Int.mul_le_mul_of_nonneg_right b c
  have h2 := Int.mul_le_mul_of_nonneg_right a c
  omega
theorem tl_low {L : List Hg} (h : ∀ x ∈ L, (-10 ≤ x.1 ∧ x.1 ≤ 10) ∧ 0 ≤ x.2 ∧ x.2 ≤ 39) : -(390 * (L.length : Int)) ≤ tl L ∧ tl L ≤ 390 * (L.length : Int) := by
  induction L with
  | nil => exact ⟨by show -(390 * ((0 : Nat) : Int)) ≤ 0; omega, by show (0 : Int) ≤ 390 * ((0 : Nat) : Int); omega⟩
  | cons x L ih =>
    have i := ih fun y hy => h y (List.mem_cons_of_mem _ hy)
    have q := low_prod (h x List.mem_cons_self)
    show -(390 * ((L.length + 1 : Nat) : Int)) ≤ x.1 * x.2 + tl L ∧ x.1 * x.2 + tl L ≤ 390 * ((L.length + 1 : Nat) : Int)
    omega
theorem low_torq {L : List Hg} (h : LowB L) : -2340 ≤ tq L ∧ tq L ≤ 2340 := by
  rw [tq_yes h.ok, torq_all]
  have := tl_low h.2
  have := h.1
  omega
theorem low_load {L : List Hg} (h : LowB L) : 0 ≤ ld L ∧ ld L ≤ 234 := by
  have key : ∀ k, k ≤ L.length → 0 ≤ load L k ∧ load L k ≤ 39 * (k : Int) := by
    intro k
    induction k with
    | zero => intro _; exact ⟨by show (0 : Int) ≤ 0; omega, by show (0 : Int) ≤ 39 * ((0 : Nat) : Int); omega⟩
    | succ k ih =>
      intro hk
      have i := ih (by omega)
      have q := h.2 _ (hget_mem (L := L) (j := k) (by omega))
      show 0 ≤ load L k + (hget L k).2 ∧ load L k + (hget L k).2 ≤ 39 * ((k + 1 : Nat) : Int)
      omega
  have := key L.length (Nat.le_refl _)
  have := h.1
  unfold ld
  omega
theorem low_shift {L : List Hg} (h : LowB L) {z : Int} (hz : -20 ≤ z ∧ z ≤ 20) : BOk (shift L z) := by
  refine ⟨by rw [shift_length]; have := h.1; omega, allOk_iff.2 fun x hx => ?_⟩
  obtain ⟨y, hy, rfl⟩ := List.mem_map.1 hx
  have := h.2 y hy
  unfold Hok
  dsimp only
  omega
theorem low_mok {L : List Hg} (h : LowB L) : MOk L := by
  refine ⟨h.ok, fun j _ => ?_⟩
  have key : ∀ (K : List Hg), (∀ x ∈ K, (-10 ≤ x.1 ∧ x.1 ≤ 10) ∧ 0 ≤ x.2 ∧ x.2 ≤ 39) → ∀ p, wt K p ≤ 39 * (K.length : Int) := by
    intro K
    induction K with
    | nil => intro _ p; show (0 : Int) ≤ 39 * ((0 : Nat) : Int); omega
    | cons x K ih =>
      intro g p
      have i := ih (fun y hy => g y (List.mem_cons_of_mem _ hy)) p
      have q := g x List.mem_cons_self
      show (if x.1 = p then x.2 else 0) + wt K p ≤ 39 * ((K.length + 1 : Nat) : Int)
      split <;> omega
  have := key L h.2 (pl j)
  have := h.1
  omega
theorem tq_shift {L : List Hg} {z : Int} (h : BOk L) (g : BOk (shift L z)) : tq (shift L z) = tq L + z * ld L := by
  rw [tq_yes h, tq_yes g, shift_length]
  exact torq_shift L.length (Nat.le_refl _)
theorem IsMerge.short : ∀ {M L : List Hg}, IsMerge L M → M.length ≤ L.length
  | [], L, i => Nat.zero_le _
  | h :: M, L, i => by
    have pw := List.pairwise_cons.1 i.1
    have hh := (i.2 h).1 List.mem_cons_self
    have j : IsMerge (L.filter fun x => decide (x.1 ≠ h.1)) M := by
      refine ⟨pw.2, fun x => ?_⟩
      constructor
      · intro hx
        have := pw.1 x hx
        obtain ⟨⟨y, hy, e⟩, g⟩ := (i.2 x).1 (List.mem_cons_of_mem _ hx)
        exact ⟨⟨y, List.mem_filter.2 ⟨hy, by simp; omega⟩, e⟩, by rw [wt_part L (by omega)]; exact g⟩
      · rintro ⟨⟨y, hy, e⟩, g⟩
        obtain ⟨hy, c⟩ := List.mem_filter.1 hy
        have c' : y.1 ≠ h.1 := of_decide_eq_true c
        rw [wt_part L (by omega)] at g
        rcases List.mem_cons.1 ((i.2 x).2 ⟨⟨y, hy, e⟩, g⟩) with e2 | e2
        · rw [e2] at e; exact (c' e).elim
        · exact e2
    have s := j.short
    obtain ⟨⟨y, hy, e⟩, -⟩ := hh
    have lt := (List.length_filter_lt_length_iff_exists (p := fun x : Hg => decide (x.1 ≠ h.1)) (l := L)).2 ⟨y, hy, by simp [e]⟩
    show M.length + 1 ≤ L.length
    omega
theorem tq_mg {L : List Hg} (h : MOk L) : tq (mg L) = tq L ∧ (mg L).length ≤ 12 := by
  have i := mto_merge (allOk_iff.1 h.1.2)
  have s := i.short
  have hl : (mto L 201).length ≤ 12 := by have := h.1.1; omega
  rw [mg_yes h]
  refine ⟨?_, hl⟩
  rw [tq_yes ((merged_ok h.1 i hl).2 h), tq_yes h.1, torq_all, torq_all, i.tl]
/-- What the fraction of t and b says. -/
theorem frac_law {t b : Int} (hb : 0 < b) (hb2 : b ≤ 1000) (ht : -2400 ≤ t ∧ t ≤ 2400) :
    ∃ P Q : Int, shT t b = P ∧ shB t b = Q ∧ shO t b = true ∧ (1 ≤ Q ∧ Q ≤ 1000) ∧ (-2400 ≤ P ∧ P ≤ 2400) ∧ P * b = t * Q := by
  have g0 := gcd_pos t b (by omega)
  have m1 := redT_mul (t := t) hb
  have m2 := redB_mul (t := t) hb
  have q0 := redB_pos (t := t) hb
  have g1 := red_gcd (t := t) hb
  have a1 : (redT t b).natAbs ≤ t.natAbs := by
    have e := congrArg Int.natAbs m1
    rw [Int.natAbs_mul] at e
    rw [← e]
    exact Nat.le_mul_of_pos_right _ (by omega)
  have a2 : (redB t b).natAbs ≤ b.natAbs := by
    have e := congrArg Int.natAbs m2
    rw [Int.natAbs_mul] at e
    rw [← e]
    exact Nat.le_mul_of_pos_right _ (by omega)
  have ok : okF (redT t b) (redB t b) = true := (okF_iff _ _).2 ⟨by omega, by omega, by omega, by omega, g1⟩
  refine ⟨redT t b, redB t b, by unfold shT; rw [if_pos ok], by unfold shB; rw [if_pos ok], ok, ⟨by omega, by omega⟩, ⟨by omega, by omega⟩, ?_⟩
  generalize redT t b = P at m1
  generalize redB t b = Q at m2
  generalize ((Int.gcd t b : Nat) : Int) = g at m1 m2
  rw [← m1, ← m2, Int.mul_assoc P g Q, Int.mul_comm g Q]
/-- With the further weight. -/
theorem low_further {L : List Hg} (h : LowB L) {P w : Int} (hP : -100 ≤ P ∧ P ≤ 100) (hw : 1 ≤ w ∧ w ≤ 30) (e : P * w = -tq L) : bok (L ++ [(P, w)]) = true ∧ tq (L ++ [(P, w)]) = 0 := by
  have ok : BOk (L ++ [(P, w)]) := by
    refine ⟨by rw [List.length_append]; show L.length + 1 ≤ 12; have := h.1; omega, allOk_iff.2 fun x hx => ?_⟩
    rcases List.mem_append.1 hx with hx | hx
    · exact allOk_iff.1 h.ok.2 x hx
    · rw [List.mem_singleton.1 hx]
      exact ⟨hP, by show 0 ≤ w; omega, by show w ≤ 1000; omega⟩
  refine ⟨bok_yes ok, ?_⟩
  rw [tq_yes h.ok, torq_all] at e
  rw [tq_yes ok, torq_all, tl_app]
  show tl L + (P * w + 0) = 0
  omega
end Go.Proofs.Ytajndcggafjmeaa
