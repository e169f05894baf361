/-
  Hourglasses: valid ones; turned and run out; the states that can be reached at a time, and the times. No program's walk.
-/
import Derived.Test.YtmbhldpbgcfnmaaInts
namespace Go.Proofs.Ytmbhldpbgcfnmaa

def okG (a b x y : Int) : Bool := decide (1 ≤ a ∧ a ≤ 12 ∧ 1 ≤ b ∧ b ≤ 12 ∧ 0 ≤ x ∧ x ≤ a ∧ 0 ≤ y ∧ y ≤ b)
theorem okG_iff {a b x y : Int} : okG a b x y = true ↔ 1 ≤ a ∧ a ≤ 12 ∧ 1 ≤ b ∧ b ≤ 12 ∧ 0 ≤ x ∧ x ≤ a ∧ 0 ≤ y ∧ y ≤ b := by unfold okG; exact decide_eq_true_iff
/-- Turned. -/
def tn (p : Bool) (a x : Int) : Int := if p then a - x else x
def flS (a b x y c : Int) : Int × Int := if okG a b x y = true then (tn (decide (c = 1 ∨ c = 3)) a x, tn (decide (c = 2 ∨ c = 3)) b y) else (x, y)
/-- The time until one that is running has run out. -/
def tmR (x y : Int) : Int := if x = 0 then y else if y = 0 then x else if x < y then x else y
def less (x n : Int) : Int := if x < n then 0 else x - n
def roS (a b x y : Int) : Int × Int := if okG a b x y = true then (less x (tmR x y), less y (tmR x y)) else (x, y)
def roN (a b x y : Int) : Int := if okG a b x y = true then tmR x y else 0

/-! ### With numbers from 0 -/
/-- Turned and run out: the state behind it, and the time. -/
def nx (a b u v c : Nat) : (Nat × Nat) × Nat :=
  let x := if c = 1 ∨ c = 3 then a - u else u
  let y := if c = 2 ∨ c = 3 then b - v else v
  let n := if x = 0 then y else if y = 0 then x else if x < y then x else y
  ((x - n, y - n), n)
theorem nx_le {a b u v c : Nat} (hu : u ≤ a) (hv : v ≤ b) : (nx a b u v c).1.1 ≤ a ∧ (nx a b u v c).1.2 ≤ b ∧ (nx a b u v c).2 ≤ a + b := by
  unfold nx
  dsimp only
  repeat' split
  all_goals omega
theorem tn_cast {p : Prop} [Decidable p] {a u : Nat} (h : u ≤ a) : tn (decide p) (a : Int) (u : Int) = ((if p then a - u else u : Nat) : Int) := by
  unfold tn
  by_cases q : p
  · simp [q]; omega
  · simp [q]
theorem tmR_cast (x y : Nat) : tmR (x : Int) (y : Int) = ((if x = 0 then y else if y = 0 then x else if x < y then x else y : Nat) : Int) := by
  unfold tmR
  by_cases h1 : x = 0
  · rw [if_pos (by omega), if_pos h1]
  · rw [if_neg (by omega), if_neg h1]
    by_cases h2 : y = 0
    · rw [if_pos (by omega), if_pos h2]
    · rw [if_neg (by omega), if_neg h2]
      by_cases h3 : x < y
      · rw [if_pos (by omega), if_pos h3]
      · rw [if_neg (by omega), if_neg h3]
theorem less_cast (x n : Nat) : less (x : Int) (n : Int) = ((x - n : Nat) : Int) := by
  unfold less
  by_cases h : x < n
  · rw [if_pos (by omega)]; omega
  · rw [if_neg (by omega)]; omega
theorem nx_cast {a b u v c : Nat} (ha : 1 ≤ a ∧ a ≤ 12) (hb : 1 ≤ b ∧ b ≤ 12) (hu : u ≤ a) (hv : v ≤ b) :
    roS a b (flS a b u v c).1 (flS a b u v c).2 = (((nx a b u v c).1.1 : Int), ((nx a b u v c).1.2 : Int)) ∧ roN a b (flS a b u v c).1 (flS a b u v c).2 = ((nx a b u v c).2 : Int) := by
  have ok : okG (a : Int) b u v = true := okG_iff.2 (by omega)
  have e1 : decide ((c : Int) = 1 ∨ (c : Int) = 3) = decide (c = 1 ∨ c = 3) := decide_eq_decide.2 (by omega)
  have e2 : decide ((c : Int) = 2 ∨ (c : Int) = 3) = decide (c = 2 ∨ c = 3) := decide_eq_decide.2 (by omega)
  have ef : flS (a : Int) b u v c = (((if c = 1 ∨ c = 3 then a - u else u : Nat) : Int), ((if c = 2 ∨ c = 3 then b - v else v : Nat) : Int)) := by
    unfold flS
    rw [if_pos ok, e1, e2, tn_cast hu, tn_cast hv]
  rw [ef]
  unfold nx
  dsimp only
  generalize hx : (if c = 1 ∨ c = 3 then a - u else u) = x
  generalize hy : (if c = 2 ∨ c = 3 then b - v else v) = y
  have hx2 : x ≤ a := by rw [← hx]; split <;> omega
  have hy2 : y ≤ b := by rw [← hy]; split <;> omega
  have ok2 : okG (a : Int) b x y = true := okG_iff.2 (by omega)
  unfold roS roN
  rw [if_pos ok2, if_pos ok2, tmR_cast, less_cast, less_cast]
  exact ⟨rfl, rfl⟩

/-! ### What can be reached -/
/-- At time t the sands above can be u and v. -/
inductive Reach (a b : Nat) : Nat → Nat → Nat → Prop where
  | zero : Reach a b 0 0 0
  | step (t u v c : Nat) (h : Reach a b t u v) (hc : c < 4) (hn : 0 < (nx a b u v c).2) : Reach a b (t + (nx a b u v c).2) (nx a b u v c).1.1 (nx a b u v c).1.2
theorem Reach.le {a b t u v : Nat} (h : Reach a b t u v) : u ≤ a ∧ v ≤ b := by
  induction h with
  | zero => omega
  | step t u v c _ _ _ ih => exact ⟨(nx_le ih.1 ih.2).1, (nx_le ih.1 ih.2).2.1⟩
/-- The steps of D were done. -/
def Rb (a b : Nat) (D : Nat → Nat → Nat → Nat → Prop) (t u v : Nat) : Prop :=
  (t = 0 ∧ u = 0 ∧ v = 0) ∨ ∃ t0 u0 v0 c, Reach a b t0 u0 v0 ∧ c < 4 ∧ D t0 u0 v0 c ∧ 0 < (nx a b u0 v0 c).2 ∧ t = t0 + (nx a b u0 v0 c).2 ∧ u = (nx a b u0 v0 c).1.1 ∧ v = (nx a b u0 v0 c).1.2
theorem Rb.reach {a b : Nat} {D : Nat → Nat → Nat → Nat → Prop} {t u v : Nat} (h : Rb a b D t u v) : Reach a b t u v := by
  rcases h with ⟨rfl, rfl, rfl⟩ | ⟨t0, u0, v0, c, h, hc, -, hn, rfl, rfl, rfl⟩
  · exact .zero
  · exact .step t0 u0 v0 c h hc hn
theorem rb_all {a b T : Nat} {D : Nat → Nat → Nat → Nat → Prop} (hD : ∀ t u v c, t < T → D t u v c) {t u v : Nat} (ht : t ≤ T) : Rb a b D t u v ↔ Reach a b t u v := by
  refine ⟨Rb.reach, fun h => ?_⟩
  cases h with
  | zero => exact .inl ⟨rfl, rfl, rfl⟩
  | step t0 u0 v0 c h hc hn => exact .inr ⟨t0, u0, v0, c, h, hc, hD _ _ _ _ (by omega), hn, rfl, rfl, rfl⟩
theorem rb_congr {a b : Nat} {D D' : Nat → Nat → Nat → Nat → Prop} (hD : ∀ t u v c, Reach a b t u v → c < 4 → (D t u v c ↔ D' t u v c)) {t u v : Nat} : Rb a b D t u v ↔ Rb a b D' t u v := by
  unfold Rb
  refine or_congr Iff.rfl ⟨?_, ?_⟩
  · rintro ⟨t0, u0, v0, c, h, hc, hd, r⟩
    exact ⟨t0, u0, v0, c, h, hc, (hD _ _ _ _ h hc).1 hd, r⟩
  · rintro ⟨t0, u0, v0, c, h, hc, hd, r⟩
    exact ⟨t0, u0, v0, c, h, hc, (hD _ _ _ _ h hc).2 hd, r⟩
/-- One step more. -/
theorem rb_more {a b T U V C : Nat} {D D' : Nat → Nat → Nat → Nat → Prop} (hR : Reach a b T U V) (hC : C < 4) (hD : ∀ t u v c, Reach a b t u v → c < 4 → (D' t u v c ↔ D t u v c ∨ (t = T ∧ u = U ∧ v = V ∧ c = C))) {t u v : Nat} :
    Rb a b D' t u v ↔ Rb a b D t u v ∨ (0 < (nx a b U V C).2 ∧ t = T + (nx a b U V C).2 ∧ u = (nx a b U V C).1.1 ∧ v = (nx a b U V C).1.2) := by
  unfold Rb
  constructor
  · rintro (h | ⟨t0, u0, v0, c, h, hc, hd, r⟩)
    · exact .inl (.inl h)
    · rcases (hD _ _ _ _ h hc).1 hd with hd | ⟨rfl, rfl, rfl, rfl⟩
      · exact .inl (.inr ⟨t0, u0, v0, c, h, hc, hd, r⟩)
      · exact .inr r
  · rintro ((h | ⟨t0, u0, v0, c, h, hc, hd, r⟩) | r)
    · exact .inl h
    · exact .inr ⟨t0, u0, v0, c, h, hc, (hD _ _ _ _ h hc).2 (.inl hd), r⟩
    · exact .inr ⟨T, U, V, C, hR, hC, (hD _ _ _ _ hR hC).2 (.inr ⟨rfl, rfl, rfl, rfl⟩), r⟩
/-- A glass can run out at t. -/
noncomputable def dec (p : Prop) : Bool := @decide p (Classical.propDecidable p)
theorem dec_iff {p : Prop} : dec p = true ↔ p := @decide_eq_true_iff p (Classical.propDecidable p)
theorem dec_no {p : Prop} (h : ¬ p) : dec p = false := @decide_eq_false p (Classical.propDecidable p) h
theorem dec_yes {p : Prop} (h : p) : dec p = true := dec_iff.2 h
theorem dec_congr {p q : Prop} (h : p ↔ q) : dec p = dec q := by rw [propext h]
noncomputable def At (a b t : Nat) : Bool := dec (∃ u v, Reach a b t u v)
theorem at_iff {a b t : Nat} : At a b t = true ↔ ∃ u v, Reach a b t u v := dec_iff
/-- The times before T. -/
noncomputable def tms (a b T : Nat) : List Int := ((List.range T).filter fun t => decide (0 < t) && At a b t).map fun t : Nat => (t : Int)
theorem tms_zero (a b : Nat) : tms a b 0 = [] := rfl
theorem tms_yes {a b T : Nat} (h0 : 0 < T) (h : At a b T = true) : tms a b (T + 1) = tms a b T ++ [(T : Int)] := by
  unfold tms
  rw [List.range_succ, List.filter_append, List.map_append]
  simp [h0, h]
theorem tms_no {a b T : Nat} (h : (decide (0 < T) && At a b T) = false) : tms a b (T + 1) = tms a b T := by
  unfold tms
  rw [List.range_succ, List.filter_append, List.map_append]
  simp only [List.filter_cons, h, List.filter_nil]
  simp
theorem tms_len (a b T : Nat) : (tms a b T).length ≤ T := by
  unfold tms
  rw [List.length_map]
  exact Nat.le_trans (List.length_filter_le _ _) (by rw [List.length_range]; exact Nat.le_refl _)
theorem tms_mem {a b T : Nat} {z : Int} : z ∈ tms a b T ↔ ∃ t : Nat, z = t ∧ 0 < t ∧ t < T ∧ At a b t = true := by
  unfold tms
  rw [List.mem_map]
  constructor
  · rintro ⟨t, ht, rfl⟩
    rw [List.mem_filter, List.mem_range] at ht
    have := ht.2
    simp only [Bool.and_eq_true, decide_eq_true_eq] at this
    exact ⟨t, rfl, this.1, ht.1, this.2⟩
  · rintro ⟨t, rfl, h0, h1, h2⟩
    exact ⟨t, List.mem_filter.2 ⟨List.mem_range.2 h1, by simp [h0, h2]⟩, rfl⟩
/-- What TimesWith answers. -/
noncomputable def timA (a b m : Int) : List Int := if 1 ≤ a ∧ a ≤ 12 ∧ 1 ≤ b ∧ b ≤ 12 ∧ 1 ≤ m ∧ m ≤ 60 then tms a.toNat b.toNat (m.toNat + 1) else []
/-- What CanTime answers. -/
noncomputable def canA (a b m : Int) : Bool := decide (1 ≤ a ∧ a ≤ 12 ∧ 1 ≤ b ∧ b ≤ 12 ∧ 1 ≤ m ∧ m ≤ 60) && At a.toNat b.toNat m.toNat
theorem timA_yes {a b m : Nat} (ha : 1 ≤ a ∧ a ≤ 12) (hb : 1 ≤ b ∧ b ≤ 12) (hm : 1 ≤ m ∧ m ≤ 60) : timA a b m = tms a b (m + 1) := by
  unfold timA
  rw [if_pos (by omega), Int.toNat_natCast, Int.toNat_natCast, Int.toNat_natCast]
theorem canA_yes {a b m : Nat} (ha : 1 ≤ a ∧ a ≤ 12) (hb : 1 ≤ b ∧ b ≤ 12) (hm : 1 ≤ m ∧ m ≤ 60) : canA a b m = At a b m := by
  unfold canA
  rw [decide_eq_true (by omega), Bool.true_and, Int.toNat_natCast, Int.toNat_natCast, Int.toNat_natCast]
theorem timA_len (a b m : Int) : (timA a b m).length ≤ 61 := by
  unfold timA
  split
  · have := tms_len a.toNat b.toNat (m.toNat + 1); omega
  · simp
/-- The last of the times tells whether the latest is one. -/
theorem last_tms {a b m : Nat} (h0 : 0 < m) : (0 < (tms a b (m + 1)).length ∧ (tms a b (m + 1)).getD ((tms a b (m + 1)).length - 1) 0 = (m : Int)) ↔ At a b m = true := by
  rcases hA : At a b m with _ | _
  · rw [tms_no (by rw [hA, Bool.and_false])]
    constructor
    · rintro ⟨h1, h2⟩
      have hm : (tms a b m).getD ((tms a b m).length - 1) 0 ∈ tms a b m := by
        rw [List.getD_eq_getElem?_getD, List.getElem?_eq_getElem (by omega)]
        exact List.getElem_mem _
      rw [h2] at hm
      obtain ⟨t, e, -, ht, -⟩ := tms_mem.1 hm
      omega
    · intro h; cases h
  · rw [tms_yes h0 hA]
    refine ⟨fun _ => rfl, fun _ => ⟨by simp, ?_⟩⟩
    rw [List.length_append, List.length_singleton, Nat.add_sub_cancel, List.getD_eq_getElem?_getD, List.getElem?_append_right (Nat.le_refl _), Nat.sub_self]
    rfl
end Go.Proofs.Ytmbhldpbgcfnmaa
