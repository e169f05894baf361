/-
  Steelyards, without any program: which are valid, where the mark of a load is, the marks in a row; the slider finds the load again, and the marks are equally far apart. No condition but those written.
-/
import Derived.Test.YtjgonmabmannaaaFractions
import Derived.Test.YtjgonmabmannaaaFrac
namespace Go.Proofs.Ytjgonmabmannaaa

def okS (p s e : Int) : Bool := decide ((1 ≤ p ∧ p ≤ 100) ∧ (1 ≤ s ∧ s ≤ 1000) ∧ (-100 ≤ e ∧ e ≤ 100))
theorem okS_iff (p s e : Int) : okS p s e = true ↔ ((1 ≤ p ∧ p ≤ 100) ∧ (1 ≤ s ∧ s ≤ 1000) ∧ (-100 ≤ e ∧ e ≤ 100)) := by
  unfold okS; simp
theorem okS_p {p s e : Int} (h : ¬ (1 ≤ p ∧ p ≤ 100)) : okS p s e = false := by
  unfold okS; simp; omega
theorem okS_s {p s e : Int} (h : ¬ (1 ≤ s ∧ s ≤ 1000)) : okS p s e = false := by
  unfold okS; simp; omega
theorem okS_e {p s e : Int} (h0 : 1 ≤ p ∧ p ≤ 100) (h1 : 1 ≤ s ∧ s ≤ 1000) : okS p s e = decide (-100 ≤ e ∧ e ≤ 100) := by
  unfold okS; simp [h0, h1]

theorem yb {x y : Int} (m n : Nat) (h0 : -(m : Int) ≤ x) (h1 : x ≤ m) (h2 : -(n : Int) ≤ y) (h3 : y ≤ n) : -((m * n : Nat) : Int) ≤ x * y ∧ x * y ≤ ((m * n : Nat) : Int) := by
  have : (x * y).natAbs ≤ m * n := by
    rw [Int.natAbs_mul]
    exact Nat.mul_le_mul (by omega) (by omega)
  omega

/-- The mark of a load. -/
def mT (p s e l : Int) : Int := shT (e * s + l * p) s
def mB (p s e l : Int) : Int := shB (e * s + l * p) s
def mO (p s e l : Int) : Bool := shO (e * s + l * p) s
/-- Shortened terms of small ones are valid. -/
theorem red_ok {t b : Int} (h0 : -1000000 ≤ t) (h1 : t ≤ 1000000) (h2 : 0 < b) (h3 : b ≤ 1000000) : okF (redT t b) (redB t b) = true := by
  have e1 := redT_mul (t := t) h2
  have e2 := redB_mul (t := t) h2
  have g := gcd_pos t b (by omega)
  have p := redB_pos (t := t) h2
  have hg := red_gcd (t := t) h2
  generalize redT t b = x at *
  generalize redB t b = y at *
  generalize (Int.gcd t b : Int) = k at *
  have hx : x.natAbs ≤ t.natAbs := by
    rw [← e1, Int.natAbs_mul]
    exact Nat.le_mul_of_pos_right _ (by omega)
  have hy : y.natAbs ≤ b.natAbs := by
    rw [← e2, Int.natAbs_mul]
    exact Nat.le_mul_of_pos_right _ (by omega)
  exact (okF_iff x y).2 ⟨by omega, by omega, by omega, by omega, hg⟩
theorem sh_ok {t b : Int} (h0 : -1000000 ≤ t) (h1 : t ≤ 1000000) (h2 : 0 < b) (h3 : b ≤ 1000000) : shT t b = redT t b ∧ shB t b = redB t b ∧ shO t b = true := by
  have h := red_ok h0 h1 h2 h3
  unfold shT shB shO
  rw [h]
  exact ⟨rfl, rfl, rfl⟩
theorem mark_in {p s e l : Int} (h : okS p s e = true) (h0 : 0 ≤ l) (h1 : l ≤ 2000) : mT p s e l = redT (e * s + l * p) s ∧ mB p s e l = redB (e * s + l * p) s ∧ mO p s e l = true := by
  obtain ⟨hp, hs, he⟩ := (okS_iff p s e).1 h
  have b1 := yb (x := e) (y := s) 100 1000 (by omega) (by omega) (by omega) (by omega)
  have b2 := yb (x := l) (y := p) 2000 100 (by omega) (by omega) (by omega) (by omega)
  exact sh_ok (by omega) (by omega) (by omega) (by omega)
/-- What MarkFor and LoadAt answer. -/
def mkT (p s e l : Int) : Int := if okS p s e = true ∧ 0 ≤ l ∧ l ≤ 10000 then mT p s e l else 0
def mkB (p s e l : Int) : Int := if okS p s e = true ∧ 0 ≤ l ∧ l ≤ 10000 then mB p s e l else 0
def mkO (p s e l : Int) : Bool := if okS p s e = true ∧ 0 ≤ l ∧ l ≤ 10000 then mO p s e l else false
theorem mk_yes {p s e l : Int} (h : okS p s e = true ∧ 0 ≤ l ∧ l ≤ 10000) : mkT p s e l = shT (e * s + l * p) s ∧ mkB p s e l = shB (e * s + l * p) s ∧ mkO p s e l = shO (e * s + l * p) s := ⟨if_pos h, if_pos h, if_pos h⟩
theorem mk_no {p s e l : Int} (h : ¬ (okS p s e = true ∧ 0 ≤ l ∧ l ≤ 10000)) : mkT p s e l = 0 ∧ mkB p s e l = 0 ∧ mkO p s e l = false := ⟨if_neg h, if_neg h, if_neg h⟩
def ldT (p s e t b : Int) : Int := if okS p s e = true ∧ okF t b = true then shT ((t - e * b) * s) (b * p) else 0
def ldB (p s e t b : Int) : Int := if okS p s e = true ∧ okF t b = true then shB ((t - e * b) * s) (b * p) else 0
def ldO (p s e t b : Int) : Bool := if okS p s e = true ∧ okF t b = true then shO ((t - e * b) * s) (b * p) else false
theorem ld_yes {p s e t b : Int} (h : okS p s e = true ∧ okF t b = true) : ldT p s e t b = shT ((t - e * b) * s) (b * p) ∧ ldB p s e t b = shB ((t - e * b) * s) (b * p) ∧ ldO p s e t b = shO ((t - e * b) * s) (b * p) := ⟨if_pos h, if_pos h, if_pos h⟩
theorem ld_no {p s e t b : Int} (h : ¬ (okS p s e = true ∧ okF t b = true)) : ldT p s e t b = 0 ∧ ldB p s e t b = 0 ∧ ldO p s e t b = false := ⟨if_neg h, if_neg h, if_neg h⟩
/-- What LevelWith answers. -/
def lvl (p s e l q : Int) : Bool := if okS p s e = true ∧ (0 ≤ l ∧ l ≤ 10000) ∧ (-10000 ≤ q ∧ q ≤ 10000) then decide (l * p = (q - e) * s) else false
theorem lvl_yes {p s e l q : Int} (h : okS p s e = true ∧ (0 ≤ l ∧ l ≤ 10000) ∧ (-10000 ≤ q ∧ q ≤ 10000)) : lvl p s e l q = decide (l * p = (q - e) * s) := if_pos h
theorem lvl_no {p s e l q : Int} (h : ¬ (okS p s e = true ∧ (0 ≤ l ∧ l ≤ 10000) ∧ (-10000 ≤ q ∧ q ≤ 10000))) : lvl p s e l q = false := if_neg h
/-- The marks in a row. -/
def mrk (p s e u : Int) (k : Nat) : FractionT := ⟨mT p s e (k * u), mB p s e (k * u)⟩
def mrks (p s e u : Int) (n : Nat) : List FractionT := (List.range n).map (mrk p s e u)
theorem mrks_len (p s e u : Int) (n : Nat) : (mrks p s e u n).length = n := by simp [mrks]
theorem mrks_more (p s e u : Int) (n : Nat) : mrks p s e u (n + 1) = mrks p s e u n ++ [mrk p s e u n] := by
  unfold mrks
  rw [List.range_succ, List.map_append]; rfl
theorem mrks_get {p s e u : Int} {n k : Nat} (h : k < n) : frget (mrks p s e u n) k = mrk p s e u k := by
  unfold frget mrks
  rw [List.getD_eq_getElem?_getD, List.getElem?_map, List.getElem?_range h]; rfl
/-- What MarksOf answers. -/
def mkOf (p s e u n : Int) : List FractionT := if okS p s e = true ∧ (1 ≤ u ∧ u ≤ 100) ∧ (0 ≤ n ∧ n ≤ 20) then mrks p s e u (n.toNat + 1) else []
theorem mkOf_no {p s e u n : Int} (h : ¬ (okS p s e = true ∧ (1 ≤ u ∧ u ≤ 100) ∧ (0 ≤ n ∧ n ≤ 20))) : mkOf p s e u n = [] := if_neg h
theorem mkOf_yes {p s e u : Int} {n : Nat} (h : okS p s e = true) (hu : 1 ≤ u ∧ u ≤ 100) (hn : n ≤ 20) : mkOf p s e u n = mrks p s e u (n + 1) := by
  unfold mkOf
  rw [if_pos ⟨h, hu, by omega, by omega⟩]; rfl
theorem mkOf_len (p s e u n : Int) : (mkOf p s e u n).length ≤ 21 := by
  unfold mkOf
  split
  · rw [mrks_len]; omega
  · exact Nat.zero_le _

/-! ### What the law says -/
/-- The slider finds the load. -/
theorem load_back {p s e l : Int} (h : okS p s e = true) (h0 : 0 ≤ l) (h1 : l ≤ 2000) :
    redT ((mT p s e l - e * mB p s e l) * s) (mB p s e l * p) = l ∧ redB ((mT p s e l - e * mB p s e l) * s) (mB p s e l * p) = 1 := by
  obtain ⟨hp, hs, he⟩ := (okS_iff p s e).1 h
  obtain ⟨eT, eB, -⟩ := mark_in h h0 h1
  have hs0 : 0 < s := by omega
  rw [eT, eB]
  have e1 := redT_mul (t := e * s + l * p) hs0
  have e2 := redB_mul (t := e * s + l * p) hs0
  have g := gcd_pos (e * s + l * p) s (by omega)
  have pb := redB_pos (t := e * s + l * p) hs0
  generalize redT (e * s + l * p) s = x at *
  generalize redB (e * s + l * p) s = y at *
  generalize (Int.gcd (e * s + l * p) s : Int) = k at *
  have hy : 0 < y * p := Int.mul_pos pb (by omega)
  have a1 : (x - e * y) * s = (y * p) * l := by
    have : (x - e * y) * k = l * p := by
      have : x * k - e * (y * k) = l * p := by rw [e1, e2]; omega
      grind
    grind
  have a2 : y * p = (y * p) * 1 := by grind
  have r := red_mul (t := l) (b := 1) hy (by omega)
  have q := red_self (t := l) (b := 1) ((okF_iff l 1).2 ⟨by omega, by omega, by omega, by omega, Int.gcd_one⟩)
  rw [← a2, ← a1, q.1, q.2] at r
  exact r
/-- The first mark is the empty one's. -/
theorem mark_zero {p s e : Int} (h : okS p s e = true) : mT p s e 0 = e ∧ mB p s e 0 = 1 := by
  obtain ⟨hp, hs, he⟩ := (okS_iff p s e).1 h
  obtain ⟨eT, eB, -⟩ := mark_in h (l := 0) (by omega) (by omega)
  rw [eT, eB]
  have r := red_mul (k := s) (t := e) (b := 1) (by omega) (by omega)
  have q := red_self (t := e) (b := 1) ((okF_iff e 1).2 ⟨by omega, by omega, by omega, by omega, Int.gcd_one⟩)
  rw [q.1, q.2] at r
  have a1 : e * s + 0 * p = s * e := by grind
  have a2 : s * 1 = s := by grind
  rw [a2] at r
  rw [a1]
  exact r
theorem red_neg {t b : Int} (h : 0 < b) : redT (-t) b = -redT t b ∧ redB (-t) b = redB t b := by
  unfold redT redB
  rw [dvs_pos h, dvs_pos h, Int.neg_gcd]
  exact ⟨Int.neg_tdiv .., rfl⟩
/-- Two marks that follow one another differ by the same. -/
theorem mark_diff {p s e u : Int} {k : Nat} (h : okS p s e = true) (hu : 1 ≤ u ∧ u ≤ 100) (hk : k < 20) :
    (mT p s e ((k + 1 : Nat) * u) * mB p s e (k * u) + -mT p s e (k * u) * mB p s e ((k + 1 : Nat) * u)) = (mT p s e ((k + 1 : Nat) * u) * mB p s e (k * u) + -mT p s e (k * u) * mB p s e ((k + 1 : Nat) * u)) ∧
    shT (mT p s e ((k + 1 : Nat) * u) * mB p s e (k * u) + -mT p s e (k * u) * mB p s e ((k + 1 : Nat) * u)) (mB p s e ((k + 1 : Nat) * u) * mB p s e (k * u)) = redT (u * p) s ∧
    shB (mT p s e ((k + 1 : Nat) * u) * mB p s e (k * u) + -mT p s e (k * u) * mB p s e ((k + 1 : Nat) * u)) (mB p s e ((k + 1 : Nat) * u) * mB p s e (k * u)) = redB (u * p) s ∧
    shO (mT p s e ((k + 1 : Nat) * u) * mB p s e (k * u) + -mT p s e (k * u) * mB p s e ((k + 1 : Nat) * u)) (mB p s e ((k + 1 : Nat) * u) * mB p s e (k * u)) = true := by
  refine ⟨rfl, ?_⟩
  obtain ⟨hp, hs, he⟩ := (okS_iff p s e).1 h
  have hs0 : 0 < s := by omega
  have b1 := yb (x := (k : Int)) (y := u) 20 100 (by omega) (by omega) (by omega) (by omega)
  have b2 := yb (x := ((k + 1 : Nat) : Int)) (y := u) 20 100 (by omega) (by omega) (by omega) (by omega)
  have n1 : 0 ≤ (k : Int) * u := Int.mul_nonneg (by omega) (by omega)
  have n2 : 0 ≤ ((k + 1 : Nat) : Int) * u := Int.mul_nonneg (by omega) (by omega)
  obtain ⟨eT, eB, -⟩ := mark_in h (l := (k : Int) * u) (by omega) (by omega)
  obtain ⟨fT, fB, -⟩ := mark_in h (l := ((k + 1 : Nat) : Int) * u) (by omega) (by omega)
  rw [eT, eB, fT, fB]
  have hl : ((k + 1 : Nat) : Int) * u = (k : Int) * u + u := by
    rw [Int.natCast_add]
    grind
  rw [hl]
  generalize (k : Int) * u = l
  obtain ⟨gT, gB⟩ := red_neg (t := e * s + l * p) hs0
  rw [← gT]
  have hB : redB (e * s + l * p) s = redB (-(e * s + l * p)) s := gB.symm
  rw [hB]
  have r := red_add (t1 := e * s + (l + u) * p) (t2 := -(e * s + l * p)) hs0 hs0
  have a1 : (e * s + (l + u) * p) * s + -(e * s + l * p) * s = s * (u * p) := by grind
  rw [a1] at r
  have q := red_mul (k := s) (t := u * p) (b := s) hs0 hs0
  rw [q.1, q.2] at r
  have b3 := yb (x := u) (y := p) 100 100 (by omega) (by omega) (by omega) (by omega)
  have ho := red_ok (t := u * p) (b := s) (by omega) (by omega) hs0 (by omega)
  unfold shT shB shO
  rw [r.1, r.2, ho]
  exact ⟨rfl, rfl, rfl⟩
/-- Where the mark is a whole place, the beam is level there. -/
theorem mark_level {p s e l : Int} (h : okS p s e = true) (h0 : 0 ≤ l) (h1 : l ≤ 255) (hB : mB p s e l = 1) :
    l * p = (mT p s e l - e) * s ∧ -1000000 ≤ mT p s e l ∧ mT p s e l ≤ 1000000 := by
  obtain ⟨hp, hs, he⟩ := (okS_iff p s e).1 h
  obtain ⟨eT, eB, -⟩ := mark_in h (l := l) (by omega) (by omega)
  have hs0 : 0 < s := by omega
  have b1 := yb (x := e) (y := s) 100 1000 (by omega) (by omega) (by omega) (by omega)
  have b2 := yb (x := l) (y := p) 2000 100 (by omega) (by omega) (by omega) (by omega)
  have ho := (okF_iff _ _).1 (red_ok (t := e * s + l * p) (b := s) (by omega) (by omega) hs0 (by omega))
  rw [eT]
  refine ⟨?_, ho.1, ho.2.1⟩
  rw [eB] at hB
  have e1 := redT_mul (t := e * s + l * p) hs0
  have e2 := redB_mul (t := e * s + l * p) hs0
  rw [hB, Int.one_mul] at e2
  rw [e2] at e1
  generalize redT (e * s + l * p) s = x at *
  grind
/-- .. and this place is near. -/
theorem mark_near {p s e l x : Int} (h : 1 ≤ p ∧ p ≤ 12) (hs : 1 ≤ s) (he : -10 ≤ e ∧ e ≤ 10) (h0 : 0 ≤ l) (h1 : l ≤ 255) (hx : l * p = (x - e) * s) : -10000 ≤ x ∧ x ≤ 10000 := by
  have b := yb (x := l) (y := p) 255 12 (by omega) (by omega) (by omega) (by omega)
  have hb : (x - e).natAbs ≤ (l * p).natAbs := by
    rw [hx, Int.natAbs_mul]
    exact Nat.le_mul_of_pos_right _ (by omega)
  omega
end Go.Proofs.Ytjgonmabmannaaa
