/-
  Lines, without any program: which are valid, what an instrument shows, what is corrected, the line through two points, a chain of two lines; what the promise says of them. No condition but those written.
-/
import Derived.Test.YtploanbnbkhciaaRedOk
namespace Go.Proofs.Ytploanbnbkhciaa

def lnOk (zt zb ut ub : Int) : Bool := okF zt zb && (okF ut ub && decide (0 < ut))
theorem lnOk_iff {zt zb ut ub : Int} : lnOk zt zb ut ub = true ↔ (okF zt zb = true ∧ okF ut ub = true ∧ 0 < ut) := by
  unfold lnOk; simp

/-- x, or 0. -/
def pk (o : Bool) (x : Int) : Int := if o then x else 0
/-- A sum, a product, a quotient. -/
def smT (t b x y : Int) : Int := shT (t * y + x * b) (b * y)
def smB (t b x y : Int) : Int := shB (t * y + x * b) (b * y)
def smO (t b x y : Int) : Bool := shO (t * y + x * b) (b * y)
def prT (t b x y : Int) : Int := shT (t * x) (b * y)
def prB (t b x y : Int) : Int := shB (t * x) (b * y)
def prO (t b x y : Int) : Bool := shO (t * x) (b * y)
def quT (t b x y : Int) : Int := shT (t * y) (b * x)
def quB (t b x y : Int) : Int := shB (t * y) (b * x)
def quO (t b x y : Int) : Bool := shO (t * y) (b * x)

theorem sh_true {n m : Int} (h : shO n m = true) : okF (shT n m) (shB n m) = true ∧ shT n m = redT n m ∧ shB n m = redB n m := by
  unfold shO at h
  unfold shT shB
  rw [h]
  exact ⟨h, rfl, rfl⟩
theorem sh_false {n m : Int} (h : shO n m = false) : shT n m = 0 ∧ shB n m = 0 := by
  unfold shO at h
  unfold shT shB
  rw [h]
  exact ⟨rfl, rfl⟩
theorem pr_turn (t b x y : Int) : prT x y t b = prT t b x y ∧ prB x y t b = prB t b x y ∧ prO x y t b = prO t b x y := by
  unfold prT prB prO
  rw [Int.mul_comm x t, Int.mul_comm y b]
  exact ⟨rfl, rfl, rfl⟩
theorem okF_neg {t b : Int} : okF (-t) b = okF t b := by
  unfold okF
  rw [Int.neg_gcd]
  exact decide_eq_decide.2 ⟨fun h => ⟨by omega, by omega, h.2.2⟩, fun h => ⟨by omega, by omega, h.2.2⟩⟩
theorem okF_zero : okF 0 0 = false := by decide

/-- What is shown. -/
def shwIn (zt zb ut ub t b : Int) : Prop := lnOk zt zb ut ub = true ∧ okF t b = true ∧ prO ut ub t b = true
instance (zt zb ut ub t b : Int) : Decidable (shwIn zt zb ut ub t b) := inferInstanceAs (Decidable (_ ∧ _))
def shwT (zt zb ut ub t b : Int) : Int := if shwIn zt zb ut ub t b then smT zt zb (prT ut ub t b) (prB ut ub t b) else 0
def shwB (zt zb ut ub t b : Int) : Int := if shwIn zt zb ut ub t b then smB zt zb (prT ut ub t b) (prB ut ub t b) else 0
def shwO (zt zb ut ub t b : Int) : Bool := if shwIn zt zb ut ub t b then smO zt zb (prT ut ub t b) (prB ut ub t b) else false
theorem shw_yes {zt zb ut ub t b : Int} (h : shwIn zt zb ut ub t b) : shwT zt zb ut ub t b = smT zt zb (prT ut ub t b) (prB ut ub t b) ∧ shwB zt zb ut ub t b = smB zt zb (prT ut ub t b) (prB ut ub t b) ∧ shwO zt zb ut ub t b = smO zt zb (prT ut ub t b) (prB ut ub t b) := ⟨if_pos h, if_pos h, if_pos h⟩
theorem shw_no {zt zb ut ub t b : Int} (h : ¬ shwIn zt zb ut ub t b) : shwT zt zb ut ub t b = 0 ∧ shwB zt zb ut ub t b = 0 ∧ shwO zt zb ut ub t b = false := ⟨if_neg h, if_neg h, if_neg h⟩

/-- What is corrected. -/
def corIn (zt zb ut ub t b : Int) : Prop := lnOk zt zb ut ub = true ∧ okF t b = true ∧ smO t b (-zt) zb = true
instance (zt zb ut ub t b : Int) : Decidable (corIn zt zb ut ub t b) := inferInstanceAs (Decidable (_ ∧ _))
def corT (zt zb ut ub t b : Int) : Int := if corIn zt zb ut ub t b then quT (smT t b (-zt) zb) (smB t b (-zt) zb) ut ub else 0
def corB (zt zb ut ub t b : Int) : Int := if corIn zt zb ut ub t b then quB (smT t b (-zt) zb) (smB t b (-zt) zb) ut ub else 0
def corO (zt zb ut ub t b : Int) : Bool := if corIn zt zb ut ub t b then quO (smT t b (-zt) zb) (smB t b (-zt) zb) ut ub else false
theorem cor_yes {zt zb ut ub t b : Int} (h : corIn zt zb ut ub t b) : corT zt zb ut ub t b = quT (smT t b (-zt) zb) (smB t b (-zt) zb) ut ub ∧ corB zt zb ut ub t b = quB (smT t b (-zt) zb) (smB t b (-zt) zb) ut ub ∧ corO zt zb ut ub t b = quO (smT t b (-zt) zb) (smB t b (-zt) zb) ut ub := ⟨if_pos h, if_pos h, if_pos h⟩
theorem cor_no {zt zb ut ub t b : Int} (h : ¬ corIn zt zb ut ub t b) : corT zt zb ut ub t b = 0 ∧ corB zt zb ut ub t b = 0 ∧ corO zt zb ut ub t b = false := ⟨if_neg h, if_neg h, if_neg h⟩

/-- The line that shows c/d for a/b and g/h for e/f. -/
def unIn (a b c d e f g h : Int) : Prop := okF a b = true ∧ okF c d = true ∧ okF e f = true ∧ okF g h = true ∧ ¬ (a = e ∧ b = f) ∧ smO e f (-a) b = true ∧ smO g h (-c) d = true
instance (a b c d e f g h : Int) : Decidable (unIn a b c d e f g h) := inferInstanceAs (Decidable (_ ∧ _))
def unT (a b c d e f g h : Int) : Int := quT (smT g h (-c) d) (smB g h (-c) d) (smT e f (-a) b) (smB e f (-a) b)
def unB (a b c d e f g h : Int) : Int := quB (smT g h (-c) d) (smB g h (-c) d) (smT e f (-a) b) (smB e f (-a) b)
def unO (a b c d e f g h : Int) : Bool := quO (smT g h (-c) d) (smB g h (-c) d) (smT e f (-a) b) (smB e f (-a) b)
/-- Its zero, of its unit. -/
def zeT (a b c d t u : Int) : Int := smT c d (-(prT t u a b)) (prB t u a b)
def zeB (a b c d t u : Int) : Int := smB c d (-(prT t u a b)) (prB t u a b)
def zeO (a b c d t u : Int) : Bool := smO c d (-(prT t u a b)) (prB t u a b)
def thIn (a b c d e f g h : Int) : Prop := unIn a b c d e f g h ∧ unO a b c d e f g h = true ∧ 0 < unT a b c d e f g h ∧ prO (unT a b c d e f g h) (unB a b c d e f g h) a b = true ∧ zeO a b c d (unT a b c d e f g h) (unB a b c d e f g h) = true
instance (a b c d e f g h : Int) : Decidable (thIn a b c d e f g h) := inferInstanceAs (Decidable (_ ∧ _))
def thT (a b c d e f g h : Int) : Int := if thIn a b c d e f g h then zeT a b c d (unT a b c d e f g h) (unB a b c d e f g h) else 0
def thB (a b c d e f g h : Int) : Int := if thIn a b c d e f g h then zeB a b c d (unT a b c d e f g h) (unB a b c d e f g h) else 0
def thU (a b c d e f g h : Int) : Int := if thIn a b c d e f g h then unT a b c d e f g h else 0
def thV (a b c d e f g h : Int) : Int := if thIn a b c d e f g h then unB a b c d e f g h else 0
def thO (a b c d e f g h : Int) : Bool := if thIn a b c d e f g h then true else false
theorem th_yes {a b c d e f g h : Int} (k : thIn a b c d e f g h) : thT a b c d e f g h = zeT a b c d (unT a b c d e f g h) (unB a b c d e f g h) ∧ thB a b c d e f g h = zeB a b c d (unT a b c d e f g h) (unB a b c d e f g h) ∧ thU a b c d e f g h = unT a b c d e f g h ∧ thV a b c d e f g h = unB a b c d e f g h ∧ thO a b c d e f g h = true := ⟨if_pos k, if_pos k, if_pos k, if_pos k, if_pos k⟩
theorem th_no {a b c d e f g h : Int} (k : ¬ thIn a b c d e f g h) : thT a b c d e f g h = 0 ∧ thB a b c d e f g h = 0 ∧ thU a b c d e f g h = 0 ∧ thV a b c d e f g h = 0 ∧ thO a b c d e f g h = false := ⟨if_neg k, if_neg k, if_neg k, if_neg k, if_neg k⟩

/-- An instrument (the second line) that reads what another (the first) shows. -/
def chIn (p q r s t u x y : Int) : Prop := lnOk p q r s = true ∧ lnOk t u x y = true ∧ prO x y r s = true ∧ shwO t u x y p q = true
instance (p q r s t u x y : Int) : Decidable (chIn p q r s t u x y) := inferInstanceAs (Decidable (_ ∧ _))
def chT (p q r s t u x y : Int) : Int := if chIn p q r s t u x y then shwT t u x y p q else 0
def chB (p q r s t u x y : Int) : Int := if chIn p q r s t u x y then shwB t u x y p q else 0
def chU (p q r s t u x y : Int) : Int := if chIn p q r s t u x y then prT x y r s else 0
def chV (p q r s t u x y : Int) : Int := if chIn p q r s t u x y then prB x y r s else 0
def chO (p q r s t u x y : Int) : Bool := if chIn p q r s t u x y then true else false
theorem ch_yes {p q r s t u x y : Int} (h : chIn p q r s t u x y) : chT p q r s t u x y = shwT t u x y p q ∧ chB p q r s t u x y = shwB t u x y p q ∧ chU p q r s t u x y = prT x y r s ∧ chV p q r s t u x y = prB x y r s ∧ chO p q r s t u x y = true := ⟨if_pos h, if_pos h, if_pos h, if_pos h, if_pos h⟩
theorem ch_no {p q r s t u x y : Int} (h : ¬ chIn p q r s t u x y) : chT p q r s t u x y = 0 ∧ chB p q r s t u x y = 0 ∧ chU p q r s t u x y = 0 ∧ chV p q r s t u x y = 0 ∧ chO p q r s t u x y = false := ⟨if_neg h, if_neg h, if_neg h, if_neg h, if_neg h⟩

/-! ### Fractions as values -/
/-- Terms that stand for a valid fraction are shortened to it. -/
theorem sh_is {n m p q : Int} (hm : 0 < m) (hk : okF p q = true) (he : n * q = p * m) : shT n m = p ∧ shB n m = q ∧ shO n m = true := by
  obtain ⟨-, -, hq, -, -⟩ := (okF_iff p q).1 hk
  obtain ⟨r1, r2⟩ := red_mul (k := q) (t := n) (b := m) (by omega) hm
  obtain ⟨s1, s2⟩ := red_mul (k := m) (t := p) (b := q) hm (by omega)
  obtain ⟨p1, p2⟩ := red_self hk
  have e1 : q * n = m * p := by rw [Int.mul_comm q n, he, Int.mul_comm]
  have e2 : q * m = m * q := Int.mul_comm _ _
  rw [e1, e2] at r1 r2
  have t1 : redT n m = p := by rw [← r1, s1, p1]
  have t2 : redB n m = q := by rw [← r2, s2, p2]
  unfold shT shB shO
  rw [t1, t2, hk]
  exact ⟨rfl, rfl, rfl⟩
/-- Two valid fractions of the same value are the same. -/
theorem ok_same {p q x y : Int} (h : okF p q = true) (k : okF x y = true) (e : p * y = x * q) : p = x ∧ q = y := by
  obtain ⟨-, -, hq, -, -⟩ := (okF_iff p q).1 h
  obtain ⟨h1, h2, -⟩ := sh_is (n := p) (m := q) (by omega) k e
  obtain ⟨k1, k2, -⟩ := sh_is (n := p) (m := q) (by omega) h rfl
  exact ⟨k1.symm.trans h1, k2.symm.trans h2⟩
/-- The value of shortened terms. -/
theorem sh_cross {n m : Int} (hm : 0 < m) (h : shO n m = true) : shT n m * m = n * shB n m ∧ 0 < shB n m := by
  obtain ⟨-, e1, e2⟩ := sh_true h
  rw [e1, e2]
  have h1 := redT_mul (t := n) hm
  have h2 := redB_mul (t := n) hm
  refine ⟨?_, redB_pos hm⟩
  generalize redT n m = x at *
  generalize redB n m = y at *
  generalize (Int.gcd n m : Int) = g at *
  rw [← h1, ← h2]
  grind
theorem red_le (n m : Int) : -(n.natAbs : Int) ≤ redT n m ∧ redT n m ≤ n.natAbs ∧ -(m.natAbs : Int) ≤ redB n m ∧ redB n m ≤ m.natAbs := by
  have e1 : (redT n m).natAbs = n.natAbs / (dvs n m).natAbs := Int.natAbs_tdiv _ _
  have e2 : (redB n m).natAbs = m.natAbs / (dvs n m).natAbs := Int.natAbs_tdiv _ _
  have l1 := Nat.div_le_self n.natAbs (dvs n m).natAbs
  have l2 := Nat.div_le_self m.natAbs (dvs n m).natAbs
  omega
/-- Small terms: the shortened ones are valid, of the same value, and no greater. -/
theorem sh_small {n m : Int} (N M : Nat) (hN : N ≤ 1000000) (hM : M ≤ 1000000) (h0 : -(N : Int) ≤ n) (h1 : n ≤ N) (h2 : 0 < m) (h3 : m ≤ M) :
    shO n m = true ∧ okF (shT n m) (shB n m) = true ∧ shT n m * m = n * shB n m ∧ 0 < shB n m ∧ -(N : Int) ≤ shT n m ∧ shT n m ≤ N ∧ shB n m ≤ M := by
  obtain ⟨e1, e2, e3⟩ := sh_ok (t := n) (b := m) (by omega) (by omega) h2 (by omega)
  obtain ⟨c1, c2⟩ := sh_cross h2 e3
  obtain ⟨l1, l2, l3, l4⟩ := red_le n m
  have ho := (sh_true e3).1
  rw [← e1] at l1 l2
  rw [← e2] at l3 l4
  exact ⟨e3, ho, c1, c2, by omega, by omega, by omega⟩
/-- Different points have a difference that is not 0. -/
theorem sm_ne {a b e f : Int} (ha : okF a b = true) (he : okF e f = true) (hne : ¬ (a = e ∧ b = f)) (h : smO e f (-a) b = true) : smT e f (-a) b ≠ 0 := by
  obtain ⟨-, -, b0, -, -⟩ := (okF_iff a b).1 ha
  obtain ⟨-, -, f0, -, -⟩ := (okF_iff e f).1 he
  have hm : 0 < f * b := Int.mul_pos (by omega) (by omega)
  obtain ⟨c1, c2⟩ := sh_cross hm h
  intro hz
  unfold smT at hz
  rw [hz, Int.zero_mul] at c1
  have h0 : e * b + -a * f = 0 := by
    rcases Int.mul_eq_zero.1 c1.symm with h | h
    · exact h
    · omega
  obtain ⟨e1, e2⟩ := ok_same ha he (by rw [Int.neg_mul] at h0; omega)
  exact hne ⟨e1, e2⟩
theorem pr_ok {t b x y : Int} (h : prO t b x y = true) : okF (prT t b x y) (prB t b x y) = true := (sh_true h).1
theorem sm_ok {t b x y : Int} (h : smO t b x y = true) : okF (smT t b x y) (smB t b x y) = true := (sh_true h).1
theorem qu_ok {t b x y : Int} (h : quO t b x y = true) : okF (quT t b x y) (quB t b x y) = true := (sh_true h).1
theorem ok_in {t b : Int} (h : okF t b = true) : -1000000 ≤ t ∧ t ≤ 1000000 := by
  obtain ⟨x0, x1, -⟩ := (okF_iff t b).1 h
  exact ⟨x0, x1⟩

end Go.Proofs.Ytploanbnbkhciaa
