/-
  Unequal arms, without any program: which are valid, what balances an object in either pan; both readings give the weight and the ratio of the arms. No condition but those written.
-/
import Derived.Test.YtngegifiekjfbaaRedOk
namespace Go.Proofs.Ytngegifiekjfbaa

def okA (a b : Int) : Bool := decide ((1 ≤ a ∧ a ≤ 1000) ∧ (1 ≤ b ∧ b ≤ 1000))
theorem okA_iff (a b : Int) : okA a b = true ↔ ((1 ≤ a ∧ a ≤ 1000) ∧ (1 ≤ b ∧ b ≤ 1000)) := by
  unfold okA; simp
theorem okA_a {a b : Int} (h : ¬ (1 ≤ a ∧ a ≤ 1000)) : okA a b = false := by
  unfold okA; simp; omega
theorem okA_b {a b : Int} (h : 1 ≤ a ∧ a ≤ 1000) : okA a b = decide (1 ≤ b ∧ b ≤ 1000) := by
  unfold okA; simp [h]
theorem okA_turn (a b : Int) : okA b a = okA a b := by
  unfold okA
  exact decide_eq_decide.2 And.comm

/-- What balances n in the pan of the arm a, in the pan of the arm b. -/
def rdIn (a b n : Int) : Prop := okA a b = true ∧ 0 ≤ n ∧ n ≤ 1000
instance (a b n : Int) : Decidable (rdIn a b n) := inferInstanceAs (Decidable (_ ∧ _))
def rdT (a b n : Int) : Int := if rdIn a b n then shT (n * a) b else 0
def rdB (a b n : Int) : Int := if rdIn a b n then shB (n * a) b else 0
def rdO (a b n : Int) : Bool := if rdIn a b n then shO (n * a) b else false
theorem rd_yes {a b n : Int} (h : rdIn a b n) : rdT a b n = shT (n * a) b ∧ rdB a b n = shB (n * a) b ∧ rdO a b n = shO (n * a) b := ⟨if_pos h, if_pos h, if_pos h⟩
theorem rd_no {a b n : Int} (h : ¬ rdIn a b n) : rdT a b n = 0 ∧ rdB a b n = 0 ∧ rdO a b n = false := ⟨if_neg h, if_neg h, if_neg h⟩
theorem rdIn_turn {a b n : Int} (h : rdIn a b n) : rdIn b a n := ⟨(okA_turn a b).trans h.1, h.2⟩
theorem rd_in {a b n : Int} (h : rdIn a b n) : rdT a b n = redT (n * a) b ∧ rdB a b n = redB (n * a) b ∧ rdO a b n = true := by
  obtain ⟨e1, e2, e3⟩ := rd_yes h
  obtain ⟨h1, h2, h3⟩ := h
  obtain ⟨ha, hb⟩ := (okA_iff a b).1 h1
  have b1 := yb (x := n) (y := a) 1000 1000 (by omega) (by omega) (by omega) (by omega)
  rw [e1, e2, e3]
  exact sh_ok (by omega) (by omega) (by omega) (by omega)
theorem rd_ok {a b n : Int} (h : rdIn a b n) : okF (rdT a b n) (rdB a b n) = true := by
  obtain ⟨e1, e2, -⟩ := rd_in h
  obtain ⟨h1, h2, h3⟩ := h
  obtain ⟨ha, hb⟩ := (okA_iff a b).1 h1
  have b1 := yb (x := n) (y := a) 1000 1000 (by omega) (by omega) (by omega) (by omega)
  rw [e1, e2]
  exact red_ok (by omega) (by omega) (by omega) (by omega)

/-- What Substitute answers. -/
def suIn (a b n t u : Int) : Prop := rdO a b n = true ∧ t = rdT a b n ∧ u = rdB a b n
instance (a b n t u : Int) : Decidable (suIn a b n t u) := inferInstanceAs (Decidable (_ ∧ _))
def suT (a b n t u : Int) : Int := if suIn a b n t u then shT (t * b) (u * a) else 0
def suB (a b n t u : Int) : Int := if suIn a b n t u then shB (t * b) (u * a) else 0
def suO (a b n t u : Int) : Bool := if suIn a b n t u then shO (t * b) (u * a) else false
theorem su_yes {a b n t u : Int} (h : suIn a b n t u) : suT a b n t u = shT (t * b) (u * a) ∧ suB a b n t u = shB (t * b) (u * a) ∧ suO a b n t u = shO (t * b) (u * a) := ⟨if_pos h, if_pos h, if_pos h⟩
theorem su_no {a b n t u : Int} (h : ¬ suIn a b n t u) : suT a b n t u = 0 ∧ suB a b n t u = 0 ∧ suO a b n t u = false := ⟨if_neg h, if_neg h, if_neg h⟩
theorem rdO_in {a b n : Int} (h : rdO a b n = true) : rdIn a b n := by
  unfold rdO at h
  split at h
  · assumption
  · cases h

/-- What RatioFrom answers. -/
def raIn (t b x y : Int) : Prop := okF t b = true ∧ okF x y = true ∧ x ≠ 0
instance (t b x y : Int) : Decidable (raIn t b x y) := inferInstanceAs (Decidable (_ ∧ _))
def raT (t b x y : Int) : Int := if raIn t b x y then shT (t * y) (b * x) else 0
def raB (t b x y : Int) : Int := if raIn t b x y then shB (t * y) (b * x) else 0
def raO (t b x y : Int) : Bool := if raIn t b x y then shO (t * y) (b * x) else false
theorem ra_yes {t b x y : Int} (h : raIn t b x y) : raT t b x y = shT (t * y) (b * x) ∧ raB t b x y = shB (t * y) (b * x) ∧ raO t b x y = shO (t * y) (b * x) := ⟨if_pos h, if_pos h, if_pos h⟩
theorem ra_no {t b x y : Int} (h : ¬ raIn t b x y) : raT t b x y = 0 ∧ raB t b x y = 0 ∧ raO t b x y = false := ⟨if_neg h, if_neg h, if_neg h⟩

/-! ### What the law says -/
theorem red_whole {n : Int} (h0 : 0 ≤ n) (h1 : n ≤ 1000000) : redT n 1 = n ∧ redB n 1 = 1 ∧ okF n 1 = true := by
  have ho : okF n 1 = true := (okF_iff n 1).2 ⟨by omega, by omega, by omega, by omega, Int.gcd_one⟩
  exact ⟨(red_self ho).1, (red_self ho).2, ho⟩
theorem sq_le {n : Int} (h0 : 0 ≤ n) (h1 : n ≤ 1000) : 0 ≤ n * n ∧ n * n ≤ 1000000 := by
  have b1 := yb (x := n) (y := n) 1000 1000 (by omega) (by omega) (by omega) (by omega)
  have b2 := Int.mul_nonneg h0 h0
  omega
/-- The product of both readings is the square of the weight. -/
theorem square_is {a b n : Int} (h : rdIn a b n) :
    shT (rdT a b n * rdT b a n) (rdB a b n * rdB b a n) = n * n ∧ shB (rdT a b n * rdT b a n) (rdB a b n * rdB b a n) = 1 ∧ shO (rdT a b n * rdT b a n) (rdB a b n * rdB b a n) = true := by
  obtain ⟨e1, e2, -⟩ := rd_in h
  obtain ⟨f1, f2, -⟩ := rd_in (rdIn_turn h)
  obtain ⟨h1, h2, h3⟩ := h
  obtain ⟨ha, hb⟩ := (okA_iff a b).1 h1
  obtain ⟨r1, r2⟩ := red_times (t1 := n * a) (b1 := b) (t2 := n * b) (b2 := a) (by omega) (by omega)
  obtain ⟨q0, q1⟩ := sq_le h2 h3
  obtain ⟨w1, w2, w3⟩ := red_whole q0 q1
  have hk : 0 < a * b := Int.mul_pos (by omega) (by omega)
  obtain ⟨m1, m2⟩ := red_mul (k := a * b) (t := n * n) (b := 1) hk (by omega)
  have a1 : n * a * (n * b) = (a * b) * (n * n) := by grind
  have a2 : b * a = (a * b) * 1 := by grind
  rw [a1, a2, m1, w1] at r1
  rw [a1, a2, m2, w2] at r2
  unfold shT shB shO
  rw [e1, e2, f1, f2, r1, r2, w3]
  exact ⟨rfl, rfl, rfl⟩
/-- What balances the tare is the weight. -/
theorem tare_is {a b n : Int} (h : rdIn a b n) :
    shT (rdT a b n * b) (rdB a b n * a) = n ∧ shB (rdT a b n * b) (rdB a b n * a) = 1 ∧ shO (rdT a b n * b) (rdB a b n * a) = true := by
  obtain ⟨e1, e2, -⟩ := rd_in h
  obtain ⟨h1, h2, h3⟩ := h
  obtain ⟨ha, hb⟩ := (okA_iff a b).1 h1
  have k1 := redT_mul (t := n * a) (b := b) (by omega)
  have k2 := redB_mul (t := n * a) (b := b) (by omega)
  have g := gcd_pos (n * a) b (by omega)
  have p1 := redB_pos (t := n * a) (b := b) (by omega)
  rw [e1, e2]
  generalize redT (n * a) b = x at *
  generalize redB (n * a) b = y at *
  generalize (Int.gcd (n * a) b : Int) = k at *
  have hy : 0 < y * a := Int.mul_pos p1 (by omega)
  have a1 : x * b = (y * a) * n := by
    have : x * b = (x * k) * y := by rw [← k2]; grind
    rw [this, k1]; grind
  obtain ⟨m1, m2⟩ := red_mul (k := y * a) (t := n) (b := 1) hy (by omega)
  obtain ⟨w1, w2, w3⟩ := red_whole h2 (show n ≤ 1000000 by omega)
  have a2 : y * a = (y * a) * 1 := by grind
  rw [← a2, ← a1, w1] at m1
  rw [← a2, ← a1, w2] at m2
  unfold shT shB shO
  rw [m1, m2, w3]
  exact ⟨rfl, rfl, rfl⟩
/-- One reading divided by the other is the square of the ratio of the arms. -/
theorem ratio_is {a b n : Int} (h : rdIn a b n) (hn : 0 < n) :
    raO (rdT a b n) (rdB a b n) (rdT b a n) (rdB b a n) = true ∧
    raT (rdT a b n) (rdB a b n) (rdT b a n) (rdB b a n) * b * b = raB (rdT a b n) (rdB a b n) (rdT b a n) (rdB b a n) * a * a ∧
    okF (raT (rdT a b n) (rdB a b n) (rdT b a n) (rdB b a n)) (raB (rdT a b n) (rdB a b n) (rdT b a n) (rdB b a n)) = true := by
  have o1 := rd_ok h
  have o2 := rd_ok (rdIn_turn h)
  obtain ⟨e1, e2, -⟩ := rd_in h
  obtain ⟨f1, f2, -⟩ := rd_in (rdIn_turn h)
  obtain ⟨h1, h2, h3⟩ := h
  obtain ⟨ha, hb⟩ := (okA_iff a b).1 h1
  have k1 := redT_mul (t := n * a) (b := b) (by omega)
  have k2 := redB_mul (t := n * a) (b := b) (by omega)
  have k3 := redT_mul (t := n * b) (b := a) (by omega)
  have k4 := redB_mul (t := n * b) (b := a) (by omega)
  have g1 := gcd_pos (n * a) b (by omega)
  have g2 := gcd_pos (n * b) a (by omega)
  have p1 := redB_pos (t := n * a) (b := b) (by omega)
  rw [e1, e2] at o1 ⊢
  rw [f1, f2] at o2 ⊢
  generalize redT (n * a) b = x at *
  generalize redB (n * a) b = y at *
  generalize (Int.gcd (n * a) b : Int) = k at *
  generalize redT (n * b) a = u at *
  generalize redB (n * b) a = v at *
  generalize (Int.gcd (n * b) a : Int) = l at *
  have hnb : 0 < n * b := Int.mul_pos hn (by omega)
  have hu : 0 < u := by
    rcases Int.lt_or_le 0 u with h | h
    · exact h
    · have := Int.mul_nonpos_of_nonpos_of_nonneg h (Int.le_of_lt g2)
      omega
  obtain ⟨c1, c2, c3⟩ := ra_yes (t := x) (b := y) (x := u) (y := v) ⟨o1, o2, by omega⟩
  have hyu : 0 < y * u := Int.mul_pos p1 hu
  have hkl : 0 < k * l := Int.mul_pos g1 g2
  have hbb : 0 < b * b := Int.mul_pos (by omega) (by omega)
  have a1 : (k * l) * (x * v) = n * (a * a) := by
    have : (k * l) * (x * v) = (x * k) * (v * l) := by grind
    rw [this, k1, k4]; grind
  have a2 : (k * l) * (y * u) = n * (b * b) := by
    have : (k * l) * (y * u) = (y * k) * (u * l) := by grind
    rw [this, k2, k3]; grind
  obtain ⟨m1, m2⟩ := red_mul (k := k * l) (t := x * v) (b := y * u) hkl hyu
  obtain ⟨n1, n2⟩ := red_mul (k := n) (t := a * a) (b := b * b) hn hbb
  rw [a1, a2, n1] at m1
  rw [a1, a2, n2] at m2
  have sa := sq_le (n := a) (by omega) (by omega)
  have sb := sq_le (n := b) (by omega) (by omega)
  have ok := red_ok (t := a * a) (b := b * b) (by omega) (by omega) hbb (by omega)
  have d1 := redT_mul (t := a * a) hbb
  have d2 := redB_mul (t := a * a) hbb
  have d3 := gcd_pos (a * a) (b * b) (by omega)
  rw [c1, c2, c3]
  unfold shT shB shO
  rw [← m1, ← m2, ok]
  generalize redT (a * a) (b * b) = q at *
  generalize redB (a * a) (b * b) = r at *
  generalize (Int.gcd (a * a) (b * b) : Int) = d at *
  refine ⟨rfl, ?_, by simpa using ok⟩
  rw [if_pos rfl, if_pos rfl]
  have : d * (q * b * b) = d * (r * a * a) := by
    have z1 : d * (q * b * b) = (q * d) * (b * b) := by grind
    have z2 : d * (r * a * a) = (r * d) * (a * a) := by grind
    rw [z1, z2, d1, d2]; grind
  exact Int.eq_of_mul_eq_mul_left (by omega) this
/-- An object without weight has no ratio. -/
theorem ratio_none {a b : Int} (h : rdIn a b 0) : raO (rdT a b 0) (rdB a b 0) (rdT b a 0) (rdB b a 0) = false ∧ raT (rdT a b 0) (rdB a b 0) (rdT b a 0) (rdB b a 0) = 0 ∧ raB (rdT a b 0) (rdB a b 0) (rdT b a 0) (rdB b a 0) = 0 := by
  obtain ⟨f1, -, -⟩ := rd_in (rdIn_turn h)
  obtain ⟨e1, e2, e3⟩ := ra_no (t := rdT a b 0) (b := rdB a b 0) (x := rdT b a 0) (y := rdB b a 0) (fun h => h.2.2 (by rw [f1]; unfold redT; simp))
  exact ⟨e3, e1, e2⟩
end Go.Proofs.Ytngegifiekjfbaa
