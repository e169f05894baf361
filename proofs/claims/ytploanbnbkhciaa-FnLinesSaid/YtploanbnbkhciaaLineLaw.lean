/-
  What the promise says of small lines, without any program: what is shown can be corrected, two points give the line back, a chain shows what the second instrument shows of the first one's. No condition but those written.
-/
import Derived.Test.YtploanbnbkhciaaLine
import Derived.Test.YtploanbnbkhciaaSmallF
namespace Go.Proofs.Ytploanbnbkhciaa

theorem cancel {k a b : Int} (hk : 0 < k) (h : k * a = k * b) : a = b := Int.eq_of_mul_eq_mul_left (by omega) h
theorem shw_in {zt zb ut ub t b : Int} (h : shwO zt zb ut ub t b = true) : shwIn zt zb ut ub t b := by
  unfold shwO at h
  split at h
  · assumption
  · cases h
/-- What is shown, as a value. -/
theorem shown_at {zt zb ut ub t b : Int} (h : shwO zt zb ut ub t b = true) :
    shwT zt zb ut ub t b * (zb * prB ut ub t b) = (zt * prB ut ub t b + prT ut ub t b * zb) * shwB zt zb ut ub t b ∧ prT ut ub t b * (ub * b) = (ut * t) * prB ut ub t b ∧ 0 < prB ut ub t b ∧ 0 < shwB zt zb ut ub t b ∧ okF (shwT zt zb ut ub t b) (shwB zt zb ut ub t b) = true := by
  have hi := shw_in h
  obtain ⟨e1, e2, e3⟩ := shw_yes hi
  rw [e3] at h
  obtain ⟨h1, h2, h3⟩ := hi
  obtain ⟨g1, g2, -⟩ := lnOk_iff.1 h1
  obtain ⟨-, -, z0, -, -⟩ := (okF_iff _ _).1 g1
  obtain ⟨-, -, u0, -, -⟩ := (okF_iff _ _).1 g2
  obtain ⟨-, -, b0, -, -⟩ := (okF_iff _ _).1 h2
  obtain ⟨c1, c2⟩ := sh_cross (Int.mul_pos (by omega) (by omega)) h3
  obtain ⟨d1, d2⟩ := sh_cross (Int.mul_pos (show 0 < zb by omega) c2) h
  have ho := sm_ok h
  rw [e1, e2]
  exact ⟨d1, c1, c2, d2, ho⟩
theorem direct_eq {X Y zt zb P Q K M : Int} (hQ : 0 < Q) (c2 : X * (zb * Q) = (zt * Q + P * zb) * Y) (c1 : P * K = M * Q) : X * (zb * K) = (zt * K + M * zb) * Y := by
  refine cancel hQ ?_
  have e1 : Q * (X * (zb * K)) = X * (zb * Q) * K := by grind
  have e2 : (zt * Q + P * zb) * Y * K = zt * Q * Y * K + zb * Y * (P * K) := by grind
  have e3 : Q * ((zt * K + M * zb) * Y) = zt * Q * Y * K + zb * Y * (M * Q) := by grind
  rw [e1, c2, e2, c1, e3]
/-- The same without the product. -/
theorem shown_direct {zt zb ut ub t b : Int} (h : shwO zt zb ut ub t b = true) :
    shwT zt zb ut ub t b * (zb * (ub * b)) = (zt * (ub * b) + (ut * t) * zb) * shwB zt zb ut ub t b := by
  obtain ⟨c2, c1, hQ, -, -⟩ := shown_at h
  exact direct_eq hQ c2 c1
/-- Small lines show small values. -/
theorem shown_small {zt zb ut ub t b : Int} (hz : Small zt zb) (hu : SmallU ut ub) (ho : okF t b = true) (t0 : -40 ≤ t) (t1 : t ≤ 40) (b1 : b ≤ 12) :
    prO ut ub t b = true ∧ shwO zt zb ut ub t b = true ∧ -20000 ≤ shwT zt zb ut ub t b ∧ shwT zt zb ut ub t b ≤ 20000 ∧ shwB zt zb ut ub t b ≤ 1728 := by
  obtain ⟨u0, u1, u2, u3⟩ := And.intro hu.t0 (And.intro hu.t1 (And.intro hu.b0 hu.b1))
  obtain ⟨z0, z1, z2, z3⟩ := And.intro hz.t0 (And.intro hz.t1 (And.intro hz.b0 hz.b1))
  obtain ⟨-, -, b0, -, -⟩ := (okF_iff _ _).1 ho
  have m1 := yb (x := ut) (y := t) 20 40 (by omega) (by omega) (by omega) (by omega)
  have m2 := yb (x := ub) (y := b) 12 12 (by omega) (by omega) (by omega) (by omega)
  have m3 : 0 < ub * b := Int.mul_pos (by omega) (by omega)
  obtain ⟨p1, p2, -, p4, p5, p6, p7⟩ := sh_small (n := ut * t) (m := ub * b) 800 144 (by omega) (by omega) (by omega) (by omega) m3 (by omega)
  change okF (prT ut ub t b) (prB ut ub t b) = true at p2
  change prO ut ub t b = true at p1
  change 0 < prB ut ub t b at p4
  change -(800 : Int) ≤ prT ut ub t b at p5
  change prT ut ub t b ≤ (800 : Int) at p6
  change prB ut ub t b ≤ (144 : Int) at p7
  have hi : shwIn zt zb ut ub t b := ⟨lnOk_iff.2 ⟨hz.ok, hu.ok, by omega⟩, ho, p1⟩
  obtain ⟨e1, e2, e3⟩ := shw_yes hi
  have n1 := yb (x := zt) (y := prB ut ub t b) 20 144 (by omega) (by omega) (by omega) (by omega)
  have n2 := yb (x := prT ut ub t b) (y := zb) 800 12 (by omega) (by omega) (by omega) (by omega)
  have n3 := yb (x := zb) (y := prB ut ub t b) 12 144 (by omega) (by omega) (by omega) (by omega)
  have n4 : 0 < zb * prB ut ub t b := Int.mul_pos (by omega) p4
  obtain ⟨q1, -, -, -, q5, q6, q7⟩ := sh_small (n := zt * prB ut ub t b + prT ut ub t b * zb) (m := zb * prB ut ub t b) 20000 1728 (by omega) (by omega) (by omega) (by omega) n4 (by omega)
  rw [e1, e2, e3]
  exact ⟨p1, q1, q5, q6, q7⟩

/-- What is corrected of what is shown. -/
theorem cor_is {zt zb ut ub t b : Int} (h : shwO zt zb ut ub t b = true) :
    corT zt zb ut ub (shwT zt zb ut ub t b) (shwB zt zb ut ub t b) = t ∧ corB zt zb ut ub (shwT zt zb ut ub t b) (shwB zt zb ut ub t b) = b ∧ corO zt zb ut ub (shwT zt zb ut ub t b) (shwB zt zb ut ub t b) = true := by
  obtain ⟨c2, c1, hQ, hY, ho⟩ := shown_at h
  obtain ⟨h1, h2, h3⟩ := shw_in h
  obtain ⟨g1, g2, g3⟩ := lnOk_iff.1 h1
  obtain ⟨-, -, z0, -, -⟩ := (okF_iff _ _).1 g1
  have hp := pr_ok h3
  generalize shwT zt zb ut ub t b = X at *
  generalize shwB zt zb ut ub t b = Y at *
  generalize prT ut ub t b = Pt at *
  generalize prB ut ub t b = Q at *
  have k1 : smT X Y (-zt) zb = Pt ∧ smB X Y (-zt) zb = Q ∧ smO X Y (-zt) zb = true := by
    refine sh_is (Int.mul_pos hY (by omega)) hp ?_
    have e1 : (X * zb + -zt * Y) * Q = X * (zb * Q) - zt * Q * Y := by grind
    rw [e1, c2]
    grind
  have k2 : quT Pt Q ut ub = t ∧ quB Pt Q ut ub = b ∧ quO Pt Q ut ub = true := by
    refine sh_is (Int.mul_pos hQ g3) h2 ?_
    have e1 : Pt * ub * b = Pt * (ub * b) := by grind
    rw [e1, c1]
    grind
  obtain ⟨e1, e2, e3⟩ := cor_yes (zt := zt) (zb := zb) (ut := ut) (ub := ub) (t := X) (b := Y) ⟨h1, ho, k1.2.2⟩
  rw [e1, e2, e3, k1.1, k1.2.1]
  exact k2
/-- One more. -/
theorem one_more {m n : Int} (h : Small m n) : smT m n 1 1 = m + n ∧ smB m n 1 1 = n ∧ smO m n 1 1 = true ∧ okF (m + n) n = true := by
  obtain ⟨z0, z1, z2, z3⟩ := And.intro h.t0 (And.intro h.t1 (And.intro h.b0 h.b1))
  obtain ⟨-, -, -, -, g⟩ := (okF_iff _ _).1 h.ok
  have ho : okF (m + n) n = true := (okF_iff _ _).2 ⟨by omega, by omega, by omega, by omega, by rw [Int.gcd_add_right_left_of_dvd m (Int.dvd_refl n)]; exact g⟩
  obtain ⟨k1, k2, k3⟩ := sh_is (n := m * 1 + 1 * n) (m := n * 1) (p := m + n) (q := n) (by omega) ho (by grind)
  exact ⟨k1, k2, k3, ho⟩

theorem unit_eq {X Y S V p q r s m n : Int} (hK : 0 < q * (s * n)) (d1 : S * (q * (s * n)) = (p * (s * n) + (r * m) * q) * V) (d2 : X * (q * (s * n)) = (p * (s * n) + (r * (m + n)) * q) * Y) : (X * V + -S * Y) * s = r * (Y * V) := by
  refine cancel hK ?_
  have e1 : q * (s * n) * ((X * V + -S * Y) * s) = (X * (q * (s * n))) * V * s - (S * (q * (s * n))) * Y * s := by grind
  rw [e1, d1, d2]
  grind
/-- The line through what is shown for a value and for one more. -/
theorem thr_is {p q r s m n : Int} (hz : Small p q) (hu : SmallU r s) (hv : Small m n) :
    thIn m n (shwT p q r s m n) (shwB p q r s m n) (m + n) n (shwT p q r s (m + n) n) (shwB p q r s (m + n) n) ∧
    unT m n (shwT p q r s m n) (shwB p q r s m n) (m + n) n (shwT p q r s (m + n) n) (shwB p q r s (m + n) n) = r ∧
    unB m n (shwT p q r s m n) (shwB p q r s m n) (m + n) n (shwT p q r s (m + n) n) (shwB p q r s (m + n) n) = s ∧
    zeT m n (shwT p q r s m n) (shwB p q r s m n) r s = p ∧ zeB m n (shwT p q r s m n) (shwB p q r s m n) r s = q := by
  obtain ⟨v0, v1, v2, v3⟩ := And.intro hv.t0 (And.intro hv.t1 (And.intro hv.b0 hv.b1))
  have how := (one_more hv).2.2.2
  obtain ⟨a1, a2, -⟩ := shown_small hz hu hv.ok (by omega) (by omega) v3
  obtain ⟨-, b2, -⟩ := shown_small hz hu how (by omega) (by omega) v3
  have d1 := shown_direct a2
  have d2 := shown_direct b2
  obtain ⟨c2, c1, hQ, hY, o1⟩ := shown_at a2
  obtain ⟨-, -, -, hV, o2⟩ := shown_at b2
  have hp := pr_ok a1
  have hs := hu.b0
  have hr := hu.t0
  have hq := hz.b0
  have hK : 0 < q * (s * n) := Int.mul_pos (by omega) (Int.mul_pos (by omega) (by omega))
  have hb0 : shwB p q r s m n = shwB p q r s m n := rfl
  generalize shwT p q r s m n = S at *
  generalize shwB p q r s m n = V at *
  generalize shwT p q r s (m + n) n = X at *
  generalize shwB p q r s (m + n) n = Y at *
  have k1 : smT (m + n) n (-m) n = 1 ∧ smB (m + n) n (-m) n = 1 ∧ smO (m + n) n (-m) n = true :=
    sh_is (Int.mul_pos (by omega) (by omega)) (by decide) (by grind)
  have k2 : smT X Y (-S) V = r ∧ smB X Y (-S) V = s ∧ smO X Y (-S) V = true :=
    sh_is (Int.mul_pos hV hY) hu.ok (unit_eq hK d1 d2)
  have k3 : quT r s 1 1 = r ∧ quB r s 1 1 = s ∧ quO r s 1 1 = true := sh_is (by omega) hu.ok (by grind)
  have e1 : unT m n S V (m + n) n X Y = r := by unfold unT; rw [k1.1, k1.2.1, k2.1, k2.2.1]; exact k3.1
  have e2 : unB m n S V (m + n) n X Y = s := by unfold unB; rw [k1.1, k1.2.1, k2.1, k2.2.1]; exact k3.2.1
  have e3 : unO m n S V (m + n) n X Y = true := by unfold unO; rw [k1.1, k1.2.1, k2.1, k2.2.1]; exact k3.2.2
  have k4 : zeT m n S V r s = p ∧ zeB m n S V r s = q ∧ zeO m n S V r s = true := by
    unfold zeT zeB zeO
    generalize prT r s m n = Pt at *
    generalize prB r s m n = Q at *
    refine sh_is (Int.mul_pos hY hQ) hz.ok ?_
    have f1 : (S * Q + -Pt * V) * q = S * (q * Q) - Pt * V * q := by grind
    rw [f1, c2]
    grind
  exact ⟨⟨⟨hv.ok, o1, how, o2, fun g => by omega, k1.2.2, k2.2.2⟩, e3, by rw [e1]; omega, by rw [e1, e2]; exact a1, by rw [e1, e2]; exact k4.2.2⟩, e1, e2, k4.1, k4.2.1⟩

/-- The chain of two small lines. -/
theorem ch_is {p q r s t u x y : Int} (ha : Small p q) (hb : SmallU r s) (hc : Small t u) (hd : SmallU x y) :
    chIn p q r s t u x y ∧ lnOk (shwT t u x y p q) (shwB t u x y p q) (prT x y r s) (prB x y r s) = true ∧ prT x y r s * (y * s) = (x * r) * prB x y r s ∧ 0 < prB x y r s := by
  obtain ⟨a0, a1, a2, a3⟩ := And.intro ha.t0 (And.intro ha.t1 (And.intro ha.b0 ha.b1))
  obtain ⟨b0, b1, b2, b3⟩ := And.intro hb.t0 (And.intro hb.t1 (And.intro hb.b0 hb.b1))
  obtain ⟨d0, d1, d2, d3⟩ := And.intro hd.t0 (And.intro hd.t1 (And.intro hd.b0 hd.b1))
  have m1 := yb (x := x) (y := r) 20 20 (by omega) (by omega) (by omega) (by omega)
  have m2 := yb (x := y) (y := s) 12 12 (by omega) (by omega) (by omega) (by omega)
  have m3 : 0 < y * s := Int.mul_pos (by omega) (by omega)
  have m4 : 0 < x * r := Int.mul_pos (by omega) (by omega)
  obtain ⟨p1, p2, p3, p4, -⟩ := sh_small (n := x * r) (m := y * s) 400 144 (by omega) (by omega) (by omega) (by omega) m3 (by omega)
  obtain ⟨-, s2, -⟩ := shown_small hc hd ha.ok (by omega) (by omega) a3
  obtain ⟨-, -, -, -, s3⟩ := shown_at s2
  change okF (prT x y r s) (prB x y r s) = true at p2
  change prO x y r s = true at p1
  change 0 < prB x y r s at p4
  change prT x y r s * (y * s) = (x * r) * prB x y r s at p3
  have hpos : 0 < prT x y r s := by
    have h1 : 0 < prT x y r s * (y * s) := by rw [p3]; exact Int.mul_pos m4 p4
    rcases Int.lt_or_le 0 (prT x y r s) with h | h
    · exact h
    · have := Int.mul_nonpos_of_nonpos_of_nonneg h (Int.le_of_lt m3)
      omega
  exact ⟨⟨lnOk_iff.2 ⟨ha.ok, hb.ok, by omega⟩, lnOk_iff.2 ⟨hc.ok, hd.ok, by omega⟩, p1, s2⟩, lnOk_iff.2 ⟨s3, p2, hpos⟩, p3, p4⟩

theorem first_eq {X XB S SB p q r s t u x y m n : Int} (hS : 0 < SB) (d3 : X * (u * (y * SB)) = (t * (y * SB) + (x * S) * u) * XB) (d1 : S * (q * (s * n)) = (p * (s * n) + (r * m) * q) * SB) :
    X * (u * y * (q * (s * n))) = (t * y * (q * (s * n)) + x * u * (p * (s * n) + (r * m) * q)) * XB := by
  refine cancel hS ?_
  have e1 : SB * (X * (u * y * (q * (s * n)))) = (X * (u * (y * SB))) * (q * (s * n)) := by grind
  have e2 : (t * (y * SB) + (x * S) * u) * XB * (q * (s * n)) = t * y * SB * XB * (q * (s * n)) + x * u * XB * (S * (q * (s * n))) := by grind
  rw [e1, d3, e2, d1]
  grind
theorem second_eq {Y YB cT cB cU cV p q r s t u x y m n : Int} (hB : 0 < cB) (hV : 0 < cV) (hy : 0 < y) (d4 : Y * (cB * (cV * n)) = (cT * (cV * n) + (cU * m) * cB) * YB)
    (d5 : cT * (u * (y * q)) = (t * (y * q) + (x * p) * u) * cB) (d6 : cU * (y * s) = (x * r) * cV) :
    Y * (u * y * (q * (s * n))) = (t * y * (q * (s * n)) + x * u * (p * (s * n) + (r * m) * q)) * YB := by
  refine cancel (Int.mul_pos (Int.mul_pos hB hV) hy) ?_
  have e1 : cB * cV * y * (Y * (u * y * (q * (s * n)))) = (Y * (cB * (cV * n))) * ((u * (y * q)) * (y * s)) := by grind
  have e2 : (cT * (cV * n) + (cU * m) * cB) * YB * ((u * (y * q)) * (y * s)) = (cT * (u * (y * q))) * (cV * n) * YB * (y * s) + (cU * (y * s)) * m * cB * YB * (u * (y * q)) := by grind
  rw [e1, d4, e2, d5, d6]
  grind
/-- What the chain shows, and what the second instrument shows of the first one's. -/
theorem same_is {p q r s t u x y m n : Int} (ha : Small p q) (hb : SmallU r s) (hc : Small t u) (hd : SmallU x y) (hv : Small m n)
    (h7 : shwO t u x y (shwT p q r s m n) (shwB p q r s m n) = true) (h8 : shwO (shwT t u x y p q) (shwB t u x y p q) (prT x y r s) (prB x y r s) m n = true) :
    shwT t u x y (shwT p q r s m n) (shwB p q r s m n) = shwT (shwT t u x y p q) (shwB t u x y p q) (prT x y r s) (prB x y r s) m n ∧
    shwB t u x y (shwT p q r s m n) (shwB p q r s m n) = shwB (shwT t u x y p q) (shwB t u x y p q) (prT x y r s) (prB x y r s) m n := by
  obtain ⟨v0, v1, v2, v3⟩ := And.intro hv.t0 (And.intro hv.t1 (And.intro hv.b0 hv.b1))
  obtain ⟨-, a2, -⟩ := shown_small ha hb hv.ok (by omega) (by omega) v3
  obtain ⟨hi, -, d6, hV⟩ := ch_is ha hb hc hd
  have d1 := shown_direct a2
  obtain ⟨-, -, -, hS, -⟩ := shown_at a2
  have d5 := shown_direct hi.2.2.2
  obtain ⟨-, -, -, hB, -⟩ := shown_at hi.2.2.2
  have d3 := shown_direct h7
  obtain ⟨-, -, -, -, o7⟩ := shown_at h7
  have d4 := shown_direct h8
  obtain ⟨-, -, -, -, o8⟩ := shown_at h8
  have hy := hd.b0
  have hs := hb.b0
  have hq := ha.b0
  have hu := hc.b0
  have hD : 0 < u * y * (q * (s * n)) := Int.mul_pos (Int.mul_pos (by omega) (by omega)) (Int.mul_pos (by omega) (Int.mul_pos (by omega) (by omega)))
  have k1 := first_eq hS d3 d1
  have k2 := second_eq hB hV (by omega) d4 d5 d6
  refine ok_same o7 o8 (cancel hD ?_)
  generalize u * y * (q * (s * n)) = D at *
  generalize t * y * (q * (s * n)) + x * u * (p * (s * n) + (r * m) * q) = N at *
  generalize shwT t u x y (shwT p q r s m n) (shwB p q r s m n) = X at *
  generalize shwB t u x y (shwT p q r s m n) (shwB p q r s m n) = XB at *
  generalize shwT (shwT t u x y p q) (shwB t u x y p q) (prT x y r s) (prB x y r s) m n = Y at *
  generalize shwB (shwT t u x y p q) (shwB t u x y p q) (prT x y r s) (prB x y r s) m n = YB at *
  have e1 : D * (X * YB) = X * D * YB := by grind
  have e2 : D * (Y * XB) = Y * D * XB := by grind
  rw [e1, e2, k1, k2]
  grind
end Go.Proofs.Ytploanbnbkhciaa
