/-
  The contracts of the program's answers on payable amounts. Only new memory is written.
-/
import Derived.Test.YtajocneggcofgaaImplNone
import Derived.BigQuiet
import Derived.BigRegion
import Derived.Lib.Hide
namespace Go.Proofs.Ytajocneggcofgaa
open Go.ChangeShapes Go.WideShapes Go.ChangeAt Go.RowKit Go.PlainAid

theorem payB_no {L : List Int} {m : Int} (h : ¬ (pursB L = true ∧ (0 ≤ m ∧ m ≤ 1000))) : payA L m = false := by
  unfold payA
  cases e : pursB L
  · rfl
  · rw [decide_eq_false fun g => h ⟨e, g⟩]; rfl
theorem payB_yes {L : List Int} {r : Nat} (h : pursB L = true) (hr : r ≤ 1000) : payA L (r : Int) = payB L r := by
  unfold payA
  rw [h, decide_eq_true ⟨by omega, by omega⟩]
  show payB L ((r : Int)).toNat = _
  rw [Int.toNat_natCast]
theorem exB_no {L : List Int} {m : Int} (h : ¬ (pursB L = true ∧ (-1000 ≤ m ∧ m ≤ 1000))) : exA L m = false := by
  unfold exA
  cases e : pursB L
  · rfl
  · rw [decide_eq_false fun g => h ⟨e, g⟩]; rfl
theorem exB_yes {L : List Int} {m : Int} (h : pursB L = true) (hr : -1000 ≤ m ∧ m ≤ 1000) : exA L m = decide (m.tmod (dv L) = 0) := by
  unfold exA
  rw [h, decide_eq_true hr]; rfl

theorem implPay_any (A : Option Addr) (c n : Nat) (m : Int) (L : List Int) (w : World) (hn : L.length = n) (hm : n ≤ 1000000000) (h : IntRow w A L) :
    Calls Try.prog 15 #[.slice A n c, .int .i64 m] w (SaysB (payA L m) w) := by
  have hS := implPurse_any A c n L w hn hm h
  obtain ⟨X, hX⟩ : ∃ X, payA L m = X := ⟨_, rfl⟩
  rw [hX]
  replace hX := Lib.hid hX
  go_enter Try.func15, Try.ntmps15
  go_wp2_with fail
  refine hS.mono ?_
  clear hS
  rintro e w1 ⟨rfl, q, rfl⟩
  have kb := below_drewN (Below.refl w.heap.size w) q
  replace h := h.keep kb
  generalize w.drewN q = w1 at kb h ⊢
  rcases hb : pursB L with _ | _
  · have hX0 : X = false := hX.out.symm.trans (payB_no (by rw [hb]; simp))
    subst hX0
    clear hb hX h
    go_wp2_with fail
    go_ret
    exact ⟨rfl, kb⟩
  · by_cases g : 0 ≤ m ∧ m ≤ 1000
    · obtain ⟨r, rfl⟩ : ∃ r : Nat, m = (r : Int) := ⟨m.toNat, by omega⟩
      have hT := implTable_any A c n r L w1 (pursB_P hb) hn (by omega) h
      have hX1 := Lib.hid (hX.out.symm.trans (payB_yes hb (by omega)))
      have g1 : ¬ (r : Int) < 0 := by omega
      have g2 : ¬ 1000 < (r : Int) := by omega
      have hrM : (r : Int) < (r : Int) + 1 := by omega
      have hrM2 : (r : Int) < ((r + 1 : Nat) : Int) := by omega
      clear hb hX h g
      go_wp2_with fail
      refine hT.mono ?_
      clear hT
      rintro e w3 ⟨g, d, rfl, hd, B, b⟩
      obtain ⟨-, hc⟩ := B r (by omega)
      rw [← hX1.out] at hc
      replace kb := below_more kb kb.size b
      clear B b
      go_wp2_with fail
      go_ret
      exact ⟨rfl, kb⟩
    · have hX0 : X = false := hX.out.symm.trans (payB_no fun k => g k.2)
      subst hX0
      clear hb hX h
      by_cases g1 : m < 0
      · clear g
        go_wp2_with fail
        go_ret
        exact ⟨rfl, kb⟩
      · have g2 : 1000 < m := by omega
        clear g
        go_wp2_with fail
        go_ret
        exact ⟨rfl, kb⟩

theorem implExact_any (A : Option Addr) (c n : Nat) (m : Int) (L : List Int) (w : World) (hn : L.length = n) (hm : n ≤ 1000000000) (h : IntRow w A L) :
    Calls Try.prog 17 #[.slice A n c, .int .i64 m] w (SaysB (exA L m) w) := by
  have hS := implPurse_any A c n L w hn hm h
  obtain ⟨X, hX⟩ : ∃ X, exA L m = X := ⟨_, rfl⟩
  rw [hX]
  replace hX := Lib.hid hX
  go_enter Try.func17, Try.ntmps17
  go_wp2_with fail
  refine hS.mono ?_
  clear hS
  rintro e w1 ⟨rfl, q, rfl⟩
  have kb := below_drewN (Below.refl w.heap.size w) q
  replace h := h.keep kb
  generalize w.drewN q = w1 at kb h ⊢
  rcases hb : pursB L with _ | _
  · have hX0 : X = false := hX.out.symm.trans (exB_no (by rw [hb]; simp))
    subst hX0
    clear hb hX h
    go_wp2_with fail
    go_ret
    exact ⟨rfl, kb⟩
  · by_cases g : -1000 ≤ m ∧ m ≤ 1000
    · have hD := implDiv_any A c n L w1 hn hm h
      rw [divA_yes hb] at hD
      have hX1 := Lib.hid (hX.out.symm.trans (exB_yes hb g))
      have d1 := (pursB_P hb).dv_pos
      have g1 : ¬ m < -1000 := by omega
      have g2 : ¬ 1000 < m := by omega
      clear hb hX h
      generalize dv L = d at hD hX1 d1
      have dn : ¬ (d : Int) = 0 := by omega
      go_wp2_with fail
      refine hD.mono ?_
      clear hD
      rintro e w3 ⟨rfl, b⟩
      replace kb := below_more kb kb.size b
      clear b
      go_wp2_with fail
      go_ret
      exact ⟨by rw [hX1.out]; rfl, kb⟩
    · have hX0 : X = false := hX.out.symm.trans (exB_no fun k => g k.2)
      subst hX0
      clear hb hX h
      by_cases g1 : m < -1000
      · clear g
        go_wp2_with fail
        go_ret
        exact ⟨rfl, kb⟩
      · have g2 : 1000 < m := by omega
        clear g
        go_wp2_with fail
        go_ret
        exact ⟨rfl, kb⟩

theorem implLargest_any (A : Option Addr) (c n : Nat) (L : List Int) (w : World) (hn : L.length = n) (hm : n ≤ 1000000000) (h : IntRow w A L) :
    Calls Try.prog 13 #[.slice A n c] w (SaysI (lrgA L) w) := by
  have hS := implDiv_any A c n L w hn hm h
  obtain ⟨X, hX⟩ : ∃ X, lrgA L = X := ⟨_, rfl⟩
  rw [hX]
  replace hX := Lib.hid hX
  obtain ⟨d, hd⟩ : ∃ d, divA L = d := ⟨_, rfl⟩
  rw [hd] at hS
  go_enter Try.func13, Try.ntmps13
  go_wp2_with fail
  refine hS.mono ?_
  clear hS
  rintro e w1 ⟨rfl, kb⟩
  replace h := h.keep kb
  by_cases h1 : d = 1
  · have hX1 := hX.out
    unfold lrgA at hX1
    rw [if_pos (hd.trans h1)] at hX1
    obtain ⟨hP, hv⟩ := divA_one (hd.trans h1)
    have hT := implNone_any A c n L w1 hP hn h
    obtain ⟨f1, -⟩ := far_same hP hv
    have c0 := hP.coin (k := 0) (by have := hP.1; omega)
    have cl := hP.coin (k := L.length - 1) (by have := hP.1; omega)
    have hprod : 2 * 2 ≤ cn L 0 * cn L (L.length - 1) := Nat.mul_le_mul c0.2.1 cl.2.1
    have hprod2 : cn L 0 * cn L (L.length - 1) ≤ 20 * 20 := Nat.mul_le_mul c0.2.2 cl.2.2
    rw [f1] at hX1
    generalize cn L 0 * cn L (L.length - 1) = T at hT hX1 hprod hprod2
    have hpos := cntP_pos (payB_one hP) (T + 1) (by omega)
    have hlast := noP_last (payB L) (T + 1) hpos
    rw [hX1] at hlast
    have hlen := noP_length (payB L) (T + 1)
    generalize noP (payB L) (T + 1) = Y at hT hlast hlen
    obtain ⟨s, hs⟩ : ∃ s, cntP (payB L) (T + 1) = s + 1 := ⟨_, (Nat.succ_pred_eq_of_pos hpos).symm⟩
    rw [hs, Nat.add_sub_cancel] at hlast
    rw [hs] at hlen
    subst h1
    clear hX h hd hP hv f1 c0 cl hprod hX1 hpos
    have hT2 := hT.mono (R' := fun e w' => ∃ x d, e = .returned (.slice (some x) (s + 1) d) ∧ w'.cell? (x.add s) = some (.int .i64 X) ∧ Below w1.heap.size w1 w') fun e w2 hC => by
      obtain ⟨B, d2, rfl, o, b⟩ := hC
      obtain ⟨x, rfl, -, hx⟩ := intRow_own o s (by omega)
      rw [hlast] at hx
      rw [hlen]
      exact ⟨x, d2, rfl, hx, b⟩
    have hs5 : s ≤ 401 := by have := cntP_le (payB L) (T + 1); omega
    have hsi : (s : Int) + 1 - 1 = (s : Int) := by omega
    have hsl : (s : Int) < (s : Int) + 1 := by omega
    clear hT hlast hlen hs hprod2
    go_wp2_with fail
    refine hT2.mono ?_
    clear hT2
    rintro e w2 ⟨x, d2, rfl, hx, b⟩
    replace kb := below_more kb kb.size b
    clear b
    go_wp2_with fail
    go_ret
    exact ⟨rfl, kb⟩
  · have hX0 : X = -1 := by
      have := hX.out
      unfold lrgA at this
      rw [if_neg (by rw [hd]; exact h1)] at this
      exact this.symm
    subst hX0
    have hd2 : (d != 1) = true := by simp [h1]
    clear hX h hd
    go_wp2_with fail
    go_ret
    exact ⟨rfl, kb⟩

theorem implCountNo_any (A : Option Addr) (c n : Nat) (L : List Int) (w : World) (hn : L.length = n) (hm : n ≤ 1000000000) (h : IntRow w A L) :
    Calls Try.prog 14 #[.slice A n c] w (SaysI (cuA L) w) := by
  have hS := implDiv_any A c n L w hn hm h
  obtain ⟨X, hX⟩ : ∃ X, cuA L = X := ⟨_, rfl⟩
  rw [hX]
  replace hX := Lib.hid hX
  obtain ⟨d, hd⟩ : ∃ d, divA L = d := ⟨_, rfl⟩
  rw [hd] at hS
  go_enter Try.func14, Try.ntmps14
  go_wp2_with fail
  refine hS.mono ?_
  clear hS
  rintro e w1 ⟨rfl, kb⟩
  replace h := h.keep kb
  by_cases h1 : d = 1
  · have hX1 := hX.out
    unfold cuA at hX1
    rw [if_pos (hd.trans h1)] at hX1
    obtain ⟨hP, hv⟩ := divA_one (hd.trans h1)
    have hT := implNone_any A c n L w1 hP hn h
    obtain ⟨-, f1⟩ := far_same hP hv
    rw [f1, ← noP_length] at hX1
    generalize noP (payB L) (cn L 0 * cn L (L.length - 1) + 1) = Y at hT hX1
    subst h1
    clear hX h hd hP hv f1
    replace hX1 := Lib.hid hX1
    go_wp2_with fail
    refine hT.mono ?_
    clear hT
    rintro e w2 ⟨B, d2, rfl, o, b⟩
    replace kb := below_more kb kb.size b
    clear o b
    have hX2 : (Y.length : Int) = X := hX1.out
    generalize Y.length = s at hX2 ⊢
    replace hX2 := Lib.hid hX2
    clear hX1
    go_wp2_with fail
    go_ret
    exact ⟨ret_int hX2.out, kb⟩
  · have hX0 : X = -1 := by
      have := hX.out
      unfold cuA at this
      rw [if_neg (by rw [hd]; exact h1)] at this
      exact this.symm
    subst hX0
    have hd2 : (d != 1) = true := by simp [h1]
    clear hX h hd
    go_wp2_with fail
    go_ret
    exact ⟨rfl, kb⟩
end Go.Proofs.Ytajocneggcofgaa
