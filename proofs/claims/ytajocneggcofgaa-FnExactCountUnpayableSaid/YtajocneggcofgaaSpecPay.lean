/-
  The contracts of the model's answers on payable amounts. Only new memory is written.
-/
import Derived.Test.YtajocneggcofgaaSpecTable
import Derived.BigQuiet
import Derived.BigRegion
import Derived.Lib.Hide
namespace Go.Proofs.Ytajocneggcofgaa
open Go.ChangeShapes Go.WideShapes Go.ChangeAt Go.RowKit Go.PlainAid

theorem payA_no {L : List Int} {m : Int} (h : ¬ (pursB L = true ∧ (0 ≤ m ∧ m ≤ 1000))) : payA L m = false := by
  unfold payA
  cases e : pursB L
  · rfl
  · rw [decide_eq_false fun g => h ⟨e, g⟩]; rfl
theorem payA_yes {L : List Int} {r : Nat} (h : pursB L = true) (hr : r ≤ 1000) : payA L (r : Int) = payB L r := by
  unfold payA
  rw [h, decide_eq_true ⟨by omega, by omega⟩]
  show payB L ((r : Int)).toNat = _
  rw [Int.toNat_natCast]
theorem exA_no {L : List Int} {m : Int} (h : ¬ (pursB L = true ∧ (-1000 ≤ m ∧ m ≤ 1000))) : exA L m = false := by
  unfold exA
  cases e : pursB L
  · rfl
  · rw [decide_eq_false fun g => h ⟨e, g⟩]; rfl
theorem exA_yes {L : List Int} {m : Int} (h : pursB L = true) (hr : -1000 ≤ m ∧ m ≤ 1000) : exA L m = decide (m.tmod (dv L) = 0) := by
  unfold exA
  rw [h, decide_eq_true hr]; rfl

theorem specPay_any (A : Option Addr) (c n : Nat) (m : Int) (L : List Int) (w : World) (hn : L.length = n) (hm : n ≤ 1000000000) (h : IntRow w A L) :
    Calls Try.prog 23 #[.slice A n c, .int .i64 m] w (SaysB (payA L m) w) := by
  have hS := specPurse_any A c n L w hn hm h
  obtain ⟨X, hX⟩ : ∃ X, payA L m = X := ⟨_, rfl⟩
  rw [hX]
  replace hX := Lib.hid hX
  go_enter Try.func23, Try.ntmps23
  go_wp2_with fail
  refine hS.mono ?_
  clear hS
  rintro e w1 ⟨rfl, q, rfl⟩
  have kb := below_drewN (Below.refl w.heap.size w) q
  replace h := h.keep kb
  generalize w.drewN q = w1 at kb h ⊢
  rcases hb : pursB L with _ | _
  · have hX0 : X = false := hX.out.symm.trans (payA_no (by rw [hb]; simp))
    subst hX0
    clear hb hX h
    go_wp2_with fail
    go_ret
    exact ⟨rfl, kb⟩
  · have hI := in_any m 0 1000 w1
    by_cases g : 0 ≤ m ∧ m ≤ 1000
    · rw [decide_eq_true g] at hI
      obtain ⟨r, rfl⟩ : ∃ r : Nat, m = (r : Int) := ⟨m.toNat, by omega⟩
      have hT := specTable_any A c n r L w1 (pursB_P hb) hn (by omega) h
      have hX1 := Lib.hid (hX.out.symm.trans (payA_yes hb (by omega)))
      have hrM : (r : Int) < (r : Int) + 1 := by omega
      have hrM2 : (r : Int) < ((r + 1 : Nat) : Int) := by omega
      replace hT := Lib.hid hT
      clear hb hX h
      go_wp2_with fail
      refine hI.mono ?_
      clear hI
      rintro e w2 ⟨rfl, rfl⟩
      have hT2 := hT.out
      clear hT
      go_wp2_with fail
      refine hT2.mono ?_
      clear hT2
      rintro e w3 ⟨g, d, rfl, hd, B, b⟩
      obtain ⟨-, hc⟩ := B r (by omega)
      rw [← hX1.out] at hc
      replace kb := below_more kb kb.size b
      clear B b
      go_wp2_with fail
      go_ret
      exact ⟨rfl, kb⟩
    · rw [decide_eq_false g] at hI
      have hX0 : X = false := hX.out.symm.trans (payA_no fun k => g k.2)
      subst hX0
      clear hb hX h g
      go_wp2_with fail
      refine hI.mono ?_
      clear hI
      rintro e w2 ⟨rfl, rfl⟩
      go_wp2_with fail
      go_ret
      exact ⟨rfl, kb⟩

theorem specExact_any (A : Option Addr) (c n : Nat) (m : Int) (L : List Int) (w : World) (hn : L.length = n) (hm : n ≤ 1000000000) (h : IntRow w A L) :
    Calls Try.prog 26 #[.slice A n c, .int .i64 m] w (SaysB (exA L m) w) := by
  have hS := specPurse_any A c n L w hn hm h
  obtain ⟨X, hX⟩ : ∃ X, exA L m = X := ⟨_, rfl⟩
  rw [hX]
  replace hX := Lib.hid hX
  go_enter Try.func26, Try.ntmps26
  go_wp2_with fail
  refine hS.mono ?_
  clear hS
  rintro e w1 ⟨rfl, q, rfl⟩
  have kb := below_drewN (Below.refl w.heap.size w) q
  replace h := h.keep kb
  generalize w.drewN q = w1 at kb h ⊢
  rcases hb : pursB L with _ | _
  · have hX0 : X = false := hX.out.symm.trans (exA_no (by rw [hb]; simp))
    subst hX0
    clear hb hX h
    go_wp2_with fail
    go_ret
    exact ⟨rfl, kb⟩
  · have hI := in_any m (-1000) 1000 w1
    by_cases g : -1000 ≤ m ∧ m ≤ 1000
    · rw [decide_eq_true g] at hI
      have hD := specDiv_any A c n L w1 hn hm h
      rw [divA_yes hb] at hD
      have hX1 := Lib.hid (hX.out.symm.trans (exA_yes hb g))
      have d1 := (pursB_P hb).dv_pos
      replace hD := Lib.hid hD
      clear hb hX h
      go_wp2_with fail
      refine hI.mono ?_
      clear hI
      rintro e w2 ⟨rfl, rfl⟩
      have hD2 := hD.out
      clear hD
      generalize dv L = d at hD2 hX1 d1
      have dn : ¬ (d : Int) = 0 := by omega
      go_wp2_with fail
      refine hD2.mono ?_
      clear hD2
      rintro e w3 ⟨rfl, b⟩
      replace kb := below_more kb kb.size b
      clear b
      go_wp2_with fail
      go_ret
      exact ⟨by rw [hX1.out]; rfl, kb⟩
    · rw [decide_eq_false g] at hI
      have hX0 : X = false := hX.out.symm.trans (exA_no fun k => g k.2)
      subst hX0
      clear hb hX h g
      go_wp2_with fail
      refine hI.mono ?_
      clear hI
      rintro e w2 ⟨rfl, rfl⟩
      go_wp2_with fail
      go_ret
      exact ⟨rfl, kb⟩

theorem specLargest_any (A : Option Addr) (c n : Nat) (L : List Int) (w : World) (hn : L.length = n) (hm : n ≤ 1000000000) (h : IntRow w A L) :
    Calls Try.prog 24 #[.slice A n c] w (SaysI (lrgA L) w) := by
  have hS := specDiv_any A c n L w hn hm h
  obtain ⟨X, hX⟩ : ∃ X, lrgA L = X := ⟨_, rfl⟩
  rw [hX]
  replace hX := Lib.hid hX
  obtain ⟨d, hd⟩ : ∃ d, divA L = d := ⟨_, rfl⟩
  rw [hd] at hS
  go_enter Try.func24, Try.ntmps24
  go_wp2_with fail
  refine hS.mono ?_
  clear hS
  rintro e w1 ⟨rfl, kb⟩
  replace h := h.keep kb
  by_cases h1 : d = 1
  · have hX1 := hX.out
    unfold lrgA at hX1
    rw [if_pos (hd.trans h1)] at hX1
    replace hX1 := Lib.hid hX1
    have hP := (divA_one (hd.trans h1)).1
    have hT := specTable_any A c n 400 L w1 hP hn (by omega) h
    subst h1
    clear hX h hd hP
    go_wp2_with fail
    refine hT.mono ?_
    clear hT
    rintro e w2 ⟨g, cb, rfl, hcb, B, b⟩
    replace B : BRow w2 g 401 (payB L) := B
    replace kb := below_more kb kb.size b
    clear b
    go_wp2_with fail
    go_loopw [4, 5] (fun v i wr => ∃ k : Nat, k ≤ 401 ∧ i = .int .i64 k ∧ v = .int .i64 (lastP (payB L) k) ∧ wr = w2) (fun _ i _ => 401 - (intOf i).toNat)
    case atStart => exact ⟨0, by omega, rfl, rfl, rfl⟩
    case round =>
      obtain ⟨k, hk, rfl, rfl, rfl⟩ := hrel
      by_cases hlt : k < 401
      · obtain ⟨-, hc⟩ := B k hlt
        have hki : (k : Int) ≤ 400 := by omega
        have hki2 : (k : Int) < ((401 : Nat) : Int) := by omega
        have e : lastP (payB L) (k + 1) = if payB L k then lastP (payB L) k else (k : Int) := rfl
        clear B
        rcases hp : payB L k with _ | _
        · rw [hp] at hc e
          rw [if_neg (by decide)] at e
          replace e := Lib.hid e
          clear hp
          go_wp2_with fail
          go_roundw
          case rel => exact ⟨k + 1, by omega, by go_num, by rw [e.out], trivial⟩
          case measure => simp [intOf]; omega
        · rw [hp] at hc e
          rw [if_pos rfl] at e
          replace e := Lib.hid e
          clear hp
          go_wp2_with fail
          go_roundw
          case rel => exact ⟨k + 1, by omega, by go_num, by rw [e.out], trivial⟩
          case measure => simp [intOf]; omega
      · obtain rfl : k = 401 := by omega
        rw [hX1.out]
        clear B
        go_wp2_with fail
        go_ret
        exact ⟨rfl, kb⟩
  · have hX0 : X = -1 := by
      have := hX.out
      unfold lrgA at this
      rw [if_neg (by rw [hd]; exact h1)] at this
      exact this.symm
    subst hX0
    have hd2 : (d != 1) = true := by simp [h1]
    clear hX h hd
    go_wp2_with fail
    go_ret
    exact ⟨rfl, kb⟩

theorem specCountNo_any (A : Option Addr) (c n : Nat) (L : List Int) (w : World) (hn : L.length = n) (hm : n ≤ 1000000000) (h : IntRow w A L) :
    Calls Try.prog 25 #[.slice A n c] w (SaysI (cuA L) w) := by
  have hS := specDiv_any A c n L w hn hm h
  obtain ⟨X, hX⟩ : ∃ X, cuA L = X := ⟨_, rfl⟩
  rw [hX]
  replace hX := Lib.hid hX
  obtain ⟨d, hd⟩ : ∃ d, divA L = d := ⟨_, rfl⟩
  rw [hd] at hS
  go_enter Try.func25, Try.ntmps25
  go_wp2_with fail
  refine hS.mono ?_
  clear hS
  rintro e w1 ⟨rfl, kb⟩
  replace h := h.keep kb
  by_cases h1 : d = 1
  · have hX1 := hX.out
    unfold cuA at hX1
    rw [if_pos (hd.trans h1)] at hX1
    replace hX1 := Lib.hid hX1
    have hP := (divA_one (hd.trans h1)).1
    have hT := specTable_any A c n 400 L w1 hP hn (by omega) h
    subst h1
    clear hX h hd hP
    go_wp2_with fail
    refine hT.mono ?_
    clear hT
    rintro e w2 ⟨g, cb, rfl, hcb, B, b⟩
    replace B : BRow w2 g 401 (payB L) := B
    replace kb := below_more kb kb.size b
    clear b
    go_wp2_with fail
    go_loopw [4, 5] (fun v i wr => ∃ k : Nat, k ≤ 401 ∧ i = .int .i64 k ∧ v = .int .i64 (cntP (payB L) k) ∧ wr = w2) (fun _ i _ => 401 - (intOf i).toNat)
    case atStart => exact ⟨0, by omega, rfl, rfl, rfl⟩
    case round =>
      obtain ⟨k, hk, rfl, rfl, rfl⟩ := hrel
      by_cases hlt : k < 401
      · obtain ⟨-, hc⟩ := B k hlt
        have hki : (k : Int) ≤ 400 := by omega
        have hki2 : (k : Int) < ((401 : Nat) : Int) := by omega
        have e : cntP (payB L) (k + 1) = if payB L k then cntP (payB L) k else cntP (payB L) k + 1 := rfl
        have hle := cntP_le (payB L) k
        clear B
        rcases hp : payB L k with _ | _
        · rw [hp] at hc e
          rw [if_neg (by decide)] at e
          replace e := Lib.hid e
          clear hp
          generalize cntP (payB L) k = s at hle e ⊢
          go_wp2_with fail
          go_roundw
          case rel => exact ⟨k + 1, by omega, by go_num, by rw [e.out]; go_num, trivial⟩
          case measure => simp [intOf]; omega
        · rw [hp] at hc e
          rw [if_pos rfl] at e
          replace e := Lib.hid e
          clear hp
          generalize cntP (payB L) k = s at hle e ⊢
          go_wp2_with fail
          go_roundw
          case rel => exact ⟨k + 1, by omega, by go_num, by rw [e.out], trivial⟩
          case measure => simp [intOf]; omega
      · obtain rfl : k = 401 := by omega
        rw [hX1.out]
        clear B
        go_wp2_with fail
        go_ret
        exact ⟨rfl, kb⟩
  · have hX0 : X = -1 := by
      have := hX.out
      unfold cuA at this
      rw [if_neg (by rw [hd]; exact h1)] at this
      exact this.symm
    subst hX0
    have hd2 : (d != 1) = true := by simp [h1]
    clear hX h hd
    go_wp2_with fail
    go_ret
    exact ⟨rfl, kb⟩
end Go.Proofs.Ytajocneggcofgaa
