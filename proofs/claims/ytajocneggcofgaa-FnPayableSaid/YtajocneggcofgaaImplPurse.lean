/-
  The contracts of the program's check of a purse and of its common divisor. Nothing is written.
-/
import Derived.Test.YtajocneggcofgaaPurse
import Derived.Test.YtajocneggcofgaaAsc
import Derived.Test.YtajocneggcofgaaGcd
import Derived.BigQuiet
import Derived.Lib.Hide
namespace Go.Proofs.Ytajocneggcofgaa
open Go.ChangeShapes Go.WideShapes Go.ChangeAt Go.RowKit Go.PlainAid

theorem pursB_asc {L : List Int} (h0 : 1 ≤ L.length ∧ L.length ≤ 4) : pursB L = (ascB L && (decide (2 ≤ L.getD 0 0) && decide (L.getD (L.length - 1) 0 ≤ 20))) := by
  rw [Bool.eq_iff_iff, Bool.and_eq_true, Bool.and_eq_true, decide_eq_true_iff, decide_eq_true_iff]
  constructor
  · intro h
    have hP := pursB_P h
    exact ⟨decide_eq_true fun j hj g => (hP.2 j hj).2 g, (hP.2 0 (by omega)).1.1, (hP.2 (L.length - 1) (by omega)).1.2⟩
  · intro ⟨h, h1, hl⟩
    exact decide_eq_true (pursP_ends h0 (fun j g hj => (of_decide_eq_true h : AscP L) j hj g) h1 hl)
theorem implPurse_any (A : Option Addr) (c n : Nat) (L : List Int) (w : World) (hn : L.length = n) (hm : n ≤ 1000000000) (h : IntRow w A L) :
    Calls Try.prog 20 #[.slice A n c] w (Quiet (pursB L) w) := by
  have hA := implAsc_any A c n L w hn hm h
  obtain ⟨b, hb⟩ : ∃ b, pursB L = b := ⟨_, rfl⟩
  rw [hb]
  replace hb := Lib.hid hb
  by_cases hl : 1 ≤ L.length ∧ L.length ≤ 4
  · obtain ⟨x, rfl, -, hx⟩ := h 0 (by omega)
    rw [addr_add_nil] at hx
    have g1 : ¬ (n : Int) < 1 := by omega
    have g2 : ¬ 4 < (n : Int) := by omega
    have g0 : (0 : Int) < n := by omega
    have hbb := hb.out
    rw [pursB_asc hl] at hbb
    obtain ⟨p, hp⟩ : ∃ p, n = p + 1 := ⟨n - 1, by omega⟩
    have hpi : (n : Int) - 1 = (p : Int) := by omega
    have hpn : (p : Int) < n := by omega
    rw [show L.length - 1 = p by omega] at hbb
    replace hbb := Lib.hid hbb
    go_enter Try.func20, Try.ntmps20
    clear hb hp
    go_wp2_with fail
    refine hA.mono ?_
    clear hA
    rintro e w1 ⟨rfl, q, rfl⟩
    rcases ha : ascB L with _ | _
    · have hbb2 := hbb.out
      rw [ha, Bool.false_and] at hbb2
      subst hbb2
      clear hbb h ha hx
      go_wp2_with fail
      go_ret
      exact ⟨rfl, q, rfl⟩
    · have hbb2 := hbb.out
      rw [ha, Bool.true_and] at hbb2
      replace h := h.keep (below_drewN (Below.refl w.heap.size w) q)
      replace hx : (w.drewN q).cell? x = some (.int .i64 (L.getD 0 0)) := hx
      obtain ⟨x', hxx, -, hy⟩ := h p (by omega)
      injection hxx with hxx
      subst hxx
      have hq : Hid (∃ p, w.drewN q = w.drewN p) := ⟨q, rfl⟩
      clear hbb h ha
      generalize L.getD p 0 = z at hy hbb2
      generalize L.getD 0 0 = y at hx hbb2
      generalize w.drewN q = w2 at hx hy hq ⊢
      by_cases g3 : 2 ≤ y
      · rw [decide_eq_true g3, Bool.true_and] at hbb2
        by_cases g : z ≤ 20
        · obtain rfl : b = true := hbb2.symm.trans (decide_eq_true g)
          have hd : decide (z ≤ 20) = true := decide_eq_true g
          clear hbb2
          go_wp2_with fail
          go_ret
          exact ⟨by first | rfl | (rw [← hd]; rfl), hq.out⟩
        · obtain rfl : b = false := hbb2.symm.trans (decide_eq_false g)
          have hd : decide (z ≤ 20) = false := decide_eq_false g
          clear hbb2
          go_wp2_with fail
          go_ret
          exact ⟨by first | rfl | (rw [← hd]; rfl), hq.out⟩
      · obtain rfl : b = false := hbb2.symm.trans (by rw [decide_eq_false g3]; rfl)
        have hd : decide (2 ≤ y) = false := decide_eq_false g3
        clear hbb2
        go_wp2_with fail
        go_ret
        exact ⟨by first | rfl | (rw [← hd]; rfl), hq.out⟩
  · obtain rfl : b = false := hb.out.symm.trans (pursB_len hl)
    clear hb h hA
    by_cases g1 : (n : Int) < 1
    · go_enter Try.func20, Try.ntmps20
      go_wp2_with fail
      go_ret
      exact ⟨rfl, 0, rfl⟩
    · have g2 : 4 < (n : Int) := by omega
      go_enter Try.func20, Try.ntmps20
      go_wp2_with fail
      go_ret
      exact ⟨rfl, 0, rfl⟩

theorem implDiv_any (A : Option Addr) (c n : Nat) (L : List Int) (w : World) (hn : L.length = n) (hm : n ≤ 1000000000) (h : IntRow w A L) :
    Calls Try.prog 16 #[.slice A n c] w (SaysI (divA L) w) := by
  have hS := implPurse_any A c n L w hn hm h
  obtain ⟨X, hX⟩ : ∃ X, divA L = X := ⟨_, rfl⟩
  rw [hX]
  replace hX := Lib.hid hX
  go_enter Try.func16, Try.ntmps16
  go_wp2_with fail
  refine hS.mono ?_
  clear hS
  rintro e w1 ⟨rfl, q, rfl⟩
  have kb := below_drewN (Below.refl w.heap.size w) q
  replace h := h.keep kb
  generalize w.drewN q = w1 at kb h ⊢
  rcases hb : pursB L with _ | _
  · have hX0 : X = 0 := hX.out.symm.trans (divA_no hb)
    subst hX0
    clear hb hX h
    go_wp2_with fail
    go_ret
    exact ⟨rfl, kb⟩
  · have hP := pursB_P hb
    have hX1 := hX.out.symm.trans (divA_yes hb)
    have hX2 := Lib.hid hX1
    have hn4 := hP.1
    rw [hn] at hn4
    have hc := Lib.hid fun (k : Nat) (hk : k < n) => hP.coin (k := k) (by omega)
    have hl := Lib.hid fun (k : Nat) (hk : k ≤ n) => hP.gcdTo_le k (by omega)
    clear hX hX1 hP hb
    go_wp2_with fail
    go_loopw [3, 11] (fun d i wr => ∃ k : Nat, k ≤ n ∧ i = .int .i64 k ∧ d = .int .i64 (gcdTo L k) ∧ Below w1.heap.size w1 wr) (fun _ i _ => n - (intOf i).toNat)
    case atStart => exact ⟨0, by omega, rfl, rfl, Below.refl _ _⟩
    case round =>
      obtain ⟨k, hk, rfl, rfl, kb1⟩ := hrel
      have hg := hl.out k hk
      by_cases hlt : k < n
      · obtain ⟨x, rfl, hx0, hx⟩ := h k (by omega)
        obtain ⟨c1, c2, c3⟩ := hc.out k hlt
        rw [c1] at hx
        replace hx := (kb1.cell (by rw [addr_add_block]; exact hx0)).trans hx
        have hG := fun W => implGcd_any (gcdTo L k) (cn L k) W (by omega) (by omega) (by omega) (by omega)
        have e : (Int.gcd (gcdTo L k : Int) (cn L k : Int) : Int) = (gcdTo L (k + 1) : Nat) := gcd_cast _ _
        rw [e] at hG
        have hki : (k : Int) < n := by omega
        clear c1 e hx0
        obtain ⟨g2, hg2⟩ : ∃ g2, gcdTo L (k + 1) = g2 := ⟨_, rfl⟩
        rw [hg2] at hG
        replace hg2 := Lib.hid hg2
        generalize gcdTo L k = g1 at hg hG ⊢
        generalize cn L k = c1 at c2 c3 hG hx
        go_wp2_with fail
        refine (hG _).mono ?_
        clear hG hx
        rintro e w3 ⟨rfl, b⟩
        replace kb1 := below_more kb1 kb1.size b
        clear b
        go_wp2_with fail
        go_roundw
        case rel => exact ⟨k + 1, by omega, by go_num, by rw [hg2.out], kb1⟩
        case measure => simp [intOf]; omega
      · obtain rfl : k = n := by omega
        have e := hX2.out
        unfold dv at e
        rw [hn] at e
        subst e
        have hki : ¬ (k : Int) < k := by omega
        replace kb := below_more kb kb.size kb1
        clear h
        go_wp2_with fail
        go_ret
        exact ⟨rfl, kb⟩
end Go.Proofs.Ytajocneggcofgaa
