/-
  The contracts of the model's check of a purse and of its common divisor. Nothing is written.
-/
import Derived.Test.YtajocneggcofgaaPurse
import Derived.Test.YtajocneggcofgaaRange
import Derived.Test.YtajocneggcofgaaGcd
import Derived.BigQuiet
import Derived.Lib.Hide
namespace Go.Proofs.Ytajocneggcofgaa
open Go.ChangeShapes Go.WideShapes Go.ChangeAt Go.RowKit Go.PlainAid

theorem specPurse_any (A : Option Addr) (c n : Nat) (L : List Int) (w : World) (hn : L.length = n) (hm : n ≤ 1000000000) (h : IntRow w A L) :
    Calls Try.prog 18 #[.slice A n c] w (Quiet (pursB L) w) := by
  have hno : ∀ j, j < n → ¬ FineQ L j → pursB L = false := fun j hj => pursB_no (by omega)
  go_enter Try.func18, Try.ntmps18
  go_wp2
  go_loopw [3] (fun i wr => ∃ k q : Nat, k ≤ n ∧ i = .int .i64 k ∧ (∀ j, j < k → FineQ L j) ∧ wr = w.drewN q) (fun i _ => n - (intOf i).toNat)
  case atStart => exact ⟨0, 0, by omega, rfl, fun j hj => by omega, rfl⟩
  case round =>
    obtain ⟨k, q, hk, rfl, hf, rfl⟩ := hrel
    replace h := h.keep (below_drewN (Below.refl w.heap.size w) q)
    have hq : Hid (∀ nq, ∃ p, (w.drewN q).drewN nq = w.drewN p) := fun nq => ⟨q + nq, World.drewN_drewN ..⟩
    generalize w.drewN q = wr at h hq ⊢
    by_cases hlt : k < n
    · obtain ⟨x, rfl, -, hx⟩ := h k (by omega)
      have hI2 := fun W => (in_any (L.getD k 0) 2 20 W).mono (R' := fun e w' => e = .returned (.bool (decide (2 ≤ L.getD k 0 ∧ L.getD k 0 ≤ 20))) ∧ w' = W) fun _ _ h => ⟨h.1, h.2.symm⟩
      have hk1 : ∀ p : Nat, k = p + 1 → wr.cell? (x.add p) = some (.int .i64 (L.getD p 0)) := fun p e => by
        obtain ⟨y, hy, -, hc⟩ := h p (by omega)
        injection hy with hy
        subst hy
        exact hc
      clear h
      by_cases g1 : 2 ≤ L.getD k 0 ∧ L.getD k 0 ≤ 20
      · rw [decide_eq_true g1] at hI2
        by_cases hz : k = 0
        · have hfin : ∀ j, j < k + 1 → FineQ L j := fun j hj => by
            obtain rfl : j = k := by omega
            exact ⟨g1, fun e => by omega⟩
          have h0 : decide (0 < k) = false := decide_eq_false (by omega)
          clear hk1 hno hz hf
          generalize L.getD k 0 = z at hx hI2 g1
          go_wp2
          go_quiet (first | (go_at_call 32; refine Calls.quiet_of_same (hI2 _)))
          go_wp2
          go_roundw
          case rel => obtain ⟨p, hp⟩ := hq.out nq
                      exact ⟨k + 1, p, by omega, by go_num, hfin, hp⟩
          case measure => simp [intOf]; omega
        · obtain ⟨p, hp⟩ : ∃ p, k = p + 1 := ⟨k - 1, by omega⟩
          have hx2 := hk1 p hp
          have h0 : decide (0 < k) = true := decide_eq_true (by omega)
          have hpi : (k : Int) - 1 = (p : Int) := by omega
          have hpn : (p : Int) < n := by omega
          have hkp : k - 1 = p := by omega
          clear hk1
          by_cases g2 : L.getD p 0 < L.getD k 0
          · have hfin : ∀ j, j < k + 1 → FineQ L j := fun j hj => by
              rcases Nat.lt_or_ge j k with h1 | h1
              · exact hf j h1
              · obtain rfl : j = k := by omega
                exact ⟨g1, fun _ => by rw [hkp]; exact g2⟩
            have g3 : ¬ L.getD k 0 ≤ L.getD p 0 := by omega
            generalize L.getD k 0 = z at hx hI2 g1 g2 g3
            generalize L.getD p 0 = y at hx2 g2 g3
            clear hno hz hp hf hkp g2
            go_wp2
            go_quiet (first | (go_at_call 32; refine Calls.quiet_of_same (hI2 _)))
            go_wp2
            go_roundw
            case rel => obtain ⟨p, hp⟩ := hq.out nq
                        exact ⟨k + 1, p, by omega, by go_num, hfin, hp⟩
            case measure => simp [intOf]; omega
          · have he := hno k hlt fun g => g2 (by have := g.2 (by omega); rw [hkp] at this; exact this)
            rw [he]
            have g3 : L.getD k 0 ≤ L.getD p 0 := by omega
            generalize L.getD k 0 = z at hx hI2 g1 g2 g3
            generalize L.getD p 0 = y at hx2 g2 g3
            clear hno hf he hz hp hkp g2
            go_wp2
            go_quiet (first | (go_at_call 32; refine Calls.quiet_of_same (hI2 _)))
            go_wp2
            go_ret
            exact ⟨rfl, hq.out nq⟩
      · have he := hno k hlt fun g => g1 g.1
        rw [he]
        rw [decide_eq_false g1] at hI2
        generalize L.getD k 0 = z at hx hI2
        clear hno hf he hk1 g1
        go_wp2
        go_quiet (first | (go_at_call 32; refine Calls.quiet_of_same (hI2 _)))
        go_wp2
        go_ret
        exact ⟨rfl, hq.out nq⟩
    · obtain rfl : k = n := by omega
      have hI := in_any k 1 4 wr
      clear hno h
      by_cases e : 1 ≤ L.length ∧ L.length ≤ 4
      · rw [decide_eq_true (by omega)] at hI
        have hy : pursB L = true := pursB_yes e (by rw [hn]; exact hf)
        clear hf e
        go_wp2_with fail
        refine hI.mono ?_
        rintro e w1 ⟨rfl, rfl⟩
        clear hI
        go_wp2_with fail
        go_ret
        exact ⟨by rw [hy]; rfl, hq.out 0⟩
      · rw [decide_eq_false (by omega)] at hI
        have hy : pursB L = false := pursB_len e
        clear hf e
        go_wp2_with fail
        refine hI.mono ?_
        rintro e w1 ⟨rfl, rfl⟩
        clear hI
        go_wp2_with fail
        go_ret
        exact ⟨by rw [hy]; rfl, hq.out 0⟩

theorem specDiv_any (A : Option Addr) (c n : Nat) (L : List Int) (w : World) (hn : L.length = n) (hm : n ≤ 1000000000) (h : IntRow w A L) :
    Calls Try.prog 22 #[.slice A n c] w (SaysI (divA L) w) := by
  have hS := fun W (r : IntRow W A L) => specPurse_any A c n L W hn hm r
  obtain ⟨X, hX⟩ : ∃ X, divA L = X := ⟨_, rfl⟩
  rw [hX]
  replace hX := Lib.hid hX
  rcases hb : pursB L with _ | _
  · rw [hb] at hS
    have hX0 : X = 0 := hX.out.symm.trans (divA_no hb)
    subst hX0
    clear hb hX
    go_enter Try.func22, Try.ntmps22
    go_wp2
    go_loopw [3, 4] (fun d i wr => i = .int .i64 0 ∧ d = .int .i64 0 ∧ wr = w) (fun _ i _ => n - (intOf i).toNat)
    case atStart => exact ⟨rfl, rfl, rfl⟩
    case round =>
      obtain ⟨rfl, rfl, rfl⟩ := hrel
      by_cases hz : 0 < n
      · have h0 : (0 : Int) < n := by omega
        go_wp2_with fail
        refine (hS _ h).mono ?_
        clear hS h
        rintro e w1 ⟨rfl, q, rfl⟩
        go_wp2_with fail
        go_ret
        exact ⟨rfl, below_drewN (Below.refl _ _) q⟩
      · have h0 : ¬ (0 : Int) < n := by omega
        clear hS h
        go_wp2_with fail
        go_ret
        exact ⟨rfl, Below.refl _ _⟩
  · rw [hb] at hS
    have hP := pursB_P hb
    have hX1 := hX.out.symm.trans (divA_yes hb)
    have hX2 := Lib.hid hX1
    have hn4 := hP.1
    rw [hn] at hn4
    have hc := Lib.hid fun (k : Nat) (hk : k < n) => hP.coin (k := k) (by omega)
    have hl := Lib.hid fun (k : Nat) (hk : k ≤ n) => hP.gcdTo_le k (by omega)
    clear hX hX1 hP hb
    go_enter Try.func22, Try.ntmps22
    go_wp2
    go_loopw [3, 4] (fun d i wr => ∃ k : Nat, k ≤ n ∧ i = .int .i64 k ∧ d = .int .i64 (gcdTo L k) ∧ Below w.heap.size w wr) (fun _ i _ => n - (intOf i).toNat)
    case atStart => exact ⟨0, by omega, rfl, rfl, Below.refl _ _⟩
    case round =>
      obtain ⟨k, hk, rfl, rfl, kb⟩ := hrel
      replace h := h.keep kb
      have hg := hl.out k hk
      by_cases hlt : k < n
      · obtain ⟨x, rfl, -, hx⟩ := h k (by omega)
        obtain ⟨c1, c2, c3⟩ := hc.out k hlt
        rw [c1] at hx
        have hG := fun W => specGcd_any (gcdTo L k) (cn L k) W (by omega) (by omega) (by omega) (by omega)
        have e : (Int.gcd (gcdTo L k : Int) (cn L k : Int) : Int) = (gcdTo L (k + 1) : Nat) := gcd_cast _ _
        rw [e] at hG
        have hki : (k : Int) < n := by omega
        clear c1 e
        replace hG := Lib.hid hG
        go_wp2_with fail
        refine (hS _ h).mono ?_
        clear hS
        rintro e w1 ⟨rfl, q, rfl⟩
        have kb2 := below_drewN (Below.refl wr.heap.size wr) q
        have hx2 : (wr.drewN q).cell? (x.add k) = some (.int .i64 (cn L k)) := hx
        replace kb := below_more kb kb.size kb2
        clear h hx kb2
        generalize wr.drewN q = w2 at hx2 kb ⊢
        have hG2 := hG.out
        obtain ⟨g2, hg2⟩ : ∃ g2, gcdTo L (k + 1) = g2 := ⟨_, rfl⟩
        rw [hg2] at hG2
        replace hg2 := Lib.hid hg2
        generalize gcdTo L k = g1 at hg hG2 ⊢
        generalize cn L k = c1 at c2 c3 hG2 hx2
        clear hG
        go_wp2_with fail
        refine (hG2 _).mono ?_
        clear hG2 hx2
        rintro e w3 ⟨rfl, b⟩
        replace kb := below_more kb kb.size b
        clear b
        go_wp2_with fail
        go_roundw
        case rel => exact ⟨k + 1, by omega, by go_num, by rw [hg2.out], kb⟩
        case measure => simp [intOf]; omega
      · obtain rfl : k = n := by omega
        have e := hX2.out
        unfold dv at e
        rw [hn] at e
        subst e
        have hki : ¬ (k : Int) < k := by omega
        clear hS h
        go_wp2_with fail
        go_ret
        exact ⟨rfl, kb⟩
end Go.Proofs.Ytajocneggcofgaa
