/-
  The law on jugs: an amount can be measured just if it is a multiple of the common divisor and one jug can hold it.
-/
import Derived.Test.YtmoncfplcmdpcaaAtFix
import Derived.Test.YtmoncfplcmdpcaaImplAll
import Derived.Test.YtmoncfplcmdpcaaImplFew
import Derived.Test.YtmoncfplcmdpcaaJugLast
import Derived.BigQuiet
namespace Go.Proofs.Ytmoncfplcmdpcaa
open Go.ChangeShapes Go.WideShapes Go.ChangeAt Go.RowKit Go.PlainAid

set_option maxRecDepth 100000 in
theorem jugs_big (a : Option Addr) (len cap : Nat) (w : World) (hl : 1048576 < len) (hm : len ≤ 9223372036854775807) :
    Calls Try.prog 3 #[.slice a len cap] w fun e w' => e = .returned (.bool true) ∧ Below w.heap.size w w' := by
  have hb : (1048576 : Int) < len := by omega
  clear hm
  go_enter Try.func3, Try.ntmps3
  go_wp2_with (go_at_call 9; go_in)
  go_ret
  exact ⟨rfl, Below.refl _ _⟩

set_option maxRecDepth 100000 in
set_option maxHeartbeats 4000000 in
theorem jugs_any (A : Option Addr) (len cap : Nat) (w : World) (hl : len ≤ 1048576) (hr : Bytes w w.heap.size A len) :
    Calls Try.prog 3 #[.slice A len cap] w fun e w' => e = .returned (.bool true) ∧ Below w.heap.size w w' := by
  have hb : ¬ (1048576 : Int) < len := by omega
  obtain ⟨x, x0, x1, A0⟩ := at_fix w.heap.size A len cap 0 w hl (by decide) (by decide) hr
  obtain ⟨y, y0, y1, A1⟩ := at_fix w.heap.size A len cap 1 w hl (by decide) (by decide) hr
  obtain ⟨z, z0, z1, A2⟩ := at_fix w.heap.size A len cap 2 w hl (by decide) (by decide) hr
  clear hr hl
  obtain ⟨a, ha⟩ : ∃ a : Nat, 1 + x % 20 = (a : Int) := ⟨(1 + x % 20).toNat, by omega⟩
  obtain ⟨b, hb2⟩ : ∃ b : Nat, 1 + y % 20 = (b : Int) := ⟨(1 + y % 20).toNat, by omega⟩
  obtain ⟨g, hg⟩ : ∃ g : Nat, z % 21 = (g : Int) := ⟨(z % 21).toNat, by omega⟩
  have ha2 : 1 ≤ a ∧ a ≤ 20 := by omega
  have hb3 : 1 ≤ b ∧ b ≤ 20 := by omega
  have hg2 : g ≤ 20 := by omega
  obtain ⟨l, ok, hA⟩ := ans_ex a b g
  have hlen := ans_len hA
  obtain ⟨L1, L2, L3⟩ := ans_law hA ha2 hb3 hg2
  have hF := fun W => implFew_any a b g l ok W hA
  have hC := fun W => implCan_any a b g l ok W hA
  have kb := Below.refl w.heap.size w
  replace hlen := Lib.hid hlen
  replace L1 := Lib.hid L1
  replace L2 := Lib.hid L2
  replace L3 := Lib.hid L3
  clear hA
  go_enter Try.func3, Try.ntmps3
  go_wp2_with (go_at_call 9; go_in)
  refine (A0 _ kb).mono ?_
  rintro e w1 ⟨rfl, q1, rfl⟩
  replace kb := below_drewN kb q1
  generalize w.drewN q1 = w1 at kb ⊢
  clear A0
  go_wp2_with fail
  refine (A1 _ kb).mono ?_
  rintro e w2 ⟨rfl, q2, rfl⟩
  replace kb := below_drewN kb q2
  generalize w1.drewN q2 = w2 at kb ⊢
  clear A1
  go_wp2_with fail
  refine (A2 _ kb).mono ?_
  rintro e w3 ⟨rfl, q3, rfl⟩
  replace kb := below_drewN kb q3
  generalize w2.drewN q3 = w3 at kb ⊢
  clear A2
  go_wp2_with fail
  refine (hF _).mono ?_
  clear hF
  rintro e w4 ⟨A4, c4, rfl, O⟩
  have r4 : IntRow w4 A4 l := O.row List.mem_cons_self rfl rfl
  replace kb := below_more kb kb.size O.bel
  clear O ha hb2 x0 x1 y0 y1 z0 z1 hb
  go_wp2_with fail
  clear hg
  obtain ⟨G, hG⟩ : ∃ G, Nat.gcd a b = G := ⟨_, rfl⟩
  have hG1 : 1 ≤ G := by rw [← hG]; exact Nat.gcd_pos_of_pos_left _ (by omega)
  rw [hG] at L1
  go_loopw [8, 9] (fun u v wr => ∃ p q n : Nat, u = .int .i64 p ∧ v = .int .i64 q ∧ p ≤ 20 ∧ q ≤ 20 ∧ Hid (Nat.gcd p q = G) ∧ wr = w4.drewN n) (fun _ v _ => (intOf v).toNat)
  case atStart => exact ⟨a, b, 0, rfl, rfl, by omega, by omega, hG, rfl⟩
  case round =>
    obtain ⟨p, q, n, rfl, rfl, hp, hq, hpq, rfl⟩ := hrel
    have hn : Hid (∀ k, ∃ m, (w4.drewN n).drewN k = w4.drewN m) := fun k => ⟨n + k, World.drewN_drewN ..⟩
    by_cases hq0 : 0 < q
    · have hqi : (0 : Int) < q := by omega
      have hqd : decide ((0 : Int) < q) = true := decide_eq_true hqi
      have hqn : ¬ (q : Int) = 0 := by omega
      obtain ⟨r, hr⟩ : ∃ r, p % q = r := ⟨_, rfl⟩
      have hri : (p : Int) % (q : Int) = (r : Int) := by rw [← hr]; exact (Int.natCast_emod p q).symm
      have hrq : r < q := by rw [← hr]; exact Nat.mod_lt _ hq0
      have hgr : Hid (Nat.gcd q r = G) := by
        show Nat.gcd q r = G
        rw [← hr, ← hpq.out, Nat.gcd_comm p q, Nat.gcd_rec q p, Nat.gcd_comm]
      generalize w4.drewN n = wr at hn ⊢
      clear hpq hr kb r4 hG L1 L2 L3
      go_wp2_with fail
      go_quiet (fail)
      go_wp2_with fail
      go_roundw
      case rel => obtain ⟨m, hm⟩ := hn.out nq
                  exact ⟨q, r, m, rfl, by rw [hri], by omega, by omega, hgr, hm⟩
      case measure => simp [intOf]; omega
    · obtain rfl : q = 0 := by omega
      obtain rfl : p = G := by have := hpq.out; rw [Nat.gcd_zero_right] at this; exact this
      replace kb := below_drewN kb n
      replace r4 := r4.keep (below_drewN (Below.refl w4.heap.size w4) n)
      generalize w4.drewN n = w5 at kb r4 ⊢
      have hpi : ¬ (p : Int) = 0 := by omega
      have hpp : (0 : Int) < p := by omega
      obtain ⟨r, hr⟩ : ∃ r, g % p = r := ⟨_, rfl⟩
      have hri : (g : Int) % (p : Int) = (r : Int) := by rw [← hr]; exact (Int.natCast_emod g p).symm
      have hdv : Nat.gcd a b ∣ g ↔ r = 0 := by rw [hG, ← hr]; exact Nat.dvd_iff_mod_eq_zero ..
      rw [← hG, hdv] at L1
      by_cases hab : a < b
      · have hm2 : (g ≤ a ∨ g ≤ b) ↔ g ≤ b := by omega
        rw [hm2] at L1
        rcases ok with _ | _
        · obtain rfl : l = [] := L2.out rfl
          have hno : ¬ (r = 0 ∧ g ≤ b) := fun e => by have := L1.out.2 e; cases this
          clear L1 L2 L3 hdv hm2 hr hG hpq hn r4
          by_cases hr0 : r = 0
          · subst hr0
            have hgn : ¬ g ≤ b := fun e => hno ⟨rfl, e⟩
            have hgd : decide (g ≤ b) = false := decide_eq_false hgn
            clear hno
            go_wp2_with fail
            refine (hC _).mono ?_
            clear hC
            rintro e w6 ⟨rfl, b6⟩
            replace kb := below_more kb kb.size b6
            clear b6
            go_wp2_with fail
            go_ret
            exact ⟨rfl, kb⟩
          · have hrn : ¬ (r : Int) = 0 := by omega
            have hrd : ((r : Int) == 0) = false := by simp [hr0]
            clear hno
            go_wp2_with fail
            refine (hC _).mono ?_
            clear hC
            rintro e w6 ⟨rfl, b6⟩
            replace kb := below_more kb kb.size b6
            clear b6
            go_wp2_with fail
            go_ret
            exact ⟨rfl, kb⟩
        · obtain ⟨rfl, hgm⟩ := L1.out.1 rfl
          obtain ⟨⟨X, Y⟩, hrun, hXY, hokt, hedge⟩ := L3.out rfl
          dsimp only at hXY hokt hedge
          have h00 : okJ a b 0 0 = true := okJ_yes (by omega)
          obtain ⟨e1, e2⟩ := pa_yes (L := l) h00 (by have := hlen.out; omega) hrun
          have hP := fun W (r : IntRow W A4 l) => implAll_any a b 0 0 A4 c4 _ l W rfl (by have := hlen.out; omega) r
          rw [e1, e2] at hP
          dsimp only at hP
          have hJ := fun W => implJugsOk_any a b X Y W
          rw [hokt] at hJ
          have hgd : decide (g ≤ b) = true := decide_eq_true hgm
          replace hXY := Lib.hid hXY
          replace hedge := Lib.hid hedge
          clear L1 L2 L3 hdv hm2 hr hG hpq hn hrun hokt h00 e1 e2
          go_wp2_with fail
          refine (hC _).mono ?_
          clear hC
          rintro e w6 ⟨rfl, b6⟩
          replace kb := below_more kb kb.size b6
          replace r4 := r4.keep b6
          clear b6
          go_wp2_with fail
          refine (hP _ r4).mono ?_
          clear hP r4
          rintro e w7 ⟨rfl, b7⟩
          replace kb := below_more kb kb.size b7
          clear b7
          have p1 := JBox.new w7 a b X Y
          replace kb := kb.alloc kb.size (jobj a b X Y 30)
          go_upto_region 16 with fail
          generalize w7.heap.size = g1 at p1 ⊢
          generalize w7.alloc (jobj a b X Y 30) = w8 at p1 kb ⊢
          clear hab hgm hgd hri hpi hpp hlen
          obtain ⟨c0, c1, c2, c3⟩ := p1.cells
          by_cases k1 : X = g
          · have f1 : (X == (g : Int)) = true := by simp [k1]
            clear hXY k1
            by_cases k2 : X = 0
            · have f3 : (X == 0) = true := by simp [k2]
              clear hedge k2
              go_wp2_with fail
              refine (hJ _).mono ?_
              clear hJ c0 c1 c2 c3
              rintro e w9 ⟨rfl, b9⟩
              obtain ⟨c0, c1, c2, c3⟩ := (p1.keep b9 p1.lt).cells
              replace kb := below_more kb kb.size b9
              clear b9 p1
              go_wp2_with fail
              go_ret
              exact ⟨rfl, kb⟩
            · have f3 : (X == 0) = false := by simp [k2]
              by_cases k3 : X = a
              · have f4 : (X == (a : Int)) = true := by simp [k3]
                clear hedge k2 k3
                go_wp2_with fail
                refine (hJ _).mono ?_
                clear hJ c0 c1 c2 c3
                rintro e w9 ⟨rfl, b9⟩
                obtain ⟨c0, c1, c2, c3⟩ := (p1.keep b9 p1.lt).cells
                replace kb := below_more kb kb.size b9
                clear b9 p1
                go_wp2_with fail
                go_ret
                exact ⟨rfl, kb⟩
              · have f4 : (X == (a : Int)) = false := by simp [k3]
                by_cases k4 : Y = 0
                · have f5 : (Y == 0) = true := by simp [k4]
                  clear hedge k2 k3 k4
                  go_wp2_with fail
                  refine (hJ _).mono ?_
                  clear hJ c0 c1 c2 c3
                  rintro e w9 ⟨rfl, b9⟩
                  obtain ⟨c0, c1, c2, c3⟩ := (p1.keep b9 p1.lt).cells
                  replace kb := below_more kb kb.size b9
                  clear b9 p1
                  go_wp2_with fail
                  go_ret
                  exact ⟨rfl, kb⟩
                · have f5 : (Y == 0) = false := by simp [k4]
                  have f6 : (Y == (b : Int)) = true := by simp [((hedge.out.resolve_left k2).resolve_left k3).resolve_left k4]
                  clear hedge k2 k3 k4
                  go_wp2_with fail
                  refine (hJ _).mono ?_
                  clear hJ c0 c1 c2 c3
                  rintro e w9 ⟨rfl, b9⟩
                  obtain ⟨c0, c1, c2, c3⟩ := (p1.keep b9 p1.lt).cells
                  replace kb := below_more kb kb.size b9
                  clear b9 p1
                  go_wp2_with fail
                  go_ret
                  exact ⟨rfl, kb⟩
          · have f1 : (X == (g : Int)) = false := by simp [k1]
            have f2 : (Y == (g : Int)) = true := by simp [hXY.out.resolve_left k1]
            clear hXY k1
            by_cases k2 : X = 0
            · have f3 : (X == 0) = true := by simp [k2]
              clear hedge k2
              go_wp2_with fail
              refine (hJ _).mono ?_
              clear hJ c0 c1 c2 c3
              rintro e w9 ⟨rfl, b9⟩
              obtain ⟨c0, c1, c2, c3⟩ := (p1.keep b9 p1.lt).cells
              replace kb := below_more kb kb.size b9
              clear b9 p1
              go_wp2_with fail
              go_ret
              exact ⟨rfl, kb⟩
            · have f3 : (X == 0) = false := by simp [k2]
              by_cases k3 : X = a
              · have f4 : (X == (a : Int)) = true := by simp [k3]
                clear hedge k2 k3
                go_wp2_with fail
                refine (hJ _).mono ?_
                clear hJ c0 c1 c2 c3
                rintro e w9 ⟨rfl, b9⟩
                obtain ⟨c0, c1, c2, c3⟩ := (p1.keep b9 p1.lt).cells
                replace kb := below_more kb kb.size b9
                clear b9 p1
                go_wp2_with fail
                go_ret
                exact ⟨rfl, kb⟩
              · have f4 : (X == (a : Int)) = false := by simp [k3]
                by_cases k4 : Y = 0
                · have f5 : (Y == 0) = true := by simp [k4]
                  clear hedge k2 k3 k4
                  go_wp2_with fail
                  refine (hJ _).mono ?_
                  clear hJ c0 c1 c2 c3
                  rintro e w9 ⟨rfl, b9⟩
                  obtain ⟨c0, c1, c2, c3⟩ := (p1.keep b9 p1.lt).cells
                  replace kb := below_more kb kb.size b9
                  clear b9 p1
                  go_wp2_with fail
                  go_ret
                  exact ⟨rfl, kb⟩
                · have f5 : (Y == 0) = false := by simp [k4]
                  have f6 : (Y == (b : Int)) = true := by simp [((hedge.out.resolve_left k2).resolve_left k3).resolve_left k4]
                  clear hedge k2 k3 k4
                  go_wp2_with fail
                  refine (hJ _).mono ?_
                  clear hJ c0 c1 c2 c3
                  rintro e w9 ⟨rfl, b9⟩
                  obtain ⟨c0, c1, c2, c3⟩ := (p1.keep b9 p1.lt).cells
                  replace kb := below_more kb kb.size b9
                  clear b9 p1
                  go_wp2_with fail
                  go_ret
                  exact ⟨rfl, kb⟩
      · have hm2 : (g ≤ a ∨ g ≤ b) ↔ g ≤ a := by omega
        rw [hm2] at L1
        rcases ok with _ | _
        · obtain rfl : l = [] := L2.out rfl
          have hno : ¬ (r = 0 ∧ g ≤ a) := fun e => by have := L1.out.2 e; cases this
          clear L1 L2 L3 hdv hm2 hr hG hpq hn r4
          by_cases hr0 : r = 0
          · subst hr0
            have hgn : ¬ g ≤ a := fun e => hno ⟨rfl, e⟩
            have hgd : decide (g ≤ a) = false := decide_eq_false hgn
            clear hno
            go_wp2_with fail
            refine (hC _).mono ?_
            clear hC
            rintro e w6 ⟨rfl, b6⟩
            replace kb := below_more kb kb.size b6
            clear b6
            go_wp2_with fail
            go_ret
            exact ⟨rfl, kb⟩
          · have hrn : ¬ (r : Int) = 0 := by omega
            have hrd : ((r : Int) == 0) = false := by simp [hr0]
            clear hno
            go_wp2_with fail
            refine (hC _).mono ?_
            clear hC
            rintro e w6 ⟨rfl, b6⟩
            replace kb := below_more kb kb.size b6
            clear b6
            go_wp2_with fail
            go_ret
            exact ⟨rfl, kb⟩
        · obtain ⟨rfl, hgm⟩ := L1.out.1 rfl
          obtain ⟨⟨X, Y⟩, hrun, hXY, hokt, hedge⟩ := L3.out rfl
          dsimp only at hXY hokt hedge
          have h00 : okJ a b 0 0 = true := okJ_yes (by omega)
          obtain ⟨e1, e2⟩ := pa_yes (L := l) h00 (by have := hlen.out; omega) hrun
          have hP := fun W (r : IntRow W A4 l) => implAll_any a b 0 0 A4 c4 _ l W rfl (by have := hlen.out; omega) r
          rw [e1, e2] at hP
          dsimp only at hP
          have hJ := fun W => implJugsOk_any a b X Y W
          rw [hokt] at hJ
          have hgd : decide (g ≤ a) = true := decide_eq_true hgm
          replace hXY := Lib.hid hXY
          replace hedge := Lib.hid hedge
          clear L1 L2 L3 hdv hm2 hr hG hpq hn hrun hokt h00 e1 e2
          go_wp2_with fail
          refine (hC _).mono ?_
          clear hC
          rintro e w6 ⟨rfl, b6⟩
          replace kb := below_more kb kb.size b6
          replace r4 := r4.keep b6
          clear b6
          go_wp2_with fail
          refine (hP _ r4).mono ?_
          clear hP r4
          rintro e w7 ⟨rfl, b7⟩
          replace kb := below_more kb kb.size b7
          clear b7
          have p1 := JBox.new w7 a b X Y
          replace kb := kb.alloc kb.size (jobj a b X Y 30)
          go_upto_region 16 with fail
          generalize w7.heap.size = g1 at p1 ⊢
          generalize w7.alloc (jobj a b X Y 30) = w8 at p1 kb ⊢
          clear hab hgm hgd hri hpi hpp hlen
          obtain ⟨c0, c1, c2, c3⟩ := p1.cells
          by_cases k1 : X = g
          · have f1 : (X == (g : Int)) = true := by simp [k1]
            clear hXY k1
            by_cases k2 : X = 0
            · have f3 : (X == 0) = true := by simp [k2]
              clear hedge k2
              go_wp2_with fail
              refine (hJ _).mono ?_
              clear hJ c0 c1 c2 c3
              rintro e w9 ⟨rfl, b9⟩
              obtain ⟨c0, c1, c2, c3⟩ := (p1.keep b9 p1.lt).cells
              replace kb := below_more kb kb.size b9
              clear b9 p1
              go_wp2_with fail
              go_ret
              exact ⟨rfl, kb⟩
            · have f3 : (X == 0) = false := by simp [k2]
              by_cases k3 : X = a
              · have f4 : (X == (a : Int)) = true := by simp [k3]
                clear hedge k2 k3
                go_wp2_with fail
                refine (hJ _).mono ?_
                clear hJ c0 c1 c2 c3
                rintro e w9 ⟨rfl, b9⟩
                obtain ⟨c0, c1, c2, c3⟩ := (p1.keep b9 p1.lt).cells
                replace kb := below_more kb kb.size b9
                clear b9 p1
                go_wp2_with fail
                go_ret
                exact ⟨rfl, kb⟩
              · have f4 : (X == (a : Int)) = false := by simp [k3]
                by_cases k4 : Y = 0
                · have f5 : (Y == 0) = true := by simp [k4]
                  clear hedge k2 k3 k4
                  go_wp2_with fail
                  refine (hJ _).mono ?_
                  clear hJ c0 c1 c2 c3
                  rintro e w9 ⟨rfl, b9⟩
                  obtain ⟨c0, c1, c2, c3⟩ := (p1.keep b9 p1.lt).cells
                  replace kb := below_more kb kb.size b9
                  clear b9 p1
                  go_wp2_with fail
                  go_ret
                  exact ⟨rfl, kb⟩
                · have f5 : (Y == 0) = false := by simp [k4]
                  have f6 : (Y == (b : Int)) = true := by simp [((hedge.out.resolve_left k2).resolve_left k3).resolve_left k4]
                  clear hedge k2 k3 k4
                  go_wp2_with fail
                  refine (hJ _).mono ?_
                  clear hJ c0 c1 c2 c3
                  rintro e w9 ⟨rfl, b9⟩
                  obtain ⟨c0, c1, c2, c3⟩ := (p1.keep b9 p1.lt).cells
                  replace kb := below_more kb kb.size b9
                  clear b9 p1
                  go_wp2_with fail
                  go_ret
                  exact ⟨rfl, kb⟩
          · have f1 : (X == (g : Int)) = false := by simp [k1]
            have f2 : (Y == (g : Int)) = true := by simp [hXY.out.resolve_left k1]
            clear hXY k1
            by_cases k2 : X = 0
            · have f3 : (X == 0) = true := by simp [k2]
              clear hedge k2
              go_wp2_with fail
              refine (hJ _).mono ?_
              clear hJ c0 c1 c2 c3
              rintro e w9 ⟨rfl, b9⟩
              obtain ⟨c0, c1, c2, c3⟩ := (p1.keep b9 p1.lt).cells
              replace kb := below_more kb kb.size b9
              clear b9 p1
              go_wp2_with fail
              go_ret
              exact ⟨rfl, kb⟩
            · have f3 : (X == 0) = false := by simp [k2]
              by_cases k3 : X = a
              · have f4 : (X == (a : Int)) = true := by simp [k3]
                clear hedge k2 k3
                go_wp2_with fail
                refine (hJ _).mono ?_
                clear hJ c0 c1 c2 c3
                rintro e w9 ⟨rfl, b9⟩
                obtain ⟨c0, c1, c2, c3⟩ := (p1.keep b9 p1.lt).cells
                replace kb := below_more kb kb.size b9
                clear b9 p1
                go_wp2_with fail
                go_ret
                exact ⟨rfl, kb⟩
              · have f4 : (X == (a : Int)) = false := by simp [k3]
                by_cases k4 : Y = 0
                · have f5 : (Y == 0) = true := by simp [k4]
                  clear hedge k2 k3 k4
                  go_wp2_with fail
                  refine (hJ _).mono ?_
                  clear hJ c0 c1 c2 c3
                  rintro e w9 ⟨rfl, b9⟩
                  obtain ⟨c0, c1, c2, c3⟩ := (p1.keep b9 p1.lt).cells
                  replace kb := below_more kb kb.size b9
                  clear b9 p1
                  go_wp2_with fail
                  go_ret
                  exact ⟨rfl, kb⟩
                · have f5 : (Y == 0) = false := by simp [k4]
                  have f6 : (Y == (b : Int)) = true := by simp [((hedge.out.resolve_left k2).resolve_left k3).resolve_left k4]
                  clear hedge k2 k3 k4
                  go_wp2_with fail
                  refine (hJ _).mono ?_
                  clear hJ c0 c1 c2 c3
                  rintro e w9 ⟨rfl, b9⟩
                  obtain ⟨c0, c1, c2, c3⟩ := (p1.keep b9 p1.lt).cells
                  replace kb := below_more kb kb.size b9
                  clear b9 p1
                  go_wp2_with fail
                  go_ret
                  exact ⟨rfl, kb⟩
end Go.Proofs.Ytmoncfplcmdpcaa
