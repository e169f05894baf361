/-
  The law on mobiles: the least weights balance, have no common divisor, and a balanced mobile is a multiple. The walk, the program's contracts being told.
-/
import Derived.Test.YthefcbninpkncaaDrawMob
import Derived.Test.YthefcbninpkncaaSpecMore
import Derived.BigQuiet
import Derived.Lib.Hide
namespace Go.Proofs.Ythefcbninpkncaa
open Go.ChangeShapes Go.WideShapes Go.ChangeAt Go.RowKit Go.PlainAid

set_option maxRecDepth 100000 in
theorem mobiles_big (a : Option Addr) (len cap : Nat) (w : World) (hl : 1048576 < len) (hm : len ≤ 9223372036854775807) :
    Calls Try.prog 3 #[.slice a len cap] w fun e w' => e = .returned (.bool true) ∧ Below w.heap.size w w' := by
  have hb : (1048576 : Int) < len := by omega
  clear hm
  go_enter Try.func3, Try.ntmps3
  go_wp2_with (go_at_call 10; go_in)
  go_ret
  exact ⟨rfl, Below.refl _ _⟩

theorem mok_yesB {L : List PartT} (h : MOk L) (b : Bool) : (mok L && b) = b := by
  have e : mok L = true := decide_eq_true h
  rw [e, Bool.true_and]
theorem sm_bounds {L : List PartT} (hL : MOk L) : 0 ≤ wof L 0 ∧ wof L 0 ≤ 32768000 := by
  have one := hL.one
  have e : ((0 : Nat) : Int) = 0 := rfl
  rw [← e, wof_yes hL (by omega)]
  exact sm_wu hL (by omega)
set_option maxRecDepth 100000 in
set_option maxHeartbeats 4000000 in
theorem mobiles_walk (A : Option Addr) (len cap : Nat) (w : World) (hl : len ≤ 1048576) (hr : Bytes w w.heap.size A len)
    (cLW : ∀ (A : Option Addr) (n c : Nat) (L : List PartT) (W : World), L.length = n → (A = none → n = 0 ∧ c = 0) → PartRow W A L → MOk L → Calls Try.prog 12 #[.slice A n c] W (GivesPartB (lwA L) (lwZ L) W))
    (cCP : ∀ (A : Option Addr) (n c : Nat) (L : List PartT) (W : World), L.length = n → PartRow W A L → MOk L → Calls Try.prog 13 #[.slice A n c] W (SaysTwo (cpA L) (cpB L) W))
    (cIB : ∀ (A : Option Addr) (n c : Nat) (L : List PartT) (W : World), L.length = n → PartRow W A L → MOk L → Calls Try.prog 14 #[.slice A n c] W (SaysB (mok L && decide (ft L < 0)) W))
    (cFT : ∀ (A : Option Addr) (n c : Nat) (L : List PartT) (W : World), L.length = n → PartRow W A L → MOk L → Calls Try.prog 15 #[.slice A n c] W (SaysI (ft L) W))
    (cWO : ∀ (A : Option Addr) (n c : Nat) (L : List PartT) (m : Int) (W : World), L.length = n → PartRow W A L → MOk L → Calls Try.prog 16 #[.slice A n c, .int .i64 m] W (SaysI (wof L m) W)) :
    Calls Try.prog 3 #[.slice A len cap] w fun e w' => e = .returned (.bool true) ∧ Below w.heap.size w w' := by
  have hb : ¬ (1048576 : Int) < len := by omega
  have hD := drawMobile_any w.heap.size A len cap w rfl hl hr
  clear hr hl
  go_enter Try.func3, Try.ntmps3
  go_wp2_with (go_at_call 10; go_in)
  refine hD.mono ?_
  clear hD hb
  rintro e w1 ⟨x, c, L, hL, rfl, r, kb⟩
  obtain ⟨n, hn⟩ : ∃ n, L.length = n := ⟨_, rfl⟩
  have n15 : 1 ≤ n ∧ n ≤ 15 := by have := hL.one; have := hL.len; omega
  rw [hn]
  -- what holds of the mobile
  have hLW := fun W (r : PartRow W (some x) L) => cLW (some x) n c L W hn (fun h => by cases h) r hL
  have hCP := fun W (r : PartRow W (some x) L) => cCP (some x) n c L W hn r hL
  have hIB := fun W (r : PartRow W (some x) L) => cIB (some x) n c L W hn r hL
  have hFT := fun W (r : PartRow W (some x) L) => cFT (some x) n c L W hn r hL
  have hWO := fun W (r : PartRow W (some x) L) => cWO (some x) n c L 0 W hn r hL
  rw [mok_yesB hL] at hIB
  rw [show cpA L = (cw L L.length : Int) from if_pos hL, show cpB L = (cb L L.length : Int) from if_pos hL] at hCP
  have f1 := cw_beams hL
  have f2 := cw_cb L L.length
  have f3 := lw_total hL
  have f4 := sm_bounds hL
  have f5 := lw_multiple hL
  have hlen : (lwA L).length = n := by rw [lwA_length, hn]
  have hZ : lwZ L = true → lwOk L ∧ lwA L = put L (so L 0) := fun h => by
    have q := of_decide_eq_true h
    exact ⟨q.2, if_pos q⟩
  have hfine : lwZ L = true → MOk (lwA L) ∧ ft (lwA L) = -1 ∧ gw (lwA L) n = 1 ∧ wof (lwA L) 0 = sm L (so L 0) 0 ∧ ∀ k, k < n → (ptget (lwA L) k).left = (ptget L k).left ∧ (ptget (lwA L) k).armLeft = (ptget L k).armLeft ∧ 0 ≤ (ptget (lwA L) k).weight ∧ (ptget (lwA L) k).weight ≤ 1000 := fun h => by
    obtain ⟨q, e⟩ := hZ h
    have m := lw_mok hL q
    rw [e]
    refine ⟨m, lw_ft hL q, by rw [← hn]; exact lw_gw hL q, lw_wof hL q, fun k hk => ?_⟩
    have p := put_left (u := so L 0) (show k < L.length by omega)
    refine ⟨p.1, p.2.2.1, ?_⟩
    by_cases b : (ptget (put L (so L 0)) k).left = -1
    · have t := m.wt (by rw [put_length]; omega) b
      have := t.2.2.2
      omega
    · have t := (m.bm (by rw [put_length]; omega) b).2.2.2.2.2
      omega
  rw [hn] at hCP f1 f2 f3
  clear hZ
  generalize lwA L = M at hLW hlen hfine
  generalize lwZ L = z at hLW hfine
  have fa : (cw L n : Int) = (cb L n : Int) + 1 := by omega
  have fb : (cw L n : Int) + (cb L n : Int) = (n : Int) := by omega
  clear f1 f2
  generalize (cw L n : Int) = a at hCP fa fb f3
  generalize (cb L n : Int) = b at hCP fa fb
  generalize sm L (so L 0) 0 = T at f3 f5 hfine
  generalize wof L 0 = S at hWO f4 f5
  generalize ft L = f at hIB hFT f5
  have ab : (1 ≤ a ∧ a ≤ 15) ∧ 0 ≤ b ∧ b ≤ 15 := by omega
  have e1 : (a != b + 1) = false := by rw [fa]; simp
  have e2 : (a + b != (n : Int)) = false := by rw [fb]; simp
  clear fa fb
  have hLen := Lib.hid hlen
  have hFine := Lib.hid hfine
  have hn' := Lib.hid hn
  have hMul := Lib.hid f5
  clear hn hlen hfine f5
  -- the walk
  go_wp2_with fail
  refine (hLW _ r).mono ?_
  rintro e w2 ⟨B, d, rfl, O⟩
  have b1 := O.bel
  have rM : PartRow w2 B M := ptrow_reads O List.mem_cons_self rfl rfl
  replace r := r.keep b1
  replace kb := below_more kb kb.size b1
  clear O hLW b1
  rw [hLen.out]
  go_wp2_with fail
  refine (hCP _ r).mono ?_
  rintro e w3 ⟨rfl, b1⟩
  replace r := r.keep b1
  replace rM := rM.keep b1
  replace kb := below_more kb kb.size b1
  clear hCP b1
  go_upto_region 6 with fail
  by_cases hf : f < 0
  · rw [decide_eq_true hf] at hIB
    go_wp2_with fail
    refine (hIB _ r).mono ?_
    rintro e w4 ⟨rfl, b1⟩
    replace r := r.keep b1
    replace rM := rM.keep b1
    replace kb := below_more kb kb.size b1
    clear b1
    go_wp2_with fail
    refine (hFT _ r).mono ?_
    rintro e w5 ⟨rfl, b1⟩
    replace r := r.keep b1
    replace rM := rM.keep b1
    replace kb := below_more kb kb.size b1
    clear b1
    clear hFT
    rcases z with _ | _
    · go_wp2_with fail
      go_ret
      exact ⟨rfl, kb⟩
    · obtain ⟨mM, mf, mg, mw, mk⟩ := hFine.out rfl
      have hIM := fun W (r : PartRow W B M) => cIB B n d M W hLen.out r mM
      have hWM := fun W (r : PartRow W B M) => cWO B n d M 0 W hLen.out r mM
      rw [mok_yesB mM, mf] at hIM
      rw [mw] at hWM
      have hMk := Lib.hid mk
      have hG := Lib.hid mg
      have hgw : ∀ k, gw M (k + 1) = Nat.gcd (gw M k) (ptget M k).weight.toNat := fun _ => rfl
      replace hgw := Lib.hid hgw
      clear mf mg mw mk hFine mM cLW cCP cIB cFT cWO
      go_wp2_with fail
      refine (hIM _ rM).mono ?_
      rintro e w6 ⟨rfl, b1⟩
      replace r := r.keep b1
      replace rM := rM.keep b1
      replace kb := below_more kb kb.size b1
      clear b1
      clear hIM
      go_wp2_with fail
      go_loopw [8, 9] (fun u i wr => ∃ k : Nat, k ≤ n ∧ u = .int .i64 (gw M k : Nat) ∧ i = .int .i64 k ∧ PartRow wr (some x) L ∧ PartRow wr B M ∧ Below w.heap.size w wr) (fun _ i _ => n - (intOf i).toNat)
      case atStart => exact ⟨0, by omega, rfl, rfl, r, rM, kb⟩
      case round =>
        clear r rM kb
        obtain ⟨k, hk, rfl, rfl, r, rM, kb⟩ := hrel
        by_cases hlt : k < n
        · have hki : (k : Int) < n := by omega
          obtain ⟨y, hy, hyl, c0, c1, c2, c3, c4⟩ := rM.at (j := k) (by have := hLen.out; omega)
          subst hy
          have m4 := (hMk.out k hlt).2.2
          have hg := hgw.out k
          obtain ⟨v, hv⟩ : ∃ v : Nat, (ptget M k).weight = (v : Int) := ⟨(ptget M k).weight.toNat, by omega⟩
          rw [hv, Int.toNat_natCast] at hg
          rw [hv] at c4
          have hg2 := Lib.hid hg
          have hv1 : v ≤ 1000 := by omega
          clear hg hv m4 c0 c1 c2 c3 hyl
          go_wp2_with fail
          go_loopw [8, 10] (fun u v wr => ∃ p q : Nat, u = .int .i64 p ∧ v = .int .i64 q ∧ q ≤ 1000 ∧ Hid (Nat.gcd p q = gw M (k + 1)) ∧ PartRow wr (some x) L ∧ PartRow wr (some y) M ∧ Below w.heap.size w wr) (fun _ v _ => (intOf v).toNat)
          case atStart => exact ⟨gw M k, v, rfl, rfl, hv1, by show Nat.gcd _ _ = _; exact hg2.out.symm, r, rM, kb⟩
          case round =>
            clear r rM kb c4
            obtain ⟨p, q, rfl, rfl, hq1, hpq, r, rM, kb⟩ := hrel
            by_cases hq0 : 0 < q
            · have hqi : (0 : Int) < q := by omega
              have hqd : decide ((0 : Int) < q) = true := decide_eq_true hqi
              have hqn : ¬ (q : Int) = 0 := by omega
              obtain ⟨s, hs⟩ : ∃ s, p % q = s := ⟨_, rfl⟩
              have hsi : (p : Int).tmod (q : Int) = (s : Int) := by rw [← hs, Int.tmod_eq_emod_of_nonneg (by omega)]; exact (Int.natCast_emod p q).symm
              have hsi2 : (p : Int) % (q : Int) = (s : Int) := by rw [← hs]; exact (Int.natCast_emod p q).symm
              have hsq : s < q := by rw [← hs]; exact Nat.mod_lt _ hq0
              have hgr : Hid (Nat.gcd q s = gw M (k + 1)) := by
                show Nat.gcd q s = _
                rw [← hs, ← hpq.out, Nat.gcd_comm p q, Nat.gcd_rec q p, Nat.gcd_comm]
              clear hpq hs
              go_wp2_with fail
              go_quiet (fail)
              go_wp2_with fail
              go_roundw
              case rel => exact ⟨q, s, rfl, by first | rfl | rw [hsi2], by omega, hgr, r.keep (below_drewN (Below.refl _ _) _), rM.keep (below_drewN (Below.refl _ _) _), below_drewN kb _⟩
              case measure => simp [intOf]; omega
            · obtain rfl : q = 0 := by omega
              obtain rfl : p = gw M (k + 1) := by have := hpq.out; rw [Nat.gcd_zero_right] at this; exact this
              clear hpq hg2
              obtain ⟨x1, hx, hxl, c0, c1, c2, c3, c4⟩ := r.at (j := k) (by have := hn'.out; omega)
              injection hx with hx
              subst hx
              obtain ⟨y1, hy, hyl, d0, d1, d2, d3, d4⟩ := rM.at (j := k) (by have := hLen.out; omega)
              injection hy with hy
              subst hy
              obtain ⟨l1, l2, -⟩ := hMk.out k hlt
              rw [l1] at d0
              rw [l2] at d2
              clear l1 l2 c1 c3 c4 d1 d3 d4 hxl hyl
              generalize (ptget L k).left = a0 at c0 d0
              generalize (ptget L k).armLeft = a2 at c2 d2
              have g0 : (a0 != a0) = false := bne_self_eq_false a0
              have g2 : (a2 != a2) = false := bne_self_eq_false a2
              go_wp2_with fail
              go_quiet (fail)
              go_wp2_with fail
              go_roundw
              case rel => exact ⟨k + 1, by omega, rfl, by go_num, r.keep (below_drewN (Below.refl _ _) _), rM.keep (below_drewN (Below.refl _ _) _), below_drewN kb _⟩
              case measure => simp [intOf]; omega
        · obtain rfl : k = n := by omega
          rw [hG.out]
          clear hlt hk
          have hMul2 := hMul.out
          clear hMk hgw hG
          go_wp2_with fail
          refine (hWM _ rM).mono ?_
          rintro e w7 ⟨rfl, b1⟩
          replace r := r.keep b1
          replace kb := below_more kb kb.size b1
          clear b1
          clear hWM rM
          have hT : a ≤ T := f3
          go_wp2_with fail
          refine (hIB _ r).mono ?_
          rintro e w8 ⟨rfl, b1⟩
          replace r := r.keep b1
          replace kb := below_more kb kb.size b1
          clear b1
          clear hIB
          have hm := hMul2 hf
          have hmt : S.tmod T = 0 := by rw [Int.tmod_eq_emod_of_nonneg f4.1]; exact hm
          have hTn : ¬ T = 0 := by omega
          clear hMul2
          go_wp2_with fail
          refine (hWO _ r).mono ?_
          rintro e w9 ⟨rfl, b1⟩
          replace kb := below_more kb kb.size b1
          clear b1 hWO
          go_wp2_with fail
          go_ret
          exact ⟨rfl, kb⟩
  · rw [decide_eq_false hf] at hIB
    go_wp2_with fail
    refine (hIB _ r).mono ?_
    rintro e w4 ⟨rfl, b1⟩
    replace r := r.keep b1
    replace rM := rM.keep b1
    replace kb := below_more kb kb.size b1
    clear b1
    go_wp2_with fail
    refine (hFT _ r).mono ?_
    rintro e w5 ⟨rfl, b1⟩
    replace r := r.keep b1
    replace rM := rM.keep b1
    replace kb := below_more kb kb.size b1
    clear b1
    clear hFT
    rcases z with _ | _
    · go_wp2_with fail
      go_ret
      exact ⟨rfl, kb⟩
    · obtain ⟨mM, mf, mg, mw, mk⟩ := hFine.out rfl
      have hIM := fun W (r : PartRow W B M) => cIB B n d M W hLen.out r mM
      have hWM := fun W (r : PartRow W B M) => cWO B n d M 0 W hLen.out r mM
      rw [mok_yesB mM, mf] at hIM
      rw [mw] at hWM
      have hMk := Lib.hid mk
      have hG := Lib.hid mg
      have hgw : ∀ k, gw M (k + 1) = Nat.gcd (gw M k) (ptget M k).weight.toNat := fun _ => rfl
      replace hgw := Lib.hid hgw
      clear mf mg mw mk hFine mM cLW cCP cIB cFT cWO
      go_wp2_with fail
      refine (hIM _ rM).mono ?_
      rintro e w6 ⟨rfl, b1⟩
      replace r := r.keep b1
      replace rM := rM.keep b1
      replace kb := below_more kb kb.size b1
      clear b1
      clear hIM
      go_wp2_with fail
      go_loopw [8, 9] (fun u i wr => ∃ k : Nat, k ≤ n ∧ u = .int .i64 (gw M k : Nat) ∧ i = .int .i64 k ∧ PartRow wr (some x) L ∧ PartRow wr B M ∧ Below w.heap.size w wr) (fun _ i _ => n - (intOf i).toNat)
      case atStart => exact ⟨0, by omega, rfl, rfl, r, rM, kb⟩
      case round =>
        clear r rM kb
        obtain ⟨k, hk, rfl, rfl, r, rM, kb⟩ := hrel
        by_cases hlt : k < n
        · have hki : (k : Int) < n := by omega
          obtain ⟨y, hy, hyl, c0, c1, c2, c3, c4⟩ := rM.at (j := k) (by have := hLen.out; omega)
          subst hy
          have m4 := (hMk.out k hlt).2.2
          have hg := hgw.out k
          obtain ⟨v, hv⟩ : ∃ v : Nat, (ptget M k).weight = (v : Int) := ⟨(ptget M k).weight.toNat, by omega⟩
          rw [hv, Int.toNat_natCast] at hg
          rw [hv] at c4
          have hg2 := Lib.hid hg
          have hv1 : v ≤ 1000 := by omega
          clear hg hv m4 c0 c1 c2 c3 hyl
          go_wp2_with fail
          go_loopw [8, 10] (fun u v wr => ∃ p q : Nat, u = .int .i64 p ∧ v = .int .i64 q ∧ q ≤ 1000 ∧ Hid (Nat.gcd p q = gw M (k + 1)) ∧ PartRow wr (some x) L ∧ PartRow wr (some y) M ∧ Below w.heap.size w wr) (fun _ v _ => (intOf v).toNat)
          case atStart => exact ⟨gw M k, v, rfl, rfl, hv1, by show Nat.gcd _ _ = _; exact hg2.out.symm, r, rM, kb⟩
          case round =>
            clear r rM kb c4
            obtain ⟨p, q, rfl, rfl, hq1, hpq, r, rM, kb⟩ := hrel
            by_cases hq0 : 0 < q
            · have hqi : (0 : Int) < q := by omega
              have hqd : decide ((0 : Int) < q) = true := decide_eq_true hqi
              have hqn : ¬ (q : Int) = 0 := by omega
              obtain ⟨s, hs⟩ : ∃ s, p % q = s := ⟨_, rfl⟩
              have hsi : (p : Int).tmod (q : Int) = (s : Int) := by rw [← hs, Int.tmod_eq_emod_of_nonneg (by omega)]; exact (Int.natCast_emod p q).symm
              have hsi2 : (p : Int) % (q : Int) = (s : Int) := by rw [← hs]; exact (Int.natCast_emod p q).symm
              have hsq : s < q := by rw [← hs]; exact Nat.mod_lt _ hq0
              have hgr : Hid (Nat.gcd q s = gw M (k + 1)) := by
                show Nat.gcd q s = _
                rw [← hs, ← hpq.out, Nat.gcd_comm p q, Nat.gcd_rec q p, Nat.gcd_comm]
              clear hpq hs
              go_wp2_with fail
              go_quiet (fail)
              go_wp2_with fail
              go_roundw
              case rel => exact ⟨q, s, rfl, by first | rfl | rw [hsi2], by omega, hgr, r.keep (below_drewN (Below.refl _ _) _), rM.keep (below_drewN (Below.refl _ _) _), below_drewN kb _⟩
              case measure => simp [intOf]; omega
            · obtain rfl : q = 0 := by omega
              obtain rfl : p = gw M (k + 1) := by have := hpq.out; rw [Nat.gcd_zero_right] at this; exact this
              clear hpq hg2
              obtain ⟨x1, hx, hxl, c0, c1, c2, c3, c4⟩ := r.at (j := k) (by have := hn'.out; omega)
              injection hx with hx
              subst hx
              obtain ⟨y1, hy, hyl, d0, d1, d2, d3, d4⟩ := rM.at (j := k) (by have := hLen.out; omega)
              injection hy with hy
              subst hy
              obtain ⟨l1, l2, -⟩ := hMk.out k hlt
              rw [l1] at d0
              rw [l2] at d2
              clear l1 l2 c1 c3 c4 d1 d3 d4 hxl hyl
              generalize (ptget L k).left = a0 at c0 d0
              generalize (ptget L k).armLeft = a2 at c2 d2
              have g0 : (a0 != a0) = false := bne_self_eq_false a0
              have g2 : (a2 != a2) = false := bne_self_eq_false a2
              go_wp2_with fail
              go_quiet (fail)
              go_wp2_with fail
              go_roundw
              case rel => exact ⟨k + 1, by omega, rfl, by go_num, r.keep (below_drewN (Below.refl _ _) _), rM.keep (below_drewN (Below.refl _ _) _), below_drewN kb _⟩
              case measure => simp [intOf]; omega
        · obtain rfl : k = n := by omega
          rw [hG.out]
          clear hlt hk
          have hMul2 := hMul.out
          clear hMk hgw hG
          go_wp2_with fail
          refine (hWM _ rM).mono ?_
          rintro e w7 ⟨rfl, b1⟩
          replace r := r.keep b1
          replace kb := below_more kb kb.size b1
          clear b1
          clear hWM rM
          have hT : a ≤ T := f3
          go_wp2_with fail
          refine (hIB _ r).mono ?_
          rintro e w8 ⟨rfl, b1⟩
          replace r := r.keep b1
          replace kb := below_more kb kb.size b1
          clear b1
          clear hIB
          go_wp2_with fail
          go_ret
          exact ⟨rfl, kb⟩
end Go.Proofs.Ythefcbninpkncaa
