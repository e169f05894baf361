/-
  The law on change: if greedy change is best up to the sum of the two greatest coins, it always is.
-/
import Derived.Test.YtjjedicjaojkcaaDrawCoin
import Derived.Test.YtjjedicjaojkcaaAtFix
import Derived.Test.YtjjedicjaojkcaaImplChange
import Derived.Test.YtjjedicjaojkcaaImplWays
import Derived.BigRegion
import Derived.BigQuiet
namespace Go.Proofs.Ytjjedicjaojkcaa
open Go.ChangeShapes Go.WideShapes Go.ChangeAt Go.RowKit Go.PlainAid

/-- The value of the first k kinds of coins. -/
def dotTo (U L : List Int) : Nat → Int
  | 0 => 0
  | k + 1 => dotTo U L k + U.getD k 0 * L.getD k 0
theorem dot_addAt {U L : List Int} {i : Nat} (hi : i < U.length) : ∀ k, dotTo (addAt U i) L k = dotTo U L k + if i < k then L.getD i 0 else 0
  | 0 => by
    show (0 : Int) = 0 + if i < 0 then L.getD i 0 else 0
    rw [if_neg (by omega)]; rfl
  | k + 1 => by
    unfold dotTo
    rw [dot_addAt hi k, addAt_get hi]
    by_cases e : k = i
    · subst e
      rw [if_pos rfl, if_neg (Nat.lt_irrefl k), if_pos (Nat.lt_succ_self k), Int.add_mul, Int.one_mul]
      omega
    · rw [if_neg e, Int.add_zero]
      by_cases e2 : i < k
      · rw [if_pos e2, if_pos (by omega)]; omega
      · rw [if_neg e2, if_neg (by omega)]; omega
theorem dot_pays {L : List Int} (hP : SysP L) {f : Nat → Nat} {n : Nat} (h : Chooses L f n) : ∀ t r U, r ≤ t → r ≤ n → U.length = L.length → dotTo (pays L f t r U) L L.length = dotTo U L L.length + r
  | 0, r, U, h1, _, _ => by
    obtain rfl : r = 0 := by omega
    show dotTo U L L.length = dotTo U L L.length + ((0 : Nat) : Int)
    omega
  | t + 1, r, U, h1, h2, h3 => by
    unfold pays
    by_cases e : r = 0
    · subst e; rw [if_pos rfl]; omega
    · rw [if_neg e]
      obtain ⟨h4, h5, h6⟩ := h r (by omega) h2
      rw [dot_pays hP h t _ _ (by omega) (by omega) (by rw [addAt_length]; exact h3), dot_addAt (by omega), if_pos h4, (hP.coin h4).1]
      omega
theorem dot_zeros (L : List Int) (n : Nat) : ∀ k, dotTo (List.replicate n 0) L k = 0
  | 0 => rfl
  | k + 1 => by
    have e : (List.replicate n (0 : Int)).getD k 0 = 0 := by
      rw [List.getD_eq_getElem?_getD, List.getElem?_replicate]
      split <;> rfl
    unfold dotTo
    rw [dot_zeros L n k, e, Int.zero_mul]; rfl
theorem dot_gL {L : List Int} (hP : SysP L) (r : Nat) : dotTo (gL L r) L L.length = r := by
  rw [← pays_gL hP, dot_pays hP (chooses_greedy hP r) r r _ (Nat.le_refl _) (Nat.le_refl _) (by rw [List.length_replicate]), dot_zeros]
  omega
theorem dot_mono {U L : List Int} (hU : ∀ j, 0 ≤ U.getD j 0) (hL : ∀ j, 0 ≤ L.getD j 0) (k : Nat) : ∀ d, dotTo U L k ≤ dotTo U L (k + d)
  | 0 => Int.le_refl _
  | d + 1 => by
    have := dot_mono hU hL k d
    have h2 : 0 ≤ U.getD (k + d) 0 * L.getD (k + d) 0 := Int.mul_nonneg (hU _) (hL _)
    show dotTo U L k ≤ dotTo U L (k + d) + U.getD (k + d) 0 * L.getD (k + d) 0
    omega
theorem take_mono {U : List Int} (hU : ∀ j, 0 ≤ U.getD j 0) (k : Nat) : ∀ d, k + d ≤ U.length → sumL (U.take k) ≤ sumL (U.take (k + d))
  | 0, _ => Int.le_refl _
  | d + 1, h => by
    have := take_mono hU k d (by omega)
    have h2 := hU (k + d)
    rw [show k + (d + 1) = k + d + 1 by omega, sumL_take (by omega)]
    omega
/-- What the law's loop needs. -/
theorem dot_facts {L : List Int} (hP : SysP L) (r : Nat) : (∀ k, k ≤ L.length → 0 ≤ dotTo (gL L r) L k ∧ dotTo (gL L r) L k ≤ r ∧ 0 ≤ sumL ((gL L r).take k) ∧ sumL ((gL L r).take k) ≤ r) ∧
    ∀ k, k < L.length → 0 ≤ (gL L r).getD k 0 ∧ (gL L r).getD k 0 ≤ r ∧ ∃ t, (gL L r).getD k 0 * L.getD k 0 = t ∧ 0 ≤ t ∧ t ≤ r := by
  have hU : ∀ j, 0 ≤ (gL L r).getD j 0 := fun j => by
    rcases Nat.lt_or_ge j L.length with h | h
    · rw [gL_get h]; omega
    · rw [List.getD_eq_getElem?_getD, List.getElem?_eq_none (by rw [gL_length]; exact h)]; exact Int.le_refl 0
  have hL : ∀ j, 0 ≤ L.getD j 0 := fun j => by
    rcases Nat.lt_or_ge j L.length with h | h
    · have := (hP.2 j h).1; omega
    · rw [List.getD_eq_getElem?_getD, List.getElem?_eq_none h]; exact Int.le_refl 0
  have hd : ∀ k, k ≤ L.length → 0 ≤ dotTo (gL L r) L k ∧ dotTo (gL L r) L k ≤ r := fun k hk => by
    have h1 := dot_mono hU hL 0 k
    have h2 := dot_mono hU hL k (L.length - k)
    rw [Nat.zero_add] at h1
    rw [show k + (L.length - k) = L.length by omega, dot_gL hP] at h2
    exact ⟨h1, h2⟩
  have hs : ∀ k, k ≤ L.length → 0 ≤ sumL ((gL L r).take k) ∧ sumL ((gL L r).take k) ≤ r := fun k hk => by
    have h1 := take_mono hU 0 k (by rw [gL_length]; omega)
    have h2 := take_mono hU k (L.length - k) (by rw [gL_length]; omega)
    rw [Nat.zero_add] at h1
    have e : sumL ((gL L r).take (k + (L.length - k))) = gN L r := by
      rw [show k + (L.length - k) = (gL L r).length by rw [gL_length]; omega, sumL_all, sumL_gL hP]
    have h3 := gN_le hP r
    rw [e] at h2
    have h4 : sumL ((gL L r).take 0) = 0 := rfl
    omega
  refine ⟨fun k hk => ⟨(hd k hk).1, (hd k hk).2, (hs k hk).1, (hs k hk).2⟩, fun k hk => ?_⟩
  have a1 := hd k (by omega)
  have a2 := hd (k + 1) (by omega)
  have b1 := hs k (by omega)
  have b2 := hs (k + 1) (by omega)
  have e1 : dotTo (gL L r) L (k + 1) = dotTo (gL L r) L k + (gL L r).getD k 0 * L.getD k 0 := rfl
  rw [sumL_take (by rw [gL_length]; exact hk)] at b2
  exact ⟨hU k, by omega, _, rfl, Int.mul_nonneg (hU k) (hL k), by omega⟩
theorem intRow_take {w : World} {A : Option Addr} {L : List Int} (h : IntRow w A L) (k : Nat) : IntRow w A (L.take k) := fun j hj => by
  rw [List.length_take] at hj
  obtain ⟨x, h1, h2, h3⟩ := h j (by omega)
  refine ⟨x, h1, h2, ?_⟩
  rw [h3, List.getD_eq_getElem?_getD, List.getD_eq_getElem?_getD, List.getElem?_take, if_pos (by omega)]

set_option maxRecDepth 100000 in
theorem change_big (a : Option Addr) (len cap : Nat) (w : World) (hl : 1048576 < len) (hm : len ≤ 9223372036854775807) :
    Calls Try.prog 3 #[.slice a len cap] w fun e w' => e = .returned (.bool true) ∧ Below w.heap.size w w' := by
  have hb : (1048576 : Int) < len := by omega
  go_enter Try.func3, Try.ntmps3
  go_wp2_with (go_at_call 10; go_in)
  go_ret
  exact ⟨rfl, Below.refl _ _⟩

set_option maxRecDepth 100000 in
set_option maxHeartbeats 4000000 in
theorem change_any (a : Option Addr) (len cap : Nat) (v0 : World) (hl : len ≤ 1048576) (hr : Bytes v0 v0.heap.size a len) :
    Calls Try.prog 3 #[.slice a len cap] v0 fun e w' => e = .returned (.bool true) ∧ Below v0.heap.size v0 w' := by
  have hb : ¬ (1048576 : Int) < len := by omega
  have hD := drawCoin_any v0.heap.size a len cap v0 rfl hl hr
  obtain ⟨x, x0, x1, A0⟩ := at_fix v0.heap.size a len cap 0 v0 hl (by decide) (by decide) hr
  obtain ⟨y, y0, y1, A1⟩ := at_fix v0.heap.size a len cap 1 v0 hl (by decide) (by decide) hr
  clear hr
  obtain ⟨R, hR⟩ : ∃ R : Nat, (x * 256 + y) % 1001 = (R : Int) := ⟨((x * 256 + y) % 1001).toNat, by omega⟩
  obtain ⟨m, hm⟩ : ∃ m : Nat, (R : Int) % 201 = (m : Int) := ⟨((R : Int) % 201).toNat, by omega⟩
  have hR1 : R ≤ 1000 := by omega
  have hm1 : m ≤ 200 := by omega
  go_enter Try.func3, Try.ntmps3
  go_wp2_with (go_at_call 10; go_in)
  refine hD.mono ?_
  rintro e v1 ⟨A, c, L, hP, h5, hc, rfl, rL, kb⟩
  clear hD hb hl
  obtain ⟨n, hn⟩ : ∃ n, L.length = n := ⟨_, rfl⟩
  have hB : sysB L = true := decide_eq_true hP
  have hn1 := hP.1.1.1
  have hG := fun v (r : IntRow v A L) => implGreedy_any A c n (R : Int) L v hn (by omega) r
  rw [greA_yes hB hR1] at hG
  have hF := fun v (r : IntRow v A L) => implFew_any A c n (R : Int) L v hn (by omega) r
  rw [fewC_yes hB hR1] at hF
  have hF2 := fun (z : Nat) (hz : z ≤ 200) v (r : IntRow v A L) => implFew_any A c n (z : Int) L v hn (by omega) r
  have hGd := fun v (r : IntRow v A L) => implGood_any A c n L v hn (by omega) (by omega) r
  have hBd := fun v (r : IntRow v A L) => implBad_any A c n L v hn (by omega) (by omega) r
  have hW := fun (z : Nat) v (r : IntRow v A L) => implCount_any A c n (z : Int) L v hn (by omega) r
  have hW2 := fun (k : Nat) (hk : k ≤ n) v (r : IntRow v A L) => implCount_any A c k (m : Int) (L.take k) v (by rw [List.length_take]; omega) (by omega) (intRow_take r k)
  have hwl := fun (k : Nat) (hk : L.length = k + 1) (h1 : 1 ≤ k) => W_last hP hk h1 hm1
  have hwp : 1 ≤ cntA L (m : Int) := by
    rw [cntA_yes hB hm1]
    obtain ⟨k, hk⟩ : ∃ k, L.length = k + 1 := ⟨L.length - 1, by omega⟩
    rw [hk]
    exact W_pos hP k (by omega) m hm1
  have hwt : ∀ z : Nat, z ≤ 200 → 0 ≤ cntA L (z : Int) ∧ cntA L (z : Int) ≤ 100000000000000 := fun z hz => by
    rw [cntA_yes hB hz]
    exact W_fit hP (Nat.le_refl _) hz
  have hwu : ∀ k, 1 ≤ k → k ≤ L.length → 0 ≤ cntA (L.take k) (m : Int) ∧ cntA (L.take k) (m : Int) ≤ 100000000000000 := fun k h1 h2 => by
    have hP2 := sysP_take hP h1 h2
    rw [cntA_yes (decide_eq_true hP2) hm1]
    exact W_fit hP2 (Nat.le_refl _) hm1
  obtain ⟨df, dg⟩ := dot_facts hP R
  have dl := gL_length L R
  have dd := dot_gL hP R
  have dn := sumL_gL hP R
  have hbg := best_greedy hP R
  have hgr := gN_le hP R
  have hgood : goodB L = decide (badA L < 0) := by unfold goodB; rw [hB, Bool.true_and]
  have halw := fun (h : badA L < 0) => good_always hP h R
  have hbad := fun (h : ¬ badA L < 0) => bad_least h
  have hbr := badA_range L
  have hf2 := fun (z : Nat) (hz : z ≤ 200) => fewC_yes hB (n := z) (by omega)
  have hcoin := fun (k : Nat) (hk : k < L.length) => hP.coin hk
  rw [hn] at df dg dl dd
  generalize gL L R = G at hG df dg dl dd dn
  have HG := Lib.hid (And.intro dl dn)
  have hL1 := Lib.hid hn
  rw [hn] at hc hn1 h5
  rw [hn]
  go_wp2_with fail
  refine (A0 _ kb).mono ?_
  rintro e w1 ⟨rfl, q1, rfl⟩
  have b := below_drewN (Below.refl v1.heap.size v1) q1
  replace rL := rL.keep b
  replace kb := below_more kb kb.size b
  clear b A0
  generalize v1.drewN q1 = w1 at rL kb ⊢
  go_wp2_with fail
  refine (A1 _ kb).mono ?_
  rintro e w2 ⟨rfl, q1, rfl⟩
  have b := below_drewN (Below.refl w1.heap.size w1) q1
  replace rL := rL.keep b
  replace kb := below_more kb kb.size b
  clear b A1
  generalize w1.drewN q1 = w2 at rL kb ⊢
  -- greedy change
  replace hF2 := Lib.hid hF2
  replace hW := Lib.hid hW
  replace hW2 := Lib.hid hW2
  replace hwl := Lib.hid hwl
  replace hwu := Lib.hid hwu
  replace hwt := Lib.hid hwt
  replace halw := Lib.hid halw
  replace hbad := Lib.hid hbad
  replace hf2 := Lib.hid hf2
  replace hcoin := Lib.hid hcoin
  replace df := Lib.hid df
  replace dg := Lib.hid dg
  replace dd := Lib.hid dd
  replace hgood := Lib.hid hgood
  replace hm := Lib.hid hm
  replace hF := Lib.hid hF
  replace hGd := Lib.hid hGd
  replace hBd := Lib.hid hBd
  clear hP hB hn dl dn
  go_wp2_with fail
  rw [hR]
  refine (hG _ rL).mono ?_
  clear hG hR
  rintro e w3 ⟨B, d, rfl, o, b⟩
  rw [HG.out.1] at o ⊢
  have rG : IntRow w3 B G := intRow_own o
  replace rL := rL.keep b
  replace kb := below_more kb kb.size b
  clear o b
  go_wp2_with fail
  go_loopw [6, 7, 8] (fun s u i wr => ∃ k q : Nat, k ≤ n ∧ i = .int .i64 k ∧ s = .int .i64 (dotTo G L k) ∧ u = .int .i64 (sumL (G.take k)) ∧ wr = w3.drewN q) (fun _ _ i _ => n - (intOf i).toNat)
  case atStart => exact ⟨0, 0, by omega, rfl, rfl, rfl, rfl⟩
  case round =>
    obtain ⟨k, q, hk, rfl, rfl, rfl, rfl⟩ := hrel
    have b := below_drewN (Below.refl w3.heap.size w3) q
    have hq : Hid (∀ nq, ∃ p, (w3.drewN q).drewN nq = w3.drewN p) := fun nq => ⟨q + nq, World.drewN_drewN ..⟩
    replace rL := rL.keep b
    replace rG := rG.keep b
    replace kb := below_more kb kb.size b
    clear b
    generalize w3.drewN q = wr at rL rG kb hq ⊢
    obtain ⟨f1, f2, f3, f4⟩ := df.out k hk
    by_cases hlt : k < n
    · obtain ⟨ya, rfl, -, hya⟩ := rL k (by have := hL1.out; omega)
      obtain ⟨yb, rfl, -, hyb⟩ := rG k (by have := HG.out.1; omega)
      obtain ⟨u0, u1, t, ht, t0, t1⟩ := dg.out k hlt
      obtain ⟨c1, c2, c3⟩ := hcoin.out k (by have := hL1.out; omega)
      have hki : (k : Int) < n := by omega
      have e1 : Hid (dotTo G L (k + 1) = dotTo G L k + t) := by
        have e : dotTo G L (k + 1) = dotTo G L k + G.getD k 0 * L.getD k 0 := rfl
        rw [ht] at e
        exact e
      have e2 := Lib.hid (sumL_take (L := G) (k := k) (by have := HG.out.1; omega))
      rw [c1] at hya ht
      clear c1 hF2 hW hW2 hwl hwu hwt halw hbad hf2 hcoin df dg dd hgood hm hF hGd hBd rL rG
      generalize dotTo G L k = s at f1 f2 e1 ⊢
      generalize sumL (G.take k) = v at f3 f4 e2 ⊢
      generalize G.getD k 0 = u at u0 u1 ht hyb e2
      generalize cn L k = cv at hya ht c2 c3
      go_wp2_with fail
      go_quiet (fail)
      have hya2 : (wr.drewN nq).cell? (ya.add k) = some (.int .i64 cv) := hya
      have hyb2 : (wr.drewN nq).cell? (yb.add k) = some (.int .i64 u) := hyb
      go_wp2_with fail
      go_roundw
      case rel => obtain ⟨p, hp⟩ := hq.out nq
                  exact ⟨k + 1, p, by omega, by go_num, by rw [e1.out], by rw [e2.out], hp⟩
      case measure => simp [intOf]; omega
    · obtain rfl : k = n := by omega
      have es : dotTo G L k = (R : Int) := dd.out
      have eu : sumL (G.take k) = (gN L R : Int) := by
        have e := HG.out
        rw [← e.1, sumL_all, e.2]
      rw [es, eu]
      have F := hF.out
      have Gd := hGd.out
      have Bd := hBd.out
      have W1 := hW.out m
      clear es eu df dg dd hF hGd hBd f1 f2 f3 f4 rG hq
      have hgd := hgood.out
      have hal := halw.out
      obtain ⟨bb, hbb⟩ : ∃ bb, badA L = bb := ⟨_, rfl⟩
      rw [hbb] at Bd hgd hal hbr
      obtain ⟨gg, hgg⟩ : ∃ gg, goodB L = gg := ⟨_, rfl⟩
      rw [hgg] at Gd hgd
      have hbd := hbad.out
      rw [hbb] at hbd
      clear hbad halw hgood
      obtain ⟨bv, hbv⟩ : ∃ bv, best L R = bv := ⟨_, rfl⟩
      rw [hbv] at F hal hbg
      obtain ⟨gv, hgv⟩ : ∃ gv, gN L R = gv := ⟨_, rfl⟩
      rw [hgv] at hal hbg hgr ⊢
      obtain ⟨ww, hww⟩ : ∃ ww, cntA L (m : Int) = ww := ⟨_, rfl⟩
      rw [hww] at W1 hwp
      have hm2 := hm.out
      have hw0 := hwt.out m hm1
      rw [hww] at hw0
      replace hal := Lib.hid hal
      replace hgd := Lib.hid hgd
      replace hbd := Lib.hid hbd
      replace hww := Lib.hid hww
      clear hbb hgg hbv hgv hm
      go_wp2_with fail
      with_reducible refine (F _ rL).mono ?_
      clear F
      rintro e w4 ⟨rfl, b⟩
      replace rL := rL.keep b
      replace kb := below_more kb kb.size b
      clear b
      go_wp2_with fail
      refine (Gd _ rL).mono ?_
      clear Gd
      rintro e w5 ⟨rfl, b⟩
      replace rL := rL.keep b
      replace kb := below_more kb kb.size b
      clear b
      go_wp2_with fail
      refine (Bd _ rL).mono ?_
      clear Bd
      rintro e w6 ⟨rfl, b⟩
      replace rL := rL.keep b
      replace kb := below_more kb kb.size b
      clear b
      go_wp2_with fail
      rw [hm2]
      refine (W1 _ rL).mono ?_
      clear W1
      rintro e w7 ⟨rfl, b⟩
      replace rL := rL.keep b
      replace kb := below_more kb kb.size b
      clear b
      obtain ⟨l, hl⟩ : ∃ l, k = l + 1 := ⟨k - 1, by omega⟩
      have hli : (k : Int) - 1 = (l : Int) := by omega
      rw [hli]
      have hL2 := hL1.out
      rw [hl] at hL2
      by_cases hl0 : l = 0
      · subst hl0
        clear hwl hwu hwt hW hW2 hcoin hm2 hli hL2 hw0
        obtain rfl : k = 1 := hl
        by_cases hneg : bb < 0
        · obtain rfl : bb = -1 := by omega
          obtain rfl : gg = true := hgd.out
          obtain rfl : gv = bv := hal.out (by decide)
          clear hgd hal hbd hneg hF2 hf2 rL hbr hww
          go_wp2_with fail
          go_ret
          exact ⟨rfl, kb⟩
        · obtain ⟨z, rfl, hz, hz2⟩ := hbd.out (by omega)
          obtain rfl : gg = false := by rw [hgd.out]; exact decide_eq_false hneg
          have F2 := hF2.out z hz
          rw [hf2.out z hz] at F2
          have hz3 : ¬ (z : Int) < 0 := by omega
          have hz4 : decide ((z : Int) < 0) = false := decide_eq_false hz3
          clear hgd hal hbd hneg hF2 hf2 hbr hww
          generalize best L z = v2 at F2 hz2
          have hv2 : (2 : Int) ≤ (v2 : Int) := by omega
          go_wp2_with fail
          refine (F2 _ rL).mono ?_
          clear F2
          rintro e w9 ⟨rfl, b⟩
          replace kb := below_more kb kb.size b
          clear b rL
          go_wp2_with fail
          go_ret
          exact ⟨rfl, kb⟩
      · have hwl2 := hwl.out l hL2 (by omega)
        have hwu2 := hwu.out l (by omega) (by omega)
        obtain ⟨c1, c2, c3⟩ := hcoin.out l (by omega)
        obtain ⟨ya, rfl, -, hya⟩ := rL l (by omega)
        rw [c1] at hya
        have W2 := hW2.out l (by omega)
        have hlk : (l : Int) < k := by omega
        have hlp : (0 : Int) < l := by omega
        have hlc : l ≤ c := by omega
        rw [hww.out] at hwl2
        obtain ⟨r2, hr2⟩ : ∃ r2, cntA (L.take l) (m : Int) = r2 := ⟨_, rfl⟩
        rw [hr2] at hwl2 hwu2 W2
        obtain ⟨cv, hcv⟩ : ∃ cv, cn L l = cv := ⟨_, rfl⟩
        rw [hcv] at hwl2 hya c2 c3
        by_cases hcm : cv ≤ m
        · obtain ⟨z, hz⟩ : ∃ z, m - cv = z := ⟨_, rfl⟩
          have hzi : (m : Int) - cv = (z : Int) := by omega
          rw [if_pos hcm, hz] at hwl2
          have W3 := hW.out z
          have hw3 := hwt.out z (by omega)
          obtain ⟨r1, hr1⟩ : ∃ r1, cntA L (z : Int) = r1 := ⟨_, rfl⟩
          rw [hr1] at hwl2 hw3 W3
          have hne : (ww != r1 + r2) = false := by rw [hwl2]; simp
          clear hwl hwu hwt hW hW2 hcoin hm2 hli hL2 hw0 hwl2 hr1 hr2 hcv hz c1 hl hL1
          go_wp2_with fail
          refine (W3 _ rL).mono ?_
          clear W3 hya
          rintro e w8 ⟨rfl, b⟩
          replace rL := rL.keep b
          replace kb := below_more kb kb.size b
          clear b
          go_wp2_with fail
          refine (W2 _ rL).mono ?_
          clear W2
          rintro e w8 ⟨rfl, b⟩
          replace rL := rL.keep b
          replace kb := below_more kb kb.size b
          clear b
          by_cases hneg : bb < 0
          · obtain rfl : bb = -1 := by omega
            obtain rfl : gg = true := hgd.out
            obtain rfl : gv = bv := hal.out (by decide)
            clear hgd hal hbd hneg hF2 hf2 rL hbr hww
            go_wp2_with fail
            go_ret
            exact ⟨rfl, kb⟩
          · obtain ⟨z, rfl, hz, hz2⟩ := hbd.out (by omega)
            obtain rfl : gg = false := by rw [hgd.out]; exact decide_eq_false hneg
            have F2 := hF2.out z hz
            rw [hf2.out z hz] at F2
            have hz3 : ¬ (z : Int) < 0 := by omega
            have hz4 : decide ((z : Int) < 0) = false := decide_eq_false hz3
            clear hgd hal hbd hneg hF2 hf2 hbr hww
            generalize best L z = v2 at F2 hz2
            have hv2 : (2 : Int) ≤ (v2 : Int) := by omega
            go_wp2_with fail
            refine (F2 _ rL).mono ?_
            clear F2
            rintro e w9 ⟨rfl, b⟩
            replace kb := below_more kb kb.size b
            clear b rL
            go_wp2_with fail
            go_ret
            exact ⟨rfl, kb⟩
        · rw [if_neg hcm, Int.zero_add] at hwl2
          have hne : (ww != r2) = false := by rw [hwl2]; simp
          clear hwl hwu hwt hW hW2 hcoin hm2 hli hL2 hw0 hwl2 hr2 hcv c1 hl hL1
          go_wp2_with fail
          refine (W2 _ rL).mono ?_
          clear W2 hya
          rintro e w8 ⟨rfl, b⟩
          replace rL := rL.keep b
          replace kb := below_more kb kb.size b
          clear b
          by_cases hneg : bb < 0
          · obtain rfl : bb = -1 := by omega
            obtain rfl : gg = true := hgd.out
            obtain rfl : gv = bv := hal.out (by decide)
            clear hgd hal hbd hneg hF2 hf2 rL hbr hww
            go_wp2_with fail
            go_ret
            exact ⟨rfl, kb⟩
          · obtain ⟨z, rfl, hz, hz2⟩ := hbd.out (by omega)
            obtain rfl : gg = false := by rw [hgd.out]; exact decide_eq_false hneg
            have F2 := hF2.out z hz
            rw [hf2.out z hz] at F2
            have hz3 : ¬ (z : Int) < 0 := by omega
            have hz4 : decide ((z : Int) < 0) = false := decide_eq_false hz3
            clear hgd hal hbd hneg hF2 hf2 hbr hww
            generalize best L z = v2 at F2 hz2
            have hv2 : (2 : Int) ≤ (v2 : Int) := by omega
            go_wp2_with fail
            refine (F2 _ rL).mono ?_
            clear F2
            rintro e w9 ⟨rfl, b⟩
            replace kb := below_more kb kb.size b
            clear b rL
            go_wp2_with fail
            go_ret
            exact ⟨rfl, kb⟩
end Go.Proofs.Ytjjedicjaojkcaa
