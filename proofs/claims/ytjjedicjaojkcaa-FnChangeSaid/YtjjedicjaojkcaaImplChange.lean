/-
  The contracts of the program's greedy change, least number of coins, first amount at which greedy change is bad, and check whether it is good. Only new memory is written.
-/
import Derived.Test.YtjjedicjaojkcaaImplSparing
import Derived.Test.YtjjedicjaojkcaaImplLast
import Derived.Test.YtjjedicjaojkcaaSpecBad
namespace Go.Proofs.Ytjjedicjaojkcaa
open Go.ChangeShapes Go.WideShapes Go.ChangeAt Go.RowKit Go.PlainAid

theorem copied_nil {w wr : World} (h : Below w.heap.size w wr) : Copied [] w (.returned (.slice none 0 0)) wr :=
  ⟨none, 0, rfl, ⟨rfl, .inl ⟨rfl, rfl⟩⟩, h⟩

theorem implGreedy_any (A : Option Addr) (c n : Nat) (m : Int) (L : List Int) (w : World) (hn : L.length = n) (hm : n ≤ 1000000000) (h : IntRow w A L) :
    Calls Try.prog 13 #[.slice A n c, .int .i64 m] w (Copied (greA L m) w) := by
  have hR := implSys_any A c n L w hn hm h
  obtain ⟨X, hX⟩ : ∃ X, greA L m = X := ⟨_, rfl⟩
  rw [hX]
  replace hX := Lib.hid hX
  go_enter Try.func13, Try.ntmps13
  go_wp2_with fail
  refine hR.mono ?_
  clear hR
  rintro e w1 ⟨rfl, q, rfl⟩
  have kb := below_drewN (Below.refl w.heap.size w) q
  generalize w.drewN q = w1 at kb ⊢
  rcases hb : sysB L with _ | _
  · obtain rfl : X = [] := hX.out.symm.trans (greA_no (by rw [hb]; simp))
    have hc := copied_nil kb
    clear h hX hb kb
    go_wp2_with fail
    go_ret
    exact hc
  · by_cases hm2 : 0 ≤ m ∧ m ≤ 1000
    · obtain ⟨r, rfl⟩ : ∃ r : Nat, m = (r : Int) := ⟨m.toNat, by omega⟩
      have hr : r ≤ 1000 := by omega
      have hP := sysB_P hb
      have hXX : pays L (gt L) r r (List.replicate L.length 0) = X := by rw [pays_gL hP, ← greA_yes hb hr, hX.out]
      have hG := implGreedily_any A c n w1
      have hPay : ∀ w2, Own w1 w2 [vrow w1.heap.size (.slice A n c)] → Calls Try.prog 31 #[.slice A n c, .int .i64 r, ByFn 42 w1.heap.size] w2 (Copied X w2) := fun w2 O => by
        have e := implPayGreedy_any A c n w1.heap.size L r (gt L) w2 hP hn hr ((h.keep kb).keep O.bel) (chooses_greedy hP r) fun wr b x hx hxr =>
          nextGreedy_any A c n w1.heap.size L x wr hP hn hx (by omega) (((h.keep kb).keep O.bel).keep b) ((b.cell (by have := lt_of_cell (O.vcell (v := .slice A n c) List.mem_cons_self); exact this)).trans (O.vcell List.mem_cons_self))
        rw [hXX] at e
        exact e
      have g1 : ¬ (r : Int) < 0 := by omega
      have g2 : ¬ 1000 < (r : Int) := by omega
      clear hX hXX hP hb hm2 h
      go_wp2_with fail
      refine hG.mono ?_
      clear hG
      rintro e w2 ⟨rfl, O⟩
      have hP2 := hPay w2 O
      replace kb := below_more kb kb.size O.bel
      clear hPay O
      go_wp2_with fail
      refine hP2.mono ?_
      clear hP2
      rintro e w3 ⟨B, d, rfl, o, b⟩
      have hc : Copied X w (.returned (.slice B X.length d)) w3 := by
        have O := ((Own.none w).keep kb).add b o
        exact Own.copied (v := .slice B X.length d) O
      clear o b kb
      go_wp2_with fail
      go_ret
      exact hc
    · obtain rfl : X = [] := hX.out.symm.trans (greA_no fun g => hm2 g.2)
      have hc := copied_nil kb
      clear h hX hb kb
      by_cases g1 : m < 0
      · go_wp2_with fail
        go_ret
        exact hc
      · have g2 : 1000 < m := by omega
        go_wp2_with fail
        go_ret
        exact hc

/-- Paying by the table of best choices up to m. -/
theorem paySparing_all {A B : Option Addr} {c n d g m : Nat} {L : List Int} {w2 : World} (hP : SysP L) (hn : L.length = n) (hm : m ≤ 1000) (h : IntRow w2 A L) (hB : IntRow w2 B (tb m fun y => (choi L y : Int))) (hv : w2.cell? ⟨g, 0, none⟩ = some (.slice B (m + 1) d)) (r : Nat) (hr : r ≤ m) :
    Calls Try.prog 31 #[.slice A n c, .int .i64 r, ByFn 43 g] w2 (Copied (pays L (choi L) r r (List.replicate L.length 0)) w2) :=
  implPaySparing_any A c n g L r (choi L) w2 hP hn (by omega) h (chooses_best hP r) fun wr b x hx hxr =>
    nextSparing_any B d (m + 1) g (tb m fun y => (choi L y : Int)) x (choi L x) wr (tb_length _ _) (by omega) (tb_get (by omega)) (hB.keep b) ((b.cell (lt_of_cell hv)).trans hv)
theorem pays_small {L : List Int} {f : Nat → Nat} {n : Nat} (h : Chooses L f n) : ∀ t r U, r ≤ t → r ≤ n → U.length = L.length → (∀ z ∈ U, (0 : Int) ≤ z ∧ z + (r : Int) ≤ (n : Int)) → ∀ z ∈ pays L f t r U, (0 : Int) ≤ z ∧ z ≤ (n : Int)
  | 0, r, U, _, _, _, hU, z, hz => by have := hU z hz; omega
  | t + 1, r, U, h1, h2, h3, hU, z, hz => by
    unfold pays at hz
    by_cases e : r = 0
    · rw [if_pos e] at hz
      have := hU z hz
      omega
    · rw [if_neg e] at hz
      obtain ⟨h4, h5, h6⟩ := h r (by omega) h2
      refine pays_small h t _ _ (by omega) (by omega) (by rw [addAt_length]; exact h3) (fun y hy => ?_) z hz
      obtain ⟨j, hj, rfl⟩ := List.mem_iff_getElem.1 hy
      rw [addAt_length] at hj
      have e1 : (addAt U (f r))[j]'(by rw [addAt_length]; exact hj) = (addAt U (f r)).getD j 0 := by rw [List.getD_eq_getElem?_getD, List.getElem?_eq_getElem (by rw [addAt_length]; exact hj)]; rfl
      have e2 : U[j] = U.getD j 0 := by rw [List.getD_eq_getElem?_getD, List.getElem?_eq_getElem hj]; rfl
      have hu := hU U[j] (List.getElem_mem hj)
      rw [e2] at hu
      rw [e1, addAt_get (by omega)]
      split <;> omega
theorem pays_million {L : List Int} {f : Nat → Nat} {r : Nat} (h : Chooses L f r) (hr : r ≤ 1000) : ∀ z ∈ pays L f r r (List.replicate L.length 0), 0 ≤ z ∧ z ≤ 1000000 := fun z hz => by
  have := pays_small h r r _ (Nat.le_refl _) (Nat.le_refl _) (by rw [List.length_replicate]) (fun y hy => by rw [(List.mem_replicate.1 hy).2]; omega) z hz
  omega

theorem implFew_any (A : Option Addr) (c n : Nat) (m : Int) (L : List Int) (w : World) (hn : L.length = n) (hm : n ≤ 1000000000) (h : IntRow w A L) :
    Calls Try.prog 14 #[.slice A n c, .int .i64 m] w (SaysI (fewC L m) w) := by
  have hR := implSys_any A c n L w hn hm h
  obtain ⟨X, hX⟩ : ∃ X, fewC L m = X := ⟨_, rfl⟩
  rw [hX]
  replace hX := Lib.hid hX
  go_enter Try.func14, Try.ntmps14
  go_wp2_with fail
  refine hR.mono ?_
  clear hR
  rintro e w1 ⟨rfl, q, rfl⟩
  have kb := below_drewN (Below.refl w.heap.size w) q
  generalize w.drewN q = w1 at kb ⊢
  rcases hb : sysB L with _ | _
  · obtain rfl : X = -1 := hX.out.symm.trans (fewC_no (by rw [hb]; simp))
    clear h hX hb
    go_wp2_with fail
    go_ret
    exact ⟨rfl, kb⟩
  · by_cases hm2 : 0 ≤ m ∧ m ≤ 1000
    · obtain ⟨r, rfl⟩ : ∃ r : Nat, m = (r : Int) := ⟨m.toNat, by omega⟩
      have hr : r ≤ 1000 := by omega
      have hP := sysB_P hb
      have hG := implSparingly_any A c n r L w1 hP hn hr (h.keep kb)
      have hS : sumL (pays L (choi L) r r (List.replicate L.length 0)) = X := by rw [sumL_best hP (n := r) (choi L) (fun _ _ => rfl) (Nat.le_refl _), ← hX.out, fewC_yes hb hr]
      have hl : (pays L (choi L) r r (List.replicate L.length 0)).length = n := by rw [pays_length, List.length_replicate, hn]
      have hn6 := hP.1.1
      have hT := fun B d W r' => implTotal_any B d n _ W hl (by omega) (pays_million (chooses_best hP r) hr) r'
      rw [hS] at hT
      have hPay := fun B d g w2 O r2 hv => paySparing_all (A := A) (B := B) (c := c) (d := d) (g := g) (w2 := w2) hP hn hr O r2 hv r (Nat.le_refl r)
      have g1 : ¬ (r : Int) < 0 := by omega
      have g2 : ¬ 1000 < (r : Int) := by omega
      have hrow := h.keep kb
      replace hl := Lib.hid hl
      clear hX hS hP hb hm2 h hn6
      generalize pays L (choi L) r r (List.replicate L.length 0) = U at hT hPay hl
      have hTl : (tb r fun y => (choi L y : Int)).length = r + 1 := tb_length _ _
      generalize (tb r fun y => (choi L y : Int)) = T at hG hPay hTl
      go_wp2_with fail
      refine hG.mono ?_
      clear hG
      rintro e w2 ⟨g, B, d, rfl, O⟩
      have hP2 := hPay B d g w2 (hrow.keep O.bel) (O.tl.row (v := .slice B (r + 1) d) List.mem_cons_self rfl hTl.symm) (O.vcell List.mem_cons_self)
      replace kb := below_more kb kb.size O.bel
      clear hPay O hrow hTl
      go_wp2_with fail
      refine hP2.mono ?_
      clear hP2
      rintro e w3 ⟨B3, d3, rfl, o, b⟩
      rw [hl.out]
      have hT2 := hT B3 d3 w3 (intRow_own o)
      replace kb := below_more kb kb.size b
      clear o b hT
      go_wp2_with fail
      refine hT2.mono ?_
      clear hT2
      rintro e w4 ⟨rfl, rfl⟩
      go_wp2_with fail
      go_ret
      exact ⟨rfl, kb⟩
    · obtain rfl : X = -1 := hX.out.symm.trans (fewC_no fun g => hm2 g.2)
      clear h hX hb
      by_cases g1 : m < 0
      · go_wp2_with fail
        go_ret
        exact ⟨rfl, kb⟩
      · have g2 : 1000 < m := by omega
        go_wp2_with fail
        go_ret
        exact ⟨rfl, kb⟩

theorem badA_last {L : List Int} (hP : SysP L) : badA L = firstP (badAt L) (lastD L) 1 := by
  have h0 := hP.1.1
  by_cases h2 : 2 ≤ L.length
  · rw [badA_yes (decide_eq_true hP) h2]
    unfold badL lastD
    rw [if_neg (by omega)]
  · have e : badAt L 1 = false := decide_eq_false (by rw [greedy_one hP (by omega)]; simp)
    rw [badA_one h2]
    unfold lastD
    rw [if_pos (by omega)]
    show _ = if badAt L 1 = true then _ else _
    rw [e]
    rfl
theorem lastD_le {L : List Int} (hP : SysP L) : 1 ≤ lastD L ∧ lastD L ≤ 200 := by
  have := most_le hP
  unfold lastD
  split <;> omega

set_option maxHeartbeats 2000000 in
theorem implBad_any (A : Option Addr) (c n : Nat) (L : List Int) (w : World) (hn : L.length = n) (hm : n ≤ 1000000000) (hc : n ≤ c) (h : IntRow w A L) :
    Calls Try.prog 16 #[.slice A n c] w (SaysI (badA L) w) := by
  have hR := implSys_any A c n L w hn hm h
  obtain ⟨X, hX⟩ : ∃ X, badA L = X := ⟨_, rfl⟩
  rw [hX]
  replace hX := Lib.hid hX
  go_enter Try.func16, Try.ntmps16
  go_wp2_with fail
  refine hR.mono ?_
  clear hR
  rintro e w1 ⟨rfl, q, rfl⟩
  have kb := below_drewN (Below.refl w.heap.size w) q
  generalize w.drewN q = w1 at kb ⊢
  rcases hb : sysB L with _ | _
  · obtain rfl : X = -1 := hX.out.symm.trans (badA_no hb)
    clear h hX hb
    go_wp2_with fail
    go_ret
    exact ⟨rfl, kb⟩
  · have hP := sysB_P hb
    have hML := lastD_le hP
    have hLast := implLast_any A c n L w1 hP hn hc (h.keep kb)
    have hG := fun W => implGreedily_any A c n W
    have hSp := fun m (hm : m ≤ 1000) W r => implSparingly_any A c n m L W hP hn hm r
    have hn6 := hP.1.1
    rw [hn] at hn6
    have hrow := h.keep kb
    rw [badA_last hP] at hX
    have hgg := fun x => pays_gL hP x
    have hgs := fun x => sumL_gL hP x
    have hgl := fun x => gL_length L x
    have hbs := fun x => sumL_best hP (n := x) (r := x) (choi L) (fun _ _ => rfl) (Nat.le_refl _)
    have hpg := fun g (x : Nat) (hx : x ≤ 1000) W r hv => implPayGreedy_any A c n g L x (gt L) W hP hn hx r (chooses_greedy hP x) hv
    have hng := fun g (x : Nat) (h1 : 1 ≤ x) (hx : x ≤ 1000) W r hv => nextGreedy_any A c n g L x W hP hn h1 hx r hv
    have hps := fun m g B d (hm : m ≤ 1000) W r r2 hv (x : Nat) (hx : x ≤ m) => paySparing_all (A := A) (B := B) (c := c) (n := n) (d := d) (g := g) (m := m) (w2 := W) hP hn hm r r2 hv x hx
    have hms := fun (x : Nat) (hx : x ≤ 1000) => pays_million (chooses_best hP x) hx
    have hpl := fun f x => (pays_length L f x x (List.replicate L.length 0)).trans List.length_replicate
    generalize lastD L = m at hX hML hLast
    clear hb h hP
    go_wp2_with fail
    refine hLast.mono ?_
    clear hLast
    rintro e w2 ⟨rfl, rfl⟩
    go_wp2_with fail
    refine (hG _).mono ?_
    clear hG
    rintro e w2 ⟨rfl, O⟩
    have v1 := O.vcell (g := w1.heap.size) (v := .slice A n c) List.mem_cons_self
    obtain ⟨g1, hg1⟩ : ∃ g1, w1.heap.size = g1 := ⟨_, rfl⟩
    rw [hg1] at v1 ⊢
    replace hrow := hrow.keep O.bel
    replace kb := below_more kb kb.size O.bel
    clear O hg1
    go_wp2_with fail
    refine (hSp m (by omega) _ hrow).mono ?_
    clear hSp
    rintro e w3 ⟨g2, B, d, rfl, O⟩
    have b := O.bel
    have v2 := O.vcell (g := g2) (v := .slice B (m + 1) d) List.mem_cons_self
    have rB : IntRow w3 B (tb m fun y => (choi L y : Int)) := O.tl.row (v := .slice B (m + 1) d) List.mem_cons_self rfl (tb_length _ _).symm
    replace v1 := (b.cell (lt_of_cell v1)).trans v1
    replace hrow := hrow.keep b
    replace kb := below_more kb kb.size b
    clear b O
    unfold ByFn at *
    go_wp2_with fail
    obtain ⟨M, hM⟩ : ∃ M, m + 1 = M := ⟨_, rfl⟩
    have hX3 : Hid (firstP (badAt L) (M - 1) 1 = X) := by
      have := hX.out
      rw [show M - 1 = m by omega]
      exact this
    clear hX
    go_loopw [6] (fun i wr => ∃ x : Nat, 1 ≤ x ∧ x ≤ M ∧ i = .int .i64 x ∧ Hid (firstP (badAt L) (M - x) x = X) ∧ IntRow wr A L ∧ IntRow wr B (tb m fun y => (choi L y : Int)) ∧ wr.cell? ⟨g1, 0, none⟩ = some (.slice A n c) ∧ wr.cell? ⟨g2, 0, none⟩ = some (.slice B (m + 1) d) ∧ Below w.heap.size w wr) (fun i _ => M - (intOf i).toNat)
    case atStart => exact ⟨1, by omega, by omega, rfl, hX3, hrow, rB, v1, v2, kb⟩
    case round =>
      clear hX3 hrow rB v1 v2 kb
      obtain ⟨x, hx1, hx, rfl, hX3, hrow, rB, v1, v2, kb⟩ := hrel
      by_cases hlt : x < M
      · have hxm : (x : Int) ≤ m := by omega
        have hst := hX3.out
        rw [firstP_step hlt] at hst
        have hbad : badAt L x = decide ((gN L x : Int) ≠ (best L x : Int)) := rfl
        replace hst := Lib.hid hst
        clear hX3
        have c1 := hpg g1 x (by omega) wr hrow fun w' b y h1 h2 => hng g1 y h1 (by omega) w' (hrow.keep b) ((b.cell (lt_of_cell v1)).trans v1)
        rw [hgg] at c1
        have c2 := fun B d W r => implTotal_any B d n (gL L x) W ((hgl x).trans hn) (by omega) (gL_small x (by omega)) r
        rw [hgs] at c2
        have c3 := fun W r r2 hv => hps m g2 B d (by omega) W r r2 hv x (by omega)
        have c4 := fun B d W r => implTotal_any B d n (pays L (choi L) x x (List.replicate L.length 0)) W ((hpl _ x).trans hn) (by omega) (hms x (by omega)) r
        rw [hbs] at c4
        have l1 := (hgl x).trans hn
        have l2 := (hpl (choi L) x).trans hn
        replace l1 := Lib.hid l1
        replace l2 := Lib.hid l2
        generalize gL L x = G at c1 c2 l1
        generalize pays L (choi L) x x (List.replicate L.length 0) = U at c3 c4 l2
        generalize gN L x = s1 at c2 hbad
        generalize best L x = s2 at c4 hbad
        generalize badAt L x = t at hst hbad
        clear hgg hgs hgl hbs hpg hng hps hms hpl hlt
        go_wp2_with fail
        refine c1.mono ?_
        clear c1
        rintro e w4 ⟨B4, d4, rfl, o, b⟩
        rw [l1.out]
        have r4 := intRow_own o
        replace v1 := (b.cell (lt_of_cell v1)).trans v1
        replace v2 := (b.cell (lt_of_cell v2)).trans v2
        replace rB := rB.keep b
        replace hrow := hrow.keep b
        replace kb := below_more kb kb.size b
        clear o b
        go_wp2_with fail
        refine (c2 _ _ _ r4).mono ?_
        clear c2 r4
        rintro e w5 ⟨rfl, rfl⟩
        go_wp2_with fail
        refine (c3 _ hrow rB v2).mono ?_
        clear c3
        rintro e w5 ⟨B5, d5, rfl, o, b⟩
        rw [l2.out]
        have r5 := intRow_own o
        replace v1 := (b.cell (lt_of_cell v1)).trans v1
        replace v2 := (b.cell (lt_of_cell v2)).trans v2
        replace rB := rB.keep b
        replace hrow := hrow.keep b
        replace kb := below_more kb kb.size b
        clear o b
        go_wp2_with fail
        refine (c4 _ _ _ r5).mono ?_
        clear c4 r5
        rintro e w6 ⟨rfl, rfl⟩
        have hE := Lib.hid (And.intro v1 v2)
        clear v1 v2
        by_cases e : (s1 : Int) = (s2 : Int)
        · have e1 : ((s1 : Int) != (s2 : Int)) = false := by simp; omega
          have hX3 : Hid (firstP (badAt L) (M - (x + 1)) (x + 1) = X) := by
            have := hst.out
            rw [hbad, if_neg (by simp; omega)] at this
            exact this
          clear hbad hst e
          go_wp2_with fail
          go_roundw
          case rel => exact ⟨x + 1, by omega, by omega, by go_num, hX3, hrow, rB, hE.out.1, hE.out.2, kb⟩
          case measure => simp [intOf]; omega
        · have e1 : ((s1 : Int) != (s2 : Int)) = true := by simp; omega
          obtain rfl : X = (x : Int) := by
            have := hst.out
            rw [hbad, if_pos (by simp; omega)] at this
            exact this.symm
          clear hbad hst e
          go_wp2_with fail
          go_ret
          exact ⟨rfl, kb⟩
      · obtain rfl : x = M := by omega
        obtain rfl : X = -1 := by
          have := hX3.out
          rw [Nat.sub_self] at this
          exact this.symm
        have hge : ¬ (x : Int) ≤ m := by omega
        clear hX3 hgg hgs hgl hbs hpg hng hps hms hpl hrow rB v1 v2
        go_wp2_with fail
        go_ret
        exact ⟨rfl, kb⟩

theorem implGood_any (A : Option Addr) (c n : Nat) (L : List Int) (w : World) (hn : L.length = n) (hm : n ≤ 1000000000) (hc : n ≤ c) (h : IntRow w A L) :
    Calls Try.prog 15 #[.slice A n c] w (SaysB (goodB L) w) := by
  have hR := implSys_any A c n L w hn hm h
  obtain ⟨X, hX⟩ : ∃ X, goodB L = X := ⟨_, rfl⟩
  rw [hX]
  replace hX := Lib.hid hX
  go_enter Try.func15, Try.ntmps15
  go_wp2_with fail
  refine hR.mono ?_
  clear hR
  rintro e w1 ⟨rfl, q, rfl⟩
  have kb := below_drewN (Below.refl w.heap.size w) q
  generalize w.drewN q = w1 at kb ⊢
  rcases hb : sysB L with _ | _
  · obtain rfl : X = false := hX.out.symm.trans (by unfold goodB; rw [hb]; rfl)
    clear h hX hb
    go_wp2_with fail
    go_ret
    exact ⟨rfl, kb⟩
  · have hB := implBad_any A c n L w1 hn hm hc (h.keep kb)
    have hX2 : Hid (decide (badA L < 0) = X) := by
      have := hX.out
      unfold goodB at this
      rw [hb, Bool.true_and] at this
      exact this
    have hr := (badA_range L).1
    clear hX hb h
    generalize badA L = r at hB hX2 hr
    go_wp2_with fail
    refine hB.mono ?_
    clear hB
    rintro e w2 ⟨rfl, b⟩
    replace kb := below_more kb kb.size b
    clear b
    by_cases hr2 : r < 0
    · obtain rfl : X = true := hX2.out.symm.trans (decide_eq_true hr2)
      obtain rfl : r = -1 := by omega
      clear hX2 hr2 hr
      go_wp2_with fail
      go_ret
      exact ⟨rfl, kb⟩
    · obtain rfl : X = false := hX2.out.symm.trans (decide_eq_false hr2)
      have hr3 : (r == -1) = false := by simp; omega
      clear hX2
      go_wp2_with fail
      go_ret
      exact ⟨rfl, kb⟩
end Go.Proofs.Ytjjedicjaojkcaa
