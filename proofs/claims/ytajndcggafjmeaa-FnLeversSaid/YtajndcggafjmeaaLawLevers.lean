/-
  The law on levers: a beam is level with a further weight at its place, and torque moves with the beam.
-/
import Derived.Test.YtajndcggafjmeaaAtFix
import Derived.Test.YtajndcggafjmeaaDrawBeam
import Derived.Test.YtajndcggafjmeaaPlace
import Derived.Test.YtajndcggafjmeaaImplMerge
import Derived.BigQuiet
import Derived.Deep.RegionLaw
import Derived.Deep.DeepCutAuto
import Derived.Lib.Hide
import Derived.Test.YtajndcggafjmeaaHeldTwo
namespace Go.Proofs.Ytajndcggafjmeaa
open Go.ChangeShapes Go.WideShapes Go.ChangeAt Go.RowKit Go.PlainAid

theorem box_news {w : World} {q : Nat} {a b : Int} {ty : TypeId} (h : Box w q a b ty) : ∀ j u, [Value.int .i64 a, Value.int .i64 b][j]? = some u → w.cell? ((⟨q, 0, none⟩ : Addr).add j) = some u := fun j u hu => by
  have e : (⟨q, 0, none⟩ : Addr).add j = ⟨q, j, none⟩ := by unfold Addr.add; split <;> simp_all
  rw [e]
  match j, hu with
  | 0, hu => injection hu with hu; subst hu; exact h.c0
  | 1, hu => injection hu with hu; subst hu; exact h.c1
  | j + 2, hu => simp at hu
set_option maxRecDepth 100000 in
theorem levers_big (a : Option Addr) (len cap : Nat) (w : World) (hl : 1048576 < len) (hm : len ≤ 9223372036854775807) :
    Calls Try.prog 3 #[.slice a len cap] w fun e w' => e = .returned (.bool true) ∧ Below w.heap.size w w' := by
  have hb : (1048576 : Int) < len := by omega
  clear hm
  go_enter Try.func3, Try.ntmps3
  go_wp2_with (go_at_call 11; go_in)
  go_ret
  exact ⟨rfl, Below.refl _ _⟩

set_option maxRecDepth 100000 in
set_option maxHeartbeats 4000000 in
theorem levers_any (A : Option Addr) (len cap : Nat) (w : World) (hl : len ≤ 1048576) (hr : Bytes w w.heap.size A len) :
    Calls Try.prog 3 #[.slice A len cap] w fun e w' => e = .returned (.bool true) ∧ Below w.heap.size w w' := by
  have hb : ¬ (1048576 : Int) < len := by omega
  obtain ⟨s, s0, s1, A0⟩ := at_fix w.heap.size A len cap 0 w hl (by decide) (by decide) hr
  obtain ⟨t, t0, t1, A1⟩ := at_fix w.heap.size A len cap 1 w hl (by decide) (by decide) hr
  have hD := drawBeam_any w.heap.size A len cap w rfl hl hr
  clear hr hl
  obtain ⟨m, hm⟩ : ∃ m : Int, 1 + s % 30 = m := ⟨_, rfl⟩
  obtain ⟨z, hz⟩ : ∃ z : Int, t % 41 - 20 = z := ⟨_, rfl⟩
  have hm2 : 1 ≤ m ∧ m ≤ 30 := by omega
  have hz2 : -20 ≤ z ∧ z ≤ 20 := by omega
  go_enter Try.func3, Try.ntmps3
  go_wp2_with (go_at_call 11; go_in)
  refine hD.mono ?_
  clear hD
  rintro e w1 ⟨B, c, L, low, nB, rfl, r, kb⟩
  obtain ⟨n, hn⟩ : ∃ n, L.length = n := ⟨_, rfl⟩
  have n6 : n ≤ 6 := by have := low.1; omega
  rw [hn] at nB ⊢
  have ok := low.ok
  have hPl := fun W (r : HangRow W B L) => implPlace_yes B n c L m W hn r ok (by omega)
  obtain ⟨P, Q, e1, e2, e3, hQ, hP, eP⟩ := frac_law (t := -tq L) (b := m) (by omega) (by omega) (by have := low_torq low; omega)
  rw [e1, e2, e3] at hPl
  have hSh := fun W (r : HangRow W B L) => implShift_yes B n c L z W hn nB r ok (by omega)
  have okS := low_shift low hz2
  rw [bok_yes okS, show shA L z = shift L z from if_pos okS] at hSh
  have hTS := fun B d W (r : HangRow W B (shift L z)) => implTorq B n d (shift L z) W (by rw [shift_length]; exact hn) r
  rw [tq_shift ok okS] at hTS
  have hTb := fun W (r : HangRow W B L) => implTorq B n c L W hn r
  have hMg := fun W (r : HangRow W B L) => implMerge B n c L W hn nB r
  obtain ⟨em, lm⟩ := tq_mg (low_mok low)
  have hTM := fun B d W (r : HangRow W B (mg L)) => implTorq B (mg L).length d (mg L) W rfl r
  rw [em] at hTM
  have hLv := fun W (r : HangRow W B L) => implLevel B n c L W hn r
  rw [bok_yes ok, Bool.true_and] at hLv
  have hld := low_load low
  have htq := low_torq low
  obtain ⟨l, el⟩ : ∃ l, ld L = l := ⟨_, rfl⟩
  obtain ⟨q, eq_⟩ : ∃ q, tq L = q := ⟨_, rfl⟩
  have hCe : ∃ U V, (0 < l → U * l = q * V ∧ (-2400 ≤ U ∧ U ≤ 2400) ∧ 1 ≤ V ∧ V ≤ 1000) ∧ ∀ W (_ : HangRow W B L), Calls Try.prog 18 #[.slice B n c] W (SaysF U V (decide (0 < l)) W) := by
    by_cases h0 : 0 < l
    · obtain ⟨U, V, f1, f2, f3, hV, hU, eU⟩ := frac_law (t := tq L) (b := ld L) (by omega) (by omega) (by omega)
      have k := fun W (r : HangRow W B L) => implCenter_yes B n c L W hn r ok (by omega)
      rw [f1, f2, f3] at k
      rw [el, eq_] at eU
      exact ⟨U, V, fun _ => ⟨eU, hU, hV⟩, fun W r => by rw [decide_eq_true h0]; exact k W r⟩
    · exact ⟨0, 0, fun h => (h0 h).elim, fun W r => by rw [decide_eq_false h0]; exact implCenter_nil B n c L W hn r ok (by omega)⟩
  obtain ⟨U, V, hUV, hCe⟩ := hCe
  have hFu : Q = 1 → (-100 ≤ P ∧ P ≤ 100) → bok (L ++ [(P, m)]) = true ∧ tq (L ++ [(P, m)]) = 0 := fun h g => low_further low g hm2 (by rw [eP, h, Int.mul_one])
  have ht2 : load L n = l := by rw [← hn]; exact el
  have hLo : ∀ k, k < n → load L (k + 1) = load L k + (hget L k).2 := fun k _ => rfl
  have hL2 : ∀ k, k ≤ n → 0 ≤ load L k ∧ load L k ≤ 12000 := fun k hk => by have := load_le (L := L) (k := k) (fun j hj => ok.2 j (by omega)); omega
  have hW2 : ∀ k, k < n → 0 ≤ (hget L k).2 ∧ (hget L k).2 ≤ 1000 := fun k hk => (ok.2 k (by omega)).2
  rw [el] at hTS hld
  rw [eq_] at hTS hTb hTM hLv htq eP
  replace hFu := Lib.hid hFu
  replace hUV := Lib.hid hUV
  replace hLo := Lib.hid hLo
  replace hL2 := Lib.hid hL2
  replace hW2 := Lib.hid hW2
  replace ht2 := Lib.hid ht2
  replace hn := Lib.hid hn
  replace lm := Lib.hid lm
  replace eP := Lib.hid eP
  clear em el eq_ ok okS low e1 e2 e3 hb
  go_wp2_with fail
  refine (A0 _ kb).mono ?_
  rintro e w2 ⟨rfl, q1, rfl⟩
  have b := below_drewN (Below.refl w1.heap.size w1) q1
  replace r := r.keep b
  replace kb := below_more kb kb.size b
  clear b
  generalize w1.drewN q1 = w2 at kb r ⊢
  clear A0 q1
  go_wp2_with fail
  refine (A1 _ kb).mono ?_
  rintro e w3 ⟨rfl, q1, rfl⟩
  have b := below_drewN (Below.refl w2.heap.size w2) q1
  replace r := r.keep b
  replace kb := below_more kb kb.size b
  clear b
  generalize w2.drewN q1 = w3 at kb r ⊢
  clear A1 q1
  go_wp2_with fail
  refine (hPl _ r).mono ?_
  rintro e w4 ⟨rfl, b⟩
  replace r := r.keep b
  replace kb := below_more kb kb.size b
  clear b
  clear hPl
  have b := (Below.refl w4.heap.size w4).alloc (Nat.le_refl _) (.cells #[.int .i64 P, .int .i64 Q] 28)
  have x6 := Box.new w4 P Q 28
  replace r := r.keep b
  replace kb := below_more kb kb.size b
  clear b
  go_upto_region 7 with fail
  generalize w4.heap.size = p6 at x6 ⊢
  generalize w4.alloc (.cells #[.int .i64 P, .int .i64 Q] 28) = w5 at x6 r kb ⊢
  go_wp2_with fail
  refine (hSh _ r).mono ?_
  rintro e w6 ⟨SA, sc, rfl, O⟩
  have b := O.bel
  replace r := r.keep b
  replace x6 := x6.keep b x6.lt
  replace kb := below_more kb kb.size b
  clear b
  have rS : HangRow w6 SA (shift L z) := O.hangs List.mem_cons_self rfl rfl
  clear O hSh
  rw [shift_length, hn.out]
  go_wp2_with fail
  go_loopw [11, 10] (fun i v wr => ∃ k : Nat, k ≤ n ∧ i = .int .i64 k ∧ v = .int .i64 (load L k) ∧ wr = w6) (fun i _ _ => n - (intOf i).toNat)
  case atStart => exact ⟨0, by omega, rfl, rfl, rfl⟩
  case round =>
    obtain ⟨k, hk, rfl, rfl, rfl⟩ := hrel
    by_cases hlt : k < n
    · obtain ⟨x, rfl, hx, hc0, hc, hc2⟩ := r.at (j := k) (by have := hn.out; omega)
      have e := hLo.out k hlt
      have l2 := hL2.out k hk
      have w2' := hW2.out k hlt
      generalize load L k = l0 at e l2 ⊢
      obtain ⟨X, Y, hXY⟩ : ∃ X Y, hget L k = (X, Y) := ⟨_, _, rfl⟩
      rw [hXY] at hc0 hc hc2 e w2'
      dsimp only at hc0 hc hc2 e w2'
      clear hXY r rS x6 kb hTS hTb hMg hTM hLv hCe nB
      go_wp2_with fail
      go_roundw
      case rel => exact ⟨k + 1, by omega, by go_num, by rw [e], trivial⟩
      case measure => simp [intOf]; omega
    · obtain rfl : k = n := by omega
      rw [ht2.out]
      clear hLo hL2 hW2 hk hlt
      go_wp2_with fail
      refine (hTb _ r).mono ?_
      rintro e w7 ⟨rfl, b⟩
      replace r := r.keep b
      replace x6 := x6.keep b x6.lt
      replace rS := rS.keep b
      replace kb := below_more kb kb.size b
      clear b
      clear hTb
      go_wp2_with fail
      refine (hMg _ r).mono ?_
      rintro e w8 ⟨MA, mc, rfl, o, b⟩
      have rM := hangRow_own o
      replace r := r.keep b
      replace x6 := x6.keep b x6.lt
      replace rS := rS.keep b
      replace kb := below_more kb kb.size b
      clear b
      clear o hMg
      have lm2 := lm.out
      obtain ⟨lm3, hlm⟩ : ∃ lm3, (mg L).length = lm3 := ⟨_, rfl⟩
      rw [hlm] at hTM lm2 ⊢
      clear hlm lm
      go_wp2_with fail
      refine (hCe _ r).mono ?_
      rintro e w9 ⟨rfl, b⟩
      replace r := r.keep b
      replace x6 := x6.keep b x6.lt
      replace rS := rS.keep b
      replace rM := rM.keep b
      replace kb := below_more kb kb.size b
      clear b
      clear hCe
      have b := (Below.refl w9.heap.size w9).alloc (Nat.le_refl _) (.cells #[.int .i64 U, .int .i64 V] 28)
      have x14 := Box.new w9 U V 28
      replace r := r.keep b
      replace x6 := x6.keep b x6.lt
      replace rS := rS.keep b
      replace rM := rM.keep b
      replace kb := below_more kb kb.size b
      clear b
      go_upto_region 16 with fail
      generalize w9.heap.size = p14 at x14 ⊢
      generalize w9.alloc (.cells #[.int .i64 U, .int .i64 V] 28) = w10 at x14 x6 r rS rM kb ⊢
      have c0 := x6.c0
      have c1 := x6.c1
      obtain ⟨y, hy⟩ : ∃ y, z * l = y := ⟨_, rfl⟩
      have hy2 : -5000 ≤ y ∧ y ≤ 5000 := by
        have h1 := Int.mul_le_mul_of_nonneg_right hz2.1 hld.1
        have h2 := Int.mul_le_mul_of_nonneg_right hz2.2 hld.1
        omega
      obtain ⟨x, hx⟩ : ∃ x, P * m = x := ⟨_, rfl⟩
      have hx2 : -q * Q = x := by rw [← hx]; exact eP.out.symm
      have hx3 : -100000 ≤ x ∧ x ≤ 100000 := by
        have h1 := Int.mul_le_mul_of_nonneg_right hP.1 (show 0 ≤ m by omega)
        have h2 := Int.mul_le_mul_of_nonneg_right hP.2 (show 0 ≤ m by omega)
        omega
      rw [hy] at hTS
      go_wp2_with fail
      refine (hTS _ _ _ rS).mono ?_
      rintro e w11 ⟨rfl, b⟩
      replace r := r.keep b
      replace x6 := x6.keep b x6.lt
      replace rS := rS.keep b
      replace rM := rM.keep b
      replace x14 := x14.keep b x14.lt
      replace kb := below_more kb kb.size b
      clear b
      clear hTS
      go_wp2_with fail
      refine (hTM _ _ _ rM).mono ?_
      rintro e w12 ⟨rfl, b⟩
      replace r := r.keep b
      replace x6 := x6.keep b x6.lt
      replace rS := rS.keep b
      replace rM := rM.keep b
      replace x14 := x14.keep b x14.lt
      replace kb := below_more kb kb.size b
      clear b
      clear hTM rS rM
      go_wp2_with fail
      refine (hLv _ r).mono ?_
      rintro e w13 ⟨rfl, b⟩
      replace r := r.keep b
      replace x6 := x6.keep b x6.lt
      replace x14 := x14.keep b x14.lt
      replace kb := below_more kb kb.size b
      clear b
      clear hLv
      clear hx hx2 hx3 hy hy2 c0 c1
      have hqq : (!decide (q = 0) == (q == 0)) = false := by by_cases h : q = 0 <;> simp [h]
      go_wp2_with fail
      have c0 : w13.drew.cell? ⟨p6, 0, none⟩ = some (.int .i64 P) := x6.c0
      have c1 : w13.drew.cell? ⟨p6, 1, none⟩ = some (.int .i64 Q) := x6.c1
      replace kb := below_drew_h kb
      have y14 : Box w13.drew p14 U V 28 := x14
      have y6 : Box w13.drew p6 P Q 28 := x6
      have r0 := r.keep (below_drew_h (Below.refl w13.heap.size w13))
      clear x14 x6 r hqq htq hP hQ hz2 s0 s1 t0 t1
      by_cases hQ1 : Q = 1
      · subst hQ1
        by_cases h1 : -100 ≤ P
        · by_cases h2 : P ≤ 100
          · have hP3 : -100 ≤ P ∧ P ≤ 100 := ⟨h1, h2⟩
            obtain ⟨hf1, hf2⟩ := hFu.out rfl ⟨h1, h2⟩
            have hLN := fun A2 c2 W (rr : HangRow W A2 (L ++ [(P, m)])) => implLevel A2 (k + 1) c2 (L ++ [(P, m)]) W (by rw [List.length_append, hn.out]; rfl) rr
            rw [hf1, hf2, Bool.true_and, decide_eq_true rfl] at hLN
            clear hf1 hf2 hFu
            obtain ⟨i0, hi, iz0, iz1, iz2⟩ := info_parts Try.infoHangT
            refine held_drew (fun W => W.cell? ⟨p6, 0, none⟩ = some (.int .i64 P) ∧ W.cell? ⟨p6, 1, none⟩ = some (.int .i64 1)) (by kernel_rfl) (⟨c0, c1⟩) (fun hHeld => ?_)
            generalize w13.drew = W0 at kb y14 r0 y6 hHeld c0 c1 ⊢
            obtain ⟨p0, hp0⟩ : ∃ p0, W0.heap.size = p0 := ⟨_, rfl⟩
            have hN0 := fun W (b : Below p0 W0 W) => hangRow_news (r0.keep (hp0 ▸ b))
            have y6k := fun W (b : Below p0 W0 W) => y6.keep b (hp0 ▸ y6.lt)
            have y14k := fun W (b : Below p0 W0 W) => y14.keep b (hp0 ▸ y14.lt)
            have kbk := fun W (b : Below p0 W0 W) => below_more kb kb.size (hp0 ▸ b)
            have b0 : Below p0 W0 W0 := Below.refl _ _
            clear r0 kb y14
            refine held_take 0 (by kernel_rfl) (by kernel_rfl) (by kernel_rfl) (by kernel_rfl) hHeld ?_
            intro o ho
            simp only [List.getElem?_toArray, List.getElem?_cons_zero, Option.some.injEq] at ho
            subst ho
            refine ⟨?_, fun _ _ _ h => h, Or.inl ⟨by rfl, ?_⟩, ?_⟩
            case refine_2 =>
              intro w hSw
              (try dsimp only at hSw)
              go_simp
              try with_reducible rfl
            simp only [Act.put, List.setIfInBounds_toArray, List.set_cons_zero, List.set_cons_succ]
            refine held_take 1 (by kernel_rfl) (by kernel_rfl) (by kernel_rfl) (by kernel_rfl) hHeld ?_
            intro o ho
            simp only [List.getElem?_toArray, List.getElem?_cons_zero, List.getElem?_cons_succ, Option.some.injEq] at ho
            subst ho
            refine ⟨?_, fun _ _ _ h => h, Or.inl ⟨by rfl, ?_⟩, ?_⟩
            case refine_2 =>
              intro w hSw
              (try dsimp only at hSw)
              go_simp
              try with_reducible rfl
            simp only [Act.put, List.setIfInBounds_toArray, List.set_cons_zero, List.set_cons_succ]
            refine held_take 2 (by kernel_rfl) (by kernel_rfl) (by kernel_rfl) (by kernel_rfl) hHeld ?_
            intro o ho
            simp only [List.getElem?_toArray, List.getElem?_cons_zero, List.getElem?_cons_succ, Option.some.injEq] at ho
            subst ho
            refine ⟨?_, fun _ _ _ h => h, Or.inl ⟨by rfl, ?_⟩, ?_⟩
            case refine_2 =>
              intro w hSw
              (try dsimp only at hSw)
              go_simp
              try with_reducible rfl
            simp only [Act.put, List.setIfInBounds_toArray, List.set_cons_zero, List.set_cons_succ]
            refine held_take 3 (by kernel_rfl) (by kernel_rfl) (by kernel_rfl) (by kernel_rfl) hHeld ?_
            intro o ho
            simp only [List.getElem?_toArray, List.getElem?_cons_zero, List.getElem?_cons_succ, Option.some.injEq] at ho
            subst ho
            refine ⟨?_, fun _ _ _ h => h, Or.inl ⟨by rfl, ?_⟩, ?_⟩
            case refine_2 =>
              intro w hSw
              (try dsimp only at hSw)
              go_simp
              try with_reducible rfl
            simp only [Act.put, List.setIfInBounds_toArray, List.set_cons_zero, List.set_cons_succ]
            refine held_take 4 (by kernel_rfl) (by kernel_rfl) (by kernel_rfl) (by kernel_rfl) hHeld ?_
            intro o ho
            simp only [List.getElem?_toArray, List.getElem?_cons_zero, List.getElem?_cons_succ, Option.some.injEq] at ho
            subst ho
            refine ⟨?_, fun _ _ _ h => h, Or.inl ⟨by rfl, ?_⟩, ?_⟩
            case refine_2 =>
              intro w hSw
              (try dsimp only at hSw)
              go_simp
              try with_reducible rfl
            simp only [Act.put, List.setIfInBounds_toArray, List.set_cons_zero, List.set_cons_succ]
            refine held_take 5 (by kernel_rfl) (by kernel_rfl) (by kernel_rfl) (by kernel_rfl) hHeld ?_
            intro o ho
            simp only [List.getElem?_toArray, List.getElem?_cons_zero, List.getElem?_cons_succ, Option.some.injEq] at ho
            subst ho
            refine ⟨?_, fun _ _ _ h => h, Or.inl ⟨by rfl, ?_⟩, ?_⟩
            case refine_2 =>
              intro w hSw
              (try dsimp only at hSw)
              go_simp
              try with_reducible rfl
            simp only [Act.put, List.setIfInBounds_toArray, List.set_cons_zero, List.set_cons_succ]
            refine held_take 6 (by kernel_rfl) (by kernel_rfl) (by kernel_rfl) (by kernel_rfl) hHeld ?_
            intro o ho
            simp only [List.getElem?_toArray, List.getElem?_cons_zero, List.getElem?_cons_succ, Option.some.injEq] at ho
            subst ho
            refine ⟨?_, fun _ _ _ h => h, Or.inl ⟨by rfl, ?_⟩, ?_⟩
            case refine_2 =>
              intro w hSw
              (try dsimp only at hSw)
              go_simp
              try with_reducible rfl
            simp only [Act.put, List.setIfInBounds_toArray, List.set_cons_zero, List.set_cons_succ]
            refine held_take 7 (by kernel_rfl) (by kernel_rfl) (by kernel_rfl) (by kernel_rfl) hHeld ?_
            intro o ho
            simp only [List.getElem?_toArray, List.getElem?_cons_zero, List.getElem?_cons_succ, Option.some.injEq] at ho
            subst ho
            refine ⟨?_, fun _ _ _ h => h, Or.inl ⟨by rfl, ?_⟩, ?_⟩
            case refine_2 =>
              intro w hSw
              (try dsimp only at hSw)
              go_simp
              try with_reducible rfl
            simp only [Act.put, List.setIfInBounds_toArray, List.set_cons_zero, List.set_cons_succ]
            refine held_take 8 (by kernel_rfl) (by kernel_rfl) (by kernel_rfl) (by kernel_rfl) hHeld ?_
            intro o ho
            simp only [List.getElem?_toArray, List.getElem?_cons_zero, List.getElem?_cons_succ, Option.some.injEq] at ho
            subst ho
            refine ⟨?_, fun _ _ _ h => h, Or.inl ⟨by rfl, ?_⟩, ?_⟩
            case refine_2 =>
              intro w hSw
              (try dsimp only at hSw)
              go_simp
              try with_reducible rfl
            simp only [Act.put, List.setIfInBounds_toArray, List.set_cons_zero, List.set_cons_succ]
            refine held_take 9 (by kernel_rfl) (by kernel_rfl) (by kernel_rfl) (by kernel_rfl) hHeld ?_
            intro o ho
            simp only [List.getElem?_toArray, List.getElem?_cons_zero, List.getElem?_cons_succ, Option.some.injEq] at ho
            subst ho
            refine ⟨?_, fun _ _ _ h => h, Or.inl ⟨by rfl, ?_⟩, ?_⟩
            case refine_2 =>
              intro w hSw
              (try dsimp only at hSw)
              go_simp
              try with_reducible rfl
            simp only [Act.put, List.setIfInBounds_toArray, List.set_cons_zero, List.set_cons_succ]
            refine held_take 10 (by kernel_rfl) (by kernel_rfl) (by kernel_rfl) (by kernel_rfl) hHeld ?_
            intro o ho
            simp only [List.getElem?_toArray, List.getElem?_cons_zero, List.getElem?_cons_succ, Option.some.injEq] at ho
            subst ho
            refine ⟨?_, fun _ _ _ h => h, Or.inl ⟨by rfl, ?_⟩, ?_⟩
            case refine_2 =>
              intro w hSw
              (try dsimp only at hSw)
              go_simp
              try with_reducible rfl
            simp only [Act.put, List.setIfInBounds_toArray, List.set_cons_zero, List.set_cons_succ]
            refine held_take 11 (by kernel_rfl) (by kernel_rfl) (by kernel_rfl) (by kernel_rfl) hHeld ?_
            intro o ho
            simp only [List.getElem?_toArray, List.getElem?_cons_zero, List.getElem?_cons_succ, Option.some.injEq] at ho
            subst ho
            refine ⟨?_, fun _ _ _ h => h, Or.inl ⟨by rfl, ?_⟩, ?_⟩
            case refine_2 =>
              intro w hSw
              (try dsimp only at hSw)
              go_simp
              try with_reducible rfl
            simp only [Act.put, List.setIfInBounds_toArray, List.set_cons_zero, List.set_cons_succ]
            refine held_take 12 (by kernel_rfl) (by kernel_rfl) (by kernel_rfl) (by kernel_rfl) hHeld ?_
            intro o ho
            simp only [List.getElem?_toArray, List.getElem?_cons_zero, List.getElem?_cons_succ, Option.some.injEq] at ho
            subst ho
            refine ⟨?_, fun _ _ _ h => h, Or.inl ⟨by rfl, ?_⟩, ?_⟩
            case refine_2 =>
              intro w hSw
              (try dsimp only at hSw)
              go_simp
              try with_reducible rfl
            simp only [Act.put, List.setIfInBounds_toArray, List.set_cons_zero, List.set_cons_succ]
            refine held_take 13 (by kernel_rfl) (by kernel_rfl) (by kernel_rfl) (by kernel_rfl) hHeld ?_
            intro o ho
            simp only [List.getElem?_toArray, List.getElem?_cons_zero, List.getElem?_cons_succ, Option.some.injEq] at ho
            subst ho
            refine ⟨?_, fun _ _ _ h => h, Or.inl ⟨by rfl, ?_⟩, ?_⟩
            case refine_2 =>
              intro w hSw
              (try dsimp only at hSw)
              go_simp
              try with_reducible rfl
            simp only [Act.put, List.setIfInBounds_toArray, List.set_cons_zero, List.set_cons_succ]
            refine held_take 15 (by kernel_rfl) (by kernel_rfl) (by kernel_rfl) (by kernel_rfl) hHeld ?_
            intro o ho
            simp only [List.getElem?_toArray, List.getElem?_cons_zero, List.getElem?_cons_succ, Option.some.injEq] at ho
            subst ho
            refine ⟨?_, fun _ _ _ h => h, Or.inl ⟨by rfl, ?_⟩, ?_⟩
            case refine_2 =>
              intro w hSw
              (try dsimp only at hSw)
              go_simp
              try with_reducible rfl
            simp only [Act.put, List.setIfInBounds_toArray, List.set_cons_zero, List.set_cons_succ]
            refine held_take 17 (by kernel_rfl) (by kernel_rfl) (by kernel_rfl) (by kernel_rfl) hHeld ?_
            intro o ho
            simp only [List.getElem?_toArray, List.getElem?_cons_zero, List.getElem?_cons_succ, Option.some.injEq] at ho
            subst ho
            refine ⟨?_, fun _ _ _ h => h, Or.inl ⟨by rfl, ?_⟩, ?_⟩
            case refine_2 =>
              intro w hSw
              (try dsimp only at hSw)
              go_simp
              try with_reducible rfl
            simp only [Act.put, List.setIfInBounds_toArray, List.set_cons_zero, List.set_cons_succ]
            refine held_take 18 (by kernel_rfl) (by kernel_rfl) (by kernel_rfl) (by kernel_rfl) hHeld ?_
            intro o ho
            simp only [List.getElem?_toArray, List.getElem?_cons_zero, List.getElem?_cons_succ, Option.some.injEq] at ho
            subst ho
            refine ⟨?_, fun _ _ _ h => h, Or.inl ⟨by rfl, ?_⟩, ?_⟩
            case refine_2 =>
              intro w hSw
              (try dsimp only at hSw)
              go_simp
              try with_reducible rfl
            simp only [Act.put, List.setIfInBounds_toArray, List.set_cons_zero, List.set_cons_succ]
            refine held_take 19 (by kernel_rfl) (by kernel_rfl) (by kernel_rfl) (by kernel_rfl) hHeld ?_
            intro o ho
            simp only [List.getElem?_toArray, List.getElem?_cons_zero, List.getElem?_cons_succ, Option.some.injEq] at ho
            subst ho
            refine ⟨?_, fun _ _ _ h => h, Or.inl ⟨by rfl, ?_⟩, ?_⟩
            case refine_2 =>
              intro w hSw
              (try dsimp only at hSw)
              go_simp
              try with_reducible rfl
            simp only [Act.put, List.setIfInBounds_toArray, List.set_cons_zero, List.set_cons_succ]
            refine held_take 20 (by kernel_rfl) (by kernel_rfl) (by kernel_rfl) (by kernel_rfl) hHeld ?_
            intro o ho
            simp only [List.getElem?_toArray, List.getElem?_cons_zero, List.getElem?_cons_succ, Option.some.injEq] at ho
            subst ho
            refine ⟨?_, fun _ _ _ h => h, Or.inl ⟨by rfl, ?_⟩, ?_⟩
            case refine_2 =>
              intro w hSw
              (try dsimp only at hSw)
              go_simp
              try with_reducible rfl
            simp only [Act.put, List.setIfInBounds_toArray, List.set_cons_zero, List.set_cons_succ]
            refine held_both 14 21 (by kernel_rfl) (by kernel_rfl) (by kernel_rfl) ?_ ?_
            · skip
              intro o ho K hK
              simp only [List.getElem?_toArray, List.getElem?_cons_zero, List.getElem?_cons_succ, Option.some.injEq] at ho
              subst ho
              have hsz := b0.size
              have own1 : (W0.alloc (.cells #[] 34)).ownsRow p0 34 2 (.slice (some ⟨W0.heap.size, 0, none⟩) 0 0) 0 [] := World.ownsRow_made W0 #[] 0 (by omega) (by decide) rfl
              rw [hp0] at own1
              have b1 := b0.alloc (by omega) (.cells #[] 34)
              go_simp
              refine hK.out _ _ (⟨(y6k _ b1).c0, (y6k _ b1).c1⟩) (fun hHeld => ?_)
              clear hK K
              try simp only [Act.put, List.setIfInBounds_toArray, List.set_cons_zero, List.set_cons_succ]
              (try rw [hp0])
              generalize W0.alloc (.cells #[] 34) = W1 at own1 b1 hHeld ⊢
              clear hsz
              refine held_both 16 21 (by kernel_rfl) (by kernel_rfl) (by kernel_rfl) ?_ ?_
              · skip
                intro o ho K hK
                simp only [List.getElem?_toArray, List.getElem?_cons_zero, List.getElem?_cons_succ, Option.some.injEq] at ho
                subst ho
                refine step_append_if _ (by rfl) (.tmp 123) (.tmp 124) 24 rfl p0 34 i0 _ 2 16 Try.underlying24 hi iz0 iz1 iz2 rfl (by decide) (.slice (some ⟨p0, 0, none⟩) 0 0) 0 [] rfl own1 B k c (hcells L) rfl (by rw [hcells_len, hn.out]) nB (hN0 _ b1) (hcells_one L) (by unfold maxLen; omega) (by omega) (by have := b1.size; omega) ?_
                intro v1 W2 o2 g2 _
                have b2 : Below p0 W0 W2 := b1.grown g2 (by have := b1.size; omega) (fun q e => (own1.lt q e).1)
                rw [Nat.zero_add, List.nil_append] at o2
                obtain ⟨A1, c1', hv⟩ := own_slice o2
                subst hv
                refine hK.out _ _ (⟨(y6k _ b2).c0, (y6k _ b2).c1⟩) (fun hHeld => ?_)
                clear hK K
                try simp only [Act.put, List.setIfInBounds_toArray, List.set_cons_zero, List.set_cons_succ]
                clear own1 g2
                refine held_only 21 (by kernel_rfl) (by kernel_rfl) ?_
                intro o ho K hK
                simp only [List.getElem?_toArray, List.getElem?_cons_zero, List.getElem?_cons_succ, Option.some.injEq] at ho
                subst ho
                have hsz := b2.size
                obtain ⟨gQ, hgQ⟩ : ∃ g, W2.heap.size = g := ⟨_, rfl⟩
                have bq := Box.new W2 P m 34
                rw [hgQ] at bq
                have b3 := b2.alloc (by omega) (.cells #[.int .i64 P, .int .i64 m] 34)
                replace o2 := o2.alloc (.cells #[.int .i64 P, .int .i64 m] 34)
                go_simp
                refine hK.out _ _ (⟨(y6k _ b3).c0, (y6k _ b3).c1⟩) (fun hHeld => ?_)
                clear hK K
                try simp only [Act.put, List.setIfInBounds_toArray, List.set_cons_zero, List.set_cons_succ]
                (try rw [hgQ])
                generalize W2.alloc (.cells #[.int .i64 P, .int .i64 m] 34) = W3 at bq b3 hHeld o2 ⊢
                clear hsz
                refine held_only 22 (by kernel_rfl) (by kernel_rfl) ?_
                intro o ho K hK
                simp only [List.getElem?_toArray, List.getElem?_cons_zero, List.getElem?_cons_succ, Option.some.injEq] at ho
                subst ho
                refine step_append_if _ (by rfl) (.tmp 125) (.tmp 130) 24 rfl p0 34 i0 _ 2 16 Try.underlying24 hi iz0 iz1 iz2 rfl (by decide) (.slice A1 k c1') k (hcells L) rfl o2 (some ⟨gQ, 0, none⟩) 1 1 [.int .i64 P, .int .i64 m] rfl rfl (fun e => by cases e) (fun ad he => by injection he with he; subst he; exact box_news bq) (by simp [Value.oneCell']) (by unfold maxLen; omega) (by omega) (by have := b3.size; omega) ?_
                intro v2 W8 o4 g4 _
                have b8 : Below p0 W0 W8 := b3.grown g4 (by have := b3.size; omega) (fun q e => (o2.lt q e).1)
                obtain ⟨A2, c2', hv⟩ := own_slice o4
                subst hv
                have rN : HangRow W8 A2 (L ++ [(P, m)]) := hangRow_own (by rw [hcells_app]; exact o4)
                refine hK.out _ _ (⟨(y6k _ b8).c0, (y6k _ b8).c1⟩) (fun hHeld => ?_)
                clear hK K
                try simp only [Act.put, List.setIfInBounds_toArray, List.set_cons_zero, List.set_cons_succ]
                clear o2 o4 g4 bq
                refine held_only 23 (by kernel_rfl) (by kernel_rfl) ?_
                intro o ho K hK
                simp only [List.getElem?_toArray, List.getElem?_cons_zero, List.getElem?_cons_succ, Option.some.injEq] at ho
                subst ho
                go_simp
                go_at_call 19
                (with_reducible refine (hLN A2 c2' _ rN).mono ?_)
                rintro e W9 ⟨rfl, b9⟩
                have b10 : Below p0 W0 W9 := b8.trans (b9.mono (by have := b8.size; omega))
                refine hK.out _ _ (⟨(y6k _ b10).c0, (y6k _ b10).c1⟩) (fun hHeld => ?_)
                clear hK K
                try simp only [Act.put, List.setIfInBounds_toArray, List.set_cons_zero, List.set_cons_succ]
                clear rN b9 b8 hLN
                refine held_take 24 (by kernel_rfl) (by kernel_rfl) (by kernel_rfl) (by kernel_rfl) hHeld ?_
                intro o ho
                simp only [List.getElem?_toArray, List.getElem?_cons_zero, List.getElem?_cons_succ, Option.some.injEq] at ho
                subst ho
                refine ⟨?_, fun _ _ _ h => h, Or.inl ⟨by rfl, ?_⟩, ?_⟩
                case refine_2 =>
                  intro w hSw
                  (try dsimp only at hSw)
                  go_simp
                  try with_reducible rfl
                simp only [Act.put, List.setIfInBounds_toArray, List.set_cons_zero, List.set_cons_succ]
                refine held_take 25 (by kernel_rfl) (by kernel_rfl) (by kernel_rfl) (by kernel_rfl) hHeld ?_
                intro o ho
                simp only [List.getElem?_toArray, List.getElem?_cons_zero, List.getElem?_cons_succ, Option.some.injEq] at ho
                subst ho
                refine ⟨?_, fun _ _ _ h => h, Or.inl ⟨by rfl, ?_⟩, ?_⟩
                case refine_2 =>
                  intro w hSw
                  (try dsimp only at hSw)
                  go_simp
                  try with_reducible rfl
                simp only [Act.put, List.setIfInBounds_toArray, List.set_cons_zero, List.set_cons_succ]
                refine wpAnyH_done (by kernel_rfl) ?_ _
                have kb := kbk _ b10
                have y14 := y14k _ b10
                clear kbk y14k y6k hN0 b10 b0 y6 c0 c1 nB
                have d0 := y14.c0
                have d1 := y14.c1
                by_cases h0 : 0 < l
                · obtain ⟨eU, hU, hV⟩ := hUV.out h0
                  obtain ⟨u, hu⟩ : ∃ u, U * l = u := ⟨_, rfl⟩
                  have hu2 : q * V = u := by rw [← hu]; exact eU.symm
                  have hu3 : -1000000 ≤ u ∧ u ≤ 1000000 := by
                    have h1 := Int.mul_le_mul_of_nonneg_right hU.1 (show 0 ≤ l by omega)
                    have h2 := Int.mul_le_mul_of_nonneg_right hU.2 (show 0 ≤ l by omega)
                    omega
                  clear eU
                  go_wp2_with fail
                  go_ret
                  exact ⟨rfl, kb⟩
                · go_wp2_with fail
                  go_ret
                  exact ⟨rfl, kb⟩
              · skip
                intro o ho K hK
                simp only [List.getElem?_toArray, List.getElem?_cons_zero, List.getElem?_cons_succ, Option.some.injEq] at ho
                subst ho
                have hsz := b1.size
                obtain ⟨gQ, hgQ⟩ : ∃ g, W1.heap.size = g := ⟨_, rfl⟩
                have bq := Box.new W1 P m 34
                rw [hgQ] at bq
                have b2 := b1.alloc (by omega) (.cells #[.int .i64 P, .int .i64 m] 34)
                have hne : gQ ≠ p0 := by have := (own1.lt p0 rfl).2; omega
                replace own1 := own1.alloc (.cells #[.int .i64 P, .int .i64 m] 34)
                go_simp
                refine hK.out _ _ (⟨(y6k _ b2).c0, (y6k _ b2).c1⟩) (fun hHeld => ?_)
                clear hK K
                try simp only [Act.put, List.setIfInBounds_toArray, List.set_cons_zero, List.set_cons_succ]
                (try rw [hgQ])
                generalize W1.alloc (.cells #[.int .i64 P, .int .i64 m] 34) = W2 at bq b2 hHeld own1 ⊢
                clear hsz
                refine held_only 16 (by kernel_rfl) (by kernel_rfl) ?_
                intro o ho K hK
                simp only [List.getElem?_toArray, List.getElem?_cons_zero, List.getElem?_cons_succ, Option.some.injEq] at ho
                subst ho
                refine step_append_if _ (by rfl) (.tmp 123) (.tmp 124) 24 rfl p0 34 i0 _ 2 16 Try.underlying24 hi iz0 iz1 iz2 rfl (by decide) (.slice (some ⟨p0, 0, none⟩) 0 0) 0 [] rfl own1 B k c (hcells L) rfl (by rw [hcells_len, hn.out]) nB (hN0 _ b2) (hcells_one L) (by unfold maxLen; omega) (by omega) (by have := b2.size; omega) ?_
                intro v1 W3 o2 g2 _
                have b3 : Below p0 W0 W3 := b2.grown g2 (by have := b2.size; omega) (fun q e => (own1.lt q e).1)
                replace bq : Box W3 gQ P m 34 := (g2.block gQ bq.lt (fun e => by injection e with e; exact hne e)).trans bq
                rw [Nat.zero_add, List.nil_append] at o2
                obtain ⟨A1, c1', hv⟩ := own_slice o2
                subst hv
                refine hK.out _ _ (⟨(y6k _ b3).c0, (y6k _ b3).c1⟩) (fun hHeld => ?_)
                clear hK K
                try simp only [Act.put, List.setIfInBounds_toArray, List.set_cons_zero, List.set_cons_succ]
                clear own1 g2
                refine held_only 22 (by kernel_rfl) (by kernel_rfl) ?_
                intro o ho K hK
                simp only [List.getElem?_toArray, List.getElem?_cons_zero, List.getElem?_cons_succ, Option.some.injEq] at ho
                subst ho
                refine step_append_if _ (by rfl) (.tmp 125) (.tmp 130) 24 rfl p0 34 i0 _ 2 16 Try.underlying24 hi iz0 iz1 iz2 rfl (by decide) (.slice A1 k c1') k (hcells L) rfl o2 (some ⟨gQ, 0, none⟩) 1 1 [.int .i64 P, .int .i64 m] rfl rfl (fun e => by cases e) (fun ad he => by injection he with he; subst he; exact box_news bq) (by simp [Value.oneCell']) (by unfold maxLen; omega) (by omega) (by have := b3.size; omega) ?_
                intro v2 W8 o4 g4 _
                have b8 : Below p0 W0 W8 := b3.grown g4 (by have := b3.size; omega) (fun q e => (o2.lt q e).1)
                obtain ⟨A2, c2', hv⟩ := own_slice o4
                subst hv
                have rN : HangRow W8 A2 (L ++ [(P, m)]) := hangRow_own (by rw [hcells_app]; exact o4)
                refine hK.out _ _ (⟨(y6k _ b8).c0, (y6k _ b8).c1⟩) (fun hHeld => ?_)
                clear hK K
                try simp only [Act.put, List.setIfInBounds_toArray, List.set_cons_zero, List.set_cons_succ]
                clear o2 o4 g4 bq
                refine held_only 23 (by kernel_rfl) (by kernel_rfl) ?_
                intro o ho K hK
                simp only [List.getElem?_toArray, List.getElem?_cons_zero, List.getElem?_cons_succ, Option.some.injEq] at ho
                subst ho
                go_simp
                go_at_call 19
                (with_reducible refine (hLN A2 c2' _ rN).mono ?_)
                rintro e W9 ⟨rfl, b9⟩
                have b10 : Below p0 W0 W9 := b8.trans (b9.mono (by have := b8.size; omega))
                refine hK.out _ _ (⟨(y6k _ b10).c0, (y6k _ b10).c1⟩) (fun hHeld => ?_)
                clear hK K
                try simp only [Act.put, List.setIfInBounds_toArray, List.set_cons_zero, List.set_cons_succ]
                clear rN b9 b8 hLN
                refine held_take 24 (by kernel_rfl) (by kernel_rfl) (by kernel_rfl) (by kernel_rfl) hHeld ?_
                intro o ho
                simp only [List.getElem?_toArray, List.getElem?_cons_zero, List.getElem?_cons_succ, Option.some.injEq] at ho
                subst ho
                refine ⟨?_, fun _ _ _ h => h, Or.inl ⟨by rfl, ?_⟩, ?_⟩
                case refine_2 =>
                  intro w hSw
                  (try dsimp only at hSw)
                  go_simp
                  try with_reducible rfl
                simp only [Act.put, List.setIfInBounds_toArray, List.set_cons_zero, List.set_cons_succ]
                refine held_take 25 (by kernel_rfl) (by kernel_rfl) (by kernel_rfl) (by kernel_rfl) hHeld ?_
                intro o ho
                simp only [List.getElem?_toArray, List.getElem?_cons_zero, List.getElem?_cons_succ, Option.some.injEq] at ho
                subst ho
                refine ⟨?_, fun _ _ _ h => h, Or.inl ⟨by rfl, ?_⟩, ?_⟩
                case refine_2 =>
                  intro w hSw
                  (try dsimp only at hSw)
                  go_simp
                  try with_reducible rfl
                simp only [Act.put, List.setIfInBounds_toArray, List.set_cons_zero, List.set_cons_succ]
                refine wpAnyH_done (by kernel_rfl) ?_ _
                have kb := kbk _ b10
                have y14 := y14k _ b10
                clear kbk y14k y6k hN0 b10 b0 y6 c0 c1 nB
                have d0 := y14.c0
                have d1 := y14.c1
                by_cases h0 : 0 < l
                · obtain ⟨eU, hU, hV⟩ := hUV.out h0
                  obtain ⟨u, hu⟩ : ∃ u, U * l = u := ⟨_, rfl⟩
                  have hu2 : q * V = u := by rw [← hu]; exact eU.symm
                  have hu3 : -1000000 ≤ u ∧ u ≤ 1000000 := by
                    have h1 := Int.mul_le_mul_of_nonneg_right hU.1 (show 0 ≤ l by omega)
                    have h2 := Int.mul_le_mul_of_nonneg_right hU.2 (show 0 ≤ l by omega)
                    omega
                  clear eU
                  go_wp2_with fail
                  go_ret
                  exact ⟨rfl, kb⟩
                · go_wp2_with fail
                  go_ret
                  exact ⟨rfl, kb⟩
            · skip
              intro o ho K hK
              simp only [List.getElem?_toArray, List.getElem?_cons_zero, List.getElem?_cons_succ, Option.some.injEq] at ho
              subst ho
              have hsz := b0.size
              have bq := Box.new W0 P m 34
              rw [hp0] at bq
              have b1 := b0.alloc (by omega) (.cells #[.int .i64 P, .int .i64 m] 34)
              go_simp
              refine hK.out _ _ (⟨(y6k _ b1).c0, (y6k _ b1).c1⟩) (fun hHeld => ?_)
              clear hK K
              try simp only [Act.put, List.setIfInBounds_toArray, List.set_cons_zero, List.set_cons_succ]
              (try rw [hp0])
              generalize W0.alloc (.cells #[.int .i64 P, .int .i64 m] 34) = W1 at bq b1 hHeld ⊢
              clear hsz
              refine held_only 14 (by kernel_rfl) (by kernel_rfl) ?_
              intro o ho K hK
              simp only [List.getElem?_toArray, List.getElem?_cons_zero, List.getElem?_cons_succ, Option.some.injEq] at ho
              subst ho
              have hsz := b1.size
              obtain ⟨gA, hgA⟩ : ∃ g, W1.heap.size = g := ⟨_, rfl⟩
              have own1 : (W1.alloc (.cells #[] 34)).ownsRow p0 34 2 (.slice (some ⟨W1.heap.size, 0, none⟩) 0 0) 0 [] := World.ownsRow_made W1 #[] 0 (by omega) (by decide) rfl
              rw [hgA] at own1
              have b2 := b1.alloc (by omega) (.cells #[] 34)
              have hne : p0 ≠ gA := by have := bq.lt; omega
              go_simp
              refine hK.out _ _ (⟨(y6k _ b2).c0, (y6k _ b2).c1⟩) (fun hHeld => ?_)
              clear hK K
              try simp only [Act.put, List.setIfInBounds_toArray, List.set_cons_zero, List.set_cons_succ]
              (try rw [hgA])
              replace bq := bq.alloc (.cells #[] 34)
              generalize W1.alloc (.cells #[] 34) = W2 at own1 b2 hHeld bq ⊢
              clear hsz
              refine held_only 16 (by kernel_rfl) (by kernel_rfl) ?_
              intro o ho K hK
              simp only [List.getElem?_toArray, List.getElem?_cons_zero, List.getElem?_cons_succ, Option.some.injEq] at ho
              subst ho
              refine step_append_if _ (by rfl) (.tmp 123) (.tmp 124) 24 rfl p0 34 i0 _ 2 16 Try.underlying24 hi iz0 iz1 iz2 rfl (by decide) (.slice (some ⟨gA, 0, none⟩) 0 0) 0 [] rfl own1 B k c (hcells L) rfl (by rw [hcells_len, hn.out]) nB (hN0 _ b2) (hcells_one L) (by unfold maxLen; omega) (by omega) (by have := b2.size; omega) ?_
              intro v1 W3 o2 g2 _
              have b3 : Below p0 W0 W3 := b2.grown g2 (by have := b2.size; omega) (fun q e => (own1.lt q e).1)
              replace bq : Box W3 p0 P m 34 := (g2.block p0 bq.lt (fun e => by injection e with e; exact hne e)).trans bq
              rw [Nat.zero_add, List.nil_append] at o2
              obtain ⟨A1, c1', hv⟩ := own_slice o2
              subst hv
              refine hK.out _ _ (⟨(y6k _ b3).c0, (y6k _ b3).c1⟩) (fun hHeld => ?_)
              clear hK K
              try simp only [Act.put, List.setIfInBounds_toArray, List.set_cons_zero, List.set_cons_succ]
              clear own1 g2
              refine held_only 22 (by kernel_rfl) (by kernel_rfl) ?_
              intro o ho K hK
              simp only [List.getElem?_toArray, List.getElem?_cons_zero, List.getElem?_cons_succ, Option.some.injEq] at ho
              subst ho
              refine step_append_if _ (by rfl) (.tmp 125) (.tmp 130) 24 rfl p0 34 i0 _ 2 16 Try.underlying24 hi iz0 iz1 iz2 rfl (by decide) (.slice A1 k c1') k (hcells L) rfl o2 (some ⟨p0, 0, none⟩) 1 1 [.int .i64 P, .int .i64 m] rfl rfl (fun e => by cases e) (fun ad he => by injection he with he; subst he; exact box_news bq) (by simp [Value.oneCell']) (by unfold maxLen; omega) (by omega) (by have := b3.size; omega) ?_
              intro v2 W8 o4 g4 _
              have b8 : Below p0 W0 W8 := b3.grown g4 (by have := b3.size; omega) (fun q e => (o2.lt q e).1)
              obtain ⟨A2, c2', hv⟩ := own_slice o4
              subst hv
              have rN : HangRow W8 A2 (L ++ [(P, m)]) := hangRow_own (by rw [hcells_app]; exact o4)
              refine hK.out _ _ (⟨(y6k _ b8).c0, (y6k _ b8).c1⟩) (fun hHeld => ?_)
              clear hK K
              try simp only [Act.put, List.setIfInBounds_toArray, List.set_cons_zero, List.set_cons_succ]
              clear o2 o4 g4 bq
              refine held_only 23 (by kernel_rfl) (by kernel_rfl) ?_
              intro o ho K hK
              simp only [List.getElem?_toArray, List.getElem?_cons_zero, List.getElem?_cons_succ, Option.some.injEq] at ho
              subst ho
              go_simp
              go_at_call 19
              (with_reducible refine (hLN A2 c2' _ rN).mono ?_)
              rintro e W9 ⟨rfl, b9⟩
              have b10 : Below p0 W0 W9 := b8.trans (b9.mono (by have := b8.size; omega))
              refine hK.out _ _ (⟨(y6k _ b10).c0, (y6k _ b10).c1⟩) (fun hHeld => ?_)
              clear hK K
              try simp only [Act.put, List.setIfInBounds_toArray, List.set_cons_zero, List.set_cons_succ]
              clear rN b9 b8 hLN
              refine held_take 24 (by kernel_rfl) (by kernel_rfl) (by kernel_rfl) (by kernel_rfl) hHeld ?_
              intro o ho
              simp only [List.getElem?_toArray, List.getElem?_cons_zero, List.getElem?_cons_succ, Option.some.injEq] at ho
              subst ho
              refine ⟨?_, fun _ _ _ h => h, Or.inl ⟨by rfl, ?_⟩, ?_⟩
              case refine_2 =>
                intro w hSw
                (try dsimp only at hSw)
                go_simp
                try with_reducible rfl
              simp only [Act.put, List.setIfInBounds_toArray, List.set_cons_zero, List.set_cons_succ]
              refine held_take 25 (by kernel_rfl) (by kernel_rfl) (by kernel_rfl) (by kernel_rfl) hHeld ?_
              intro o ho
              simp only [List.getElem?_toArray, List.getElem?_cons_zero, List.getElem?_cons_succ, Option.some.injEq] at ho
              subst ho
              refine ⟨?_, fun _ _ _ h => h, Or.inl ⟨by rfl, ?_⟩, ?_⟩
              case refine_2 =>
                intro w hSw
                (try dsimp only at hSw)
                go_simp
                try with_reducible rfl
              simp only [Act.put, List.setIfInBounds_toArray, List.set_cons_zero, List.set_cons_succ]
              refine wpAnyH_done (by kernel_rfl) ?_ _
              have kb := kbk _ b10
              have y14 := y14k _ b10
              clear kbk y14k y6k hN0 b10 b0 y6 c0 c1 nB
              have d0 := y14.c0
              have d1 := y14.c1
              by_cases h0 : 0 < l
              · obtain ⟨eU, hU, hV⟩ := hUV.out h0
                obtain ⟨u, hu⟩ : ∃ u, U * l = u := ⟨_, rfl⟩
                have hu2 : q * V = u := by rw [← hu]; exact eU.symm
                have hu3 : -1000000 ≤ u ∧ u ≤ 1000000 := by
                  have h1 := Int.mul_le_mul_of_nonneg_right hU.1 (show 0 ≤ l by omega)
                  have h2 := Int.mul_le_mul_of_nonneg_right hU.2 (show 0 ≤ l by omega)
                  omega
                clear eU
                go_wp2_with fail
                go_ret
                exact ⟨rfl, kb⟩
              · go_wp2_with fail
                go_ret
                exact ⟨rfl, kb⟩
          · have h3 : decide (P ≤ 100) = false := decide_eq_false h2
            clear r0 hFu nB y6
            refine held_drew (fun W => W.cell? ⟨p6, 0, none⟩ = some (.int .i64 P) ∧ W.cell? ⟨p6, 1, none⟩ = some (.int .i64 1)) (by kernel_rfl) (⟨c0, c1⟩) (fun hHeld => ?_)
            refine held_take 0 (by kernel_rfl) (by kernel_rfl) (by kernel_rfl) (by kernel_rfl) hHeld ?_
            intro o ho
            simp only [List.getElem?_toArray, List.getElem?_cons_zero, Option.some.injEq] at ho
            subst ho
            refine ⟨?_, fun _ _ _ h => h, Or.inl ⟨by rfl, ?_⟩, ?_⟩
            case refine_2 =>
              intro w hSw
              (try dsimp only at hSw)
              go_simp
              try with_reducible rfl
            simp only [Act.put, List.setIfInBounds_toArray, List.set_cons_zero, List.set_cons_succ]
            refine held_take 1 (by kernel_rfl) (by kernel_rfl) (by kernel_rfl) (by kernel_rfl) hHeld ?_
            intro o ho
            simp only [List.getElem?_toArray, List.getElem?_cons_zero, List.getElem?_cons_succ, Option.some.injEq] at ho
            subst ho
            refine ⟨?_, fun _ _ _ h => h, Or.inl ⟨by rfl, ?_⟩, ?_⟩
            case refine_2 =>
              intro w hSw
              (try dsimp only at hSw)
              go_simp
              try with_reducible rfl
            simp only [Act.put, List.setIfInBounds_toArray, List.set_cons_zero, List.set_cons_succ]
            refine held_take 2 (by kernel_rfl) (by kernel_rfl) (by kernel_rfl) (by kernel_rfl) hHeld ?_
            intro o ho
            simp only [List.getElem?_toArray, List.getElem?_cons_zero, List.getElem?_cons_succ, Option.some.injEq] at ho
            subst ho
            refine ⟨?_, fun _ _ _ h => h, Or.inl ⟨by rfl, ?_⟩, ?_⟩
            case refine_2 =>
              intro w hSw
              (try dsimp only at hSw)
              go_simp
              try with_reducible rfl
            simp only [Act.put, List.setIfInBounds_toArray, List.set_cons_zero, List.set_cons_succ]
            refine held_take 3 (by kernel_rfl) (by kernel_rfl) (by kernel_rfl) (by kernel_rfl) hHeld ?_
            intro o ho
            simp only [List.getElem?_toArray, List.getElem?_cons_zero, List.getElem?_cons_succ, Option.some.injEq] at ho
            subst ho
            refine ⟨?_, fun _ _ _ h => h, Or.inl ⟨by rfl, ?_⟩, ?_⟩
            case refine_2 =>
              intro w hSw
              (try dsimp only at hSw)
              go_simp
              try with_reducible rfl
            simp only [Act.put, List.setIfInBounds_toArray, List.set_cons_zero, List.set_cons_succ]
            refine held_take 4 (by kernel_rfl) (by kernel_rfl) (by kernel_rfl) (by kernel_rfl) hHeld ?_
            intro o ho
            simp only [List.getElem?_toArray, List.getElem?_cons_zero, List.getElem?_cons_succ, Option.some.injEq] at ho
            subst ho
            refine ⟨?_, fun _ _ _ h => h, Or.inl ⟨by rfl, ?_⟩, ?_⟩
            case refine_2 =>
              intro w hSw
              (try dsimp only at hSw)
              go_simp
              try with_reducible rfl
            simp only [Act.put, List.setIfInBounds_toArray, List.set_cons_zero, List.set_cons_succ]
            refine held_take 5 (by kernel_rfl) (by kernel_rfl) (by kernel_rfl) (by kernel_rfl) hHeld ?_
            intro o ho
            simp only [List.getElem?_toArray, List.getElem?_cons_zero, List.getElem?_cons_succ, Option.some.injEq] at ho
            subst ho
            refine ⟨?_, fun _ _ _ h => h, Or.inl ⟨by rfl, ?_⟩, ?_⟩
            case refine_2 =>
              intro w hSw
              (try dsimp only at hSw)
              go_simp
              try with_reducible rfl
            simp only [Act.put, List.setIfInBounds_toArray, List.set_cons_zero, List.set_cons_succ]
            refine held_take 6 (by kernel_rfl) (by kernel_rfl) (by kernel_rfl) (by kernel_rfl) hHeld ?_
            intro o ho
            simp only [List.getElem?_toArray, List.getElem?_cons_zero, List.getElem?_cons_succ, Option.some.injEq] at ho
            subst ho
            refine ⟨?_, fun _ _ _ h => h, Or.inl ⟨by rfl, ?_⟩, ?_⟩
            case refine_2 =>
              intro w hSw
              (try dsimp only at hSw)
              go_simp
              try with_reducible rfl
            simp only [Act.put, List.setIfInBounds_toArray, List.set_cons_zero, List.set_cons_succ]
            refine held_take 7 (by kernel_rfl) (by kernel_rfl) (by kernel_rfl) (by kernel_rfl) hHeld ?_
            intro o ho
            simp only [List.getElem?_toArray, List.getElem?_cons_zero, List.getElem?_cons_succ, Option.some.injEq] at ho
            subst ho
            refine ⟨?_, fun _ _ _ h => h, Or.inl ⟨by rfl, ?_⟩, ?_⟩
            case refine_2 =>
              intro w hSw
              (try dsimp only at hSw)
              go_simp
              try with_reducible rfl
            simp only [Act.put, List.setIfInBounds_toArray, List.set_cons_zero, List.set_cons_succ]
            refine held_take 8 (by kernel_rfl) (by kernel_rfl) (by kernel_rfl) (by kernel_rfl) hHeld ?_
            intro o ho
            simp only [List.getElem?_toArray, List.getElem?_cons_zero, List.getElem?_cons_succ, Option.some.injEq] at ho
            subst ho
            refine ⟨?_, fun _ _ _ h => h, Or.inl ⟨by rfl, ?_⟩, ?_⟩
            case refine_2 =>
              intro w hSw
              (try dsimp only at hSw)
              go_simp
              try with_reducible rfl
            simp only [Act.put, List.setIfInBounds_toArray, List.set_cons_zero, List.set_cons_succ]
            refine held_take 9 (by kernel_rfl) (by kernel_rfl) (by kernel_rfl) (by kernel_rfl) hHeld ?_
            intro o ho
            simp only [List.getElem?_toArray, List.getElem?_cons_zero, List.getElem?_cons_succ, Option.some.injEq] at ho
            subst ho
            refine ⟨?_, fun _ _ _ h => h, Or.inl ⟨by rfl, ?_⟩, ?_⟩
            case refine_2 =>
              intro w hSw
              (try dsimp only at hSw)
              go_simp
              try with_reducible rfl
            simp only [Act.put, List.setIfInBounds_toArray, List.set_cons_zero, List.set_cons_succ]
            refine held_take 10 (by kernel_rfl) (by kernel_rfl) (by kernel_rfl) (by kernel_rfl) hHeld ?_
            intro o ho
            simp only [List.getElem?_toArray, List.getElem?_cons_zero, List.getElem?_cons_succ, Option.some.injEq] at ho
            subst ho
            refine ⟨?_, fun _ _ _ h => h, Or.inl ⟨by rfl, ?_⟩, ?_⟩
            case refine_2 =>
              intro w hSw
              (try dsimp only at hSw)
              go_simp
              try with_reducible rfl
            simp only [Act.put, List.setIfInBounds_toArray, List.set_cons_zero, List.set_cons_succ]
            refine held_take 11 (by kernel_rfl) (by kernel_rfl) (by kernel_rfl) (by kernel_rfl) hHeld ?_
            intro o ho
            simp only [List.getElem?_toArray, List.getElem?_cons_zero, List.getElem?_cons_succ, Option.some.injEq] at ho
            subst ho
            refine ⟨?_, fun _ _ _ h => h, Or.inl ⟨by rfl, ?_⟩, ?_⟩
            case refine_2 =>
              intro w hSw
              (try dsimp only at hSw)
              go_simp
              try with_reducible rfl
            simp only [Act.put, List.setIfInBounds_toArray, List.set_cons_zero, List.set_cons_succ]
            refine held_take 12 (by kernel_rfl) (by kernel_rfl) (by kernel_rfl) (by kernel_rfl) hHeld ?_
            intro o ho
            simp only [List.getElem?_toArray, List.getElem?_cons_zero, List.getElem?_cons_succ, Option.some.injEq] at ho
            subst ho
            refine ⟨?_, fun _ _ _ h => h, Or.inl ⟨by rfl, ?_⟩, ?_⟩
            case refine_2 =>
              intro w hSw
              (try dsimp only at hSw)
              go_simp
              try with_reducible rfl
            simp only [Act.put, List.setIfInBounds_toArray, List.set_cons_zero, List.set_cons_succ]
            refine held_take 13 (by kernel_rfl) (by kernel_rfl) (by kernel_rfl) (by kernel_rfl) hHeld ?_
            intro o ho
            simp only [List.getElem?_toArray, List.getElem?_cons_zero, List.getElem?_cons_succ, Option.some.injEq] at ho
            subst ho
            refine ⟨?_, fun _ _ _ h => h, Or.inl ⟨by rfl, ?_⟩, ?_⟩
            case refine_2 =>
              intro w hSw
              (try dsimp only at hSw)
              go_simp
              try with_reducible rfl
            simp only [Act.put, List.setIfInBounds_toArray, List.set_cons_zero, List.set_cons_succ]
            refine held_take 14 (by kernel_rfl) (by kernel_rfl) (by kernel_rfl) (by kernel_rfl) hHeld ?_
            intro o ho
            simp only [List.getElem?_toArray, List.getElem?_cons_zero, List.getElem?_cons_succ, Option.some.injEq] at ho
            subst ho
            refine ⟨_, fun _ _ _ h => h, Or.inr ⟨by rfl, rfl⟩, ?_⟩
            simp only [Act.put, List.setIfInBounds_toArray, List.set_cons_zero, List.set_cons_succ]
            refine held_take 15 (by kernel_rfl) (by kernel_rfl) (by kernel_rfl) (by kernel_rfl) hHeld ?_
            intro o ho
            simp only [List.getElem?_toArray, List.getElem?_cons_zero, List.getElem?_cons_succ, Option.some.injEq] at ho
            subst ho
            refine ⟨_, fun _ _ _ h => h, Or.inr ⟨by rfl, rfl⟩, ?_⟩
            simp only [Act.put, List.setIfInBounds_toArray, List.set_cons_zero, List.set_cons_succ]
            refine held_take 16 (by kernel_rfl) (by kernel_rfl) (by kernel_rfl) (by kernel_rfl) hHeld ?_
            intro o ho
            simp only [List.getElem?_toArray, List.getElem?_cons_zero, List.getElem?_cons_succ, Option.some.injEq] at ho
            subst ho
            refine ⟨_, fun _ _ _ h => h, Or.inr ⟨by rfl, rfl⟩, ?_⟩
            simp only [Act.put, List.setIfInBounds_toArray, List.set_cons_zero, List.set_cons_succ]
            refine held_take 17 (by kernel_rfl) (by kernel_rfl) (by kernel_rfl) (by kernel_rfl) hHeld ?_
            intro o ho
            simp only [List.getElem?_toArray, List.getElem?_cons_zero, List.getElem?_cons_succ, Option.some.injEq] at ho
            subst ho
            refine ⟨_, fun _ _ _ h => h, Or.inr ⟨by rfl, rfl⟩, ?_⟩
            simp only [Act.put, List.setIfInBounds_toArray, List.set_cons_zero, List.set_cons_succ]
            refine held_take 18 (by kernel_rfl) (by kernel_rfl) (by kernel_rfl) (by kernel_rfl) hHeld ?_
            intro o ho
            simp only [List.getElem?_toArray, List.getElem?_cons_zero, List.getElem?_cons_succ, Option.some.injEq] at ho
            subst ho
            refine ⟨_, fun _ _ _ h => h, Or.inr ⟨by rfl, rfl⟩, ?_⟩
            simp only [Act.put, List.setIfInBounds_toArray, List.set_cons_zero, List.set_cons_succ]
            refine held_take 19 (by kernel_rfl) (by kernel_rfl) (by kernel_rfl) (by kernel_rfl) hHeld ?_
            intro o ho
            simp only [List.getElem?_toArray, List.getElem?_cons_zero, List.getElem?_cons_succ, Option.some.injEq] at ho
            subst ho
            refine ⟨_, fun _ _ _ h => h, Or.inr ⟨by rfl, rfl⟩, ?_⟩
            simp only [Act.put, List.setIfInBounds_toArray, List.set_cons_zero, List.set_cons_succ]
            refine held_take 20 (by kernel_rfl) (by kernel_rfl) (by kernel_rfl) (by kernel_rfl) hHeld ?_
            intro o ho
            simp only [List.getElem?_toArray, List.getElem?_cons_zero, List.getElem?_cons_succ, Option.some.injEq] at ho
            subst ho
            refine ⟨_, fun _ _ _ h => h, Or.inr ⟨by rfl, rfl⟩, ?_⟩
            simp only [Act.put, List.setIfInBounds_toArray, List.set_cons_zero, List.set_cons_succ]
            refine held_take 21 (by kernel_rfl) (by kernel_rfl) (by kernel_rfl) (by kernel_rfl) hHeld ?_
            intro o ho
            simp only [List.getElem?_toArray, List.getElem?_cons_zero, List.getElem?_cons_succ, Option.some.injEq] at ho
            subst ho
            refine ⟨_, fun _ _ _ h => h, Or.inr ⟨by rfl, rfl⟩, ?_⟩
            simp only [Act.put, List.setIfInBounds_toArray, List.set_cons_zero, List.set_cons_succ]
            refine held_take 22 (by kernel_rfl) (by kernel_rfl) (by kernel_rfl) (by kernel_rfl) hHeld ?_
            intro o ho
            simp only [List.getElem?_toArray, List.getElem?_cons_zero, List.getElem?_cons_succ, Option.some.injEq] at ho
            subst ho
            refine ⟨_, fun _ _ _ h => h, Or.inr ⟨by rfl, rfl⟩, ?_⟩
            simp only [Act.put, List.setIfInBounds_toArray, List.set_cons_zero, List.set_cons_succ]
            refine held_take 23 (by kernel_rfl) (by kernel_rfl) (by kernel_rfl) (by kernel_rfl) hHeld ?_
            intro o ho
            simp only [List.getElem?_toArray, List.getElem?_cons_zero, List.getElem?_cons_succ, Option.some.injEq] at ho
            subst ho
            refine ⟨_, fun _ _ _ h => h, Or.inr ⟨by rfl, rfl⟩, ?_⟩
            simp only [Act.put, List.setIfInBounds_toArray, List.set_cons_zero, List.set_cons_succ]
            refine held_take 24 (by kernel_rfl) (by kernel_rfl) (by kernel_rfl) (by kernel_rfl) hHeld ?_
            intro o ho
            simp only [List.getElem?_toArray, List.getElem?_cons_zero, List.getElem?_cons_succ, Option.some.injEq] at ho
            subst ho
            refine ⟨_, fun _ _ _ h => h, Or.inr ⟨by rfl, rfl⟩, ?_⟩
            simp only [Act.put, List.setIfInBounds_toArray, List.set_cons_zero, List.set_cons_succ]
            refine held_take 25 (by kernel_rfl) (by kernel_rfl) (by kernel_rfl) (by kernel_rfl) hHeld ?_
            intro o ho
            simp only [List.getElem?_toArray, List.getElem?_cons_zero, List.getElem?_cons_succ, Option.some.injEq] at ho
            subst ho
            refine ⟨?_, fun _ _ _ h => h, Or.inl ⟨by rfl, ?_⟩, ?_⟩
            case refine_2 =>
              intro w hSw
              (try dsimp only at hSw)
              go_simp
              try with_reducible rfl
            simp only [Act.put, List.setIfInBounds_toArray, List.set_cons_zero, List.set_cons_succ]
            refine wpAnyH_done (by kernel_rfl) ?_ _
            generalize w13.drew = w14 at kb y14 ⊢
            have d0 := y14.c0
            have d1 := y14.c1
            by_cases h0 : 0 < l
            · obtain ⟨eU, hU, hV⟩ := hUV.out h0
              obtain ⟨u, hu⟩ : ∃ u, U * l = u := ⟨_, rfl⟩
              have hu2 : q * V = u := by rw [← hu]; exact eU.symm
              have hu3 : -1000000 ≤ u ∧ u ≤ 1000000 := by
                have h1 := Int.mul_le_mul_of_nonneg_right hU.1 (show 0 ≤ l by omega)
                have h2 := Int.mul_le_mul_of_nonneg_right hU.2 (show 0 ≤ l by omega)
                omega
              clear eU
              go_wp2_with fail
              go_ret
              exact ⟨rfl, kb⟩
            · go_wp2_with fail
              go_ret
              exact ⟨rfl, kb⟩
        · have h3 : decide (-100 ≤ P) = false := decide_eq_false h1
          clear r0 hFu nB y6
          refine held_drew (fun W => W.cell? ⟨p6, 0, none⟩ = some (.int .i64 P) ∧ W.cell? ⟨p6, 1, none⟩ = some (.int .i64 1)) (by kernel_rfl) (⟨c0, c1⟩) (fun hHeld => ?_)
          refine held_take 0 (by kernel_rfl) (by kernel_rfl) (by kernel_rfl) (by kernel_rfl) hHeld ?_
          intro o ho
          simp only [List.getElem?_toArray, List.getElem?_cons_zero, Option.some.injEq] at ho
          subst ho
          refine ⟨?_, fun _ _ _ h => h, Or.inl ⟨by rfl, ?_⟩, ?_⟩
          case refine_2 =>
            intro w hSw
            (try dsimp only at hSw)
            go_simp
            try with_reducible rfl
          simp only [Act.put, List.setIfInBounds_toArray, List.set_cons_zero, List.set_cons_succ]
          refine held_take 1 (by kernel_rfl) (by kernel_rfl) (by kernel_rfl) (by kernel_rfl) hHeld ?_
          intro o ho
          simp only [List.getElem?_toArray, List.getElem?_cons_zero, List.getElem?_cons_succ, Option.some.injEq] at ho
          subst ho
          refine ⟨?_, fun _ _ _ h => h, Or.inl ⟨by rfl, ?_⟩, ?_⟩
          case refine_2 =>
            intro w hSw
            (try dsimp only at hSw)
            go_simp
            try with_reducible rfl
          simp only [Act.put, List.setIfInBounds_toArray, List.set_cons_zero, List.set_cons_succ]
          refine held_take 2 (by kernel_rfl) (by kernel_rfl) (by kernel_rfl) (by kernel_rfl) hHeld ?_
          intro o ho
          simp only [List.getElem?_toArray, List.getElem?_cons_zero, List.getElem?_cons_succ, Option.some.injEq] at ho
          subst ho
          refine ⟨?_, fun _ _ _ h => h, Or.inl ⟨by rfl, ?_⟩, ?_⟩
          case refine_2 =>
            intro w hSw
            (try dsimp only at hSw)
            go_simp
            try with_reducible rfl
          simp only [Act.put, List.setIfInBounds_toArray, List.set_cons_zero, List.set_cons_succ]
          refine held_take 3 (by kernel_rfl) (by kernel_rfl) (by kernel_rfl) (by kernel_rfl) hHeld ?_
          intro o ho
          simp only [List.getElem?_toArray, List.getElem?_cons_zero, List.getElem?_cons_succ, Option.some.injEq] at ho
          subst ho
          refine ⟨?_, fun _ _ _ h => h, Or.inl ⟨by rfl, ?_⟩, ?_⟩
          case refine_2 =>
            intro w hSw
            (try dsimp only at hSw)
            go_simp
            try with_reducible rfl
          simp only [Act.put, List.setIfInBounds_toArray, List.set_cons_zero, List.set_cons_succ]
          refine held_take 4 (by kernel_rfl) (by kernel_rfl) (by kernel_rfl) (by kernel_rfl) hHeld ?_
          intro o ho
          simp only [List.getElem?_toArray, List.getElem?_cons_zero, List.getElem?_cons_succ, Option.some.injEq] at ho
          subst ho
          refine ⟨?_, fun _ _ _ h => h, Or.inl ⟨by rfl, ?_⟩, ?_⟩
          case refine_2 =>
            intro w hSw
            (try dsimp only at hSw)
            go_simp
            try with_reducible rfl
          simp only [Act.put, List.setIfInBounds_toArray, List.set_cons_zero, List.set_cons_succ]
          refine held_take 5 (by kernel_rfl) (by kernel_rfl) (by kernel_rfl) (by kernel_rfl) hHeld ?_
          intro o ho
          simp only [List.getElem?_toArray, List.getElem?_cons_zero, List.getElem?_cons_succ, Option.some.injEq] at ho
          subst ho
          refine ⟨?_, fun _ _ _ h => h, Or.inl ⟨by rfl, ?_⟩, ?_⟩
          case refine_2 =>
            intro w hSw
            (try dsimp only at hSw)
            go_simp
            try with_reducible rfl
          simp only [Act.put, List.setIfInBounds_toArray, List.set_cons_zero, List.set_cons_succ]
          refine held_take 6 (by kernel_rfl) (by kernel_rfl) (by kernel_rfl) (by kernel_rfl) hHeld ?_
          intro o ho
          simp only [List.getElem?_toArray, List.getElem?_cons_zero, List.getElem?_cons_succ, Option.some.injEq] at ho
          subst ho
          refine ⟨?_, fun _ _ _ h => h, Or.inl ⟨by rfl, ?_⟩, ?_⟩
          case refine_2 =>
            intro w hSw
            (try dsimp only at hSw)
            go_simp
            try with_reducible rfl
          simp only [Act.put, List.setIfInBounds_toArray, List.set_cons_zero, List.set_cons_succ]
          refine held_take 7 (by kernel_rfl) (by kernel_rfl) (by kernel_rfl) (by kernel_rfl) hHeld ?_
          intro o ho
          simp only [List.getElem?_toArray, List.getElem?_cons_zero, List.getElem?_cons_succ, Option.some.injEq] at ho
          subst ho
          refine ⟨?_, fun _ _ _ h => h, Or.inl ⟨by rfl, ?_⟩, ?_⟩
          case refine_2 =>
            intro w hSw
            (try dsimp only at hSw)
            go_simp
            try with_reducible rfl
          simp only [Act.put, List.setIfInBounds_toArray, List.set_cons_zero, List.set_cons_succ]
          refine held_take 8 (by kernel_rfl) (by kernel_rfl) (by kernel_rfl) (by kernel_rfl) hHeld ?_
          intro o ho
          simp only [List.getElem?_toArray, List.getElem?_cons_zero, List.getElem?_cons_succ, Option.some.injEq] at ho
          subst ho
          refine ⟨?_, fun _ _ _ h => h, Or.inl ⟨by rfl, ?_⟩, ?_⟩
          case refine_2 =>
            intro w hSw
            (try dsimp only at hSw)
            go_simp
            try with_reducible rfl
          simp only [Act.put, List.setIfInBounds_toArray, List.set_cons_zero, List.set_cons_succ]
          refine held_take 9 (by kernel_rfl) (by kernel_rfl) (by kernel_rfl) (by kernel_rfl) hHeld ?_
          intro o ho
          simp only [List.getElem?_toArray, List.getElem?_cons_zero, List.getElem?_cons_succ, Option.some.injEq] at ho
          subst ho
          refine ⟨_, fun _ _ _ h => h, Or.inr ⟨by rfl, rfl⟩, ?_⟩
          simp only [Act.put, List.setIfInBounds_toArray, List.set_cons_zero, List.set_cons_succ]
          refine held_take 10 (by kernel_rfl) (by kernel_rfl) (by kernel_rfl) (by kernel_rfl) hHeld ?_
          intro o ho
          simp only [List.getElem?_toArray, List.getElem?_cons_zero, List.getElem?_cons_succ, Option.some.injEq] at ho
          subst ho
          refine ⟨_, fun _ _ _ h => h, Or.inr ⟨by rfl, rfl⟩, ?_⟩
          simp only [Act.put, List.setIfInBounds_toArray, List.set_cons_zero, List.set_cons_succ]
          refine held_take 11 (by kernel_rfl) (by kernel_rfl) (by kernel_rfl) (by kernel_rfl) hHeld ?_
          intro o ho
          simp only [List.getElem?_toArray, List.getElem?_cons_zero, List.getElem?_cons_succ, Option.some.injEq] at ho
          subst ho
          refine ⟨_, fun _ _ _ h => h, Or.inr ⟨by rfl, rfl⟩, ?_⟩
          simp only [Act.put, List.setIfInBounds_toArray, List.set_cons_zero, List.set_cons_succ]
          refine held_take 12 (by kernel_rfl) (by kernel_rfl) (by kernel_rfl) (by kernel_rfl) hHeld ?_
          intro o ho
          simp only [List.getElem?_toArray, List.getElem?_cons_zero, List.getElem?_cons_succ, Option.some.injEq] at ho
          subst ho
          refine ⟨?_, fun _ _ _ h => h, Or.inl ⟨by rfl, ?_⟩, ?_⟩
          case refine_2 =>
            intro w hSw
            (try dsimp only at hSw)
            go_simp
            try with_reducible rfl
          simp only [Act.put, List.setIfInBounds_toArray, List.set_cons_zero, List.set_cons_succ]
          refine held_take 13 (by kernel_rfl) (by kernel_rfl) (by kernel_rfl) (by kernel_rfl) hHeld ?_
          intro o ho
          simp only [List.getElem?_toArray, List.getElem?_cons_zero, List.getElem?_cons_succ, Option.some.injEq] at ho
          subst ho
          refine ⟨?_, fun _ _ _ h => h, Or.inl ⟨by rfl, ?_⟩, ?_⟩
          case refine_2 =>
            intro w hSw
            (try dsimp only at hSw)
            go_simp
            try with_reducible rfl
          simp only [Act.put, List.setIfInBounds_toArray, List.set_cons_zero, List.set_cons_succ]
          refine held_take 14 (by kernel_rfl) (by kernel_rfl) (by kernel_rfl) (by kernel_rfl) hHeld ?_
          intro o ho
          simp only [List.getElem?_toArray, List.getElem?_cons_zero, List.getElem?_cons_succ, Option.some.injEq] at ho
          subst ho
          refine ⟨_, fun _ _ _ h => h, Or.inr ⟨by rfl, rfl⟩, ?_⟩
          simp only [Act.put, List.setIfInBounds_toArray, List.set_cons_zero, List.set_cons_succ]
          refine held_take 15 (by kernel_rfl) (by kernel_rfl) (by kernel_rfl) (by kernel_rfl) hHeld ?_
          intro o ho
          simp only [List.getElem?_toArray, List.getElem?_cons_zero, List.getElem?_cons_succ, Option.some.injEq] at ho
          subst ho
          refine ⟨_, fun _ _ _ h => h, Or.inr ⟨by rfl, rfl⟩, ?_⟩
          simp only [Act.put, List.setIfInBounds_toArray, List.set_cons_zero, List.set_cons_succ]
          refine held_take 16 (by kernel_rfl) (by kernel_rfl) (by kernel_rfl) (by kernel_rfl) hHeld ?_
          intro o ho
          simp only [List.getElem?_toArray, List.getElem?_cons_zero, List.getElem?_cons_succ, Option.some.injEq] at ho
          subst ho
          refine ⟨_, fun _ _ _ h => h, Or.inr ⟨by rfl, rfl⟩, ?_⟩
          simp only [Act.put, List.setIfInBounds_toArray, List.set_cons_zero, List.set_cons_succ]
          refine held_take 17 (by kernel_rfl) (by kernel_rfl) (by kernel_rfl) (by kernel_rfl) hHeld ?_
          intro o ho
          simp only [List.getElem?_toArray, List.getElem?_cons_zero, List.getElem?_cons_succ, Option.some.injEq] at ho
          subst ho
          refine ⟨_, fun _ _ _ h => h, Or.inr ⟨by rfl, rfl⟩, ?_⟩
          simp only [Act.put, List.setIfInBounds_toArray, List.set_cons_zero, List.set_cons_succ]
          refine held_take 18 (by kernel_rfl) (by kernel_rfl) (by kernel_rfl) (by kernel_rfl) hHeld ?_
          intro o ho
          simp only [List.getElem?_toArray, List.getElem?_cons_zero, List.getElem?_cons_succ, Option.some.injEq] at ho
          subst ho
          refine ⟨_, fun _ _ _ h => h, Or.inr ⟨by rfl, rfl⟩, ?_⟩
          simp only [Act.put, List.setIfInBounds_toArray, List.set_cons_zero, List.set_cons_succ]
          refine held_take 19 (by kernel_rfl) (by kernel_rfl) (by kernel_rfl) (by kernel_rfl) hHeld ?_
          intro o ho
          simp only [List.getElem?_toArray, List.getElem?_cons_zero, List.getElem?_cons_succ, Option.some.injEq] at ho
          subst ho
          refine ⟨_, fun _ _ _ h => h, Or.inr ⟨by rfl, rfl⟩, ?_⟩
          simp only [Act.put, List.setIfInBounds_toArray, List.set_cons_zero, List.set_cons_succ]
          refine held_take 20 (by kernel_rfl) (by kernel_rfl) (by kernel_rfl) (by kernel_rfl) hHeld ?_
          intro o ho
          simp only [List.getElem?_toArray, List.getElem?_cons_zero, List.getElem?_cons_succ, Option.some.injEq] at ho
          subst ho
          refine ⟨_, fun _ _ _ h => h, Or.inr ⟨by rfl, rfl⟩, ?_⟩
          simp only [Act.put, List.setIfInBounds_toArray, List.set_cons_zero, List.set_cons_succ]
          refine held_take 21 (by kernel_rfl) (by kernel_rfl) (by kernel_rfl) (by kernel_rfl) hHeld ?_
          intro o ho
          simp only [List.getElem?_toArray, List.getElem?_cons_zero, List.getElem?_cons_succ, Option.some.injEq] at ho
          subst ho
          refine ⟨_, fun _ _ _ h => h, Or.inr ⟨by rfl, rfl⟩, ?_⟩
          simp only [Act.put, List.setIfInBounds_toArray, List.set_cons_zero, List.set_cons_succ]
          refine held_take 22 (by kernel_rfl) (by kernel_rfl) (by kernel_rfl) (by kernel_rfl) hHeld ?_
          intro o ho
          simp only [List.getElem?_toArray, List.getElem?_cons_zero, List.getElem?_cons_succ, Option.some.injEq] at ho
          subst ho
          refine ⟨_, fun _ _ _ h => h, Or.inr ⟨by rfl, rfl⟩, ?_⟩
          simp only [Act.put, List.setIfInBounds_toArray, List.set_cons_zero, List.set_cons_succ]
          refine held_take 23 (by kernel_rfl) (by kernel_rfl) (by kernel_rfl) (by kernel_rfl) hHeld ?_
          intro o ho
          simp only [List.getElem?_toArray, List.getElem?_cons_zero, List.getElem?_cons_succ, Option.some.injEq] at ho
          subst ho
          refine ⟨_, fun _ _ _ h => h, Or.inr ⟨by rfl, rfl⟩, ?_⟩
          simp only [Act.put, List.setIfInBounds_toArray, List.set_cons_zero, List.set_cons_succ]
          refine held_take 24 (by kernel_rfl) (by kernel_rfl) (by kernel_rfl) (by kernel_rfl) hHeld ?_
          intro o ho
          simp only [List.getElem?_toArray, List.getElem?_cons_zero, List.getElem?_cons_succ, Option.some.injEq] at ho
          subst ho
          refine ⟨_, fun _ _ _ h => h, Or.inr ⟨by rfl, rfl⟩, ?_⟩
          simp only [Act.put, List.setIfInBounds_toArray, List.set_cons_zero, List.set_cons_succ]
          refine held_take 25 (by kernel_rfl) (by kernel_rfl) (by kernel_rfl) (by kernel_rfl) hHeld ?_
          intro o ho
          simp only [List.getElem?_toArray, List.getElem?_cons_zero, List.getElem?_cons_succ, Option.some.injEq] at ho
          subst ho
          refine ⟨?_, fun _ _ _ h => h, Or.inl ⟨by rfl, ?_⟩, ?_⟩
          case refine_2 =>
            intro w hSw
            (try dsimp only at hSw)
            go_simp
            try with_reducible rfl
          simp only [Act.put, List.setIfInBounds_toArray, List.set_cons_zero, List.set_cons_succ]
          refine wpAnyH_done (by kernel_rfl) ?_ _
          generalize w13.drew = w14 at kb y14 ⊢
          have d0 := y14.c0
          have d1 := y14.c1
          by_cases h0 : 0 < l
          · obtain ⟨eU, hU, hV⟩ := hUV.out h0
            obtain ⟨u, hu⟩ : ∃ u, U * l = u := ⟨_, rfl⟩
            have hu2 : q * V = u := by rw [← hu]; exact eU.symm
            have hu3 : -1000000 ≤ u ∧ u ≤ 1000000 := by
              have h1 := Int.mul_le_mul_of_nonneg_right hU.1 (show 0 ≤ l by omega)
              have h2 := Int.mul_le_mul_of_nonneg_right hU.2 (show 0 ≤ l by omega)
              omega
            clear eU
            go_wp2_with fail
            go_ret
            exact ⟨rfl, kb⟩
          · go_wp2_with fail
            go_ret
            exact ⟨rfl, kb⟩
      · have h1 : (Q == 1) = false := by simpa using hQ1
        clear r0 hFu nB y6
        refine held_drew (fun W => W.cell? ⟨p6, 0, none⟩ = some (.int .i64 P) ∧ W.cell? ⟨p6, 1, none⟩ = some (.int .i64 Q)) (by kernel_rfl) (⟨c0, c1⟩) (fun hHeld => ?_)
        refine held_take 0 (by kernel_rfl) (by kernel_rfl) (by kernel_rfl) (by kernel_rfl) hHeld ?_
        intro o ho
        simp only [List.getElem?_toArray, List.getElem?_cons_zero, Option.some.injEq] at ho
        subst ho
        refine ⟨?_, fun _ _ _ h => h, Or.inl ⟨by rfl, ?_⟩, ?_⟩
        case refine_2 =>
          intro w hSw
          (try dsimp only at hSw)
          go_simp
          try with_reducible rfl
        simp only [Act.put, List.setIfInBounds_toArray, List.set_cons_zero, List.set_cons_succ]
        refine held_take 1 (by kernel_rfl) (by kernel_rfl) (by kernel_rfl) (by kernel_rfl) hHeld ?_
        intro o ho
        simp only [List.getElem?_toArray, List.getElem?_cons_zero, List.getElem?_cons_succ, Option.some.injEq] at ho
        subst ho
        refine ⟨?_, fun _ _ _ h => h, Or.inl ⟨by rfl, ?_⟩, ?_⟩
        case refine_2 =>
          intro w hSw
          (try dsimp only at hSw)
          go_simp
          try with_reducible rfl
        simp only [Act.put, List.setIfInBounds_toArray, List.set_cons_zero, List.set_cons_succ]
        refine held_take 2 (by kernel_rfl) (by kernel_rfl) (by kernel_rfl) (by kernel_rfl) hHeld ?_
        intro o ho
        simp only [List.getElem?_toArray, List.getElem?_cons_zero, List.getElem?_cons_succ, Option.some.injEq] at ho
        subst ho
        refine ⟨?_, fun _ _ _ h => h, Or.inl ⟨by rfl, ?_⟩, ?_⟩
        case refine_2 =>
          intro w hSw
          (try dsimp only at hSw)
          go_simp
          try with_reducible rfl
        simp only [Act.put, List.setIfInBounds_toArray, List.set_cons_zero, List.set_cons_succ]
        refine held_take 3 (by kernel_rfl) (by kernel_rfl) (by kernel_rfl) (by kernel_rfl) hHeld ?_
        intro o ho
        simp only [List.getElem?_toArray, List.getElem?_cons_zero, List.getElem?_cons_succ, Option.some.injEq] at ho
        subst ho
        refine ⟨?_, fun _ _ _ h => h, Or.inl ⟨by rfl, ?_⟩, ?_⟩
        case refine_2 =>
          intro w hSw
          (try dsimp only at hSw)
          go_simp
          try with_reducible rfl
        simp only [Act.put, List.setIfInBounds_toArray, List.set_cons_zero, List.set_cons_succ]
        refine held_take 4 (by kernel_rfl) (by kernel_rfl) (by kernel_rfl) (by kernel_rfl) hHeld ?_
        intro o ho
        simp only [List.getElem?_toArray, List.getElem?_cons_zero, List.getElem?_cons_succ, Option.some.injEq] at ho
        subst ho
        refine ⟨_, fun _ _ _ h => h, Or.inr ⟨by rfl, rfl⟩, ?_⟩
        simp only [Act.put, List.setIfInBounds_toArray, List.set_cons_zero, List.set_cons_succ]
        refine held_take 5 (by kernel_rfl) (by kernel_rfl) (by kernel_rfl) (by kernel_rfl) hHeld ?_
        intro o ho
        simp only [List.getElem?_toArray, List.getElem?_cons_zero, List.getElem?_cons_succ, Option.some.injEq] at ho
        subst ho
        refine ⟨_, fun _ _ _ h => h, Or.inr ⟨by rfl, rfl⟩, ?_⟩
        simp only [Act.put, List.setIfInBounds_toArray, List.set_cons_zero, List.set_cons_succ]
        refine held_take 6 (by kernel_rfl) (by kernel_rfl) (by kernel_rfl) (by kernel_rfl) hHeld ?_
        intro o ho
        simp only [List.getElem?_toArray, List.getElem?_cons_zero, List.getElem?_cons_succ, Option.some.injEq] at ho
        subst ho
        refine ⟨_, fun _ _ _ h => h, Or.inr ⟨by rfl, rfl⟩, ?_⟩
        simp only [Act.put, List.setIfInBounds_toArray, List.set_cons_zero, List.set_cons_succ]
        refine held_take 7 (by kernel_rfl) (by kernel_rfl) (by kernel_rfl) (by kernel_rfl) hHeld ?_
        intro o ho
        simp only [List.getElem?_toArray, List.getElem?_cons_zero, List.getElem?_cons_succ, Option.some.injEq] at ho
        subst ho
        refine ⟨?_, fun _ _ _ h => h, Or.inl ⟨by rfl, ?_⟩, ?_⟩
        case refine_2 =>
          intro w hSw
          (try dsimp only at hSw)
          go_simp
          try with_reducible rfl
        simp only [Act.put, List.setIfInBounds_toArray, List.set_cons_zero, List.set_cons_succ]
        refine held_take 8 (by kernel_rfl) (by kernel_rfl) (by kernel_rfl) (by kernel_rfl) hHeld ?_
        intro o ho
        simp only [List.getElem?_toArray, List.getElem?_cons_zero, List.getElem?_cons_succ, Option.some.injEq] at ho
        subst ho
        refine ⟨?_, fun _ _ _ h => h, Or.inl ⟨by rfl, ?_⟩, ?_⟩
        case refine_2 =>
          intro w hSw
          (try dsimp only at hSw)
          go_simp
          try with_reducible rfl
        simp only [Act.put, List.setIfInBounds_toArray, List.set_cons_zero, List.set_cons_succ]
        refine held_take 9 (by kernel_rfl) (by kernel_rfl) (by kernel_rfl) (by kernel_rfl) hHeld ?_
        intro o ho
        simp only [List.getElem?_toArray, List.getElem?_cons_zero, List.getElem?_cons_succ, Option.some.injEq] at ho
        subst ho
        refine ⟨_, fun _ _ _ h => h, Or.inr ⟨by rfl, rfl⟩, ?_⟩
        simp only [Act.put, List.setIfInBounds_toArray, List.set_cons_zero, List.set_cons_succ]
        refine held_take 10 (by kernel_rfl) (by kernel_rfl) (by kernel_rfl) (by kernel_rfl) hHeld ?_
        intro o ho
        simp only [List.getElem?_toArray, List.getElem?_cons_zero, List.getElem?_cons_succ, Option.some.injEq] at ho
        subst ho
        refine ⟨_, fun _ _ _ h => h, Or.inr ⟨by rfl, rfl⟩, ?_⟩
        simp only [Act.put, List.setIfInBounds_toArray, List.set_cons_zero, List.set_cons_succ]
        refine held_take 11 (by kernel_rfl) (by kernel_rfl) (by kernel_rfl) (by kernel_rfl) hHeld ?_
        intro o ho
        simp only [List.getElem?_toArray, List.getElem?_cons_zero, List.getElem?_cons_succ, Option.some.injEq] at ho
        subst ho
        refine ⟨_, fun _ _ _ h => h, Or.inr ⟨by rfl, rfl⟩, ?_⟩
        simp only [Act.put, List.setIfInBounds_toArray, List.set_cons_zero, List.set_cons_succ]
        refine held_take 12 (by kernel_rfl) (by kernel_rfl) (by kernel_rfl) (by kernel_rfl) hHeld ?_
        intro o ho
        simp only [List.getElem?_toArray, List.getElem?_cons_zero, List.getElem?_cons_succ, Option.some.injEq] at ho
        subst ho
        refine ⟨?_, fun _ _ _ h => h, Or.inl ⟨by rfl, ?_⟩, ?_⟩
        case refine_2 =>
          intro w hSw
          (try dsimp only at hSw)
          go_simp
          try with_reducible rfl
        simp only [Act.put, List.setIfInBounds_toArray, List.set_cons_zero, List.set_cons_succ]
        refine held_take 13 (by kernel_rfl) (by kernel_rfl) (by kernel_rfl) (by kernel_rfl) hHeld ?_
        intro o ho
        simp only [List.getElem?_toArray, List.getElem?_cons_zero, List.getElem?_cons_succ, Option.some.injEq] at ho
        subst ho
        refine ⟨?_, fun _ _ _ h => h, Or.inl ⟨by rfl, ?_⟩, ?_⟩
        case refine_2 =>
          intro w hSw
          (try dsimp only at hSw)
          go_simp
          try with_reducible rfl
        simp only [Act.put, List.setIfInBounds_toArray, List.set_cons_zero, List.set_cons_succ]
        refine held_take 14 (by kernel_rfl) (by kernel_rfl) (by kernel_rfl) (by kernel_rfl) hHeld ?_
        intro o ho
        simp only [List.getElem?_toArray, List.getElem?_cons_zero, List.getElem?_cons_succ, Option.some.injEq] at ho
        subst ho
        refine ⟨_, fun _ _ _ h => h, Or.inr ⟨by rfl, rfl⟩, ?_⟩
        simp only [Act.put, List.setIfInBounds_toArray, List.set_cons_zero, List.set_cons_succ]
        refine held_take 15 (by kernel_rfl) (by kernel_rfl) (by kernel_rfl) (by kernel_rfl) hHeld ?_
        intro o ho
        simp only [List.getElem?_toArray, List.getElem?_cons_zero, List.getElem?_cons_succ, Option.some.injEq] at ho
        subst ho
        refine ⟨_, fun _ _ _ h => h, Or.inr ⟨by rfl, rfl⟩, ?_⟩
        simp only [Act.put, List.setIfInBounds_toArray, List.set_cons_zero, List.set_cons_succ]
        refine held_take 16 (by kernel_rfl) (by kernel_rfl) (by kernel_rfl) (by kernel_rfl) hHeld ?_
        intro o ho
        simp only [List.getElem?_toArray, List.getElem?_cons_zero, List.getElem?_cons_succ, Option.some.injEq] at ho
        subst ho
        refine ⟨_, fun _ _ _ h => h, Or.inr ⟨by rfl, rfl⟩, ?_⟩
        simp only [Act.put, List.setIfInBounds_toArray, List.set_cons_zero, List.set_cons_succ]
        refine held_take 17 (by kernel_rfl) (by kernel_rfl) (by kernel_rfl) (by kernel_rfl) hHeld ?_
        intro o ho
        simp only [List.getElem?_toArray, List.getElem?_cons_zero, List.getElem?_cons_succ, Option.some.injEq] at ho
        subst ho
        refine ⟨_, fun _ _ _ h => h, Or.inr ⟨by rfl, rfl⟩, ?_⟩
        simp only [Act.put, List.setIfInBounds_toArray, List.set_cons_zero, List.set_cons_succ]
        refine held_take 18 (by kernel_rfl) (by kernel_rfl) (by kernel_rfl) (by kernel_rfl) hHeld ?_
        intro o ho
        simp only [List.getElem?_toArray, List.getElem?_cons_zero, List.getElem?_cons_succ, Option.some.injEq] at ho
        subst ho
        refine ⟨_, fun _ _ _ h => h, Or.inr ⟨by rfl, rfl⟩, ?_⟩
        simp only [Act.put, List.setIfInBounds_toArray, List.set_cons_zero, List.set_cons_succ]
        refine held_take 19 (by kernel_rfl) (by kernel_rfl) (by kernel_rfl) (by kernel_rfl) hHeld ?_
        intro o ho
        simp only [List.getElem?_toArray, List.getElem?_cons_zero, List.getElem?_cons_succ, Option.some.injEq] at ho
        subst ho
        refine ⟨_, fun _ _ _ h => h, Or.inr ⟨by rfl, rfl⟩, ?_⟩
        simp only [Act.put, List.setIfInBounds_toArray, List.set_cons_zero, List.set_cons_succ]
        refine held_take 20 (by kernel_rfl) (by kernel_rfl) (by kernel_rfl) (by kernel_rfl) hHeld ?_
        intro o ho
        simp only [List.getElem?_toArray, List.getElem?_cons_zero, List.getElem?_cons_succ, Option.some.injEq] at ho
        subst ho
        refine ⟨_, fun _ _ _ h => h, Or.inr ⟨by rfl, rfl⟩, ?_⟩
        simp only [Act.put, List.setIfInBounds_toArray, List.set_cons_zero, List.set_cons_succ]
        refine held_take 21 (by kernel_rfl) (by kernel_rfl) (by kernel_rfl) (by kernel_rfl) hHeld ?_
        intro o ho
        simp only [List.getElem?_toArray, List.getElem?_cons_zero, List.getElem?_cons_succ, Option.some.injEq] at ho
        subst ho
        refine ⟨_, fun _ _ _ h => h, Or.inr ⟨by rfl, rfl⟩, ?_⟩
        simp only [Act.put, List.setIfInBounds_toArray, List.set_cons_zero, List.set_cons_succ]
        refine held_take 22 (by kernel_rfl) (by kernel_rfl) (by kernel_rfl) (by kernel_rfl) hHeld ?_
        intro o ho
        simp only [List.getElem?_toArray, List.getElem?_cons_zero, List.getElem?_cons_succ, Option.some.injEq] at ho
        subst ho
        refine ⟨_, fun _ _ _ h => h, Or.inr ⟨by rfl, rfl⟩, ?_⟩
        simp only [Act.put, List.setIfInBounds_toArray, List.set_cons_zero, List.set_cons_succ]
        refine held_take 23 (by kernel_rfl) (by kernel_rfl) (by kernel_rfl) (by kernel_rfl) hHeld ?_
        intro o ho
        simp only [List.getElem?_toArray, List.getElem?_cons_zero, List.getElem?_cons_succ, Option.some.injEq] at ho
        subst ho
        refine ⟨_, fun _ _ _ h => h, Or.inr ⟨by rfl, rfl⟩, ?_⟩
        simp only [Act.put, List.setIfInBounds_toArray, List.set_cons_zero, List.set_cons_succ]
        refine held_take 24 (by kernel_rfl) (by kernel_rfl) (by kernel_rfl) (by kernel_rfl) hHeld ?_
        intro o ho
        simp only [List.getElem?_toArray, List.getElem?_cons_zero, List.getElem?_cons_succ, Option.some.injEq] at ho
        subst ho
        refine ⟨_, fun _ _ _ h => h, Or.inr ⟨by rfl, rfl⟩, ?_⟩
        simp only [Act.put, List.setIfInBounds_toArray, List.set_cons_zero, List.set_cons_succ]
        refine held_take 25 (by kernel_rfl) (by kernel_rfl) (by kernel_rfl) (by kernel_rfl) hHeld ?_
        intro o ho
        simp only [List.getElem?_toArray, List.getElem?_cons_zero, List.getElem?_cons_succ, Option.some.injEq] at ho
        subst ho
        refine ⟨?_, fun _ _ _ h => h, Or.inl ⟨by rfl, ?_⟩, ?_⟩
        case refine_2 =>
          intro w hSw
          (try dsimp only at hSw)
          go_simp
          try with_reducible rfl
        simp only [Act.put, List.setIfInBounds_toArray, List.set_cons_zero, List.set_cons_succ]
        refine wpAnyH_done (by kernel_rfl) ?_ _
        generalize w13.drew = w14 at kb y14 ⊢
        have d0 := y14.c0
        have d1 := y14.c1
        by_cases h0 : 0 < l
        · obtain ⟨eU, hU, hV⟩ := hUV.out h0
          obtain ⟨u, hu⟩ : ∃ u, U * l = u := ⟨_, rfl⟩
          have hu2 : q * V = u := by rw [← hu]; exact eU.symm
          have hu3 : -1000000 ≤ u ∧ u ≤ 1000000 := by
            have h1 := Int.mul_le_mul_of_nonneg_right hU.1 (show 0 ≤ l by omega)
            have h2 := Int.mul_le_mul_of_nonneg_right hU.2 (show 0 ≤ l by omega)
            omega
          clear eU
          go_wp2_with fail
          go_ret
          exact ⟨rfl, kb⟩
        · go_wp2_with fail
          go_ret
          exact ⟨rfl, kb⟩
end Go.Proofs.Ytajndcggafjmeaa
