/-
  The law on perfect lists: there are as many with a sum as ordered products of the next number, and each is what it is called. Where the program's functions answer as the model's do.
-/
import Derived.Test.YtdnjpekclmiliaaImpl6
import Derived.Test.YtdnjpekclmiliaaAt
import Derived.Test.YtdnjpekclmiliaaSays
import Derived.OwnWalk
import Derived.BigRegion
import Derived.BigQuiet
import Derived.Deep.RegionLaw
namespace Go.Proofs.Ytdnjpekclmiliaa
open Go.ChangeShapes Go.WideShapes Go.ChangeAt Go.RowKit Go.PlainAid

theorem SSRow.at {w : World} {A : Option Addr} {LL : List (List Int)} (h : SSRow w A LL) {i : Nat} (hi : i < LL.length) : ∃ x B c, A = some x ∧ w.cell? (x.add i) = some (.slice B (LL.getD i []).length c) ∧ IntRow w B (LL.getD i []) := by
  obtain ⟨x, B, c, hA, -, hc, r⟩ := h i hi
  exact ⟨x, B, c, hA, hc, r⟩
theorem getD_memL {LL : List (List Int)} {i : Nat} (hi : i < LL.length) : LL.getD i [] ∈ LL := by
  rw [getD_nil hi]
  exact List.getElem_mem hi
theorem rem_nat {z : Int} {N : Nat} (h0 : 0 ≤ z) (hN : 0 < N) : ∃ k : Nat, z.tmod (N : Int) = k ∧ k < N := by
  have g0 := Int.tmod_nonneg (N : Int) h0
  have g1 := Int.tmod_lt_of_pos z (b := (N : Int)) (by omega)
  exact ⟨(z.tmod (N : Int)).toNat, by omega, by omega⟩
/-- What is known of the chosen lists. -/
structure PFacts (n : Nat) (P F : List Int) : Prop where
  plen : P.length ≤ 24
  psum : sumL P = n
  ppos : ∀ j, j < P.length → 1 ≤ P.getD j 0
  flen : F.length ≤ 7
  fprod : prodL F = (n : Int) + 1
  fpos : ∀ z ∈ F, 1 ≤ z
  good : P.length ≤ 8 → perfectB P = true ∧ completeB P = true ∧ ∀ m : Int, 1 ≤ m → m ≤ n → waysU P m = 1
theorem pfacts {n : Nat} (h : 1 ≤ n ∧ n ≤ 24) {k i : Nat} (hk : k < (listsP (n : Int)).length) (hi : i < (listsF ((n : Int) + 1)).length) : PFacts n ((listsP (n : Int)).getD k []) ((listsF ((n : Int) + 1)).getD i []) := by
  have e : (n : Int) + 1 = ((n + 1 : Nat) : Int) := by omega
  have hP := getD_memL hk
  rw [e] at hi ⊢
  have hF := getD_memL hi
  obtain ⟨h1, -, -⟩ := listsP_good h hP
  obtain ⟨f1, f2⟩ := listsF_prod (n := n + 1) (by omega) hF
  refine ⟨by have := h1.mem.1; omega, h1.sum, h1.pos, (sizeF _).2.1 _ hF, by rw [f1]; omega, f2, fun h8 => good_set h hP h8⟩

set_option maxRecDepth 100000 in
set_option maxHeartbeats 4000000 in
theorem perfects_any (H : Impl6) (a : Option Addr) (len cap : Nat) (v0 : World) (hl : len ≤ 1048576) (hr : Bytes v0 v0.heap.size a len) :
    Calls Try.prog 3 #[.slice a len cap] v0 fun e w' => e = .returned (.bool true) ∧ Below v0.heap.size v0 w' := by
  have hb : ¬ (1048576 : Int) < len := by omega
  have A0 := fun v (h : Bytes v v0.heap.size a len) => at_val v0.heap.size a len cap 0 v hl (by decide) (by decide) h
  have A1 := fun v (h : Bytes v v0.heap.size a len) => at_val v0.heap.size a len cap 1 v hl (by decide) (by decide) h
  have A2 := fun v (h : Bytes v v0.heap.size a len) => at_val v0.heap.size a len cap 2 v hl (by decide) (by decide) h
  have A3 := fun v (h : Bytes v v0.heap.size a len) => at_val v0.heap.size a len cap 3 v hl (by decide) (by decide) h
  have kb := Below.refl v0.heap.size v0
  go_enter Try.func3, Try.ntmps3
  go_wp2_with (go_at_call 9; go_in)
  refine (A0 _ hr).mono ?_
  rintro e w1 ⟨x, x0, x1, rfl, q1, rfl⟩
  have b := below_drewN (Below.refl v0.heap.size v0) q1
  replace kb := below_more kb kb.size b
  clear b A0 hb hl
  generalize v0.drewN q1 = w1 at kb ⊢
  obtain ⟨n, hn⟩ : ∃ n : Nat, (n : Int) = 1 + x % 24 := ⟨(1 + x % 24).toNat, by omega⟩
  have hn24 : 1 ≤ n ∧ n ≤ 24 := by omega
  go_wp2_with fail
  rw [← hn]
  clear hn x0 x1 q1
  refine (H.hL n _).mono ?_
  rintro e w2 ⟨AP, cP, rfl, O⟩
  have rP : SSRow w2 AP (listsP (n : Int)) := O.reads rfl
  have b := O.bel
  replace kb := below_more kb kb.size b
  clear O b
  go_wp2_with fail
  refine (H.hF ((n : Int) + 1) _).mono ?_
  rintro e w3 ⟨AF, cF, rfl, O⟩
  have rF : SSRow w3 AF (listsF ((n : Int) + 1)) := O.reads rfl
  have b := O.bel
  replace kb := below_more kb kb.size b
  replace rP := rP.keep b
  clear O b
  have FF := fun k i => pfacts hn24 (k := k) (i := i)
  obtain ⟨hsz, hpos, h200⟩ := same_size hn24
  rw [show ((n + 1 : Nat) : Int) = (n : Int) + 1 by omega] at hsz
  rw [← hsz] at FF ⊢
  have rF0 := fun i (hi : i < (listsP (n : Int)).length) => rF.at (i := i) (by rw [← hsz]; exact hi)
  have rP0 := fun i (hi : i < (listsP (n : Int)).length) => rP.at (i := i) hi
  clear rF rP hsz
  generalize listsP (n : Int) = LP at rP0 rF0 FF hpos h200
  generalize listsF ((n : Int) + 1) = LF at rF0 FF
  generalize LP.length = N at rP0 rF0 FF hpos h200
  have hN0 : ¬ (N : Int) = 0 := by omega
  have hNb : ((N : Int) == 0) = false := by simp; omega
  go_wp2_with fail
  refine (A1 _ (hr.keep kb.block)).mono ?_
  rintro e w4 ⟨x, x0, x1, rfl, q1, rfl⟩
  obtain ⟨k, hk, hkN⟩ := rem_nat (z := x) (N := N) x0 hpos
  have b := below_drewN (Below.refl w3.heap.size w3) q1
  replace kb := below_more kb kb.size b
  obtain ⟨yP, BP, dP, rfl, hcP, rP⟩ := rP0 k hkN
  replace hcP := (b.cell (lt_of_cell hcP)).trans hcP
  replace rP := rP.keep b
  replace rF0 := fun i hi => (fun (h : ∃ x B c, AF = some x ∧ w3.cell? (x.add i) = some (.slice B (LF.getD i []).length c) ∧ IntRow w3 B (LF.getD i [])) => (by
    obtain ⟨x, B, c, h1, h2, h3⟩ := h
    exact ⟨x, B, c, h1, (b.cell (lt_of_cell h2)).trans h2, h3.keep b⟩ : ∃ x B c, AF = some x ∧ (w3.drewN q1).cell? (x.add i) = some (.slice B (LF.getD i []).length c) ∧ IntRow (w3.drewN q1) B (LF.getD i []))) (rF0 i hi)
  clear b A1 rP0
  generalize w3.drewN q1 = w4 at kb hcP rP rF0 ⊢
  go_wp2_with fail
  clear hk x0 x1 q1
  refine (A2 _ (hr.keep kb.block)).mono ?_
  rintro e w5 ⟨x, x0, x1, rfl, q1, rfl⟩
  obtain ⟨i, hi, hiN⟩ := rem_nat (z := x) (N := N) x0 hpos
  have b := below_drewN (Below.refl w4.heap.size w4) q1
  replace kb := below_more kb kb.size b
  obtain ⟨yF, BF, dF, rfl, hcF, rF⟩ := rF0 i hiN
  replace hcF := (b.cell (lt_of_cell hcF)).trans hcF
  replace rF := rF.keep b
  replace hcP := (b.cell (lt_of_cell hcP)).trans hcP
  replace rP := rP.keep b
  have F := FF k i hkN hiN
  clear b A2 rF0 FF
  generalize w4.drewN q1 = w5 at kb hcP rP hcF rF ⊢
  generalize LP.getD k [] = P at hcP rP F
  generalize LF.getD i [] = Fc at hcF rF F
  obtain ⟨plen, psum, ppos, flen, fprod, fpos, good⟩ := F
  have fpart := prodL_part fpos
  have hfg := fun j (hj : j < Fc.length) => fpos _ (List.getElem_mem hj)
  obtain ⟨m, hm⟩ : ∃ m, Fc.length = m := ⟨_, rfl⟩
  rw [hm] at hcF flen
  replace hm : Hid (Fc.length = m) := hm
  obtain ⟨l, hlen⟩ : ∃ l, P.length = l := ⟨_, rfl⟩
  rw [hlen] at hcP plen good
  replace hlen : Hid (P.length = l) := hlen
  have mi : (m : Int) ≤ 7 := by omega
  have li : (l : Int) ≤ 24 := by omega
  go_wp2_with fail
  clear hi x0 x1 q1
  go_loopw [8, 9] (fun p j wr => ∃ q : Nat, q ≤ m ∧ j = .int .i64 q ∧ p = .int .i64 (prodL (Fc.take q)) ∧ w5 = wr) (fun _ j _ => m - (intOf j).toNat)
  case atStart => exact ⟨0, by omega, rfl, rfl, rfl⟩
  case round =>
    obtain ⟨q, hq, rfl, rfl, rfl⟩ := hrel
    by_cases hlt : q < m
    · obtain ⟨z, rfl, -, hc⟩ := rF q (by rw [hm.out]; exact hlt)
      have e := prodL_take (L := Fc) (k := q) (by rw [hm.out]; exact hlt)
      have b1 := fpart q
      have b2 := fpart (q + 1)
      rw [fprod] at b1 b2
      clear rF fpart fprod fpos good psum ppos rP hcP H A3
      obtain ⟨t2, ht2⟩ : ∃ t2, prodL (Fc.take (q + 1)) = t2 := ⟨_, rfl⟩
      rw [ht2] at b2 e
      replace ht2 : Hid (prodL (Fc.take (q + 1)) = t2) := ht2
      generalize Fc.getD q 0 = f at hc e
      generalize prodL (Fc.take q) = t at b1 e ⊢
      have e3 : t * f = t2 := e.symm
      clear e
      go_wp2
      go_roundw
      case rel => exact ⟨q + 1, by omega, by go_num, by rw [ht2.out], by first | rfl | trivial⟩
      case measure => simp [intOf]; omega
    · obtain rfl : q = m := by omega
      have e : prodL (Fc.take q) = (n : Int) + 1 := by rw [← hm.out, List.take_length]; exact fprod
      rw [e]
      clear e rF fpart fprod fpos
      have spart : ∀ q, 0 ≤ sumL (P.take q) ∧ sumL (P.take q) ≤ 24 * 24 := fun q => by
        have pb : ∀ z ∈ P, 0 ≤ z ∧ z ≤ 24 := fun z hz => by
          obtain ⟨j, hj, rfl⟩ := List.mem_iff_getElem.1 hz
          have h1 := ppos j hj
          rw [List.getD_eq_getElem?_getD, List.getElem?_eq_getElem hj] at h1
          have h2 := (Head.mem (H := P) (r := n) ⟨ppos, psum⟩).2 j hj
          rw [List.getD_eq_getElem?_getD, List.getElem?_eq_getElem hj] at h2
          have h3 : 1 ≤ P[j] := h1
          have h4 : P[j] ≤ (n : Int) := h2
          omega
        exact sumL_take_le (by decide) pb q 24 (by rw [hlen.out]; exact plen)
      have pbound := (Head.mem (H := P) (r := n) ⟨ppos, psum⟩).2
      go_wp2_with fail
      go_loopw [10, 11] (fun p j wr => ∃ q : Nat, q ≤ l ∧ j = .int .i64 q ∧ p = .int .i64 (sumL (P.take q)) ∧ w5 = wr) (fun _ j _ => l - (intOf j).toNat)
      case atStart => exact ⟨0, by omega, rfl, rfl, rfl⟩
      case round =>
        obtain ⟨s, hs, rfl, rfl, rfl⟩ := hrel
        by_cases hls : s < l
        · obtain ⟨z, rfl, -, hc⟩ := rP s (by rw [hlen.out]; exact hls)
          have e := sumL_take (L := P) (k := s) (by rw [hlen.out]; exact hls)
          have b1 := spart s
          have p1 := ppos s (by rw [hlen.out]; exact hls)
          have p2 := pbound s (by rw [hlen.out]; exact hls)
          obtain ⟨t2, ht2⟩ : ∃ t2, sumL (P.take (s + 1)) = t2 := ⟨_, rfl⟩
          rw [ht2] at e
          replace ht2 : Hid (sumL (P.take (s + 1)) = t2) := ht2
          clear rP good psum ppos H A3 spart pbound
          generalize P.getD s 0 = f at hc e p1 p2
          generalize sumL (P.take s) = t at b1 e ⊢
          have e3 : t + f = t2 := e.symm
          clear e
          go_wp2
          go_roundw
          case rel => exact ⟨s + 1, by omega, by go_num, by rw [ht2.out], by first | rfl | trivial⟩
          case measure => simp [intOf]; omega
        · obtain rfl : s = l := by omega
          have e : sumL (P.take s) = (n : Int) := by rw [← hlen.out, List.take_length]; exact psum
          rw [e]
          clear e spart pbound psum ppos hlt hls hm hq hs
          have hnb : ((n : Int) != (n : Int)) = false := by simp
          have hnb1 : ((n : Int) + 1 != (n : Int) + 1) = false := by simp
          by_cases h8 : s ≤ 8
          · have hd : decide ((8 : Int) < s) = false := decide_eq_false (by omega)
            have hd2 : ¬ (8 : Int) < s := by omega
            obtain ⟨gp, gc, gw⟩ := good h8
            have HP := fun W (r : IntRow W BP P) => H.hP P BP dP W (by have := hlen.out; omega) r
            have HC := fun W (r : IntRow W BP P) => H.hC P BP dP W (by have := hlen.out; omega) r
            have HW2 : ∀ (t : Nat), 1 ≤ t → t ≤ n → ∀ W, IntRow W BP P → Calls Try.prog 15 #[.slice BP s dP, .int .i64 (t : Int)] W (SaysI 1 W) := fun t t1 t2 W r => by
              have h1 := H.hW (t : Int) P BP dP W (by have := hlen.out; omega) r
              rw [gw t (by omega) (by omega), hlen.out] at h1
              exact h1
            rw [gp, hlen.out] at HP
            rw [gc, hlen.out] at HC
            clear gp gc gw good H
            have hx : ∀ z : Int, 0 ≤ z → ∃ u t : Nat, z.tmod (n : Int) = u ∧ IntKind.i64.wrap (1 + (u : Int)) = t ∧ 1 ≤ t ∧ t ≤ n := fun z h0 => by
              obtain ⟨u, h1, h2⟩ := rem_nat (N := n) h0 (by omega)
              refine ⟨u, u + 1, h1, ?_, by omega, by omega⟩
              rw [IntKind.wrap_i64]
              omega
            have hnz : ¬ n = 0 := by omega
            have b0 : Below w5.heap.size w5 w5.drew := (Below.refl w5.heap.size w5).drew
            have rPd := rP.keep b0
            have kbd := below_more kb kb.size b0
            go_wp2_with fail
            go_region_law (first
              | (go_simp; go_at_call 13; (with_reducible refine (HP _ rPd).mono ?_); rintro e w6 ⟨rfl, b⟩; replace b := below_more b0 b0.size b; replace rP := rP.keep b; replace hcP := (b.cell (lt_of_cell hcP)).trans hcP; replace kb := below_more kb kb.size b; clear b b0 rPd kbd HP)
              | (go_simp; go_at_call 14; (with_reducible refine (HC _ rP).mono ?_); rintro e w7 ⟨rfl, b⟩; replace rP := rP.keep b; replace hcP := (b.cell (lt_of_cell hcP)).trans hcP; replace kb := below_more kb kb.size b; clear b HC)
              | (go_simp; go_at_call 10; (with_reducible refine (A3 _ (hr.keep kb.block)).mono ?_); rintro e w8 ⟨y, y0, y1, rfl, q1, rfl⟩; have b := below_drewN (Below.refl w7.heap.size w7) q1; replace rP := rP.keep b; replace hcP := (b.cell (lt_of_cell hcP)).trans hcP; replace kb := below_more kb kb.size b; obtain ⟨u, t, hu, hut, hu1, hun⟩ := hx y y0; clear b A3 hx; generalize w7.drewN q1 = w8 at rP hcP kb ⊢)
              | (go_simp; go_at_call 15; (with_reducible refine (HW2 t hu1 hun _ rP).mono ?_); rintro e w9 ⟨rfl, b⟩; replace kb := below_more kb kb.size b; clear b HW2))
            all_goals
              go_wp2
              go_ret
              exact ⟨rfl, kb⟩
          · have hd : decide ((8 : Int) < s) = true := decide_eq_true (by omega)
            have hd2 : (8 : Int) < s := by omega
            have hq : Hid (∀ q, Below v0.heap.size v0 (w5.drewN q)) := fun q => below_more kb kb.size (below_drewN (Below.refl w5.heap.size w5) q)
            clear good H A3 hr rP kb
            go_wp2
            go_quiet (fail)
            go_wp2
            go_ret
            exact ⟨rfl, hq.out _⟩
end Go.Proofs.Ytdnjpekclmiliaa
