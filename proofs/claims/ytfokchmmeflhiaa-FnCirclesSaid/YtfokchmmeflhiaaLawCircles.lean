/-
  The law on circles: a set of marks that measures every arc once still does when it is turned or stretched.
-/
import Derived.Test.YtfokchmmeflhiaaDrawCircle
import Derived.Test.YtfokchmmeflhiaaAtFix
import Derived.Test.YtfokchmmeflhiaaSameInts
import Derived.Test.YtfokchmmeflhiaaImplDif
import Derived.Test.YtfokchmmeflhiaaImplMove
import Derived.Test.YtfokchmmeflhiaaImplFSet
import Derived.Test.YtfokchmmeflhiaaCircFacts
namespace Go.Proofs.Ytfokchmmeflhiaa
open Go.ChangeShapes Go.WideShapes Go.ChangeAt Go.RowKit Go.PlainAid

set_option maxRecDepth 100000 in
theorem circles_big (a : Option Addr) (len cap : Nat) (w : World) (hl : 1048576 < len) (hm : len ≤ 9223372036854775807) :
    Calls Try.prog 3 #[.slice a len cap] w fun e w' => e = .returned (.bool true) ∧ Below w.heap.size w w' := by
  have hb : (1048576 : Int) < len := by omega
  go_enter Try.func3, Try.ntmps3
  go_wp2_with (go_at_call 10; go_in)
  go_ret
  exact ⟨rfl, Below.refl _ _⟩

set_option maxRecDepth 100000 in
set_option maxHeartbeats 4000000 in
theorem circles_any (a : Option Addr) (len cap : Nat) (v0 : World) (hl : len ≤ 1048576) (hr : Bytes v0 v0.heap.size a len) :
    Calls Try.prog 3 #[.slice a len cap] v0 fun e w' => e = .returned (.bool true) ∧ Below v0.heap.size v0 w' := by
  have hb : ¬ (1048576 : Int) < len := by omega
  have hD := drawCircle_any v0.heap.size a len cap v0 rfl hl hr
  obtain ⟨x, x0, x1, A0⟩ := at_fix v0.heap.size a len cap 0 v0 hl (by decide) (by decide) hr
  obtain ⟨y, y0, y1, A1⟩ := at_fix v0.heap.size a len cap 1 v0 hl (by decide) (by decide) hr
  obtain ⟨z, z0, z1, A2⟩ := at_fix v0.heap.size a len cap 2 v0 hl (by decide) (by decide) hr
  clear hr
  obtain ⟨m, hm⟩ : ∃ m : Nat, 2 + z % 5 = (m : Int) := ⟨(2 + z % 5).toNat, by omega⟩
  have hm2 : 2 ≤ m ∧ m ≤ 6 := by omega
  obtain ⟨F, t2, p2, M, hF, hFl, hp2, ht2, hM2, hM, hdF⟩ := find_facts hm2
  go_enter Try.func3, Try.ntmps3
  go_wp2_with (go_at_call 10; go_in)
  refine hD.mono ?_
  rintro e v1 ⟨N, A, c, L, hP, hN, rfl, rL, kb⟩
  clear hD hb hl
  have hN1 : 1 ≤ N := by have := hP.1.1; omega
  have hL8 : L.length ≤ 8 := hP.1.2.2
  obtain ⟨r, hr⟩ : ∃ r : Int, x % (N : Int) = r := ⟨_, rfl⟩
  obtain ⟨s, hs⟩ : ∃ s : Int, 1 + y % (N : Int) = s := ⟨_, rfl⟩
  have hr2 : 0 ≤ r ∧ r < N := by rw [← hr]; exact ⟨Int.emod_nonneg _ (by omega), Int.emod_lt_of_pos _ (by omega)⟩
  have hy2 : 0 ≤ y % (N : Int) ∧ y % (N : Int) < N := ⟨Int.emod_nonneg _ (by omega), Int.emod_lt_of_pos _ (by omega)⟩
  obtain ⟨C, T, S, d, t, p, hC, hCl, hsum, hget, hsC, hp, ht, ht64, hdL, hT, hT8, hdT, hCT, hSt, hS8, hS, hdt⟩ := circle_facts (s := s) hP hN hr2
  replace hCl := Lib.hid hCl
  replace hsum := Lib.hid hsum
  replace hget := Lib.hid hget
  replace hsC := Lib.hid hsC
  replace hdt := Lib.hid hdt
  replace hFl := Lib.hid hFl
  replace hp := Lib.hid hp
  replace ht := Lib.hid ht
  replace hp2 := Lib.hid hp2
  replace ht2 := Lib.hid ht2
  replace hM2 := Lib.hid hM2
  replace hr := Lib.hid hr
  replace hs := Lib.hid hs
  replace hm := Lib.hid hm
  have hA1 := implArcs_any N A c _ L v1 rfl (by omega) rL
  rw [hC] at hA1
  have hD1 := fun W (r : IntRow W A L) => implDif_any N A c _ L W rfl (by omega) r
  rw [hdL] at hD1
  have hT1 := fun W (q : IntRow W A L) => implTurn_any N r A c _ L W rfl (by omega) q
  rw [hT] at hT1
  have hS1 := fun W (q : IntRow W A L) => implStretch_any N s A c _ L W rfl (by omega) q
  rw [hSt] at hS1
  have hF1 := fun W => implFSet_any m W
  rw [hF] at hF1
  clear hP hC hdL hT hSt hF
  go_wp2_with fail
  refine hA1.mono ?_
  clear hA1
  rintro e v2 ⟨B, cB, rfl, o, b⟩
  have rC := intRow_own o
  rw [hCl.out]
  clear o
  replace rL := rL.keep b
  replace kb := below_more kb kb.size b
  clear b
  go_wp2_with fail
  go_loopw [7, 8] (fun u i wr => ∃ k : Nat, k ≤ N ∧ i = .int .i64 k ∧ u = .int .i64 (sumI (C.take k)) ∧ v2 = wr) (fun _ i _ => N - (intOf i).toNat)
  case atStart => exact ⟨0, by omega, rfl, rfl, rfl⟩
  case round =>
  obtain ⟨k, hk, rfl, rfl, rfl⟩ := hrel
  by_cases hlt : k < N
  · obtain ⟨x', rfl, -, hx⟩ := rC k (by rw [hCl.out]; exact hlt)
    have hki : (k : Int) < N := by omega
    have hv := hget.out k
    have hu := hsum.out k hk
    have hst := Lib.hid (sumI_take (C := C) (k := k) (by rw [hCl.out]; exact hlt))
    clear rC rL
    generalize C.getD k 0 = v at hx hv hst
    generalize sumI (C.take k) = u at hu hst ⊢
    go_wp2_with fail
    go_roundw
    case rel => exact ⟨k + 1, by omega, by go_num, by rw [hst.out], trivial⟩
    case measure => simp [intOf]; omega
  have hki : ¬ (k : Int) < N := by omega
  have hkt : sumI (C.take k) = (t : Int) := by rw [List.take_of_length_le (by rw [hCl.out]; omega), hsC.out]
  rw [hkt]
  clear hkt hk hlt
  go_wp2_with fail
  refine (hD1 _ rL).mono ?_
  clear hD1 hki
  rintro e v3 ⟨rfl, b⟩
  replace rL := rL.keep b
  replace rC := rC.keep b
  replace kb := below_more kb kb.size b
  clear b
  go_wp2_with fail
  refine (A0 _ kb).mono ?_
  rintro e v4 ⟨rfl, q1, rfl⟩
  have b := below_drewN (Below.refl v3.heap.size v3) q1
  replace rL := rL.keep b
  replace rC := rC.keep b
  replace kb := below_more kb kb.size b
  clear b
  clear A0
  generalize v3.drewN q1 = v4 at rL rC kb ⊢
  have hr3 := hr.out
  go_wp2_with fail
  refine (hT1 _ rL).mono ?_
  clear hT1 hr3 hr
  rintro e v5 ⟨B1, c1, rfl, o, b⟩
  have rT := intRow_own o
  clear o
  replace rL := rL.keep b
  replace rC := rC.keep b
  replace kb := below_more kb kb.size b
  clear b
  go_wp2_with fail
  refine (A1 _ kb).mono ?_
  rintro e v6 ⟨rfl, q1, rfl⟩
  have b := below_drewN (Below.refl v5.heap.size v5) q1
  replace rL := rL.keep b
  replace rC := rC.keep b
  replace rT := rT.keep b
  replace kb := below_more kb kb.size b
  clear b
  clear A1
  generalize v5.drewN q1 = v6 at rL rC rT kb ⊢
  have hs3 := hs.out
  go_wp2_with fail
  refine (hS1 _ rL).mono ?_
  clear hS1 hs3 hs hy2
  rintro e v7 ⟨B2, c2, rfl, o, b⟩
  have rS := intRow_own o
  clear o
  replace rL := rL.keep b
  replace rC := rC.keep b
  replace rT := rT.keep b
  replace kb := below_more kb kb.size b
  clear b
  go_wp2_with fail
  refine (A2 _ kb).mono ?_
  rintro e v8 ⟨rfl, q1, rfl⟩
  have b := below_drewN (Below.refl v7.heap.size v7) q1
  replace rL := rL.keep b
  replace rC := rC.keep b
  replace rT := rT.keep b
  replace rS := rS.keep b
  replace kb := below_more kb kb.size b
  clear b
  clear A2
  generalize v7.drewN q1 = v8 at rL rC rT rS kb ⊢
  have hm3 := hm.out
  go_wp2_with fail
  refine (hF1 _).mono ?_
  clear hF1 hm3 hm
  rintro e v9 ⟨B3, c3, rfl, o, b⟩
  have rF := intRow_own o
  rw [hFl.out]
  clear o
  replace rL := rL.keep b
  replace rC := rC.keep b
  replace rT := rT.keep b
  replace rS := rS.keep b
  replace kb := below_more kb kb.size b
  clear b
  have hp' := hp.out
  have ht' := ht.out
  have hp2' := hp2.out
  have ht2' := ht2.out
  have hM2' := hM2.out
  clear hp ht hp2 ht2 hM2
  clear rL
  have hDT := fun W (r : IntRow W B1 T) => implDif_any N B1 c1 _ T W rfl (by omega) r
  rw [hdT] at hDT
  have hAT := fun W (r : IntRow W B1 T) => implArcs_any N B1 c1 _ T W rfl (by omega) r
  rw [hCT] at hAT
  have hDF := fun W (r : IntRow W B3 F) => implDif_any M B3 c3 m F W hFl.out (by omega) r
  rw [hdF] at hDF
  clear hdT hCT hdF
  rcases hS with rfl | ⟨hS0, hdS⟩
  · clear rS
    cases d with
    | true =>
      have hNt : (N : Int) - 1 = (t : Int) := (hdt.out rfl).symm
      clear hdt
      go_wp2_with fail
      refine (hDT _ rT).mono ?_
      clear hDT
      rintro e w1 ⟨rfl, b⟩
      replace rC := rC.keep b
      replace rT := rT.keep b
      replace rF := rF.keep b
      replace kb := below_more kb kb.size b
      clear b
      go_wp2_with fail
      refine (hDF _ rF).mono ?_
      clear hDF
      rintro e w3 ⟨rfl, b⟩
      clear rF
      replace rC := rC.keep b
      replace rT := rT.keep b
      replace kb := below_more kb kb.size b
      clear b
      go_wp2_with fail
      refine (hAT _ rT).mono ?_
      clear hAT
      rintro e w4 ⟨B4, c4, rfl, o, b⟩
      have rC2 := intRow_own o
      rw [hCl.out]
      clear o rT
      replace rC := rC.keep b
      replace kb := below_more kb kb.size b
      clear b
      go_wp2_with fail
      refine (sameInts_same B4 B N c4 cB C _ hCl.out (by omega) rC2 rC).mono ?_
      clear rC2 rC
      rintro e w5 ⟨rfl, q, rfl⟩
      have b := below_drewN (Below.refl w4.heap.size w4) q
      replace kb := below_more kb kb.size b
      clear b
      go_wp2_with fail
      go_ret
      exact ⟨rfl, kb⟩
    | false =>
      clear hdt
      go_wp2_with fail
      refine (hDT _ rT).mono ?_
      clear hDT
      rintro e w1 ⟨rfl, b⟩
      replace rC := rC.keep b
      replace rT := rT.keep b
      replace rF := rF.keep b
      replace kb := below_more kb kb.size b
      clear b
      go_wp2_with fail
      refine (hDF _ rF).mono ?_
      clear hDF
      rintro e w3 ⟨rfl, b⟩
      clear rF
      replace rC := rC.keep b
      replace rT := rT.keep b
      replace kb := below_more kb kb.size b
      clear b
      go_wp2_with fail
      refine (hAT _ rT).mono ?_
      clear hAT
      rintro e w4 ⟨B4, c4, rfl, o, b⟩
      have rC2 := intRow_own o
      rw [hCl.out]
      clear o rT
      replace rC := rC.keep b
      replace kb := below_more kb kb.size b
      clear b
      go_wp2_with fail
      refine (sameInts_same B4 B N c4 cB C _ hCl.out (by omega) rC2 rC).mono ?_
      clear rC2 rC
      rintro e w5 ⟨rfl, q, rfl⟩
      have b := below_drewN (Below.refl w4.heap.size w4) q
      replace kb := below_more kb kb.size b
      clear b
      go_wp2_with fail
      go_ret
      exact ⟨rfl, kb⟩
  · have hDS := fun W (r : IntRow W B2 S) => implDif_any N B2 c2 _ S W rfl (by omega) r
    rw [hdS] at hDS
    have hSz : ((S.length : Int) == 0) = false := by
      rcases g : ((S.length : Int) == 0) with _ | _
      · rfl
      · have := beq_iff_eq.1 g
        omega
    clear hdS hS0
    cases d with
    | true =>
      have hNt : (N : Int) - 1 = (t : Int) := (hdt.out rfl).symm
      clear hdt
      go_wp2_with fail
      refine (hDT _ rT).mono ?_
      clear hDT
      rintro e w1 ⟨rfl, b⟩
      replace rC := rC.keep b
      replace rT := rT.keep b
      replace rF := rF.keep b
      replace rS := rS.keep b
      replace kb := below_more kb kb.size b
      clear b
      go_wp2_with fail
      refine (hDS _ rS).mono ?_
      clear hDS
      rintro e w2 ⟨rfl, b⟩
      clear rS
      replace rC := rC.keep b
      replace rT := rT.keep b
      replace rF := rF.keep b
      replace kb := below_more kb kb.size b
      clear b
      go_wp2_with fail
      refine (hDF _ rF).mono ?_
      clear hDF
      rintro e w3 ⟨rfl, b⟩
      clear rF
      replace rC := rC.keep b
      replace rT := rT.keep b
      replace kb := below_more kb kb.size b
      clear b
      go_wp2_with fail
      refine (hAT _ rT).mono ?_
      clear hAT
      rintro e w4 ⟨B4, c4, rfl, o, b⟩
      have rC2 := intRow_own o
      rw [hCl.out]
      clear o rT
      replace rC := rC.keep b
      replace kb := below_more kb kb.size b
      clear b
      go_wp2_with fail
      refine (sameInts_same B4 B N c4 cB C _ hCl.out (by omega) rC2 rC).mono ?_
      clear rC2 rC
      rintro e w5 ⟨rfl, q, rfl⟩
      have b := below_drewN (Below.refl w4.heap.size w4) q
      replace kb := below_more kb kb.size b
      clear b
      go_wp2_with fail
      go_ret
      exact ⟨rfl, kb⟩
    | false =>
      clear hdt
      go_wp2_with fail
      refine (hDT _ rT).mono ?_
      clear hDT
      rintro e w1 ⟨rfl, b⟩
      replace rC := rC.keep b
      replace rT := rT.keep b
      replace rF := rF.keep b
      replace rS := rS.keep b
      replace kb := below_more kb kb.size b
      clear b
      go_wp2_with fail
      refine (hDS _ rS).mono ?_
      clear hDS
      rintro e w2 ⟨rfl, b⟩
      clear rS
      replace rC := rC.keep b
      replace rT := rT.keep b
      replace rF := rF.keep b
      replace kb := below_more kb kb.size b
      clear b
      go_wp2_with fail
      refine (hDF _ rF).mono ?_
      clear hDF
      rintro e w3 ⟨rfl, b⟩
      clear rF
      replace rC := rC.keep b
      replace rT := rT.keep b
      replace kb := below_more kb kb.size b
      clear b
      go_wp2_with fail
      refine (hAT _ rT).mono ?_
      clear hAT
      rintro e w4 ⟨B4, c4, rfl, o, b⟩
      have rC2 := intRow_own o
      rw [hCl.out]
      clear o rT
      replace rC := rC.keep b
      replace kb := below_more kb kb.size b
      clear b
      go_wp2_with fail
      refine (sameInts_same B4 B N c4 cB C _ hCl.out (by omega) rC2 rC).mono ?_
      clear rC2 rC
      rintro e w5 ⟨rfl, q, rfl⟩
      have b := below_drewN (Below.refl w4.heap.size w4) q
      replace kb := below_more kb kb.size b
      clear b
      go_wp2_with fail
      go_ret
      exact ⟨rfl, kb⟩
end Go.Proofs.Ytfokchmmeflhiaa
