/-
  The contracts of the program's search for marks on a circle that measure every arc once, which goes on to the next mark by a goto; what it was handed is as it was if it finds none. Only new memory is written.
-/
import Derived.Test.YtfokchmmeflhiaaCircFind
import Derived.Test.YtfokchmmeflhiaaImplArcs
import Derived.Test.YtfokchmmeflhiaaLibSome
import Derived.Test.YtfokchmmeflhiaaSpillOne
import Derived.Test.YtfokchmmeflhiaaVarRow
import Derived.WalkMore
import Derived.ScopeJumps
import Derived.OwnWalk
namespace Go.Proofs.Ytfokchmmeflhiaa
open Go.ChangeShapes Go.WideShapes Go.ChangeAt Go.RowKit Go.PlainAid

theorem nil_eq_nil (w : World) : (binOp .eql 24 (.slice none 0 0) (.slice none 0 0)).run Try.prog w = .ok (.bool true) w := by kernel_rfl
theorem row_eq_nil (y : Addr) (n c : Nat) (w : World) : (binOp .eql 24 (.slice (some y) n c) (.slice none 0 0)).run Try.prog w = .ok (.bool false) w := by kernel_rfl
/-- What the search answers: nil, and the row that it was handed is as it was; or a row of the call's own. -/
def FoundC (o : Option (List Int)) (w : World) (X : List Rw) (e : Ending) (w' : World) : Prop :=
  match o with
  | none => e = .returned (.slice none 0 0) ∧ Own w w' X
  | some L => ∃ g c, e = .returned (.slice (some ⟨g, 0, none⟩) L.length c) ∧ Own w w' [irow (.slice (some ⟨g, 0, none⟩) L.length c) L]
theorem foundC_none {w w' : World} {X : List Rw} (h : Own w w' X) : FoundC none w X (.returned (.slice none 0 0)) w' := ⟨rfl, h⟩
theorem Own.one_of {w w' : World} {a : Rw} {R : List Rw} (h : Own w w' (a :: R)) : Own w w' [a] :=
  ⟨fun p hp => h.own p (by rw [List.mem_singleton.1 hp]; exact List.mem_cons_self), List.pairwise_singleton _ _, h.bel⟩
theorem foundC_some {w w' : World} {X R : List Rw} {L : List Int} {g c : Nat} (h : Own w w' (irow (.slice (some ⟨g, 0, none⟩) L.length c) L :: R)) : FoundC (some L) w X (.returned (.slice (some ⟨g, 0, none⟩) L.length c)) w' := ⟨g, c, rfl, h.one_of⟩
theorem back0 {w w' : World} {a : Rw} {b : Rw} {Y R : List Rw} (hback : ∀ w2 Z, Own w w2 (a :: (Y ++ Z)) → Own w w2 (b :: (R ++ Z))) (h : Own w w' (a :: Y)) : Own w w' (b :: R) := by
  have := hback w' [] (by rw [List.append_nil]; exact h)
  rwa [List.append_nil] at this

def ImplFinds (f : Nat) : Prop := ∀ (N k : Nat) (H : List Int) (v : Value) (w0 w : World) (R : List Rw), N ≤ 31 → k ≤ 6 → CircP N H → H.length ≤ k → (N : Int) - 1 - lastL H ≤ f → Own w0 w (irow v H :: R) →
    Calls Try.prog 34 #[v, .int .i64 k, .int .i64 N] w (FoundC (df N k f H) w0 (irow v H :: R))

set_option maxRecDepth 100000 in
set_option maxHeartbeats 1600000 in
theorem implFinds_step (f : Nat) (ih : 0 < f → ImplFinds (f - 1)) : ImplFinds f := by
  intro N k H v w0 w R hN hk6 hP hlk hf O
  obtain ⟨i0, hi, hj0, hj1, hj2⟩ := info_parts Try.infoIntT
  have hl8 := hP.1.2
  have hN1 := hP.1.1
  obtain ⟨g, c, hv⟩ := own_form O (by omega)
  subst hv
  obtain ⟨p, hp⟩ : ∃ p, H.length = p + 1 := ⟨H.length - 1, by omega⟩
  have hfp := hP.2 p (by omega)
  have el : H.getD p 0 = lastL H := by unfold lastL; rw [hp, Nat.add_sub_cancel]
  unfold FineC at hfp
  rw [el] at hfp
  obtain ⟨z, hz⟩ : ∃ z, lastL H = z := ⟨_, rfl⟩
  rw [hz] at hfp hf
  have hz0 : 0 ≤ z ∧ z < N := ⟨hfp.1.1, hfp.2.1⟩
  obtain ⟨X, hX⟩ : ∃ X, df N k f H = X := ⟨_, rfl⟩
  rw [hX]
  have hpi : (H.length : Int) - 1 = p := by omega
  have hpn : (p : Int) < H.length := by omega
  have hx := O.cell (j := p) rfl (by omega)
  rw [el, hz] at hx
  replace hP := Lib.hid hP
  clear el hp hfp
  by_cases hlen : H.length = k
  · rw [df_end hlen] at hX
    subst hX
    have O1 := foundC_some (X := irow (.slice (some ⟨g, 0, none⟩) H.length c) H :: R) O
    have hli : ((H.length : Int) == (k : Int)) = true := by rw [hlen]; simp
    clear O hlen
    go_enter Try.func34, Try.ntmps34
    go_wp2
    go_step3
    go_wp2
    rw [Exit.noGoto_ret]
    go_ret
    exact O1
  · have hli : ((H.length : Int) == (k : Int)) = false := by
      rcases e : ((H.length : Int) == (k : Int)) with _ | _
      · rfl
      · exact absurd (beq_iff_eq.1 e) (by omega)
    obtain ⟨T, hT⟩ : ∃ T, ((N : Int) - 1 - z).toNat = T := ⟨_, rfl⟩
    have hX2 : Hid (firstSome (fun j : Nat => if badB N (H ++ [z + 1 + (j : Int)]) = true then none else df N k (f - 1) (H ++ [z + 1 + (j : Int)])) 0 T = X) := by
      show _ = X
      rw [← hX]
      match f with
      | 0 =>
        obtain rfl : T = 0 := by omega
        rw [df_none hlen]; rfl
      | f + 1 => rw [df_more hlen, hz, hT]; rfl
    clear hX
    replace hlen := Lib.hid hlen
    replace hz := Lib.hid hz
    replace hT := Lib.hid hT
    go_enter Try.func34, Try.ntmps34
    go_wp2_with fail
    refine wp_scope_jumps 0 (fun a' w' => ∃ (y : Int) (j : Nat) (u8 u9 u10 u11 u12 u13 u14 u15 u16 u17 u18 u19 u20 u21 u22 u23 u24 u25 u26 u27 u28 u29 u30 u31 u32 u33 u34 u35 u36 u37 u38 u39 u40 u41 : Value), a' = { tmps := #[.slice (some ⟨g, 0, none⟩) H.length c, .int .i64 k, .int .i64 N, undef, undef, undef, .slice none 0 0, .int .i64 y, u8, u9, u10, u11, u12, u13, u14, u15, u16, u17, u18, u19, u20, u21, u22, u23, u24, u25, u26, u27, u28, u29, u30, u31, u32, u33, u34, u35, u36, u37, u38, u39, u40, u41], defers := [] } ∧ Hid (y = z + j) ∧ j ≤ T ∧ Own w0 w' (irow (.slice (some ⟨g, 0, none⟩) H.length c) H :: R) ∧ Hid (firstSome (fun j : Nat => if badB N (H ++ [z + 1 + (j : Int)]) = true then none else df N k (f - 1) (H ++ [z + 1 + (j : Int)])) j (T - j) = X)) (fun a' _ => ((N : Int) - intOf (a'.tmps.getD 7 undef)).toNat) rfl ?_ ?_
    · obtain ⟨y, hyz⟩ : ∃ y, y = z := ⟨_, rfl⟩
      rw [← hyz] at hx
      obtain ⟨j, hj0'⟩ : ∃ j : Nat, j = 0 := ⟨_, rfl⟩
      have hyH : Hid (y = z + (j : Int)) := by show y = z + (j : Int); omega
      have hj : j ≤ T := by omega
      replace hX2 : Hid (firstSome (fun j : Nat => if badB N (H ++ [z + 1 + (j : Int)]) = true then none else df N k (f - 1) (H ++ [z + 1 + (j : Int)])) j (T - j) = X) := by rw [hj0']; exact hX2
      have hT1 := hT.out
      clear hyz hj0'
      go_wp2_with fail
      go_step3
      clear hx
      have hy1 := hyH.out
      have hyN : y < N := by omega
      have hyb : 0 ≤ y ∧ y ≤ 60 := by omega
      by_cases hle : y + 1 = (N : Int)
      · have e : T - j = 0 := by omega
        have hX1 := hX2.out
        rw [e] at hX1
        replace hX1 : none = X := hX1
        subst hX1
        have hb1 : (y + 1 == (N : Int)) = true := beq_iff_eq.2 hle
        have O1 := foundC_none O
        clear hX2 e O hle hy1 hyH
        go_wp2_with fail
        simp only [Exit.jump]
        go_ret
        exact O1
      · obtain ⟨x, hxy⟩ : ∃ x, y + 1 = x := ⟨_, rfl⟩
        have hb1 : (y + 1 == (N : Int)) = false := by
          rcases e : (y + 1 == (N : Int)) with _ | _
          · rfl
          · exact absurd (beq_iff_eq.1 e) hle
        obtain ⟨q, hq⟩ : ∃ q, T - j = q + 1 := ⟨T - j - 1, by omega⟩
        have hX1 := hX2.out
        rw [hq] at hX1
        have hxN : x < (N : Int) := by omega
        have hxf : (N : Int) - 1 - x ≤ (f - 1 : Nat) := by omega
        have hzx : lastL H < x := by rw [hz.out]; omega
        have hPJ := hP.out.snoc hzx hxN (by have := hlen.out; omega)
        have hx1 : x = z + 1 + (j : Int) := by omega
        have hyH2 : Hid (x = z + ((j + 1 : Nat) : Int)) := by show x = z + ((j + 1 : Nat) : Int); omega
        have hX3 : (fun j : Nat => if badB N (H ++ [z + 1 + (j : Int)]) = true then none else df N k (f - 1) (H ++ [z + 1 + (j : Int)])) j = none → Hid (firstSome (fun j : Nat => if badB N (H ++ [z + 1 + (j : Int)]) = true then none else df N k (f - 1) (H ++ [z + 1 + (j : Int)])) (j + 1) (T - (j + 1)) = X) := fun ho2 => by
          rw [firstSome_none ho2] at hX1
          rw [show T - (j + 1) = q by omega]; exact hX1
        have hX4 : ∀ L, (fun j : Nat => if badB N (H ++ [z + 1 + (j : Int)]) = true then none else df N k (f - 1) (H ++ [z + 1 + (j : Int)])) j = some L → some L = X := fun L ho2 => by
          rw [firstSome_some ho2] at hX1
          exact hX1
        have hFx : (fun j : Nat => if badB N (H ++ [z + 1 + (j : Int)]) = true then none else df N k (f - 1) (H ++ [z + 1 + (j : Int)])) j = if badB N (H ++ [x]) = true then none else df N k (f - 1) (H ++ [x]) := by
          show (if badB N (H ++ [z + 1 + (j : Int)]) = true then none else df N k (f - 1) (H ++ [z + 1 + (j : Int)])) = _
          rw [← hx1]
        rw [hFx] at hX3 hX4
        have hsn := lastL_snoc H x
        have hxl : (H ++ [x]).length = H.length + 1 := by rw [List.length_append, List.length_singleton]
        have ihk := fun v' W Y (h : Own w0 W (irow v' (H ++ [x]) :: Y)) => ih (by omega) N k (H ++ [x]) v' w0 W Y hN hk6 hPJ (by have := hlen.out; omega) (by rw [hsn]; exact hxf) h
        obtain ⟨J, hJ⟩ : ∃ J, H ++ [x] = J := ⟨_, rfl⟩
        have hcb : circB N J = true := by rw [← hJ]; exact decide_eq_true hPJ
        rw [hJ] at hxl ihk hX3 hX4
        have hJ0 : 0 < J.length := by omega
        have hJ9 : Hid (J.length ≤ 9) := by show _ ≤ _; omega
        obtain ⟨C, hC⟩ : ∃ C, arcsL (N : Int) J = C := ⟨_, rfl⟩
        have hCl : C.length = N := by rw [← hC, arcsL_len]; omega
        have hArc := fun A' c' W (r : IntRow W A' J) => implArcs_any N A' c' _ J W rfl (by omega) r
        rw [arcsA_yes hcb, hC] at hArc
        have hbad := badB_iff (n := (N : Int)) (L := J)
        rw [hC, Int.toNat_natCast] at hbad
        have hmx := max_gt C (by omega) 1
        have hbw := O.bel.size
        have rv := O.hd
        replace hX3 := Lib.hid hX3
        replace hX4 := Lib.hid hX4
        replace hbad := Lib.hid hbad
        replace hCl := Lib.hid hCl
        replace hmx := Lib.hid hmx
        clear hX2 hX1 hFx hsn hxf hzx hPJ hxl hcb hC hy1 hx1 hle
        go_wp2_with (at_builtin; refine wpList_append_spill rfl (.tmp 26) (.tmp 28) 24 rfl w0.heap.size 3 i0 (.int .i64 0) Try.underlying24 hi hj0 hj1 hj2 rfl (.slice (some ⟨g, 0, none⟩) H.length c) H.length (ints H) rfl (rv.alloc _) ⟨_, 0, none⟩ 1 (.int .i64 x) rfl (new_one _ _ _) rfl (by omega) (by simp; omega) ?_; intro v1 w1 o1 g1 a1 s1; obtain ⟨Y, hY, hback⟩ := O.spill o1 g1 a1 s1; rw [hJ] at hY hback; obtain ⟨g2, c2, rfl⟩ := own_form hY hJ0; replace hArc := hArc (some ⟨g2, 0, none⟩) c2 w1 (hY.row (v := .slice (some ⟨g2, 0, none⟩) J.length c2) (L := J) List.mem_cons_self rfl rfl); clear o1 g1 a1 s1 O rv hJ)
        with_reducible refine hArc.mono ?_
        clear hArc
        rintro e w2 ⟨B, c1, rfl, o, kb⟩
        replace hY := hY.keep kb
        have hMax := max_some C B c1 w2 o (by have := hCl.out; omega) (by have := hCl.out; omega)
        clear o kb
        go_wp2_with fail
        with_reducible refine hMax.mono ?_
        clear hMax
        rintro e w3 ⟨rfl, rfl⟩
        by_cases hm : 1 < Lib.maxOf C
        · have hbt : badB (N : Int) J = true := hbad.out.2 (by
            obtain ⟨d, h1, h2⟩ := hmx.out.1 hm
            exact ⟨d, by rw [← hCl.out]; exact h1, h2⟩)
          have hX2 := hX3.out (by rw [hbt]; rfl)
          have O4 := back0 hback hY
          clear hX3 hX4 hbad hmx hbt hback hY ihk
          generalize Lib.maxOf C = mx at hm
          go_wp2_with fail
          go_step3
          exact ⟨rfl, x, j + 1, _, _, _, _, _, _, _, _, _, _, _, _, _, _, _, _, _, _, _, _, _, _, _, _, _, _, _, _, _, _, _, _, _, _, rfl, hyH2, by omega, O4, hX2⟩
        · have hbf : badB (N : Int) J = false := by
            rcases e : badB (N : Int) J with _ | _
            · rfl
            · obtain ⟨d, h1, h2⟩ := hbad.out.1 e
              exact absurd (hmx.out.2 ⟨d, by rw [hCl.out]; exact h1, h2⟩) hm
          have hX3' := hX3.out
          have hX4' := hX4.out
          rw [hbf, if_neg (by decide)] at hX3' hX4'
          replace ihk := ihk _ _ _ hY
          clear hX3 hX4 hbad hmx hbf hY
          generalize Lib.maxOf C = mx at hm
          obtain ⟨o, ho⟩ : ∃ o, df N k (f - 1) J = o := ⟨_, rfl⟩
          rw [ho] at ihk hX3' hX4'
          replace hX3' := Lib.hid hX3'
          replace hX4' := Lib.hid hX4'
          clear ho
          go_wp2_with fail
          with_reducible refine ihk.mono ?_
          clear ihk
          cases o with
          | none =>
            rintro e w4 ⟨rfl, O3⟩
            have hX2 := hX3'.out rfl
            have O4 := back0 hback O3
            have hN := nil_eq_nil
            clear hX3' hX4' hback O3
            go_wp2_with fail
            go_step3
            exact ⟨rfl, x, j + 1, _, _, _, _, _, _, _, _, _, _, _, _, _, _, _, _, _, _, _, _, _, _, _, _, _, _, _, _, _, _, _, _, _, _, rfl, hyH2, by omega, O4, hX2⟩
          | some L =>
            rintro e w4 ⟨g3, c3, rfl, O3⟩
            obtain rfl := hX4'.out L rfl
            have O1 := foundC_some (X := irow (.slice (some ⟨g, 0, none⟩) H.length c) H :: R) O3
            have hS := row_eq_nil
            clear hX3' hX4' hback O3
            go_wp2_with fail
            simp only [Exit.jump]
            go_ret
            exact O1
    · rintro a' w' ⟨y, j, u8, u9, u10, u11, u12, u13, u14, u15, u16, u17, u18, u19, u20, u21, u22, u23, u24, u25, u26, u27, u28, u29, u30, u31, u32, u33, u34, u35, u36, u37, u38, u39, u40, u41, rfl, hyH, hj, O', hX2'⟩
      clear O hX2 hx
      have O := O'
      have hX2 := hX2'
      have hT1 := hT.out
      clear O' hX2'
      have hy1 := hyH.out
      have hyN : y < N := by omega
      have hyb : 0 ≤ y ∧ y ≤ 60 := by omega
      by_cases hle : y + 1 = (N : Int)
      · have e : T - j = 0 := by omega
        have hX1 := hX2.out
        rw [e] at hX1
        replace hX1 : none = X := hX1
        subst hX1
        have hb1 : (y + 1 == (N : Int)) = true := beq_iff_eq.2 hle
        have O1 := foundC_none O
        clear hX2 e O hle hy1 hyH
        go_wp2_with fail
        simp only [Exit.jump]
        go_ret
        exact O1
      · obtain ⟨x, hxy⟩ : ∃ x, y + 1 = x := ⟨_, rfl⟩
        have hb1 : (y + 1 == (N : Int)) = false := by
          rcases e : (y + 1 == (N : Int)) with _ | _
          · rfl
          · exact absurd (beq_iff_eq.1 e) hle
        obtain ⟨q, hq⟩ : ∃ q, T - j = q + 1 := ⟨T - j - 1, by omega⟩
        have hX1 := hX2.out
        rw [hq] at hX1
        have hxN : x < (N : Int) := by omega
        have hxf : (N : Int) - 1 - x ≤ (f - 1 : Nat) := by omega
        have hzx : lastL H < x := by rw [hz.out]; omega
        have hPJ := hP.out.snoc hzx hxN (by have := hlen.out; omega)
        have hx1 : x = z + 1 + (j : Int) := by omega
        have hyH2 : Hid (x = z + ((j + 1 : Nat) : Int)) := by show x = z + ((j + 1 : Nat) : Int); omega
        have hX3 : (fun j : Nat => if badB N (H ++ [z + 1 + (j : Int)]) = true then none else df N k (f - 1) (H ++ [z + 1 + (j : Int)])) j = none → Hid (firstSome (fun j : Nat => if badB N (H ++ [z + 1 + (j : Int)]) = true then none else df N k (f - 1) (H ++ [z + 1 + (j : Int)])) (j + 1) (T - (j + 1)) = X) := fun ho2 => by
          rw [firstSome_none ho2] at hX1
          rw [show T - (j + 1) = q by omega]; exact hX1
        have hX4 : ∀ L, (fun j : Nat => if badB N (H ++ [z + 1 + (j : Int)]) = true then none else df N k (f - 1) (H ++ [z + 1 + (j : Int)])) j = some L → some L = X := fun L ho2 => by
          rw [firstSome_some ho2] at hX1
          exact hX1
        have hFx : (fun j : Nat => if badB N (H ++ [z + 1 + (j : Int)]) = true then none else df N k (f - 1) (H ++ [z + 1 + (j : Int)])) j = if badB N (H ++ [x]) = true then none else df N k (f - 1) (H ++ [x]) := by
          show (if badB N (H ++ [z + 1 + (j : Int)]) = true then none else df N k (f - 1) (H ++ [z + 1 + (j : Int)])) = _
          rw [← hx1]
        rw [hFx] at hX3 hX4
        have hsn := lastL_snoc H x
        have hxl : (H ++ [x]).length = H.length + 1 := by rw [List.length_append, List.length_singleton]
        have ihk := fun v' W Y (h : Own w0 W (irow v' (H ++ [x]) :: Y)) => ih (by omega) N k (H ++ [x]) v' w0 W Y hN hk6 hPJ (by have := hlen.out; omega) (by rw [hsn]; exact hxf) h
        obtain ⟨J, hJ⟩ : ∃ J, H ++ [x] = J := ⟨_, rfl⟩
        have hcb : circB N J = true := by rw [← hJ]; exact decide_eq_true hPJ
        rw [hJ] at hxl ihk hX3 hX4
        have hJ0 : 0 < J.length := by omega
        have hJ9 : Hid (J.length ≤ 9) := by show _ ≤ _; omega
        obtain ⟨C, hC⟩ : ∃ C, arcsL (N : Int) J = C := ⟨_, rfl⟩
        have hCl : C.length = N := by rw [← hC, arcsL_len]; omega
        have hArc := fun A' c' W (r : IntRow W A' J) => implArcs_any N A' c' _ J W rfl (by omega) r
        rw [arcsA_yes hcb, hC] at hArc
        have hbad := badB_iff (n := (N : Int)) (L := J)
        rw [hC, Int.toNat_natCast] at hbad
        have hmx := max_gt C (by omega) 1
        have hbw := O.bel.size
        have rv := O.hd
        replace hX3 := Lib.hid hX3
        replace hX4 := Lib.hid hX4
        replace hbad := Lib.hid hbad
        replace hCl := Lib.hid hCl
        replace hmx := Lib.hid hmx
        clear hX2 hX1 hFx hsn hxf hzx hPJ hxl hcb hC hy1 hx1 hle
        go_wp2_with (at_builtin; refine wpList_append_spill rfl (.tmp 26) (.tmp 28) 24 rfl w0.heap.size 3 i0 (.int .i64 0) Try.underlying24 hi hj0 hj1 hj2 rfl (.slice (some ⟨g, 0, none⟩) H.length c) H.length (ints H) rfl (rv.alloc _) ⟨_, 0, none⟩ 1 (.int .i64 x) rfl (new_one _ _ _) rfl (by omega) (by simp; omega) ?_; intro v1 w1 o1 g1 a1 s1; obtain ⟨Y, hY, hback⟩ := O.spill o1 g1 a1 s1; rw [hJ] at hY hback; obtain ⟨g2, c2, rfl⟩ := own_form hY hJ0; replace hArc := hArc (some ⟨g2, 0, none⟩) c2 w1 (hY.row (v := .slice (some ⟨g2, 0, none⟩) J.length c2) (L := J) List.mem_cons_self rfl rfl); clear o1 g1 a1 s1 O rv hJ)
        with_reducible refine hArc.mono ?_
        clear hArc
        rintro e w2 ⟨B, c1, rfl, o, kb⟩
        replace hY := hY.keep kb
        have hMax := max_some C B c1 w2 o (by have := hCl.out; omega) (by have := hCl.out; omega)
        clear o kb
        go_wp2_with fail
        with_reducible refine hMax.mono ?_
        clear hMax
        rintro e w3 ⟨rfl, rfl⟩
        by_cases hm : 1 < Lib.maxOf C
        · have hbt : badB (N : Int) J = true := hbad.out.2 (by
            obtain ⟨d, h1, h2⟩ := hmx.out.1 hm
            exact ⟨d, by rw [← hCl.out]; exact h1, h2⟩)
          have hX2 := hX3.out (by rw [hbt]; rfl)
          have O4 := back0 hback hY
          clear hX3 hX4 hbad hmx hbt hback hY ihk
          generalize Lib.maxOf C = mx at hm
          go_wp2_with fail
          go_step3
          exact ⟨rfl, ⟨x, j + 1, _, _, _, _, _, _, _, _, _, _, _, _, _, _, _, _, _, _, _, _, _, _, _, _, _, _, _, _, _, _, _, _, _, _, rfl, hyH2, by omega, O4, hX2⟩, by simp [intOf]; omega⟩
        · have hbf : badB (N : Int) J = false := by
            rcases e : badB (N : Int) J with _ | _
            · rfl
            · obtain ⟨d, h1, h2⟩ := hbad.out.1 e
              exact absurd (hmx.out.2 ⟨d, by rw [hCl.out]; exact h1, h2⟩) hm
          have hX3' := hX3.out
          have hX4' := hX4.out
          rw [hbf, if_neg (by decide)] at hX3' hX4'
          replace ihk := ihk _ _ _ hY
          clear hX3 hX4 hbad hmx hbf hY
          generalize Lib.maxOf C = mx at hm
          obtain ⟨o, ho⟩ : ∃ o, df N k (f - 1) J = o := ⟨_, rfl⟩
          rw [ho] at ihk hX3' hX4'
          replace hX3' := Lib.hid hX3'
          replace hX4' := Lib.hid hX4'
          clear ho
          go_wp2_with fail
          with_reducible refine ihk.mono ?_
          clear ihk
          cases o with
          | none =>
            rintro e w4 ⟨rfl, O3⟩
            have hX2 := hX3'.out rfl
            have O4 := back0 hback O3
            have hN := nil_eq_nil
            clear hX3' hX4' hback O3
            go_wp2_with fail
            go_step3
            exact ⟨rfl, ⟨x, j + 1, _, _, _, _, _, _, _, _, _, _, _, _, _, _, _, _, _, _, _, _, _, _, _, _, _, _, _, _, _, _, _, _, _, _, rfl, hyH2, by omega, O4, hX2⟩, by simp [intOf]; omega⟩
          | some L =>
            rintro e w4 ⟨g3, c3, rfl, O3⟩
            obtain rfl := hX4'.out L rfl
            have O1 := foundC_some (X := irow (.slice (some ⟨g, 0, none⟩) H.length c) H :: R) O3
            have hS := row_eq_nil
            clear hX3' hX4' hback O3
            go_wp2_with fail
            simp only [Exit.jump]
            go_ret
            exact O1
theorem implFinds_any : ∀ f, ImplFinds f
  | 0 => implFinds_step 0 fun h => by omega
  | f + 1 => implFinds_step (f + 1) fun _ => implFinds_any f
end Go.Proofs.Ytfokchmmeflhiaa
