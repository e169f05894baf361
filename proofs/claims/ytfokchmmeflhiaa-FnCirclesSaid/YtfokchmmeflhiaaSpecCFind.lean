/-
  The contracts of the model's search for marks on a circle that measure every arc once. Only new memory is written.
-/
import Derived.Test.YtfokchmmeflhiaaCircFind
import Derived.Test.YtfokchmmeflhiaaSpecArcs
import Derived.Test.YtfokchmmeflhiaaFoundG
import Derived.Test.YtfokchmmeflhiaaCapOwn
import Derived.Test.YtfokchmmeflhiaaVarRow
import Derived.OwnWalk
namespace Go.Proofs.Ytfokchmmeflhiaa
open Go.ChangeShapes Go.WideShapes Go.ChangeAt Go.RowKit Go.PlainAid

def SpecFinds (f : Nat) : Prop := ∀ (N k : Nat) (H : List Int) (g c : Nat) (w0 w : World) (R : List Rw), N ≤ 31 → k ≤ 6 → CircP N H → H.length ≤ k → (N : Int) - 1 - lastL H ≤ f → Own w0 w (irow (.slice (some ⟨g, 0, none⟩) H.length c) H :: R) →
    Calls Try.prog 37 #[.int .i64 N, .slice (some ⟨g, 0, none⟩) H.length c, .int .i64 k] w (FoundG (if badB N H = true then none else df N k f H) w0 (irow (.slice (some ⟨g, 0, none⟩) H.length c) H) R)

set_option maxRecDepth 100000 in
set_option maxHeartbeats 1600000 in
theorem specFinds_step (f : Nat) (ih : 0 < f → SpecFinds (f - 1)) : SpecFinds f := by
  intro N k H g c w0 w R hN hk6 hP hlk hf O
  obtain ⟨i0, hi, hj0, hj1, hj2⟩ := info_parts Try.infoIntT
  have hl8 := hP.1.2
  have hN1 := hP.1.1
  obtain ⟨p, hp⟩ : ∃ p, H.length = p + 1 := ⟨H.length - 1, by omega⟩
  have hfp := hP.2 p (by omega)
  have el : H.getD p 0 = lastL H := by unfold lastL; rw [hp, Nat.add_sub_cancel]
  unfold FineC at hfp
  rw [el] at hfp
  obtain ⟨z, hz⟩ : ∃ z, lastL H = z := ⟨_, rfl⟩
  rw [hz] at hfp hf
  have hz0 : 0 ≤ z ∧ z < N := ⟨hfp.1.1, hfp.2.1⟩
  obtain ⟨X, hX⟩ : ∃ X, (if badB N H = true then none else df N k f H) = X := ⟨_, rfl⟩
  rw [hX]
  replace hX := Lib.hid hX
  have r := O.row (v := .slice (some ⟨g, 0, none⟩) H.length c) (L := H) List.mem_cons_self rfl rfl
  have hA := specArcs_any N (some ⟨g, 0, none⟩) c _ H w rfl (by omega) r
  rw [arcsA_yes (decide_eq_true hP)] at hA
  obtain ⟨C, hC⟩ : ∃ C, arcsL (N : Int) H = C := ⟨_, rfl⟩
  have hCl : C.length = N := by rw [← hC, arcsL_len]; omega
  rw [hC] at hA
  have hpi : (H.length : Int) - 1 = p := by omega
  have hpn : (p : Int) < H.length := by omega
  replace hp := Lib.hid hp
  replace el := Lib.hid el
  clear hfp r
  go_enter Try.func37, Try.ntmps37
  go_wp2_with fail
  with_reducible refine hA.mono ?_
  clear hA
  rintro e w1 ⟨B, c1, rfl, o, kb⟩
  replace O := O.keep kb
  have rC := intRow_own o
  clear o kb
  rw [hCl]
  have hx := O.cell (j := p) rfl (by have := hp.out; omega)
  rw [el.out, hz] at hx
  replace hC := Lib.hid hC
  replace hP := Lib.hid hP
  replace hCl := Lib.hid hCl
  clear el
  go_wp2_with fail
  go_loopw [9] (fun i wr => ∃ d : Nat, 1 ≤ d ∧ d ≤ N ∧ i = .int .i64 d ∧ (∀ e, e < d → 0 < e → ¬ 1 < C.getD e 0) ∧ w1 = wr) (fun i _ => N - (intOf i).toNat)
  case atStart => exact ⟨1, by omega, by omega, rfl, fun e h1 h2 => by omega, rfl⟩
  case round =>
    obtain ⟨d, hd1, hd, rfl, hf0, rfl⟩ := hrel
    by_cases hlt : d < N
    · obtain ⟨x, rfl, -, hxd⟩ := rC d (by rw [hCl.out]; exact hlt)
      have hdi : (d : Int) < N := by omega
      by_cases hgt : 1 < C.getD d 0
      · obtain rfl : X = none := hX.out.symm.trans (by rw [if_pos (badB_yes (d := d) (by omega) (by rw [hC.out]; exact hgt))])
        have O1 := O.keep ((Below.refl w1.heap.size w1).alloc (Nat.le_refl _) (.cells #[] 3))
        clear hf0 O hx hX
        generalize C.getD d 0 = y at hxd hgt
        go_wp2_with fail
        go_ret2
        exact foundG_none O1
      · have hf1 : ∀ e, e < d + 1 → 0 < e → ¬ 1 < C.getD e 0 := fun e h1 h2 => by
          by_cases g' : e = d
          · subst g'; exact hgt
          · exact hf0 e (by omega) h2
        clear hf0 O hx hX
        generalize C.getD d 0 = y at hxd hgt
        go_wp2_with fail
        go_roundw
        case rel => exact ⟨d + 1, by omega, by omega, by go_num, hf1, trivial⟩
        case measure => simp [intOf]; omega
    · have hdi : ¬ (d : Int) < N := by omega
      have hbad : badB (N : Int) H = false := badB_not hP.out fun e h1 h2 => by rw [hC.out]; exact hf0 e (by omega) h2
      have hX1 := hX.out
      rw [hbad, if_neg (by decide)] at hX1
      clear hf0 rC hX hbad hC hCl
      by_cases hlen : H.length = k
      · rw [df_end hlen] at hX1
        subst hX1
        have O1 := foundG_some (r := irow (.slice (some ⟨g, 0, none⟩) H.length c) H) O
        have hli : ((H.length : Int) == (k : Int)) = true := by rw [hlen]; simp
        clear O hlen
        go_wp2_with fail
        go_ret2
        exact O1
      · have hli : ((H.length : Int) == (k : Int)) = false := by
          rcases e : ((H.length : Int) == (k : Int)) with _ | _
          · rfl
          · exact absurd (beq_iff_eq.1 e) (by omega)
        obtain ⟨T, hT⟩ : ∃ T, ((N : Int) - 1 - z).toNat = T := ⟨_, rfl⟩
        have hX2 : Hid (firstSome (fun j : Nat => if badB N (H ++ [z + 1 + (j : Int)]) = true then none else df N k (f - 1) (H ++ [z + 1 + (j : Int)])) 0 T = X) := by
          show _ = X
          rw [← hX1]
          match f with
          | 0 =>
            obtain rfl : T = 0 := by omega
            rw [df_none hlen]; rfl
          | f + 1 => rw [df_more hlen, hz, hT]; rfl
        clear hX1
        have hzN : z + 1 < 1000 := by omega
        replace hlen := Lib.hid hlen
        replace hz := Lib.hid hz
        go_wp2_with fail
        go_loopw [10] (fun i wr => ∃ (x : Int) (j : Nat), Hid (x = z + 1 + j) ∧ j ≤ T ∧ i = .int .i64 x ∧ Own w0 wr (irow (.slice (some ⟨g, 0, none⟩) H.length c) H :: R) ∧ Hid (firstSome (fun j : Nat => if badB N (H ++ [z + 1 + (j : Int)]) = true then none else df N k (f - 1) (H ++ [z + 1 + (j : Int)])) j (T - j) = X)) (fun i _ => ((N : Int) - intOf i).toNat)
        case atStart => exact ⟨z + 1, 0, by show z + 1 = z + 1 + ((0 : Nat) : Int); omega, by omega, rfl, O, hX2⟩
        case round =>
          clear O hX2 hx
          obtain ⟨x, j, hxH, hj, rfl, O, hX⟩ := hrel
          have hx1 := hxH.out
          by_cases hle : x < (N : Int)
          · obtain ⟨q, hq⟩ : ∃ q, T - j = q + 1 := ⟨T - j - 1, by omega⟩
            have hX1 := hX.out
            rw [hq] at hX1
            have hbnd : 1 ≤ x ∧ x ≤ 60 := by omega
            have hxf : (N : Int) - 1 - x ≤ (f - 1 : Nat) := by omega
            have hzx : lastL H < x := by rw [hz.out]; omega
            have hPJ := hP.out.snoc hzx hle (by have := hlen.out; omega)
            obtain ⟨J, hJ⟩ : ∃ J, H ++ [x] = J := ⟨_, rfl⟩
            have hsn := lastL_snoc H x
            have hxl : (H ++ [x]).length = H.length + 1 := by rw [List.length_append, List.length_singleton]
            obtain ⟨o, ho⟩ : ∃ o, (if badB N (H ++ [x]) = true then none else df N k (f - 1) (H ++ [x])) = o := ⟨_, rfl⟩
            have ho2 : (fun j : Nat => if badB N (H ++ [z + 1 + (j : Int)]) = true then none else df N k (f - 1) (H ++ [z + 1 + (j : Int)])) j = o := by
              show (if badB N (H ++ [z + 1 + (j : Int)]) = true then none else df N k (f - 1) (H ++ [z + 1 + (j : Int)])) = _
              rw [← hx1, ho]
            rw [hJ] at hsn hxl ho hPJ
            have ihk := fun g' c' W (h : Own w0 W (irow (.slice (some ⟨g', 0, none⟩) J.length c') J :: irow (.slice (some ⟨g, 0, none⟩) H.length c) H :: R)) => ih (by omega) N k J g' c' w0 W _ hN hk6 hPJ (by have := hlen.out; omega) (by rw [hsn]; exact hxf) h
            rw [ho] at ihk
            have hJ0 : 0 < J.length := by omega
            have hsz := O.bel.size
            have hE : (wr.alloc (.cells #[] 3)).ownsRow wr.heap.size 3 1 (.slice (some ⟨wr.heap.size, 0, none⟩) 0 0) 0 [] := World.ownsRow_made wr #[] 0 (Nat.le_refl _) (by decide) rfl
            clear ho hx1 hX hsn hxf hxl hPJ hzx
            go_wp2_with (at_builtin; first
              | (refine wpList_append_one rfl (.tmp 48) (.tmp 50) 24 rfl w0.heap.size 3 i0 (.int .i64 0) Try.underlying24 hi hj0 hj1 hj2 rfl v' H.length _ rfl (h1.alloc _) ⟨w2.heap.size, 0, none⟩ 1 _ rfl (new_one _ _ _) rfl (by omega) (by simp; omega) ?_; intro v'' w3 hown1 hg1 hb1; replace O := O.iapp hown1 hg1 hb1; rw [hJ] at O; obtain ⟨g2, c2, rfl⟩ := own_form O hJ0; replace ihk := ihk g2 c2 w3 O; clear hown1 hg1 hb1 h1)
              | (refine wpList_append_own _ rfl (.tmp 46) (.tmp 47) 24 rfl wr.heap.size 3 i0 (.int .i64 0) 1 8 Try.underlying24 hi hj0 hj1 hj2 rfl (by decide) (.slice (some ⟨wr.heap.size, 0, none⟩) 0 0) 0 [] rfl hE ⟨g, 0, none⟩ H.length c (ints H) rfl (by rw [ints_length, Nat.mul_one]) (O.news rfl _) (ints_one _) (by unfold maxLen; omega) (by omega) (by simp) ?_; intro v' w2 hown1 hgrow1 _; replace O := O.spread rfl hown1 hgrow1; have h1 := O.hd; have hsz2 := O.bel.size; clear hown1 hgrow1 hE))
            with_reducible refine ihk.mono ?_
            clear ihk
            cases o with
            | none =>
              rw [firstSome_none ho2] at hX1
              rintro e w5 ⟨A5, c5, rfl, O5⟩
              have O4 := O5.tl
              have hX2 : Hid (firstSome (fun j : Nat => if badB N (H ++ [z + 1 + (j : Int)]) = true then none else df N k (f - 1) (H ++ [z + 1 + (j : Int)])) (j + 1) (T - (j + 1)) = X) := by
                rw [show T - (j + 1) = q by omega]; exact hX1
              clear O5 ho2 hX1 hq O
              go_wp2_with fail
              go_roundw
              case rel => exact ⟨x + 1, j + 1, by show x + 1 = z + 1 + ((j + 1 : Nat) : Int); have := hxH.out; omega, by have := hxH.out; omega, by first | rfl | go_num, O4, hX2⟩
              case measure => simp [intOf]; omega
            | some L =>
              rw [firstSome_some ho2] at hX1
              subst hX1
              rintro e w5 ⟨A5, c5, rfl, O5⟩
              have O4 := foundG_some (r := irow (.slice (some ⟨g, 0, none⟩) H.length c) H) (O5.perm (List.Perm.swap _ _ _)).tl
              clear O5 ho2 hq O
              go_wp2_with fail
              go_ret2
              exact O4
          · have e : T - j = 0 := by have := hx1; omega
            have hX1 := hX.out
            rw [e] at hX1
            replace hX1 : none = X := hX1
            subst hX1
            clear hX e hx1
            go_wp2_with fail
            go_ret2
            exact foundG_none (O.keep ((Below.refl _ _).alloc (Nat.le_refl _) _))
theorem specFinds_any : ∀ f, SpecFinds f
  | 0 => specFinds_step 0 fun h => by omega
  | f + 1 => specFinds_step (f + 1) fun _ => specFinds_any f
end Go.Proofs.Ytfokchmmeflhiaa
