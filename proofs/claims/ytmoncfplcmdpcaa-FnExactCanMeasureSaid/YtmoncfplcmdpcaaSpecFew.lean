/-
  The contracts of the model's fewest pours and of its question whether an amount can be measured. Only new memory is written.
-/
import Derived.Test.YtmoncfplcmdpcaaSpecDist
import Derived.Test.YtmoncfplcmdpcaaJugAns
import Derived.Test.YtmoncfplcmdpcaaSays
namespace Go.Proofs.Ytmoncfplcmdpcaa
open Go.ChangeShapes Go.WideShapes Go.ChangeAt Go.RowKit Go.PlainAid

set_option maxRecDepth 100000 in
set_option maxHeartbeats 4000000 in
theorem specFew_any (a b g : Int) (l : List Int) (ok : Bool) (w : World) (hr : Ans a b g l ok) : Calls Try.prog 23 #[.int .i64 a, .int .i64 b, .int .i64 g] w (GivesSB l ok w) := by
  obtain ⟨i0, hi, hz0, hz1, hz2⟩ := info_parts Try.infoIntT
  have hO := fun W => specJugsOk_any a b 0 0 W
  have hI := fun W => in_any g 0 20 W
  have O0 := ((Own.none w).empty).jug a b 0 0
  have p0 := O0.jbox List.mem_cons_self
  rw [show (w.alloc (.cells #[] 3)).heap.size = w.heap.size + 1 by simp] at O0 p0
  replace hr := Lib.hid hr
  go_enter Try.func23, Try.ntmps23
  go_wp2_with fail
  refine (hO _).mono ?_
  clear hO
  rintro e w1 ⟨rfl, b1⟩
  replace O0 := O0.keep b1
  clear b1 p0
  rcases hb : okJ a b 0 0 with _ | _
  · obtain ⟨rfl, rfl⟩ := ans_no hr.out (by rw [hb]; exact fun e => by cases e.1)
    have hend := O0.tl.givesB false
    clear hI O0 hb hr
    go_wp2_with fail
    go_ret2
    exact hend
  · go_wp2_with fail
    refine (hI _).mono ?_
    clear hI
    rintro e w2 ⟨rfl, rfl⟩
    by_cases hg : 0 ≤ g ∧ g ≤ 20
    · have hbest := Lib.hid (fun l' ok' => ans_is (l' := l') (ok' := ok') hr.out ⟨hb, hg⟩)
      rw [decide_eq_true hg]
      have hb2 := okJ_iff.1 hb
      obtain ⟨A, rfl⟩ := Int.eq_ofNat_of_zero_le (a := a) (by omega)
      obtain ⟨B, rfl⟩ := Int.eq_ofNat_of_zero_le (a := b) (by omega)
      have hD := specDist_any A B g w1 (by omega) (by omega)
      have hAB : (1 ≤ A ∧ A ≤ 20) ∧ 1 ≤ B ∧ B ≤ 20 := by omega
      have hok := Lib.hid hb
      clear hr hb hb2 hg
      go_wp2_with fail
      refine hD.mono ?_
      clear hD
      rintro e w3 ⟨F, p, hF, hF4, rfl, O3⟩
      have O := O0.join O3
      rw [List.singleton_append] at O
      clear O0 O3
      have h00 : (0 : Int) = 0 * 21 + 0 := rfl
      have hc0 := O.cell (tab_length _) (show 0 < 441 by omega)
      rw [tab_get (by omega), show cellF A B F 0 = F (0, 0) from cellF_at (x := 0) (y := 0) F (Nat.zero_le _) (Nat.zero_le _) hAB.2.2] at hc0
      clear h00
      have hneg := hF.neg (0, 0)
      have h442 := hF4 (0, 0)
      obtain ⟨N, hN⟩ : ∃ N, F (0, 0) = N := ⟨_, rfl⟩
      rw [hN] at hc0 hneg h442
      replace hN := Lib.hid hN
      replace hF := Lib.hid hF
      replace hF4 := Lib.hid hF4
      by_cases hN0 : N < 0
      · have hNd : decide (N < 0) = true := decide_eq_true hN0
        obtain ⟨rfl, rfl⟩ := hbest.out [] false (hF.out.none hok.out (by rw [hN.out]; omega))
        have hend := (O.third.sub (R' := [irow (.slice (some ⟨w.heap.size, 0, none⟩) 0 0) []]) (.cons_cons _ (.cons _ (.cons _ .slnil)))).givesB false
        clear O
        go_wp2_with fail
        go_ret2
        exact hend
      · have hNd : decide (N < 0) = false := decide_eq_false hN0
        obtain ⟨N', rfl⟩ := Int.eq_ofNat_of_zero_le (a := N) (by omega)
        have O2 : Own w w3 [irow (.slice (some ⟨w.heap.size, 0, none⟩) 0 0) [], jrow (w.heap.size + 1) A B 0 0, irow (.slice (some ⟨p, 0, none⟩) 441 441) (tab (cellF A B F))] := O.perm (List.reverse_perm _).symm
        obtain ⟨q, hq⟩ : ∃ q, w.heap.size + 1 = q := ⟨_, rfl⟩
        rw [hq] at O2 ⊢
        replace hq := Lib.hid hq
        clear O
        go_wp2_with fail
        clear hc0
        go_loopw [8, 11] (fun v i wr => ∃ (n : Nat) (s : Int × Int) (out : List Int), i = .int .i64 n ∧ okJ A B s.1 s.2 = true ∧ F s = n ∧ out.length + n ≤ 442 ∧ Hid (∀ l', BestOf (stp A B) (gl g) s l' true → BestOf (stp A B) (gl g) (0, 0) (out ++ l') true) ∧ Own w wr [irow v out, jrow q A B s.1 s.2, irow (.slice (some ⟨p, 0, none⟩) 441 441) (tab (cellF A B F))]) (fun _ i _ => (intOf i).toNat)
        case atStart => exact ⟨N', (0, 0), [], rfl, hok.out, hN.out, by simp; omega, fun l' h => h, O2⟩
        case round =>
          clear O2
          obtain ⟨n, s, out, rfl, hsk, hFs, hlen, hgo, O⟩ := hrel
          rcases Nat.eq_zero_or_pos n with rfl | hn
          · obtain ⟨rfl, rfl⟩ := hbest.out out true (by have := hgo.out [] (hF.out.here hFs); rw [List.append_nil] at this; exact this)
            have hend := (O.sub (R' := [irow u8 out]) (.cons_cons _ (.cons _ (.cons _ .slnil)))).givesB true
            clear O hFs hgo
            go_wp2_with fail
            go_ret2
            exact hend
          · obtain ⟨m, hm⟩ : ∃ m, n = m + 1 := ⟨n - 1, by omega⟩
            have hstep := hF.out.step hsk (n := m) (by rw [hFs]; omega)
            obtain ⟨x, y⟩ := s
            dsimp only at hsk O
            have hni : (n : Int) - 1 = (m : Int) := by omega
            have hnp : (0 : Int) < n := by omega
            replace hstep := Lib.hid hstep
            replace hFs := Lib.hid hFs
            replace hsk := Lib.hid hsk
            replace hm := Lib.hid hm
            go_wp2_with fail
            go_loopw [8, 12] (fun v i wr => ∃ act : Nat, v = u8 ∧ (1 ≤ act ∧ act ≤ 7) ∧ i = .int .i64 act ∧ Hid (∀ z : Int, 1 ≤ z → z < act → toward A B F m (x, y) z = false) ∧ Own w wr [irow u8 out, jrow q A B x y, irow (.slice (some ⟨p, 0, none⟩) 441 441) (tab (cellF A B F))]) (fun _ i _ => 7 - (intOf i).toNat)
            case atStart => exact ⟨1, rfl, by omega, rfl, fun z h1 h2 => by omega, O⟩
            case round =>
              clear O
              obtain ⟨act, rfl, hact, rfl, hno, O⟩ := hrel
              by_cases h6 : act ≤ 6
              · have hai : (act : Int) ≤ 6 := by omega
                obtain ⟨c0, c1, c2, c3⟩ := (O.jbox (q := q) (List.mem_cons_of_mem _ List.mem_cons_self)).cells
                have hPo := fun W => specPour_any A B x y act W
                have hpo : ∃ X Y o, pS A B x y act = (X, Y) ∧ pO A B x y act = o := ⟨_, _, _, rfl, rfl⟩
                obtain ⟨X, Y, o, hpS, hpO⟩ := hpo
                rw [hpS, hpO] at hPo
                replace hpS := Lib.hid hpS
                replace hpO := Lib.hid hpO
                go_wp2_with fail
                refine (hPo _).mono ?_
                clear c0 c1 c2 c3 hPo
                rintro e w4 ⟨rfl, b4⟩
                replace O := (O.keep b4).jug A B X Y
                clear b4
                go_upto_region 14 with fail
                generalize hg2 : w4.heap.size = g2 at O ⊢
                generalize w4.alloc (jobj A B X Y 30) = w5 at O ⊢
                clear hg2
                rcases o with _ | _
                · have hnt : toward A B F m (x, y) act = false := by unfold toward; rw [hpO.out]; rfl
                  have hno2 : Hid (∀ z : Int, 1 ≤ z → z < ((act + 1 : Nat) : Int) → toward A B F m (x, y) z = false) := fun z h1 h2 => by
                    by_cases e : z = act
                    · rw [e]; exact hnt
                    · exact hno.out z h1 (by omega)
                  replace O := O.tl
                  clear hno hnt
                  go_wp2_with fail
                  go_roundw
                  case rel => exact ⟨act + 1, rfl, by omega, by go_num, hno2, O⟩
                  case measure => simp [intOf]; omega
                · have hst : stp A B (x, y) act = some (X, Y) := by
                    have := pour_stp (a := (A : Int)) (b := B) (s := (x, y)) (act := act)
                    dsimp only at this
                    rw [hpS.out, hpO.out] at this
                    rcases this with ⟨-, e⟩ | ⟨e, -⟩
                    · exact e
                    · cases e
                  have hin := okJ_iff.1 (stp_in hst)
                  dsimp only at hin
                  obtain ⟨X', rfl⟩ := Int.eq_ofNat_of_zero_le hin.2.2.1.1
                  obtain ⟨Y', rfl⟩ := Int.eq_ofNat_of_zero_le hin.2.2.2.1
                  obtain ⟨j1, hj1⟩ : ∃ j1, X' * 21 + Y' = j1 := ⟨_, rfl⟩
                  have hK1 := fun W => key_at A B X' Y' j1 W (by omega) (by omega) hj1
                  have hjl1 : (j1 : Int) < 441 := by omega
                  have hjn1 : j1 < 441 := by omega
                  have ht : toward A B F m (x, y) act = true ↔ (tab (cellF A B F)).getD j1 0 = (m : Int) := by
                    rw [tab_get hjn1, ← hj1, cellF_at _ (by omega) (by omega) hAB.2.2, toward_iff]
                    constructor
                    · rintro ⟨t, e1, e2⟩
                      rw [hst] at e1
                      injection e1 with e1
                      rw [e1]; exact e2
                    · exact fun e => ⟨_, hst, e⟩
                  replace hj1 := Lib.hid hj1
                  have hok3 := Lib.hid (stp_in hst)
                  replace hst := Lib.hid hst
                  clear hin
                  obtain ⟨c0, c1, c2, c3⟩ := (O.jbox (q := g2) List.mem_cons_self).cells
                  go_wp2_with fail
                  refine (hK1 _).mono ?_
                  clear c0 c1 c2 c3 hK1
                  rintro e w6 ⟨rfl, b6⟩
                  replace O := O.keep b6
                  clear b6
                  have hcell := (O.sub (R' := [irow (.slice (some ⟨p, 0, none⟩) 441 441) (tab (cellF A B F))]) (.cons _ (.cons _ (.cons _ (.cons_cons _ .slnil))))).cell (tab_length _) hjn1
                  generalize (tab (cellF A B F)).getD j1 0 = v at ht hcell
                  by_cases hvn : v = m
                  · have hFt : F ((X' : Int), (Y' : Int)) = m := by
                      obtain ⟨t, e1, e2⟩ := toward_iff.1 (ht.2 hvn)
                      rw [hst.out] at e1
                      injection e1 with e1
                      rw [e1]; exact e2
                    have hgo2 : Hid (∀ l', BestOf (stp A B) (gl g) ((X' : Int), (Y' : Int)) l' true → BestOf (stp A B) (gl g) (0, 0) ((out ++ [(act : Int)]) ++ l') true) := fun l' h => by
                      rw [List.append_assoc]
                      refine hgo.out _ (hF.out.more hsk.out (n := m) ?_ hst.out hFt (fun c h1 h2 => hno.out c h1 h2) h)
                      rw [hFs.out]
                      have := hm.out
                      omega
                    replace hFt := Lib.hid hFt
                    subst hvn
                    have e1 : ((m : Int) == (m : Int)) = true := by simp
                    clear ht hgo hno
                    replace O := O.swap
                    have h1 : w6.ownsRow w.heap.size 3 1 _ out.length (ints out) := O.hd
                    have hsz := O.bel.size
                    have hol : out.length ≤ 442 := by omega
                    go_upto_region 16 with (at_builtin; refine wpList_append_one rfl (.tmp 61) (.tmp 63) 25 rfl w.heap.size 3 i0 (.int .i64 0) Try.underlying25 hi hz0 hz1 hz2 rfl _ out.length _ rfl (h1.alloc _) ⟨w6.heap.size, 0, none⟩ 1 _ rfl (new_one _ _ _) rfl (by omega) (by simp; omega) ?_; intro v' w7 hown1 hg1 hb1; replace O := O.iapp hown1 hg1 hb1; clear hown1 hg1 hb1 h1)
                    obtain ⟨c0, c1, c2, c3⟩ := (O.jbox (q := g2) (List.mem_cons_of_mem _ List.mem_cons_self)).cells
                    have pq := O.jbox (q := q) (List.mem_cons_of_mem _ (List.mem_cons_of_mem _ List.mem_cons_self))
                    obtain ⟨d0, d1, d2, d3⟩ := pq.cells
                    obtain ⟨f0, f1, f2, f3⟩ := pq.free
                    have O3 := (O.third.jset A B X' Y').swap.sub (R' := [irow v' (out ++ [(act : Int)]), jrow q A B X' Y', irow (.slice (some ⟨p, 0, none⟩) 441 441) (tab (cellF A B F))]) (.cons_cons _ (.cons_cons _ (.cons _ (.cons_cons _ .slnil))))
                    clear O pq
                    go_wp2_with fail
                    go_roundw
                    case rel => exact ⟨m, ((X' : Int), (Y' : Int)), out ++ [(act : Int)], by first | rfl | go_num, hok3.out, hFt.out, by rw [List.length_append, List.length_singleton]; have := hm.out; omega, hgo2, O3⟩
                    case measure => simp [intOf]; omega
                  · have hnt : toward A B F m (x, y) act = false := by
                      rw [Bool.eq_false_iff]
                      exact fun e => hvn (ht.1 e)
                    have hno2 : Hid (∀ z : Int, 1 ≤ z → z < ((act + 1 : Nat) : Int) → toward A B F m (x, y) z = false) := fun z h1 h2 => by
                      by_cases e : z = act
                      · rw [e]; exact hnt
                      · exact hno.out z h1 (by omega)
                    have e1 : (v == (m : Int)) = false := by simp [hvn]
                    replace O := O.tl
                    clear ht hno hnt
                    go_wp2_with fail
                    go_roundw
                    case rel => exact ⟨act + 1, rfl, by omega, by go_num, hno2, O⟩
                    case measure => simp [intOf]; omega
              · obtain ⟨z, h1, h2, h3⟩ := hstep.out
                rw [hno.out z h1 (by omega)] at h3
                cases h3
    · obtain ⟨rfl, rfl⟩ := ans_no hr.out fun e => hg e.2
      rw [decide_eq_false hg]
      have hend := O0.tl.givesB false
      clear O0 hb hr hg
      go_wp2_with fail
      go_ret2
      exact hend

theorem specCan_any (a b g : Int) (l : List Int) (ok : Bool) (w : World) (hr : Ans a b g l ok) : Calls Try.prog 26 #[.int .i64 a, .int .i64 b, .int .i64 g] w (SaysB ok w) := by
  have hF := specFew_any a b g l ok w hr
  clear hr
  go_enter Try.func26, Try.ntmps26
  go_wp2_with fail
  refine hF.mono ?_
  clear hF
  rintro e w1 ⟨A, c, rfl, O⟩
  have b := O.bel
  clear O
  go_wp2_with fail
  go_ret
  exact ⟨rfl, b⟩
end Go.Proofs.Ytmoncfplcmdpcaa
