/-
  The contract of the program's lists of the states of each time. Only new memory is written.
-/
import Derived.Test.YtmbhldpbgcfnmaaStateMade
import Derived.Test.YtmbhldpbgcfnmaaImplState
import Derived.Test.YtmbhldpbgcfnmaaImplFlip
import Derived.Test.YtmbhldpbgcfnmaaImplRun
import Derived.BigQuiet
import Derived.Deep.RegionLaw
namespace Go.Proofs.Ytmbhldpbgcfnmaa
open Go.ChangeShapes Go.WideShapes Go.ChangeAt Go.RowKit Go.PlainAid

/-- Slices of states are answered, one a time; at which times a glass can run out. -/
def StatesR (a b n : Nat) (w : World) (e : Ending) (w' : World) : Prop :=
  ∃ g V S, e = .returned (.slice (some ⟨g, 0, none⟩) n n) ∧ Own w w' (vrow (.slice (some ⟨g, 0, none⟩) n n) n V :: (grows n a b V S ++ [])) ∧ ∀ t, t < n → At a b t = decide (0 < (S t).length)

set_option maxRecDepth 100000 in
set_option maxHeartbeats 4000000 in
theorem states_any (a b m : Nat) (w : World) (ha : 1 ≤ a ∧ a ≤ 12) (hb : 1 ≤ b ∧ b ≤ 12) (hm : 1 ≤ m ∧ m ≤ 60) :
    Calls Try.prog 31 #[jagg a b 0 0, .int .i64 m] w (StatesR a b (m + 1) w) := by
  obtain ⟨i2, hi2, hq0, hq1, hq2⟩ := info_parts Try.infoStatesT
  obtain ⟨N, hN⟩ : ∃ N, m + 1 = N := ⟨_, rfl⟩
  have hNi : (m : Int) + 1 = (N : Int) := by omega
  have hN0 : (0 : Int) < N := by omega
  have hF := fun (u v W : Nat) w => implFlip_any a b u v W w
  have hR := fun (x y : Int) w => implRun_any a b x y w
  have O0 := (Own.none w).jug (a : Int) b 0 0
  have P0 := O0.jbox (q := w.heap.size) List.mem_cons_self
  obtain ⟨c0, c1, c2, c3⟩ := P0.cells
  obtain ⟨p, hp⟩ : ∃ p, w.heap.size = p := ⟨_, rfl⟩
  obtain ⟨w1, hw1⟩ : ∃ w1, w.alloc (jobj a b 0 0 25) = w1 := ⟨_, rfl⟩
  rw [hp, hw1] at O0 P0 c0 c1 c2 c3
  rw [hN]
  go_enter Try.func31, Try.ntmps31
  go_wp2_with (at_make; refine wpList_make_full _ rfl _ _ 47 rfl w1.heap.size 49 i2 (.slice none 0 0) 1 Try.underlying47 hi2 hq0 hq1 .i64 .i64 _ _ N rfl rfl rfl rfl (by rw [hq2]; omega) (by unfold maxLen; omega) (Nat.le_refl _) ?_; intro w2 hown0 hgrow0; have M1 := ((O0.vmade hown0 hgrow0).nils N a b); obtain ⟨c0, c1, c2, c3⟩ := (M1.jbox (q := p) (List.mem_cons_of_mem _ (List.mem_append_right _ List.mem_cons_self))).cells; obtain ⟨⟨u0, hu0⟩, hf0, M2⟩ := M1.first (j := 0) (x := 0) (y := 0) (by omega); rw [show ((0 : Nat) : Int) = 0 from rfl] at hu0 hf0 M2; clear hown0 hgrow0 M1)
  have O := M2.sub (R' := vrow (.slice (some ⟨w1.heap.size, 0, none⟩) N N) N (lup (fun _ => .slice none 0 0) 0 (.slice (some ⟨w2.heap.size, 0, none⟩) 1 1)) :: (grows N a b (lup (fun _ => .slice none 0 0) 0 (.slice (some ⟨w2.heap.size, 0, none⟩) 1 1)) (lup (fun _ => []) 0 [(0, 0)]) ++ [])) (.cons_cons _ (List.Sublist.append (List.Sublist.refl _) (List.nil_sublist _)))
  clear M2 hu0 hf0 c0 c1 c2 c3 O0 P0 hw1 hp
  have Pi := pin_start a b m
  generalize w1.heap.size = g at O ⊢
  go_loopw [22] (fun i wr => ∃ (T : Nat) (V : Nat → Value) (S : Nat → List (Nat × Nat)), T ≤ N ∧ i = .int .i64 T ∧ Pin a b m T (S T) 0 0 S ∧ Own w wr (vrow (.slice (some ⟨g, 0, none⟩) N N) N V :: (grows N a b V S ++ []))) (fun i _ => N - (intOf i).toNat)
  case atStart => exact ⟨0, _, _, by omega, rfl, Pi, O⟩
  case round =>
    clear O Pi
    obtain ⟨T, V, S, hT, rfl, Pi, O⟩ := hrel
    by_cases hlt : T < N
    · have hTi : (T : Int) < N := by omega
      have hTm : T ≤ m := by omega
      obtain ⟨L, hL⟩ : ∃ L, S T = L := ⟨_, rfl⟩
      rw [hL] at Pi
      obtain ⟨A, c, hV⟩ := grow_slice (O.own _ (List.mem_cons_of_mem _ (List.mem_append_left _ (grows_mem hlt))))
      rw [hL] at hV
      have hc := O.vcell List.mem_cons_self hlt
      rw [hV] at hc
      obtain ⟨l, hl⟩ : ∃ l, L.length = l := ⟨_, rfl⟩
      have hl1 := Pi.len ha.2 hb.2 hTm
      rw [hL, hl] at hl1
      rw [hl] at hc hV
      replace O := Lib.hid O
      clear hL
      go_wp2_with fail
      go_loopw [30] (fun i wr => ∃ (K : Nat) (V : Nat → Value) (S : Nat → List (Nat × Nat)), K ≤ l ∧ i = .int .i64 K ∧ Pin a b m T L K 0 S ∧ V T = .slice A l c ∧ Own w wr (vrow (.slice (some ⟨g, 0, none⟩) N N) N V :: (grows N a b V S ++ []))) (fun i _ => l - (intOf i).toNat)
      case atStart => exact ⟨0, _, _, by omega, rfl, Pi, hV, O.out⟩
      case round =>
        clear O Pi hV hc
        obtain ⟨K, V, S, hK, rfl, Pi, hV, O⟩ := hrel
        by_cases hKl : K < l
        · have hKi : (K : Int) < l := by omega
          obtain ⟨⟨u, v⟩, hs⟩ : ∃ s, L[K]? = some s := ⟨_, List.getElem?_eq_getElem (by omega)⟩
          have hg := O.own _ (List.mem_cons_of_mem _ (List.mem_append_left _ (grows_mem hlt)))
          rw [Pi.here hTm, hV] at hg
          obtain ⟨g2, rfl⟩ := grow_form hg (by omega)
          obtain ⟨f0, f1, f2, f3⟩ := grow_cells hg hl.symm hs
          dsimp only at f2 f3
          have hle : u ≤ a ∧ v ≤ b := Pi.valid hTm (s := (u, v)) (by rw [Pi.here hTm]; exact List.mem_of_getElem? hs)
          have hC := fun W => nx_cast (c := W) ha hb hle.1 hle.2
          have hK3 := fun W (_ : W < 4) => nx_le (c := W) hle.1 hle.2
          have O2 := O.jug a b u v
          replace O2 := O2.perm (R' := vrow (.slice (some ⟨g, 0, none⟩) N N) N V :: (grows N a b V S ++ [jrow wr.heap.size a b u v])) (by rw [List.append_nil]; exact (List.perm_append_singleton _ (_ :: _)).symm)
          replace O2 := Lib.hid O2
          replace hC := Lib.hid hC
          replace hK3 := Lib.hid hK3
          clear O hg
          go_wp2_with fail
          have O := O2.out
          clear O2 f0 f1 f2 f3
          generalize wr.heap.size = q at O ⊢
          generalize wr.alloc (jobj a b u v 25) = w5 at O ⊢
          go_loopw [34] (fun i wr => ∃ (W : Nat) (V : Nat → Value) (S : Nat → List (Nat × Nat)), W ≤ 4 ∧ i = .int .i64 W ∧ Pin a b m T L K W S ∧ V T = .slice (some ⟨g2, 0, none⟩) l c ∧ Own w wr (vrow (.slice (some ⟨g, 0, none⟩) N N) N V :: (grows N a b V S ++ [jrow q a b u v]))) (fun i _ => 4 - (intOf i).toNat)
          case atStart => exact ⟨0, V, S, by omega, rfl, Pi, hV, O⟩
          case round =>
            clear O Pi hV
            obtain ⟨W, V, S, hW, rfl, Pi, hV, O⟩ := hrel
            by_cases hW4 : W < 4
            · have hWi : (W : Int) < 4 := by omega
              have hC1 := hC.out W
              have hK1 := hK3.out W hW4
              have hY1 := fun (hn : 0 < (nx a b u v W).2) => Pi.yes hTm hW4 hs hn
              have hN1 := fun (hn : ¬ (0 < (nx a b u v W).2 ∧ (nx a b u v W).2 ≤ m - T)) => Pi.no hTm hW4 hs hn
              have hF1 := fun w => hF u v W w
              generalize flS (a : Int) b u v W = FS at hC1 hF1
              obtain ⟨X, Y⟩ := FS
              dsimp only at hC1 hF1
              have hR1 := fun w => hR X Y w
              rw [hC1.1, hC1.2] at hR1
              dsimp only at hY1 hN1
              generalize nx a b u v W = N1 at hY1 hN1 hK1 hR1
              obtain ⟨⟨x', y'⟩, n⟩ := N1
              dsimp only at hY1 hN1 hK1 hR1
              replace hY1 := Lib.hid hY1
              replace hN1 := Lib.hid hN1
              have hlen := fun j (hj : j ≤ m) => Pi.len ha.2 hb.2 hj
              replace hlen := Lib.hid hlen
              clear hC1 hF hR hC hK3
              obtain ⟨c0, c1, c2, c3⟩ := (O.jbox (q := q) (List.mem_cons_of_mem _ (List.mem_append_right _ List.mem_cons_self))).cells
              go_wp2_with fail
              refine (hF1 _).mono ?_
              clear hF1 c0 c1 c2 c3
              rintro e w7 ⟨rfl, b7⟩
              replace O := O.keep b7
              clear b7
              go_wp2_with fail
              refine (hR1 _).mono ?_
              clear hR1
              rintro e w8 ⟨rfl, b8⟩
              replace O := O.keep b8
              clear b8
              have hx' : x' ≤ 12 ∧ y' ≤ 12 ∧ n ≤ 24 := by omega
              replace O := O.jug a b x' y'
              have P2 := O.jbox (q := w8.heap.size) List.mem_cons_self
              replace O := O.tl
              go_upto_region 13 with fail
              generalize w8.heap.size = q2 at P2 ⊢
              generalize w8.alloc (jobj a b x' y' 25) = w9 at O P2 ⊢
              by_cases hn0 : 0 < n
              · have hn0i : (0 : Int) < n := by omega
                by_cases hTn : n ≤ m - T
                · have hTni : (n : Int) ≤ m - T := by omega
                  have hY2 := hY1.out hn0
                  obtain ⟨j, hj⟩ : ∃ j, T + n = j := ⟨_, rfl⟩
                  rw [hj] at hY2
                  have hji : (T : Int) + n = (j : Int) := by omega
                  have hjN : j < N := by omega
                  have hjNi : (j : Int) < N := by omega
                  have hjT : T ≠ j := by omega
                  obtain ⟨A2, e2, hV2⟩ := grow_slice (O.own _ (List.mem_cons_of_mem _ (List.mem_append_left _ (grows_mem hjN))))
                  have hvc := O.vcell List.mem_cons_self hjN
                  rw [hV2] at hvc
                  have hsl := hlen.out j (by omega)
                  have hcall := fun W (OW : Own w W (grow (V j) a b (S j) :: vrow (.slice (some ⟨g, 0, none⟩) N N) N V :: (rest N a b j V S ++ [jrow q a b u v]))) => withState_any a b x' y' (V j) (S j) w W _ (by omega) OW
                  have O2 := O.pick hjN
                  rw [hV2] at hcall
                  rw [hV2] at O2
                  obtain ⟨c0, c1, c2, c3⟩ := P2.cells
                  replace hY2 := Lib.hid hY2
                  clear hY1 hN1 hlen O P2 hj
                  go_upto_region 15 with fail
                  go_region_law (first
                    | (go_simp; go_at_call 35; refine (hcall _ (by first | exact O2 | exact O2.keep (below_drew (Below.refl _ _)))).mono ?_; rintro e w10 ⟨v6, rfl, O6⟩; obtain ⟨A6, e6, hv6⟩ := grow_slice (O6.own _ List.mem_cons_self); subst hv6; obtain ⟨⟨u6, hu6⟩, hf6, O7⟩ := O6.put hjN))
                  all_goals
                    have hV3 := (lup_else V (.slice A6 (ins (S j) (x', y')).length e6) hjT).trans hV
                    clear O2 O6 hcall hu6 hf6 c0 c1 c2 c3 hvc hV hV2 Pi
                    go_wp2_with fail
                    go_roundw
                    case rel => exact ⟨W + 1, _, _, by omega, by go_num, hY2.out, hV3, O7⟩
                    case measure => simp [intOf]; omega
                · have hTni : ¬ (n : Int) ≤ m - T := by omega
                  have Pi2 := hN1.out fun h => hTn h.2
                  clear hY1 hN1 hTn P2 Pi hlen
                  go_wp2_with fail
                  go_roundw
                  case rel => exact ⟨W + 1, V, S, by omega, by go_num, Pi2, hV, O⟩
                  case measure => simp [intOf]; omega
              · obtain rfl : n = 0 := by omega
                have Pi2 := hN1.out fun h => hn0 h.1
                clear hY1 hN1 hn0 P2 Pi hlen
                go_wp2_with fail
                go_roundw
                case rel => exact ⟨W + 1, V, S, by omega, by go_num, Pi2, hV, O⟩
                case measure => simp [intOf]; omega
            · obtain rfl : W = 4 := by omega
              have Pi2 := Pi.next hs
              have O3 := O.sub (R' := vrow (.slice (some ⟨g, 0, none⟩) N N) N V :: (grows N a b V S ++ [])) (.cons_cons _ (List.Sublist.append (List.Sublist.refl _) (List.nil_sublist _)))
              clear O hF hR hC hK3 Pi
              go_wp2_with fail
              go_roundw
              case rel => exact ⟨K + 1, V, S, by omega, by go_num, Pi2, hV, O3⟩
              case measure => simp [intOf]; omega
        · obtain rfl : K = l := by omega
          have hKi : ¬ (K : Int) < K := by omega
          have Pi2 := Pin.time (hl ▸ Pi) hTm
          clear Pi hF hR
          go_wp2_with fail
          go_roundw
          case rel => exact ⟨T + 1, V, S, by omega, by go_num, Pi2, O⟩
          case measure => simp [intOf]; omega
    · obtain rfl : T = N := by omega
      have hTi : ¬ (T : Int) < T := by omega
      have hdone : ∀ t, t < T → At a b t = decide (0 < (S t).length) := fun t ht => Pin.done (by rw [hN]; exact Pi) (by omega)
      replace O := Lib.hid O
      clear Pi hF hR
      go_wp2_with fail
      go_ret
      exact ⟨g, V, S, rfl, O.out, hdone⟩
end Go.Proofs.Ytmbhldpbgcfnmaa
