/-
  The contracts of the program's sum of a set, of its list of the sums of all choices, and of the three functions that use them. Only new memory is written.
-/
import Derived.Test.YtdnjpekclmiliaaChoice
import Derived.Test.YtdnjpekclmiliaaSpill
import Derived.Test.YtdnjpekclmiliaaVars
import Derived.Test.YtdnjpekclmiliaaImplReach
import Derived.OwnWalk
import Derived.BigRegion
import Derived.Deep.CutBlock
import Derived.Deep.CutRange
namespace Go.Proofs.Ytdnjpekclmiliaa
open Go.ChangeShapes Go.WideShapes Go.ChangeAt Go.RowKit Go.PlainAid

theorem implTotal_any (A : Option Addr) (c n : Nat) (L : List Int) (w : World) (hn : L.length = n) (hP : SetP L) (h : IntRow w A L) :
    Calls Try.prog 29 #[.slice A n c] w fun e w' => e = .returned (.int .i64 (sumL L)) ∧ w = w' := by
  have hx := set_pos hP
  have hs := set_sum hP
  obtain ⟨S, hS⟩ : ∃ S, sumL L = S := ⟨_, rfl⟩
  rw [hS]
  have hSH : Hid (sumL L = S) := hS
  clear hS
  have h8 := hP.1
  rw [hn] at h8
  clear hP
  go_enter Try.func29, Try.ntmps29
  go_wp2_with fail
  go_loopw [3, 8] (fun s i wr => ∃ k : Nat, k ≤ n ∧ i = .int .i64 k ∧ s = .int .i64 (sumL (L.take k)) ∧ w = wr) (fun _ i _ => n - (intOf i).toNat)
  case atStart => exact ⟨0, by omega, rfl, by simp [sumL], rfl⟩
  case round =>
    obtain ⟨k, hk, rfl, rfl, rfl⟩ := hrel
    by_cases hlt : k < n
    · obtain ⟨x, rfl, -, hc⟩ := h k (by omega)
      have p := hx k (by omega)
      have q := hs k
      have e := sumL_take (L := L) (k := k) (by omega)
      clear h hx hs hSH
      generalize L.getD k 0 = z at hc p e
      generalize sumL (L.take k) = s at q e
      go_wp2
      go_roundw
      case rel => exact ⟨k + 1, by omega, by go_num, by rw [e], by first | rfl | trivial⟩
      case measure => simp [intOf]; omega
    · obtain rfl : k = n := by omega
      have es : sumL (L.take k) = S := by rw [← hn, sumL_all]; exact hSH.out
      rw [es]
      clear es hs hx h hSH
      go_wp2
      go_ret
      exact ⟨rfl, rfl⟩

theorem Own.only {w wr : World} {r : Rw} {R : List Rw} (h : Own w wr (r :: R)) : Own w wr [r] :=
  ⟨fun p hp => by rw [List.mem_singleton.1 hp]; exact h.own r List.mem_cons_self, List.pairwise_singleton _ _, h.bel⟩
theorem own_room {w wr : World} {v : Value} {L : List Int} {R : List Rw} (h : Own w wr (irow v L :: R)) (h0 : 0 < L.length) : ∃ g c, v = .slice (some ⟨g, 0, .none⟩) L.length c ∧ L.length ≤ c := by
  have o : wr.ownsRow w.heap.size 3 1 v L.length (ints L) := h.hd
  rcases o.2 with ⟨-, h1⟩ | ⟨g, cap, cur, hv, -, -, hle, -⟩
  · omega
  · exact ⟨g, cap, hv, hle⟩
/-- The sums so far with the first q of the further ones. -/
def mixS (S : List Int) (f : Nat) (x : Int) (q : Nat) : List Int := S ++ ((S.drop f).take q).map fun s => s + x
theorem mix_zero (S : List Int) (f : Nat) (x : Int) : mixS S f x 0 = S := by simp [mixS]
theorem mix_succ {S : List Int} {f q : Nat} {x : Int} (h : f + q < S.length) : mixS S f x (q + 1) = mixS S f x q ++ [S.getD (f + q) 0 + x] := by
  unfold mixS
  have hq : q < (S.drop f).length := by rw [List.length_drop]; omega
  rw [List.take_succ_eq_append_getElem hq, List.map_append, ← List.append_assoc, List.getElem_drop, List.getD_eq_getElem?_getD, List.getElem?_eq_getElem h]
  rfl
theorem mix_len {S : List Int} {f q : Nat} {x : Int} (h : f + q ≤ S.length) : (mixS S f x q).length = S.length + q := by
  unfold mixS
  rw [List.length_append, List.length_map, List.length_take, List.length_drop]; omega
theorem mix_end (S : List Int) (f : Nat) (x : Int) : mixS S f x (S.length - f) = S ++ (S.drop f).map fun s => s + x := by
  unfold mixS
  rw [List.take_of_length_le (by rw [List.length_drop]; omega)]

set_option maxRecDepth 100000 in
set_option maxHeartbeats 4000000 in
theorem implChoice_any (A : Option Addr) (c n : Nat) (L : List Int) (w : World) (hn : L.length = n) (hm : n ≤ 1000000000) (h : IntRow w A L) :
    Calls Try.prog 28 #[.slice A n c] w (Copied (chS L) w) := by
  have hS := implSet_any A c n L w hn hm h
  cases hs : setB L
  · have e : chS L = [] := by unfold chS; rw [hs]; rfl
    rw [hs] at hS
    rw [e]
    clear e hs h hn
    go_enter Try.func28, Try.ntmps28
    go_wp2_with fail
    refine hS.mono ?_
    rintro e w1 ⟨rfl, b1⟩
    clear hS
    go_wp2_with fail
    go_ret
    exact ⟨none, 0, rfl, ⟨rfl, .inl ⟨rfl, rfl⟩⟩, b1⟩
  · have hP := setB_P hs
    rw [chS_set hP, hn]
    rw [hs] at hS
    obtain ⟨i0, hi, hz0, hz1, hz2⟩ := info_parts Try.infoIntT
    have hn8 : n ≤ 8 := by have := hP.1; omega
    have hpos := set_pos hP
    have hsum := fun k => (set_sum hP k).2
    have hmem := cst_mem (set_nonneg hP)
    clear hs hP
    go_enter Try.func28, Try.ntmps28
    go_wp2_with fail
    refine hS.mono ?_
    rintro e w1 ⟨rfl, b1⟩
    have O0 := ((Own.none w).keep b1).lit [0] 1 rfl (by decide)
    clear hS
    go_wp2_with fail
    go_loopw [3, 4, 16] (fun u t i wr => ∃ k : Nat, k ≤ n ∧ i = .int .i64 k ∧ t = .int .i64 ((cst L k).2 : Nat) ∧ Own w wr [irow u (cst L k).1]) (fun _ _ i _ => n - (intOf i).toNat)
    case atStart => exact ⟨0, by omega, rfl, rfl, O0⟩
    case round =>
      clear O0
      obtain ⟨k, hk, rfl, rfl, O⟩ := hrel
      by_cases hlt : k < n
      · have hr := h.keep O.bel
        obtain ⟨x, rfl, -, hx⟩ := hr k (by omega)
        have hx1 : ∀ p : Nat, k = p + 1 → wr.cell? (x.add p) = some (.int .i64 (L.getD p 0)) := fun p e => by
          obtain ⟨y, hy, -, hc⟩ := hr p (by omega)
          injection hy with hy
          subst hy
          exact hc
        have he : cst L (k + 1) = cstep (cst L k) (sameAt L k) (L.getD k 0) := rfl
        have hsame : sameAt L k = decide (0 < k ∧ L.getD k 0 = L.getD (k - 1) 0) := rfl
        have hp := hpos k (by omega)
        have hcl := cst_len L k
        have hct := cst_lt L k
        have hcm := hmem k (by omega)
        have h256 : 2 ^ k ≤ 256 := by
          have : (2 : Nat) ^ k ≤ 2 ^ 8 := Nat.pow_le_pow_right (by decide) (by omega)
          have e8 : (2 : Nat) ^ 8 = 256 := by decide
          omega
        have hsk := hsum k
        clear hr hpos hsum hmem
        obtain ⟨S, hS⟩ : ∃ S, (cst L k).1 = S := ⟨_, rfl⟩
        obtain ⟨t, ht⟩ : ∃ t, (cst L k).2 = t := ⟨_, rfl⟩
        have hcst : cst L k = (S, t) := by rw [← hS, ← ht]
        rw [hcst] at he
        rw [hS, ht] at hct
        rw [hS] at O hcl hcm
        rw [ht]
        clear hS ht hcst
        generalize L.getD k 0 = z at hx hp he hsame
        go_upto_region 9 with fail
        go_cut [31] from 17 to 50 (fun s wx => s = .bool (sameAt L k) ∧ wr = wx)
        case first =>
          clear he O hcm hp h
          rcases Nat.eq_zero_or_pos k with h0 | h0
          · subst h0
            have hb : sameAt L 0 = false := by rw [hsame]; exact decide_eq_false (fun h => absurd h.1 (Nat.lt_irrefl 0))
            replace hb : Hid (sameAt L 0 = false) := hb
            clear hsame hx1
            go_wp2
            go_meet
            exact ⟨by rw [hb.out], rfl⟩
          · obtain ⟨p, hp⟩ : ∃ p : Nat, k = p + 1 := ⟨k - 1, by omega⟩
            have hpi : (k : Int) - 1 = p := by omega
            have hpn : (p : Int) < n := by omega
            have hcp := hx1 p hp
            have hg : decide ((0 : Int) < k) = true := decide_eq_true (by omega)
            have hg2 : (0 : Int) < k := by omega
            have he2 : k - 1 = p := by omega
            rw [he2] at hsame
            by_cases hz : z = L.getD p 0
            · have hb : Hid (sameAt L k = true) := by show sameAt L k = true; rw [hsame]; exact decide_eq_true ⟨h0, hz⟩
              rw [← hz] at hcp
              clear hsame hx1 hz hp he2
              go_wp2
              go_meet
              exact ⟨by rw [hb.out], rfl⟩
            · have hb : Hid (sameAt L k = false) := by show sameAt L k = false; rw [hsame]; exact decide_eq_false (fun h => hz h.2)
              clear hsame hx1 hp he2
              generalize L.getD p 0 = y at hcp hz
              have hzb : (z == y) = false := by simp [hz]
              go_wp2
              go_meet
              exact ⟨by rw [hb.out], rfl⟩
        case rest =>
          obtain ⟨rfl, rfl⟩ := hcut
          clear hx1 hsame
          obtain ⟨f, hf⟩ : ∃ f : Nat, f = if sameAt L k then t else 0 := ⟨_, rfl⟩
          generalize sameAt L k = b at he hf ⊢
          go_upto_if 31 with fail
          go_cut [7] from 17 to 50 (fun s wx => s = .int .i64 (f : Nat) ∧ wr = wx)
          case first =>
            clear he O hcm hp h
            cases b
            · have hf0 : Hid (f = 0) := hf
              clear hf
              go_wp2
              go_meet
              exact ⟨by rw [hf0.out]; rfl, rfl⟩
            · have hf0 : Hid (f = t) := hf
              clear hf
              go_wp2
              go_meet
              exact ⟨by rw [hf0.out], rfl⟩
          case rest =>
            obtain ⟨rfl, rfl⟩ := hcut
            have hfS : f < S.length := by rw [hf]; split <;> omega
            have hend := mix_end S f z
            rw [show S ++ (S.drop f).map (fun s => s + z) = (cst L (k + 1)).1 by rw [he, hf]; rfl] at hend
            have hsec : (cst L (k + 1)).2 = S.length := by rw [he]; rfl
            have hSx : ∀ q, q < S.length → 0 ≤ S.getD q 0 ∧ S.getD q 0 ≤ 8000 := fun q hq => by
              have := hcm _ (getD_mem hq)
              omega
            obtain ⟨g0, c0, rfl, hc0⟩ := own_room O (by omega)
            have hf2 : Hid (f = if b then t else 0) := hf
            clear hf he hcm
            obtain ⟨m, hm2⟩ : ∃ m, S.length - f = m := ⟨_, rfl⟩
            have hmi : (S.length : Int) - (f : Int) = m := by omega
            have hcf : ¬ c0 = f := by omega
            have hfl : (f : Int) ≤ (S.length : Int) := by omega
            rw [hm2] at hend
            clear hf2 hct
            go_wp2_with fail
            go_loopw [3, 39] (fun u j wr2 => ∃ (q : Nat) (Y : List Rw), q ≤ m ∧ j = .int .i64 q ∧ Own w wr2 (irow u (mixS S f z q) :: Y) ∧ Hid (∀ w2, Own w w2 (irow u (mixS S f z q) :: Y) → Own w w2 [irow (.slice (some ⟨g0, 0, none⟩) S.length c0) S])) (fun _ j _ => m - (intOf j).toNat)
            case atStart => exact ⟨0, [], by omega, rfl, by rw [mix_zero]; exact O, by show ∀ w2, _ → _; rw [mix_zero]; exact fun _ h => h⟩
            case round =>
              clear O
              obtain ⟨q, Y, hq, rfl, O, hback⟩ := hrel
              by_cases hlq : q < m
              · have O2 := hback.out _ O
                have hc := O2.cell (j := f + q) rfl (by omega)
                have hs := mix_succ (S := S) (f := f) (q := q) (x := z) (by omega)
                have hml := mix_len (S := S) (f := f) (q := q) (x := z) (by omega)
                have hSq := hSx (f + q) (by omega)
                clear O2
                generalize S.getD (f + q) 0 = s at hc hs hSq
                have hbw := O.bel.size
                have ru : wr.ownsRow w.heap.size 3 1 u3 (mixS S f z q).length (ints (mixS S f z q)) := O.hd
                generalize mixS S f z q = X at O hback hs hml ru
                go_wp2_with (at_builtin; refine wpList_append_spill rfl (.tmp 43) (.tmp 47) 27 rfl w.heap.size 3 i0 (.int .i64 0) Try.underlying27 hi hz0 hz1 hz2 rfl u3 X.length (ints X) rfl (ru.alloc _) ⟨_, 0, none⟩ 1 (.int .i64 (s + z)) rfl (new_one _ _ _) rfl (by omega) (by simp; omega) ?_; intro v1 w2 o1 g1 a1 s1; obtain ⟨Y2, hY, hb2⟩ := O.spill o1 g1 a1 s1; clear o1 g1 a1 s1)
                have hb3 : ∀ w3, Own w w3 (irow v1 (X ++ [s + z]) :: Y2) → Own w w3 [irow (.slice (some ⟨g0, 0, none⟩) S.length c0) S] := fun w3 h3 => hback.out w3 (by
                  have := hb2 w3 [] (by rw [List.append_nil]; exact h3)
                  rw [List.append_nil] at this
                  exact this)
                rw [← hs] at hY hb3
                replace hb3 : Hid (∀ w3, Own w w3 (irow v1 (mixS S f z (q + 1)) :: Y2) → Own w w3 [irow (.slice (some ⟨g0, 0, none⟩) S.length c0) S]) := hb3
                clear hb2 hback O ru hs hSx
                go_wp2
                go_roundw
                case rel => exact ⟨q + 1, Y2, by omega, by go_num, hY, hb3⟩
                case measure => simp [intOf]; omega
              · obtain rfl : q = m := by omega
                rw [hend] at O
                have G := O.only
                replace hsec : Hid ((cst L (k + 1)).2 = S.length) := hsec
                clear O hback hSx hend
                go_wp2
                go_roundw
                case rel => exact ⟨k + 1, by omega, by go_num, by rw [hsec.out], G⟩
                case measure => simp [intOf]; omega
      · obtain rfl : k = n := by omega
        have G := O.copied
        clear O hpos hsum hmem h
        go_wp2
        go_ret
        exact G
end Go.Proofs.Ytdnjpekclmiliaa
