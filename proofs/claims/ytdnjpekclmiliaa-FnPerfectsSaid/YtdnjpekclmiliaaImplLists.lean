/-
  The contracts of the program's next numbers of a list and of its search for perfect lists, which hands on lists that share memory: what it was handed is as it was.
-/
import Derived.Test.YtdnjpekclmiliaaImplFacs
import Derived.Test.YtdnjpekclmiliaaPfrom
import Derived.Test.YtdnjpekclmiliaaVars
namespace Go.Proofs.Ytdnjpekclmiliaa
open Go.ChangeShapes Go.WideShapes Go.ChangeAt Go.RowKit Go.PlainAid

theorem implNext_any {w0 w : World} {v : Value} {H : List Int} {R : List Rw} {r : Nat} (O : Own w0 w (irow v H :: R)) (hH : Head H r) (hr : r ≤ 24) :
    Calls Try.prog 41 #[v, .int .i64 r] w (Copied (nextI H r) w) := by
  obtain ⟨A, c, hv⟩ := own_slice O.hd
  replace hv : v = .slice A H.length c := hv
  subst hv
  have row : IntRow w A H := O.row List.mem_cons_self rfl rfl
  have hm := hH.mem.1
  rcases Nat.eq_zero_or_pos H.length with h0 | h0
  · have e : nextI H r = [(r : Int) + 1] := by unfold nextI nextN; rw [if_pos h0]; simp
    rw [e, h0]
    clear row O
    go_enter Try.func41, Try.ntmps41
    go_wp2
    go_ret
    exact ((Own.none w).lit [(r : Int) + 1] 1 rfl (by decide)).copied
  · have e : nextI H r = [(lastN H : Int), (r : Int) + 1] := by unfold nextI nextN; rw [if_neg (by omega)]; simp
    have hl := hH.last.2 h0
    obtain ⟨p, hp⟩ : ∃ p : Nat, H.length = p + 1 := ⟨H.length - 1, by omega⟩
    obtain ⟨x, rfl, -, hx⟩ := row p (by omega)
    rw [show H.length - 1 = p by omega] at hl
    rw [hl] at hx
    rw [e, hp]
    have hp25 : p ≤ 24 := by omega
    clear row O hl hp hm
    generalize lastN H = l at hx ⊢
    go_enter Try.func41, Try.ntmps41
    go_wp2
    go_ret
    exact ((Own.none w).lit [(l : Int), (r : Int) + 1] 2 rfl (by decide)).copied

theorem OwnSS.rowOf {w wr : World} {u : Value} {LL : List (List Int)} {A : Option Addr} {n c : Nat} {L : List Int} {X : List Rw} (h : OwnSS w wr u LL X) (hm : irow (.slice A n c) L ∈ X) (hn : n = L.length) : IntRow wr A L := by
  obtain ⟨vs, hl, O⟩ := h
  exact O.row (List.mem_cons_of_mem _ (List.mem_append_right _ hm)) rfl hn
theorem Copied.add {w0 w w1 : World} {L : List Int} {R : List Rw} {e : Ending} (O : Own w0 w R) (h : Copied L w e w1) : ∃ B d, e = .returned (.slice B L.length d) ∧ Own w0 w1 (irow (.slice B L.length d) L :: R) := by
  obtain ⟨B, d, he, o, b⟩ := h
  exact ⟨B, d, he, O.add b o⟩

set_option maxRecDepth 100000 in
set_option maxHeartbeats 4000000 in
theorem implLists_any : ∀ (d n : Nat) (H : List Int) (r : Nat) (v : Value) (w0 w : World) (R : List Rw), Head H r → r ≤ n → n ≤ 24 → 1 ≤ n → n < d + r → Own w0 w (irow v H :: R) →
    Calls Try.prog 26 #[v, .int .i64 r, .int .i64 n] w (Found (pfrom d n H r) w0 (irow v H :: R))
  | 0, n, H, r, v, w0, w, R, hH, hr, hn, h1, hd, O => by omega
  | d + 1, n, H, r, v, w0, w, R, hH, hr, hn, h1, hd, O => by
    have ih := implLists_any d
    obtain ⟨i0, hi, hz0, hz1, hz2⟩ := info_parts Try.infoIntT
    obtain ⟨i1, hi1, hq0, hq1, hq2⟩ := info_parts Try.infoRowI
    have hm24 := hH.mem.1
    by_cases hone : r = n
    · subst hone
      rw [pfrom_end]
      have h0 : 0 < H.length := by
        rcases Nat.eq_zero_or_pos H.length with h | h
        · have e := List.length_eq_zero_iff.1 h
          subst e
          have : (0 : Int) = r := hH.sum
          omega
        · exact h
      have hC := implCopy_any O h0 (by omega)
      clear ih O
      go_enter Try.func26, Try.ntmps26
      go_wp2_with fail
      refine hC.mono ?_
      rintro e w1 ⟨u, rfl, O1⟩
      obtain ⟨B, c1, hu⟩ := own_slice O1.hd
      replace hu : u = .slice B H.length c1 := hu
      subst hu
      clear hC
      have G := (OwnSS.one O1).found
      clear O1
      go_wp2_with fail
      go_ret
      exact G
    · rw [pfrom_more hone]
      have hni : ¬ (r : Int) = n := by omega
      have hnb : ((r : Int) == n) = false := by simp [hni]
      have hN := implNext_any O hH (by omega)
      have hNl := nextI_len H r
      have hN2 := nextN_len H r
      have hadd := fun e w1 (h : Copied (nextI H r) w e w1) => Copied.add O h
      have hp24 : 2 ^ (n - r - 1) ≤ 16777216 := pow24 (n := n - 1) (r := r) (by omega) |> fun h => by rw [show n - r - 1 = n - 1 - r by omega]; exact h
      rw [hNl] at hadd
      clear O
      go_enter Try.func26, Try.ntmps26
      go_wp2_with fail
      refine hN.mono ?_
      intro e w1 hCp
      obtain ⟨B, c1, rfl, O⟩ := hadd e w1 hCp
      have O' := O.swap
      clear hN hadd hCp O
      obtain ⟨N, hNN⟩ : ∃ N, (nextN H r).length = N := ⟨_, rfl⟩
      rw [hNN] at O' hN2 hNl ⊢
      go_wp2_with fail
      go_loopw [7, 20] (fun u i wr => ∃ k : Nat, k ≤ N ∧ i = .int .i64 k ∧ OwnSS w0 wr u (pfTo d n H r k) (irow v H :: irow (.slice B N c1) (nextI H r) :: R)) (fun _ i _ => N - (intOf i).toNat)
      case atStart => exact ⟨0, by omega, rfl, OwnSS.nil O'⟩
      case round =>
        clear O'
        obtain ⟨k, hk, rfl, O⟩ := hrel
        by_cases hlt : k < N
        · have hs := pfTo_succ (d := d) (n := n) (H := H) (r := r) (k := k) (by omega)
          have hx1 := nextN_pos (k := k) hH (by omega)
          have hx2 := nextN_le (k := k) hH (by omega)
          have hrow : IntRow wr B (nextI H r) := O.rowOf (c := c1) (List.mem_cons_of_mem _ List.mem_cons_self) hNl.symm
          obtain ⟨y, rfl, -, hy⟩ := hrow k (by omega)
          rw [nextI_get (by omega)] at hy
          have hLl := pfTo_len d n H r k hH (by omega) (by omega)
          have hk2 : k * 2 ^ (n - r - 1) ≤ 2 * 16777216 := Nat.mul_le_mul (by omega) hp24
          clear hrow
          generalize (nextN H r).getD k 0 = x at hs hx1 hx2 hy
          by_cases hle : r + x ≤ n
          · rw [if_pos hle] at hs
            obtain ⟨q, hq⟩ : ∃ q : Nat, (r : Int) + (x : Int) = q := ⟨r + x, by omega⟩
            have hqn : (q : Int) ≤ n := by omega
            have hq3 : r + x = q := by omega
            rw [hq3] at hs hle
            have hMl := pfrom_len d n (H ++ [(x : Int)]) q (hq3 ▸ head_next hH hx1) hle
            have hM2 : 2 ^ (n - q) ≤ 16777216 := pow24 (n := n) (r := q) (by omega)
            have ihk := fun v' W Y (h : Own w0 W (irow v' (H ++ [(x : Int)]) :: Y)) => ih n (H ++ [(x : Int)]) q v' w0 W Y (hq3 ▸ head_next hH hx1) hle hn h1 (by omega) h
            generalize pfTo d n H r k = LL at O hs hLl
            generalize pfrom d n (H ++ [(x : Int)]) q = MM at hs hMl ihk
            have hbw := O.bel.size
            have rv : wr.ownsRow w0.heap.size 3 1 v H.length (ints H) := O.row.hd
            have hHl : H.length ≤ 24 := by omega
            clear ih
            go_wp2_with (first
              | (at_builtin; refine wpList_append_spill rfl (.tmp 30) (.tmp 32) 27 rfl w0.heap.size 3 i0 (.int .i64 0) Try.underlying27 hi hz0 hz1 hz2 rfl v H.length (ints H) rfl (rv.alloc _) ⟨_, 0, none⟩ 1 (.int .i64 x) rfl (new_one _ _ _) rfl (by omega) (by simp; omega) ?_; intro v1 w1 o1 g1 a1 s1; obtain ⟨Y, hY, hback⟩ := O.spill o1 g1 a1 s1; clear o1 g1 a1 s1)
              | (go_at_call 26; (with_reducible refine (ihk v1 _ Y hY).mono ?_); rintro e w3 ⟨A3, c3, rfl, O3⟩; have T := hback _ _ _ O3; have hb3 := O3.bel.size; clear O3 hback hY ihk O rv)
              | (at_builtin; obtain ⟨xs4, news4, p1, p2, p3, p4, p5, p6⟩ := T.append; refine wpList_append_any _ rfl (.tmp 29) (.tmp 38) 25 rfl w0.heap.size 27 i1 (.slice none 0 0) 1 24 Try.underlying25 hi1 hq0 hq1 hq2 rfl (by decide) u7 LL.length xs4 rfl p1 A3 MM.length c3 news4 rfl (by rw [p2, Nat.mul_one]) p3 p4 p5 (by unfold maxLen; omega) (by omega) hb3 ?_; intro v4 w4 o4 g4 a4; have O4 := p6 v4 w4 o4 g4 a4; clear p1 p2 p3 p4 p5 p6 o4 g4 a4 T hb3))
            rw [← hs] at O4
            clear hs
            go_wp2
            go_roundw
            case rel => exact ⟨k + 1, by omega, by go_num, O4⟩
            case measure => simp [intOf]; omega
          · rw [if_neg hle, List.append_nil] at hs
            rw [← hs] at O
            obtain ⟨q, hq⟩ : ∃ q : Nat, (r : Int) + (x : Int) = q := ⟨r + x, by omega⟩
            have hqn : ¬ (q : Int) ≤ n := by omega
            have hq25 : q ≤ 49 := by omega
            clear hs ih
            go_wp2
            go_roundw
            case rel => exact ⟨k + 1, by omega, by go_num, O⟩
            case measure => simp [intOf]; omega
        · obtain rfl : k = N := by omega
          have G := ((O.permR (.swap _ _ _)).less).found
          rw [← hNN] at G
          clear O ih
          go_wp2
          go_ret
          exact G
end Go.Proofs.Ytdnjpekclmiliaa
