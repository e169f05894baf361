/-
  The contracts of the model's perfect lists and lists of factors: in memory of the call's own.
-/
import Derived.Test.YtdnjpekclmiliaaPlists
import Derived.Test.YtdnjpekclmiliaaSpecFacs
namespace Go.Proofs.Ytdnjpekclmiliaa
open Go.ChangeShapes Go.WideShapes Go.ChangeAt Go.RowKit Go.PlainAid

theorem GivesRows.gives {LL : List (List Int)} {w : World} {e : Ending} {w' : World} (h : GivesRows LL w e w') : GivesSS LL w e w' := by
  obtain ⟨x, c, rfl, o⟩ := h
  exact ⟨_, c, rfl, o⟩
theorem GivesRows.from {LL : List (List Int)} {w wr : World} {e : Ending} {w' : World} (b : Below w.heap.size w wr) (h : GivesRows LL wr e w') : GivesRows LL w e w' := by
  obtain ⟨x, c, rfl, o⟩ := h
  exact ⟨_, c, rfl, o.from b⟩
theorem some_of {w wr : World} {v : Value} {LL : List (List Int)} {R : List Rw} (O : OwnSS w wr v LL R) (hnn : v ≠ .slice none 0 0) : ∃ (g : Addr) (c : Nat), v = .slice (some g) LL.length c := by
  obtain ⟨A, c, hv⟩ := O.slice
  cases A with
  | none =>
    exfalso
    obtain ⟨vs, hl, O2⟩ := O
    have oo : wr.ownsRow w.heap.size 27 1 v vs.length vs := O2.hd
    obtain ⟨g, c2, he, -, -⟩ := own_some oo hnn
    rw [hv] at he
    injection he with he
    cases he
  | some g => exact ⟨g, c, hv⟩

set_option maxRecDepth 100000 in
set_option maxHeartbeats 4000000 in
theorem specLists_any : ∀ (d n : Nat) (H : List Int) (r : Nat) (x : Addr) (c m : Nat) (w : World), H.length = m → Head H r → r ≤ n → n ≤ 24 → n < d + r → IntRow w (some x) H →
    Calls Try.prog 36 #[.int .i64 n, .slice (some x) m c, .int .i64 r] w (GivesRows (plists d n H r) w)
  | 0, n, H, r, x, c, m, w, hm, hH, hr, hn, hd, rw0 => by omega
  | d + 1, n, H, r, x, c, m, w, hm, hH, hr, hn, hd, rw0 => by
    have ih := specLists_any d
    obtain ⟨i0, hi, hz0, hz1, hz2⟩ := info_parts Try.infoIntT
    obtain ⟨i1, hi1, hq0, hq1, hq2⟩ := info_parts Try.infoRowT
    have hml : m ≤ 24 := by have := hH.mem.1; omega
    have eS : (w.alloc (.cells #[] 27)).heap.size = w.heap.size + 1 := by simp
    by_cases hone : r = n
    · subst hone
      rw [plists_end]
      have hE := World.ownsRow_made (e := 3) (size := 1) (base := (w.alloc (.cells #[] 27)).heap.size) (w.alloc (.cells #[] 27)) #[] 0 (Nat.le_refl _) (by decide) rfl
      have hN := ((rw0.alloc (.cells #[] 27)).alloc (.cells #[] 3)).news
      have O0 := OwnSS.empty (Own.none w)
      have b0 := O0.bel
      rw [eS] at hE
      clear ih
      go_enter Try.func36, Try.ntmps36
      go_wp2_with (at_builtin; first | (refine wpList_append_own_at _ rfl (.tmp 16) (.tmp 17) 27 rfl (w.heap.size + 1) 3 i0 (.int .i64 0) 1 8 Try.underlying27 hi hz0 hz1 hz2 rfl (by decide) (.slice (some ⟨w.heap.size + 1, 0, none⟩) 0 0) 0 [] rfl hE x m c (ints H) rfl (by rw [ints_length, hm, Nat.mul_one]) hN (ints_one _) (by unfold maxLen; omega) (by omega) (by simp) ?_; intro v1 w1 o1 g1 _ _; rw [← eS] at o1 g1; have O1 := (Own.none (w.alloc (.cells #[] 27))).spread hm o1 g1; obtain ⟨B, d1, hv⟩ := own_slice O1.hd; replace hv : v1 = .slice B m d1 := (by rw [← hm]; exact hv); subst hv; have G := OwnSS.one O1; clear o1 g1 O1) | (obtain ⟨xs4, news4, p1, p2, p3, p4, p5⟩ := O0.append (MM := [H]) G; refine wpList_append_own_at _ rfl (.tmp 15) (.tmp 19) 25 rfl w.heap.size 27 i1 (.slice none 0 0) 1 24 Try.underlying25 hi1 hq0 hq1 hq2 rfl (by decide) (.slice (some ⟨w.heap.size, 0, none⟩) 0 0) 0 xs4 rfl p1 _ 1 1 news4 rfl (by rw [p2]; rfl) p3 p4 (by unfold maxLen; omega) (by omega) (by have := G.bel.size; have := b0.size; omega) ?_; intro v4 w4 o4 g4 n4 a4; have O4 := p5 v4 w4 o4 g4 a4; have hn4 : v4 ≠ .slice none 0 0 := (fun e => absurd (n4.1 e).2 (by decide)); obtain ⟨g, cc, rfl⟩ := some_of O4 hn4))
      go_ret
      exact ⟨g, cc, rfl, O4⟩
    · rw [plists_more hone]
      have hni : ¬ (r : Int) = n := by omega
      have hnb : ((r : Int) == n) = false := by simp; omega
      obtain ⟨hl1, hl2⟩ := hH.last
      have hHl := hH.last.1
      obtain ⟨l, hl⟩ : ∃ l, lastN H = l := ⟨_, rfl⟩
      have hl24 : l ≤ 24 := by
        by_cases e : 0 < H.length
        · have h1 := hl2 e
          have h2 := hH.mem.2 (H.length - 1) (by omega)
          omega
        · have : lastN H = 1 := by unfold lastN; rw [if_pos (by omega)]
          omega
      have hcn : 0 < m → w.cell? (x.add (m - 1)) = some (.int .i64 (l : Int)) := fun h0 => by
        obtain ⟨y, hy, -, hc⟩ := rw0 (m - 1) (by omega)
        injection hy with hy
        subst hy
        rw [show m - 1 = H.length - 1 by omega, hl2 (by omega), hl] at hc
        rw [show m - 1 = H.length - 1 by omega]
        exact hc
      rw [hl] at hHl ⊢
      have hlast : Hid (lastN H = l) := hl
      clear hl hl1 hl2
      go_enter Try.func36, Try.ntmps36
      go_upto_if 23 with fail
      go_cut [8] from 24 (fun s wx => s = .int .i64 (l : Int) ∧ wx = w.alloc (.cells #[] 27))
      case first =>
        by_cases h0 : 0 < m
        · have hc := hcn h0
          obtain ⟨p, hp⟩ : ∃ p : Nat, m = p + 1 := ⟨m - 1, by omega⟩
          have hpi : (m : Int) - 1 = p := by omega
          have hpm : (p : Int) < m := by omega
          rw [show m - 1 = p by omega] at hc
          have hc2 : (w.alloc (.cells #[] 27)).cell? (x.add p) = some (.int .i64 (l : Int)) := by rw [World.cell?_alloc_lt _ _ _ (lt_of_cell hc)]; exact hc
          clear hcn hc hp ih
          go_wp2
          go_meet
          exact ⟨rfl, rfl⟩
        · obtain rfl : m = 0 := by omega
          have hl1 : Hid (l = 1) := by
            show l = 1
            rw [← hlast.out]
            unfold lastN
            rw [if_pos hm]
          clear hcn ih
          go_wp2
          go_meet
          exact ⟨by rw [hl1.out]; rfl, rfl⟩
      case rest =>
        obtain ⟨rfl, rfl⟩ := hcut
        clear hcn
        have O0 := OwnSS.empty (Own.none w)
        go_wp2_with fail
        go_loopw [7, 9] (fun v i wr => ∃ (y j : Nat), j ≤ cntX n r l ∧ Hid (y = l + j) ∧ i = .int .i64 y ∧ Hid (v ≠ .slice none 0 0) ∧ OwnSS w wr v (plistsTo d n H r j) []) (fun _ i _ => (l + cntX n r l) - (intOf i).toNat)
        case atStart => exact ⟨l, 0, by omega, rfl, rfl, (by simp : (Value.slice _ _ _) ≠ _), O0⟩
        case round =>
          clear O0
          obtain ⟨y, j, hj, hyj, rfl, hnn, O⟩ := hrel
          by_cases hlt : j < cntX n r l
          · have hyj2 := hyj.out
            have hy1 : y ≤ r + 1 := by unfold cntX at hlt; omega
            have hy2 : r + y ≤ n := by unfold cntX at hlt; omega
            have hyr : (y : Int) ≤ (r : Int) + 1 := by omega
            have hs := plistsTo_succ d n H r j
            rw [hlast.out, ← hyj2] at hs
            obtain ⟨q, hq⟩ : ∃ q : Nat, (r : Int) + (y : Int) = q := ⟨r + y, by omega⟩
            have hqn : (q : Int) ≤ n := by omega
            unfold pstep at hs
            rw [hlast.out] at hs
            have hnext : y + 1 = l + (j + 1) := by omega
            replace hnext : Hid (y + 1 = l + (j + 1)) := hnext
            clear hyj2
            by_cases hsk : y ≠ l ∧ y ≠ r + 1
            · rw [if_pos hsk, List.append_nil] at hs
              rw [← hs] at O
              have hb1 : ((y : Int) != (l : Int)) = true := by simp; omega
              have hb2 : ((y : Int) != (r : Int) + 1) = true := by simp; omega
              clear hs ih rw0
              go_wp2
              go_roundw
              case rel => exact ⟨y + 1, j + 1, by omega, hnext, by go_num, hnn, O⟩
              case measure =>
                have := hnext.out
                simp [intOf]; omega
            · rw [if_neg hsk] at hs
              have hE := World.ownsRow_made (e := 3) (size := 1) (base := wr.heap.size) wr #[] 0 (Nat.le_refl _) (by decide) rfl
              have hcase : (y = l) ∨ (y ≠ l ∧ y = r + 1) := by omega
              have rr := rw0.keep O.bel
              have hbw := O.bel.size
              have hqr : q = r + y := by omega
              have hHn := head_next (x := y) hH (by have := hyj.out; omega)
              rw [← hqr] at hHn hs
              have hPw := fun (x : Addr) (c : Nat) W (h : IntRow W (some x) (H ++ [(y : Int)])) => specOneWay_any (some x) c (m + 1) (H ++ [(y : Int)]) q W (by rw [List.length_append, hm]; rfl) (hHn.num (by omega)) h
              have hlen1 := plistsTo_len d n H r j hH hr (by rw [hlast.out]; omega)
              have hp24 := pow24 (n := n) (r := r) hn
              cases hB : oneWay (H ++ [(y : Int)]) with
              | false =>
                rw [hB] at hs hPw
                rw [if_neg (by decide), List.append_nil] at hs
                rw [← hs] at O
                clear ih hs hHn hqr hlen1 hp24 hB
                rcases hcase with hc | ⟨hc1, hc2⟩
                · have hb1 : ((y : Int) != (l : Int)) = false := by simp; omega
                  clear hc hsk
                  go_wp2_with (first
                    | (at_builtin; first
                      | (refine wpList_append_own_at _ rfl (.tmp 53) (.tmp 54) 27 rfl wr.heap.size 3 i0 (.int .i64 0) 1 8 Try.underlying27 hi hz0 hz1 hz2 rfl (by decide) (.slice (some ⟨wr.heap.size, 0, none⟩) 0 0) 0 [] rfl hE x m c (ints H) rfl (by rw [ints_length, hm, Nat.mul_one]) (rr.alloc _).news (ints_one _) (by unfold maxLen; omega) (by omega) (by simp) ?_; intro v1 w1 o1 g1 _ _; have b1 : Below wr.heap.size wr w1 := ((Below.refl wr.heap.size wr).alloc (Nat.le_refl _) _).grown g1 (by simp) (fun k e => (hE.lt k e).1))
                      | (refine wpList_append_own_at _ rfl (.tmp 55) (.tmp 57) 27 rfl wr.heap.size 3 i0 (.int .i64 0) 1 8 Try.underlying27 hi hz0 hz1 hz2 rfl (by decide) v1 (0 + m) ([] ++ ints H) (by rfl) (o1.alloc _) ⟨_, 0, none⟩ 1 1 [.int .i64 y] (by rfl) rfl (new_row _ _) (by intro u hu; rw [List.mem_singleton.1 hu]; rfl) (by unfold maxLen; omega) (by omega) (by have := b1.size; simp; omega) ?_; intro v2 w2 o2 g2 _ _; have b2 : Below wr.heap.size wr w2 := (b1.alloc b1.size _).grown g2 (by have := b1.size; simp; omega) (fun k e => (o1.lt k e).1); obtain ⟨gg, cc, rfl, -, -⟩ := o2.form (by omega); rw [List.nil_append, ← ints_append, Nat.zero_add] at o2; have r2 : IntRow w2 (some ⟨gg, 0, none⟩) (H ++ [(y : Int)]) := intRow_own o2; clear o1 g1 b1 o2 g2)
                      | (obtain ⟨xs4, news4, p1, p2, p3, p4, p5⟩ := O.append O3; refine wpList_append_own_at _ rfl (.tmp 61) (.tmp 67) 25 rfl w.heap.size 27 i1 (.slice none 0 0) 1 24 Try.underlying25 hi1 hq0 hq1 hq2 rfl (by decide) u7 LL.length xs4 rfl p1 x3 MM.length c3 news4 rfl (by rw [p2, Nat.mul_one]) p3 p4 (by unfold maxLen; omega) (by omega) (by have := O3.bel.size; omega) ?_; intro v4 w4 o4 g4 n4 a4; have O4 := p5 v4 w4 o4 g4 a4; have hn4 : Hid (v4 ≠ .slice none 0 0) := (fun e => hnn.out (n4.1 e).1); rw [← hs] at O4; clear p1 p2 p3 p4 p5 o4 g4 n4 a4))
                    | (go_at_call 35; (with_reducible refine (hPw ⟨gg, 0, none⟩ cc _ r2).mono ?_); rintro e w3 ⟨rfl, b3⟩; replace b2 := below_more b2 b2.size b3; replace r2 := r2.keep b3; clear b3)
                    | (go_at_call 36; (with_reducible refine (ihk ⟨gg, 0, none⟩ cc _ r2).mono ?_); rintro e w5 ⟨x3, c3, rfl, O3⟩; replace O3 := O3.from b2))
                  replace O := O.keep b2
                  clear r2 b2 rr hE hPw rw0
                  go_wp2
                  go_roundw
                  case rel => exact ⟨y + 1, j + 1, by omega, hnext, by go_num, hnn, O⟩
                  case measure =>
                    have := hnext.out
                    simp [intOf]; omega
                · have hb1 : ((y : Int) != (l : Int)) = true := by simp; omega
                  have hb2 : ((y : Int) != (r : Int) + 1) = false := by simp; omega
                  clear hc1 hc2 hsk
                  go_wp2_with (first
                    | (at_builtin; first
                      | (refine wpList_append_own_at _ rfl (.tmp 53) (.tmp 54) 27 rfl wr.heap.size 3 i0 (.int .i64 0) 1 8 Try.underlying27 hi hz0 hz1 hz2 rfl (by decide) (.slice (some ⟨wr.heap.size, 0, none⟩) 0 0) 0 [] rfl hE x m c (ints H) rfl (by rw [ints_length, hm, Nat.mul_one]) (rr.alloc _).news (ints_one _) (by unfold maxLen; omega) (by omega) (by simp) ?_; intro v1 w1 o1 g1 _ _; have b1 : Below wr.heap.size wr w1 := ((Below.refl wr.heap.size wr).alloc (Nat.le_refl _) _).grown g1 (by simp) (fun k e => (hE.lt k e).1))
                      | (refine wpList_append_own_at _ rfl (.tmp 55) (.tmp 57) 27 rfl wr.heap.size 3 i0 (.int .i64 0) 1 8 Try.underlying27 hi hz0 hz1 hz2 rfl (by decide) v1 (0 + m) ([] ++ ints H) (by rfl) (o1.alloc _) ⟨_, 0, none⟩ 1 1 [.int .i64 y] (by rfl) rfl (new_row _ _) (by intro u hu; rw [List.mem_singleton.1 hu]; rfl) (by unfold maxLen; omega) (by omega) (by have := b1.size; simp; omega) ?_; intro v2 w2 o2 g2 _ _; have b2 : Below wr.heap.size wr w2 := (b1.alloc b1.size _).grown g2 (by have := b1.size; simp; omega) (fun k e => (o1.lt k e).1); obtain ⟨gg, cc, rfl, -, -⟩ := o2.form (by omega); rw [List.nil_append, ← ints_append, Nat.zero_add] at o2; have r2 : IntRow w2 (some ⟨gg, 0, none⟩) (H ++ [(y : Int)]) := intRow_own o2; clear o1 g1 b1 o2 g2)
                      | (obtain ⟨xs4, news4, p1, p2, p3, p4, p5⟩ := O.append O3; refine wpList_append_own_at _ rfl (.tmp 61) (.tmp 67) 25 rfl w.heap.size 27 i1 (.slice none 0 0) 1 24 Try.underlying25 hi1 hq0 hq1 hq2 rfl (by decide) u7 LL.length xs4 rfl p1 x3 MM.length c3 news4 rfl (by rw [p2, Nat.mul_one]) p3 p4 (by unfold maxLen; omega) (by omega) (by have := O3.bel.size; omega) ?_; intro v4 w4 o4 g4 n4 a4; have O4 := p5 v4 w4 o4 g4 a4; have hn4 : Hid (v4 ≠ .slice none 0 0) := (fun e => hnn.out (n4.1 e).1); rw [← hs] at O4; clear p1 p2 p3 p4 p5 o4 g4 n4 a4))
                    | (go_at_call 35; (with_reducible refine (hPw ⟨gg, 0, none⟩ cc _ r2).mono ?_); rintro e w3 ⟨rfl, b3⟩; replace b2 := below_more b2 b2.size b3; replace r2 := r2.keep b3; clear b3)
                    | (go_at_call 36; (with_reducible refine (ihk ⟨gg, 0, none⟩ cc _ r2).mono ?_); rintro e w5 ⟨x3, c3, rfl, O3⟩; replace O3 := O3.from b2))
                  replace O := O.keep b2
                  clear r2 b2 rr hE hPw rw0
                  go_wp2
                  go_roundw
                  case rel => exact ⟨y + 1, j + 1, by omega, hnext, by go_num, hnn, O⟩
                  case measure =>
                    have := hnext.out
                    simp [intOf]; omega
              | true =>
                rw [hB] at hs hPw
                rw [if_pos rfl] at hs
                have ihk := fun (x : Addr) (c : Nat) W (h : IntRow W (some x) (H ++ [(y : Int)])) => ih n (H ++ [(y : Int)]) q x c (m + 1) W (by rw [List.length_append, hm]; rfl) hHn (by omega) hn (by omega) h
                have hlen2 := plists_len d n (H ++ [(y : Int)]) q hHn (by omega)
                have hp25 := pow24 (n := n) (r := q) hn
                have hl1 : (plistsTo d n H r j).length ≤ 16777216 := by omega
                have hl2 : (plists d n (H ++ [(y : Int)]) q).length ≤ 16777216 := by omega
                clear ih hHn hqr hlen1 hp24 hB hlen2 hp25
                generalize plistsTo d n H r j = LL at O hs hl1
                generalize plists d n (H ++ [(y : Int)]) q = MM at hs hl2 ihk
                rcases hcase with hc | ⟨hc1, hc2⟩
                · have hb1 : ((y : Int) != (l : Int)) = false := by simp; omega
                  clear hc hsk
                  go_wp2_with (first
                    | (at_builtin; first
                      | (refine wpList_append_own_at _ rfl (.tmp 53) (.tmp 54) 27 rfl wr.heap.size 3 i0 (.int .i64 0) 1 8 Try.underlying27 hi hz0 hz1 hz2 rfl (by decide) (.slice (some ⟨wr.heap.size, 0, none⟩) 0 0) 0 [] rfl hE x m c (ints H) rfl (by rw [ints_length, hm, Nat.mul_one]) (rr.alloc _).news (ints_one _) (by unfold maxLen; omega) (by omega) (by simp) ?_; intro v1 w1 o1 g1 _ _; have b1 : Below wr.heap.size wr w1 := ((Below.refl wr.heap.size wr).alloc (Nat.le_refl _) _).grown g1 (by simp) (fun k e => (hE.lt k e).1))
                      | (refine wpList_append_own_at _ rfl (.tmp 55) (.tmp 57) 27 rfl wr.heap.size 3 i0 (.int .i64 0) 1 8 Try.underlying27 hi hz0 hz1 hz2 rfl (by decide) v1 (0 + m) ([] ++ ints H) (by rfl) (o1.alloc _) ⟨_, 0, none⟩ 1 1 [.int .i64 y] (by rfl) rfl (new_row _ _) (by intro u hu; rw [List.mem_singleton.1 hu]; rfl) (by unfold maxLen; omega) (by omega) (by have := b1.size; simp; omega) ?_; intro v2 w2 o2 g2 _ _; have b2 : Below wr.heap.size wr w2 := (b1.alloc b1.size _).grown g2 (by have := b1.size; simp; omega) (fun k e => (o1.lt k e).1); obtain ⟨gg, cc, rfl, -, -⟩ := o2.form (by omega); rw [List.nil_append, ← ints_append, Nat.zero_add] at o2; have r2 : IntRow w2 (some ⟨gg, 0, none⟩) (H ++ [(y : Int)]) := intRow_own o2; clear o1 g1 b1 o2 g2)
                      | (obtain ⟨xs4, news4, p1, p2, p3, p4, p5⟩ := O.append O3; refine wpList_append_own_at _ rfl (.tmp 61) (.tmp 67) 25 rfl w.heap.size 27 i1 (.slice none 0 0) 1 24 Try.underlying25 hi1 hq0 hq1 hq2 rfl (by decide) u7 LL.length xs4 rfl p1 x3 MM.length c3 news4 rfl (by rw [p2, Nat.mul_one]) p3 p4 (by unfold maxLen; omega) (by omega) (by have := O3.bel.size; omega) ?_; intro v4 w4 o4 g4 n4 a4; have O4 := p5 v4 w4 o4 g4 a4; have hn4 : Hid (v4 ≠ .slice none 0 0) := (fun e => hnn.out (n4.1 e).1); rw [← hs] at O4; clear p1 p2 p3 p4 p5 o4 g4 n4 a4))
                    | (go_at_call 35; (with_reducible refine (hPw ⟨gg, 0, none⟩ cc _ r2).mono ?_); rintro e w3 ⟨rfl, b3⟩; replace b2 := below_more b2 b2.size b3; replace r2 := r2.keep b3; clear b3)
                    | (go_at_call 36; (with_reducible refine (ihk ⟨gg, 0, none⟩ cc _ r2).mono ?_); rintro e w5 ⟨x3, c3, rfl, O3⟩; replace O3 := O3.from b2))
                  clear r2 b2 rr hE hPw rw0 ihk O O3 hs
                  go_wp2
                  go_roundw
                  case rel => exact ⟨y + 1, j + 1, by omega, hnext, by go_num, hn4, O4⟩
                  case measure =>
                    have := hnext.out
                    simp [intOf]; omega
                · have hb1 : ((y : Int) != (l : Int)) = true := by simp; omega
                  have hb2 : ((y : Int) != (r : Int) + 1) = false := by simp; omega
                  clear hc1 hc2 hsk
                  go_wp2_with (first
                    | (at_builtin; first
                      | (refine wpList_append_own_at _ rfl (.tmp 53) (.tmp 54) 27 rfl wr.heap.size 3 i0 (.int .i64 0) 1 8 Try.underlying27 hi hz0 hz1 hz2 rfl (by decide) (.slice (some ⟨wr.heap.size, 0, none⟩) 0 0) 0 [] rfl hE x m c (ints H) rfl (by rw [ints_length, hm, Nat.mul_one]) (rr.alloc _).news (ints_one _) (by unfold maxLen; omega) (by omega) (by simp) ?_; intro v1 w1 o1 g1 _ _; have b1 : Below wr.heap.size wr w1 := ((Below.refl wr.heap.size wr).alloc (Nat.le_refl _) _).grown g1 (by simp) (fun k e => (hE.lt k e).1))
                      | (refine wpList_append_own_at _ rfl (.tmp 55) (.tmp 57) 27 rfl wr.heap.size 3 i0 (.int .i64 0) 1 8 Try.underlying27 hi hz0 hz1 hz2 rfl (by decide) v1 (0 + m) ([] ++ ints H) (by rfl) (o1.alloc _) ⟨_, 0, none⟩ 1 1 [.int .i64 y] (by rfl) rfl (new_row _ _) (by intro u hu; rw [List.mem_singleton.1 hu]; rfl) (by unfold maxLen; omega) (by omega) (by have := b1.size; simp; omega) ?_; intro v2 w2 o2 g2 _ _; have b2 : Below wr.heap.size wr w2 := (b1.alloc b1.size _).grown g2 (by have := b1.size; simp; omega) (fun k e => (o1.lt k e).1); obtain ⟨gg, cc, rfl, -, -⟩ := o2.form (by omega); rw [List.nil_append, ← ints_append, Nat.zero_add] at o2; have r2 : IntRow w2 (some ⟨gg, 0, none⟩) (H ++ [(y : Int)]) := intRow_own o2; clear o1 g1 b1 o2 g2)
                      | (obtain ⟨xs4, news4, p1, p2, p3, p4, p5⟩ := O.append O3; refine wpList_append_own_at _ rfl (.tmp 61) (.tmp 67) 25 rfl w.heap.size 27 i1 (.slice none 0 0) 1 24 Try.underlying25 hi1 hq0 hq1 hq2 rfl (by decide) u7 LL.length xs4 rfl p1 x3 MM.length c3 news4 rfl (by rw [p2, Nat.mul_one]) p3 p4 (by unfold maxLen; omega) (by omega) (by have := O3.bel.size; omega) ?_; intro v4 w4 o4 g4 n4 a4; have O4 := p5 v4 w4 o4 g4 a4; have hn4 : Hid (v4 ≠ .slice none 0 0) := (fun e => hnn.out (n4.1 e).1); rw [← hs] at O4; clear p1 p2 p3 p4 p5 o4 g4 n4 a4))
                    | (go_at_call 35; (with_reducible refine (hPw ⟨gg, 0, none⟩ cc _ r2).mono ?_); rintro e w3 ⟨rfl, b3⟩; replace b2 := below_more b2 b2.size b3; replace r2 := r2.keep b3; clear b3)
                    | (go_at_call 36; (with_reducible refine (ihk ⟨gg, 0, none⟩ cc _ r2).mono ?_); rintro e w5 ⟨x3, c3, rfl, O3⟩; replace O3 := O3.from b2))
                  clear r2 b2 rr hE hPw rw0 ihk O O3 hs
                  go_wp2
                  go_roundw
                  case rel => exact ⟨y + 1, j + 1, by omega, hnext, by go_num, hn4, O4⟩
                  case measure =>
                    have := hnext.out
                    simp [intOf]; omega
          · obtain rfl : j = cntX n r l := by omega
            obtain ⟨g, cc, hv⟩ := some_of O hnn.out
            subst hv
            have hyj2 := hyj.out
            have hend : ¬ (y ≤ r + 1 ∧ r + y ≤ n) := by unfold cntX at hyj2; omega
            have G : GivesRows (plistsTo d n H r (cntX n r l)) w (.returned (.slice (some g) (plistsTo d n H r (cntX n r l)).length cc)) wr := ⟨g, cc, rfl, O⟩
            generalize (plistsTo d n H r (cntX n r l)).length = z at G ⊢
            clear O hnn ih rw0 hyj2 hlt hj
            by_cases hy1 : y ≤ r + 1
            · have h1 : (y : Int) ≤ (r : Int) + 1 := by omega
              have h2 : (n : Int) < (r : Int) + y := by omega
              clear hend
              go_wp2
              go_ret
              exact G
            · have h1 : (r : Int) + 1 < (y : Int) := by omega
              clear hend
              go_wp2
              go_ret
              exact G
end Go.Proofs.Ytdnjpekclmiliaa
