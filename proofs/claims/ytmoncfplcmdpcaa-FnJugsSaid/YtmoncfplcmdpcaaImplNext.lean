/-
  The contract of the program's further pourings of one. Only new memory is written.
-/
import Derived.Test.YtmoncfplcmdpcaaImplPour
import Derived.Test.YtmoncfplcmdpcaaPourAll
import Derived.Test.YtmoncfplcmdpcaaPourRow
import Derived.Test.YtmoncfplcmdpcaaImplCopyRow
import Derived.Test.YtmoncfplcmdpcaaNextRegion
import Derived.Deep.RegionLaw
import Derived.Deep.Cut
import Derived.Lib.Hide
namespace Go.Proofs.Ytmoncfplcmdpcaa
open Go.ChangeShapes Go.WideShapes Go.ChangeAt Go.RowKit Go.PlainAid

theorem Try.infoPourT : (Try.prog.info? 52).map (fun i => (i.zero, i.size, i.bytes)) = some (some (.agg #[.int .i64 0, .int .i64 0, .int .i64 0, .int .i64 0, .slice none 0 0]), 5, 56) := by kernel_rfl

theorem acts6_take {k : Nat} (h : k < 6) : acts6.take (k + 1) = acts6.take k ++ [((k + 1 : Nat) : Int)] := by
  match k, h with
  | 0, _ => rfl
  | 1, _ => rfl
  | 2, _ => rfl
  | 3, _ => rfl
  | 4, _ => rfl
  | 5, _ => rfl

/-- The pouring in a variable. -/
theorem pbox_cells {wr : World} {p : Nat} {a b x y : Int} {s : Value} (h : wr.heap[p]? = some (.cells #[.int .i64 a, .int .i64 b, .int .i64 x, .int .i64 y, s] 52)) :
    wr.cell? ⟨p, 0, none⟩ = some (.int .i64 a) ∧ wr.cell? ⟨p, 1, none⟩ = some (.int .i64 b) ∧ wr.cell? ⟨p, 2, none⟩ = some (.int .i64 x) ∧ wr.cell? ⟨p, 3, none⟩ = some (.int .i64 y) ∧ wr.cell? ⟨p, 4, none⟩ = some s := by
  refine ⟨?_, ?_, ?_, ?_, ?_⟩ <;> simp [World.cell?, h]

set_option maxHeartbeats 4000000 in
theorem implNext_any (a b x y : Int) (A : Option Addr) (c n : Nat) (L : List Int) (w : World) (hn : L.length = n) (hm : n ≤ 1000000) (hA : A = none → n = 0 ∧ c = 0) (h : IntRow w A L) :
    Calls Try.prog 33 #[pagg a b x y (.slice A n c)] w (NextR a b (nxt (stp a b) ((x, y), L) acts6) w) := by
  subst hn
  obtain ⟨i0, hi, hz0, hz1, hz2⟩ := info_parts Try.infoIntT
  obtain ⟨i1, hi1, hq0, hq1, hq2⟩ := info_parts Try.infoPourT
  obtain ⟨N, hN⟩ : ∃ N, nxt (stp a b) ((x, y), L) acts6 = N := ⟨_, rfl⟩
  rw [hN]
  replace hN := Lib.hid hN
  have hP := fun act W => implPour_any a b x y act W
  have hC := fun W (r : IntRow W A L) => implCopyRow_any A c _ L W rfl (by omega) hA r
  obtain ⟨p, hp⟩ : ∃ p, w.heap.size = p := ⟨_, rfl⟩
  obtain ⟨w1, hw1⟩ : ∃ w1, w.alloc (.cells #[.int .i64 a, .int .i64 b, .int .i64 x, .int .i64 y, .slice A L.length c] 52) = w1 := ⟨_, rfl⟩
  have hb1 : Below w.heap.size w w1 := by rw [← hw1]; exact (Below.refl _ _).alloc (Nat.le_refl _) _
  have hpb : w1.heap[p]? = some (.cells #[.int .i64 a, .int .i64 b, .int .i64 x, .int .i64 y, .slice A L.length c] 52) := by rw [← hw1, ← hp]; exact heap_alloc_new w _
  have hpl : p < w1.heap.size := (Array.getElem?_eq_some_iff.1 hpb).1
  replace h := h.keep hb1
  replace hb1 := Lib.hid hb1
  go_enter Try.func33, Try.ntmps33
  go_wp2_with fail
  clear hw1 hp
  have O0 : Own w1 w1 (prow (.slice none 0 0) a b [] :: lrows []) := ⟨fun r hr => by rw [List.mem_singleton.1 hr]; exact ⟨rfl, .inl ⟨rfl, rfl⟩⟩, List.pairwise_singleton .., Below.refl _ _⟩
  go_loopw [3, 4] (fun u i wr => ∃ (k : Nat) (M : List Pg), k ≤ 6 ∧ i = .int .i64 ((k : Int) + 1) ∧ bare M = nxt (stp a b) ((x, y), L) (acts6.take k) ∧ Own w1 wr (prow u a b M :: lrows M)) (fun _ i _ => 7 - (intOf i).toNat)
  case atStart => exact ⟨0, [], by omega, rfl, rfl, O0⟩
  case round =>
    clear O0
    obtain ⟨k, M, hk, rfl, hM, O⟩ := hrel
    by_cases hlt : k < 6
    · have hki : (k : Int) + 1 ≤ 6 := by omega
      have hkd : decide ((k : Int) + 1 ≤ 6) = true := decide_eq_true hki
      have hs := pour_stp (a := a) (b := b) (s := (x, y)) (act := (k : Int) + 1)
      dsimp only at hs
      have hP1 := hP ((k : Int) + 1)
      have hM2 := nxt_snoc (stp a b) ((x, y), L) (acts6.take k) ((k + 1 : Nat) : Int)
      rw [← acts6_take hlt, ← hM, Int.natCast_succ] at hM2
      dsimp only at hM2
      generalize pS a b x y ((k : Int) + 1) = T at hs hP1
      generalize pO a b x y ((k : Int) + 1) = o at hs hP1
      obtain ⟨X, Y⟩ := T
      dsimp only at hP1
      have hML : M.length ≤ 6 := by
        have := nxt_len (stp a b) ((x, y), L) (acts6.take k)
        rw [← hM, bare_len, List.length_take] at this
        omega
      obtain ⟨c0, c1, c2, c3, c4⟩ := pbox_cells ((O.bel.block p hpl).trans hpb)
      replace hs := Lib.hid hs
      replace hM2 := Lib.hid hM2
      replace hM := Lib.hid hM
      clear hP
      go_wp2_with fail
      refine (hP1 _).mono ?_
      clear hP1 c0 c1 c2 c3 c4
      rintro e w2 ⟨rfl, b2⟩
      replace O := (O.keep b2).jug a b X Y
      clear b2
      go_upto_region 6 with fail
      generalize hg : w2.heap.size = g at O ⊢
      generalize w2.alloc (jobj a b X Y 30) = w3 at O ⊢
      clear hg
      rcases o with _ | _
      · have hM3 : bare M = nxt (stp a b) ((x, y), L) (acts6.take (k + 1)) := by
          rcases hs.out with ⟨e, -⟩ | ⟨-, e⟩
          · cases e
          · have := hM2.out
            rw [e] at this
            rw [this, List.append_nil]
        replace O := O.tl
        replace hM3 := Lib.hid hM3
        clear hM2 hs hC
        go_wp2_with fail
        go_roundw
        case rel => exact ⟨k + 1, M, by omega, by go_num, hM3.out, O⟩
        case measure => simp [intOf]; omega
      · have hst : stp a b (x, y) ((k : Int) + 1) = some (X, Y) := by
          rcases hs.out with ⟨-, e⟩ | ⟨e, -⟩
          · exact e
          · cases e
        have hM3 : ∀ s, bare (M ++ [((X, Y), L ++ [(k : Int) + 1], s)]) = nxt (stp a b) ((x, y), L) (acts6.take (k + 1)) := fun s => by
          have := hM2.out
          rw [hst] at this
          rw [this, bare_app]
        replace hM3 := Lib.hid hM3
        clear hM2 hs hst
        go_upto_region 7 with fail
        have hC2 := fun W (bW : Below w1.heap.size w1 W) => hC W (h.keep bW)
        clear hC
        obtain ⟨c0, c1, c2, c3⟩ := (O.jbox (q := g) List.mem_cons_self).cells
        have d0 := fun ob => ((O.jbox (q := g) List.mem_cons_self).alloc ob).cells.1
        have d1 := fun ob => ((O.jbox (q := g) List.mem_cons_self).alloc ob).cells.2.1
        have d2 := fun ob => ((O.jbox (q := g) List.mem_cons_self).alloc ob).cells.2.2.1
        have d3 := fun ob => ((O.jbox (q := g) List.mem_cons_self).alloc ob).cells.2.2.2
        have hpw := (O.bel.block p hpl).trans hpb
        have c4 := (pbox_cells hpw).2.2.2.2
        have d4 : ∀ ob, (w3.alloc ob).cell? ⟨p, 4, none⟩ = some (.slice A L.length c) := fun ob => (World.cell?_alloc_lt _ _ _ (lt_of_cell c4)).trans c4
        clear hpw
        go_region_law (first
          | (go_simp; go_at_call 34; refine (hC2 _ (by first | exact below_drew O.bel | exact below_drew (Below.alloc O.bel O.bel.size _))).mono ?_; rintro e w4 ⟨A4, e4, rfl, o4, b4⟩; first | (have O4 := call_first O b4 o4; have h4 := O4.hd; obtain ⟨k0, k1, k2, k3⟩ := (O4.jbox (q := g) (List.mem_cons_of_mem _ List.mem_cons_self)).cells; have l0 := fun ob => ((O4.jbox (q := g) (List.mem_cons_of_mem _ List.mem_cons_self)).alloc ob).cells.1; have l1 := fun ob => ((O4.jbox (q := g) (List.mem_cons_of_mem _ List.mem_cons_self)).alloc ob).cells.2.1; have l2 := fun ob => ((O4.jbox (q := g) (List.mem_cons_of_mem _ List.mem_cons_self)).alloc ob).cells.2.2.1; have l3 := fun ob => ((O4.jbox (q := g) (List.mem_cons_of_mem _ List.mem_cons_self)).alloc ob).cells.2.2.2) | (have O4 := call_second O b4 o4; have h4 := O4.hd; obtain ⟨k0, k1, k2, k3⟩ := (O4.jbox (q := g) (List.mem_cons_of_mem _ (List.mem_cons_of_mem _ List.mem_cons_self))).cells))
          | (refine step_append_spill _ rfl (.tmp 23) (.tmp 25) 25 rfl w1.heap.size 3 i0 (.int .i64 0) Try.underlying25 hi hz0 hz1 hz2 rfl _ L.length (ints L) rfl (h4.alloc _) ⟨w4.heap.size, 0, none⟩ 1 (.int .i64 ((k : Int) + 1)) rfl (new_one w4 _ _) rfl (by omega) (by have := O4.bel.size; simp; omega) ?_; intro v5 w5 o5 g5 a5 s5; have O5 := O4.iapp o5 g5 a5; obtain ⟨A5, e5, hv5⟩ := own_slice1 O5; subst hv5; have h5 := O5.tl.tl.hd; obtain ⟨m0, m1, m2, m3⟩ := (O5.jbox (q := g) (List.mem_cons_of_mem _ List.mem_cons_self)).cells)
          | (refine step_append_spill _ rfl (.tmp 23) (.tmp 25) 25 rfl w1.heap.size 3 i0 (.int .i64 0) Try.underlying25 hi hz0 hz1 hz2 rfl _ L.length (ints L) rfl h4 ⟨w3.heap.size, 0, none⟩ 1 (.int .i64 ((k : Int) + 1)) rfl (cell_second O4) rfl (by omega) O4.bel.size ?_; intro v5 w5 o5 g5 a5 s5; have O5 := (O4.iapp0 o5 g5 a5).sub (.cons_cons _ (.cons _ (List.Sublist.refl _))); obtain ⟨A5, e5, hv5⟩ := own_slice1 O5; subst hv5; have h5 := O5.tl.tl.hd; obtain ⟨m0, m1, m2, m3⟩ := (O5.jbox (q := g) (List.mem_cons_of_mem _ List.mem_cons_self)).cells)
          | (refine step_append_any _ rfl (.tmp 19) (.tmp 28) 53 rfl w1.heap.size 52 i1 _ 5 56 Try.underlying53 hi1 hq0 hq1 hq2 rfl (by decide) u3 M.length (pcells a b M) rfl (h5.alloc _) (some ⟨w5.heap.size, 0, none⟩) 1 1 [.int .i64 a, .int .i64 b, .int .i64 X, .int .i64 Y, _] rfl rfl (fun e => by cases e) (fun ad he => by injection he with he; subst he; exact news_new w5 [_, _, _, _, _] _) (by simp [Value.oneCell']) (by unfold maxLen; omega) (by omega) (by have := O5.bel.size; simp; omega) ?_; intro v6 w6 o6 g6 a6; have O6 := nexted O5 o6 g6 a6))
        all_goals
          obtain ⟨s, O7⟩ := O6
          have hM4 := Lib.hid (hM3.out s)
          clear O O4 O5 hM hM3 hC2 h5 o6 g6 a6 o4 b4 h4 d0 d1 d2 d3 d4 c0 c1 c2 c3 c4
          go_wp2_with fail
          go_roundw
          case rel => exact ⟨k + 1, _, by omega, by go_num, hM4.out, O7⟩
          case measure => simp [intOf]; omega
    · obtain rfl : k = 6 := by omega
      have hend : NextR a b N w (.returned u3) wr := ⟨_, _, hM.trans hN.out, rfl, O.early hb1.out⟩
      clear hM hN O hP hC h
      go_wp2_with fail
      go_ret
      exact hend
end Go.Proofs.Ytmoncfplcmdpcaa
