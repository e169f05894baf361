/-
  The draw of a mobile: it is valid; it lies in memory of the call's own.
-/
import Derived.Test.YthefcbninpkncaaDrawOwn
import Derived.Test.YthefcbninpkncaaOnce
import Derived.Test.YthefcbninpkncaaMobLaw
import Derived.Test.YthefcbninpkncaaSpecLeast
import Derived.Lib.Hide
namespace Go.Proofs.Ythefcbninpkncaa
open Go.ChangeShapes Go.WideShapes Go.ChangeAt Go.RowKit Go.PlainAid

def wpart (x : Int) : PartT := ⟨-1, -1, 0, 0, x⟩
theorem wpart_ok {x : Int} (h : 1 ≤ x ∧ x ≤ 1000) : WtOk (wpart x) := ⟨rfl, rfl, rfl, h.1, h.2⟩
/-- Rows that were just built. -/
theorem ptrow_one {w wr : World} {R : List Rw} (h : Own w wr R) (y : PartT) : Own w (wr.alloc (bxobj y)) (ptrow (.slice (some ⟨wr.heap.size, 0, .none⟩) 1 1) [y] :: R) := own_box h y
theorem news_two (w : World) (y z : PartT) (o : Obj) (h : o = .cells #[.int .i64 y.left, .int .i64 y.right, .int .i64 y.armLeft, .int .i64 y.armRight, .int .i64 y.weight, .int .i64 z.left, .int .i64 z.right, .int .i64 z.armLeft, .int .i64 z.armRight, .int .i64 z.weight] 33) :
    ∀ ad, some (⟨w.heap.size, 0, none⟩ : Addr) = some ad → ∀ j u, (ptcells [y, z])[j]? = some u → (w.alloc o).cell? (ad.add j) = some u := fun ad e j u hu => by
  injection e with e
  subst e h
  have hj : j < 10 := by
    rcases Nat.lt_or_ge j 10 with q | q
    · exact q
    · rw [List.getElem?_eq_none (by show 10 ≤ j; exact q)] at hu; cases hu
  have ha : (⟨w.heap.size, 0, none⟩ : Addr).add j = ⟨w.heap.size, j, none⟩ := by
    unfold Addr.add
    split
    · rename_i h0
      subst h0; rfl
    · simp
  rw [ha]
  unfold World.cell?
  rw [heap_alloc_new]
  show (#[Value.int .i64 y.left, .int .i64 y.right, .int .i64 y.armLeft, .int .i64 y.armRight, .int .i64 y.weight, .int .i64 z.left, .int .i64 z.right, .int .i64 z.armLeft, .int .i64 z.armRight, .int .i64 z.weight] : Array Value)[j]? = some u
  rw [← hu, ← List.getElem?_toArray]
  rfl
theorem ptrow_app2 {w wr w1 : World} {u u' : Value} {P : List PartT} {y z : PartT} {o : Obj} {R : List Rw} (h : Own w wr (ptrow u P :: R))
    (hown1 : w1.ownsRow w.heap.size 33 5 u' (P.length + 2) (ptcells P ++ ptcells [y, z])) (hg : (wr.alloc o).grownBy w1 u.ownBlock) (hb : u'.ownBlock = u.ownBlock ∨ u'.ownBlock = some (wr.alloc o).heap.size) : Own w w1 (ptrow u' (P ++ [y] ++ [z]) :: R) := by
  have k := (h.keep ((Below.refl _ _).alloc (Nat.le_refl _) o)).head (r' := (⟨33, 5, u', P.length + 2, ptcells P ++ ptcells [y, z]⟩ : Rw)) hg hown1 (hb.imp id fun h => ⟨_, h, Nat.le_refl _⟩)
  have e : (⟨33, 5, u', P.length + 2, ptcells P ++ ptcells [y, z]⟩ : Rw) = ptrow u' (P ++ [y] ++ [z]) := by
    unfold ptrow
    rw [ptcells_app, ptcells_app, List.length_append, List.length_append, List.append_assoc]; rfl
  rw [e] at k
  exact k
/-- What the draw of a mobile does. -/
def DrawnMobile (w : World) (p : Nat) (e : Ending) (w' : World) : Prop :=
  ∃ (x : Addr) (c : Nat) (L : List PartT), MOk L ∧ e = .returned (.slice (some x) L.length c) ∧ PartRow w' (some x) L ∧ w.grownBy w' (some p)
theorem drawn_mobile {w w0 wr : World} {p len cap : Nat} {a : Option Addr} {v : Value} {L : List PartT} {R : List Rw} (hL : MOk L) (D : DSt w p a len cap w0 wr (ptrow v L :: R)) : DrawnMobile w p (.returned v) wr := by
  obtain ⟨g, c, rfl⟩ := ptrow_form D.own hL.one
  exact ⟨_, c, L, hL, rfl, ptrow_reads D.own List.mem_cons_self rfl rfl, D.all⟩
/-- The weights among the first m parts. -/
def Leaves (L : List PartT) (m : Nat) (xs : List Int) : Prop :=
  (∀ z ∈ xs, ∃ j : Nat, z = (j : Int) ∧ j < L.length ∧ (ptget L j).left = -1) ∧ (∀ j : Nat, j < m → (ptget L j).left = -1 → (j : Int) ∈ xs) ∧ xs.length ≤ m
theorem leaves_nil (L : List PartT) : Leaves L 0 [] := ⟨fun z h => (List.not_mem_nil h).elim, fun j h => by omega, Nat.le_refl _⟩
theorem Leaves.app {L : List PartT} {m : Nat} {xs : List Int} (h : Leaves L m xs) (hm : m < L.length) (e : (ptget L m).left = -1) : Leaves L (m + 1) (xs ++ [(m : Int)]) := by
  refine ⟨fun z hz => ?_, fun j hj g => ?_, ?_⟩
  · rcases List.mem_append.1 hz with hz | hz
    · exact h.1 z hz
    · exact ⟨m, List.mem_singleton.1 hz, hm, e⟩
  · rcases Nat.lt_or_ge j m with q | q
    · exact List.mem_append_left _ (h.2.1 j q g)
    · obtain rfl : j = m := by omega
      exact List.mem_append_right _ (List.mem_singleton.2 rfl)
  · have := h.2.2
    rw [List.length_append, List.length_singleton]; omega
theorem Leaves.skip {L : List PartT} {m : Nat} {xs : List Int} (h : Leaves L m xs) (e : (ptget L m).left ≠ -1) : Leaves L (m + 1) xs :=
  ⟨h.1, fun j hj g => by
    rcases Nat.lt_or_ge j m with q | q
    · exact h.2.1 j q g
    · obtain rfl : j = m := by omega
      exact (e g).elim, by have := h.2.2; omega⟩
theorem Leaves.pos {L : List PartT} {xs : List Int} (hL : MOk L) (h : Leaves L L.length xs) : 1 ≤ xs.length := by
  have one := hL.one
  have e : (ptget L (L.length - 1)).left = -1 := Decidable.byContradiction fun g => by
    have := (hL.bm (k := L.length - 1) (by omega) g).1.2
    omega
  exact List.length_pos_of_mem (h.2.1 _ (by omega) e)
theorem Leaves.pick {L : List PartT} {m x : Nat} {xs : List Int} (h : Leaves L m xs) (hx : x < xs.length) : ∃ j : Nat, xs.getD x 0 = (j : Int) ∧ j < L.length ∧ (ptget L j).left = -1 := by
  refine h.1 _ ?_
  rw [List.getD_eq_getElem?_getD, List.getElem?_eq_getElem hx]
  exact List.getElem_mem hx

set_option maxRecDepth 100000 in
set_option maxHeartbeats 4000000 in
theorem mobileDraw_any (p len cap : Nat) (a : Option Addr) (w : World) (C : Cur w p a len cap) :
    Calls Try.prog 29 #[.pointer (some ⟨p, 0, none⟩)] w (DrawnMobile w p) := by
  obtain ⟨i0, hi, hz0, hz1, hz2⟩ := info_parts Try.infoPartT
  obtain ⟨j0, ki, kz0, kz1, kz2⟩ := info_parts Try.infoIntT
  go_enter Try.func29, Try.ntmps29
  go_wp2_with fail
  refine (below_any 9 p len cap a _ C).mono ?_
  rintro e w1 ⟨u, ⟨-, hu⟩, rfl, C1, g1⟩
  obtain ⟨u0, u1⟩ := hu (by omega)
  obtain ⟨w01, D⟩ := (DSt.start C).drawn C1 g1
  clear hu C1 g1 C
  replace D := D.put (ptrow_one D.own (wpart (1 + u)))
  have hL0 : MOk [wpart (1 + u)] := mok_one (wpart_ok (by omega)) rfl
  replace D : DSt w p a len cap w01 (w1.alloc (.cells #[.int .i64 (-1), .int .i64 (-1), .int .i64 0, .int .i64 0, .int .i64 (1 + u)] 33)) [ptrow (.slice (some ⟨w1.heap.size, 0, .none⟩) 1 1) [wpart (1 + u)]] := D
  go_upto_region 2 with fail
  generalize w1.alloc (.cells #[.int .i64 (-1), .int .i64 (-1), .int .i64 0, .int .i64 0, .int .i64 (1 + u)] 33) = W1 at D ⊢
  go_wp2_with fail
  refine (below_any 5 p len cap a _ D.now).mono ?_
  rintro e w2 ⟨n', ⟨-, hn⟩, rfl, C2, g2⟩
  obtain ⟨n0, n1⟩ := hn (by omega)
  obtain ⟨n, rfl⟩ := Int.eq_ofNat_of_zero_le n0
  obtain ⟨w02, D2⟩ := D.drawn C2 g2
  clear hn C2 g2 D
  go_wp2_with fail
  go_loopw [3, 5] (fun v i wr => ∃ (k : Nat) (w0 : World) (L : List PartT), k ≤ n ∧ i = .int .i64 k ∧ MOk L ∧ (L.length ≤ 2 * k + 1 ∧ 2 * k + 1 ≤ L.length) ∧ DSt w p a len cap w0 wr [ptrow v L]) (fun _ i _ => n - (intOf i).toNat)
  case atStart => exact ⟨0, w02, _, by omega, rfl, hL0, ⟨Nat.le_refl _, Nat.le_refl _⟩, D2⟩
  case round =>
    clear D2 hL0
    obtain ⟨k, w0, L, hk, rfl, hL, hlen, D⟩ := hrel
    obtain ⟨g, c, hv⟩ := ptrow_form D.own hL.one
    subst hv
    by_cases hlt : k < n
    · have hki : (k : Int) < n := by omega
      have O := D.own.empty
      go_wp2_with fail
      go_loopw [6, 7] (fun r i wr' => ∃ (m : Nat) (xs : List Int), m ≤ L.length ∧ i = .int .i64 m ∧ Leaves L m xs ∧ Own w0 wr' [irow r xs, ptrow (.slice (some ⟨g, 0, none⟩) L.length c) L]) (fun _ i _ => L.length - (intOf i).toNat)
      case atStart => exact ⟨0, [], by omega, rfl, leaves_nil L, O⟩
      case round =>
        clear O
        obtain ⟨m, xs, hm, rfl, lf, O1⟩ := hrel
        obtain ⟨A1, c1, hr⟩ := own_slice O1.hd
        replace hr : _ = Value.slice A1 xs.length c1 := hr
        subst hr
        by_cases hlt1 : m < L.length
        · have hmi : (m : Int) < L.length := by omega
          have q0 := (ptrow_cell O1.swap rfl hlt1).1
          by_cases e : (ptget L m).left = -1
          · rw [e] at q0
            have hsz := O1.bel.size
            have lf2 := Lib.hid (lf.app hlt1 e)
            have hx := lf.2.2
            have o : wr.ownsRow w0.heap.size 3 1 (.slice A1 xs.length c1) xs.length (ints xs) := O1.hd
            have O' := Lib.hid O1
            clear e lf O1
            go_wp2_with (at_builtin; refine wpList_append_one rfl (.tmp 36) (.tmp 38) 51 rfl w0.heap.size 3 j0 (.int .i64 0) Try.underlying51 ki kz0 kz1 kz2 rfl _ xs.length _ rfl (o.alloc _) ⟨wr.heap.size, 0, none⟩ 1 _ rfl (new_one _ _ _) rfl (by omega) (by simp; omega) ?_; intro v' w4 hown1 hg1 hb1; have O2 := O'.out.iapp hown1 hg1 hb1; clear hown1 hg1 hb1 o O' q0)
            go_roundw
            case rel => exact ⟨m + 1, xs ++ [(m : Int)], by omega, by go_num, lf2.out, O2⟩
            case measure => simp [intOf]; omega
          · have lf2 := lf.skip e
            have eb : ((ptget L m).left == -1) = false := by simpa using e
            clear lf
            go_wp2_with fail
            go_roundw
            case rel => exact ⟨m + 1, xs, by omega, by go_num, lf2, O1⟩
            case measure => simp [intOf]; omega
        · obtain rfl : m = L.length := by omega
          have pos := lf.pos hL
          have D2 := D.put O1
          clear D O1 hm hlt1
          go_wp2_with fail
          refine (below_any (xs.length : Nat) p len cap a _ D2.now).mono ?_
          rintro e w5 ⟨y, ⟨-, hy⟩, rfl, C5, g5⟩
          obtain ⟨y0, y1⟩ := hy (by omega)
          obtain ⟨y, rfl⟩ := Int.eq_ofNat_of_zero_le y0
          have yl : y < xs.length := by omega
          obtain ⟨j, hj, hjl, hje⟩ := lf.pick yl
          obtain ⟨w03, D3⟩ := D2.drawn C5 g5
          obtain ⟨g1, c2, hr⟩ := own_form D3.own (by omega)
          injection hr with hA h1 h2
          clear h1 h2 hy C5 g5 D2
          subst hA
          have cj := Own.cell D3.own rfl yl
          rw [hj] at cj
          have hjg := Lib.hid hje
          clear hj hje lf
          go_wp2_with fail
          refine (below_any 4 p len cap a _ D3.now).mono ?_
          rintro e w6 ⟨s, ⟨-, hs⟩, rfl, C6, g6⟩
          obtain ⟨s0, s1⟩ := hs (by omega)
          obtain ⟨w04, D4⟩ := D3.drawn C6 g6
          clear hs C6 g6 D3 cj
          go_wp2_with fail
          refine (below_any 4 p len cap a _ D4.now).mono ?_
          rintro e w7 ⟨t, ⟨-, ht⟩, rfl, C7, g7⟩
          obtain ⟨t0, t1⟩ := ht (by omega)
          obtain ⟨w05, D5⟩ := D4.drawn C7 g7
          clear ht C7 g7 D4
          have O5 := D5.own.swap
          obtain ⟨q0, q1, q2, q3, q4⟩ := ptrow_cell O5 rfl hjl
          have f0 := ptrow_free O5 rfl (j * 5)
          have f1 := ptrow_free O5 rfl (j * 5 + 1)
          have f2 := ptrow_free O5 rfl (j * 5 + 2)
          have f3 := ptrow_free O5 rfl (j * 5 + 3)
          have f4 := ptrow_free O5 rfl (j * 5 + 4)
          have D6 := D5.put (ptrow_put O5 rfl hjl ⟨(L.length : Nat), ((L.length : Nat) : Int) + 1, 1 + s, 1 + t, 0⟩)
          clear O5 D5
          go_upto_region 14 with fail
          clear q0 q1 q2 q3 q4 f0 f1 f2 f3 f4
          generalize ((((w7.setCell ⟨g, j * 5, none⟩ (.int .i64 (L.length : Nat))).setCell ⟨g, j * 5 + 1, none⟩ (.int .i64 (((L.length : Nat) : Int) + 1))).setCell ⟨g, j * 5 + 2, none⟩ (.int .i64 (1 + s))).setCell ⟨g, j * 5 + 3, none⟩ (.int .i64 (1 + t))).setCell ⟨g, j * 5 + 4, none⟩ (.int .i64 0) = w8 at D6 ⊢
          have hX : MOk L → ∀ y1 y2 : Int, 1 ≤ y1 ∧ y1 ≤ 1000 → 1 ≤ y2 ∧ y2 ≤ 1000 → MOk (grow L j ⟨(L.length : Nat), ((L.length : Nat) : Int) + 1, 1 + s, 1 + t, 0⟩ (wpart y1) (wpart y2)) := fun hL y1 y2 h1 h2 => hL.grow hjl hjg.out (by omega) rfl (by show ((L.length : Nat) : Int) + 1 = ((L.length + 1 : Nat) : Int); omega) ⟨by show 1 ≤ 1 + s; omega, by show 1 + s ≤ 20; omega⟩ ⟨by show 1 ≤ 1 + t; omega, by show 1 + t ≤ 20; omega⟩ rfl (wpart_ok h1) rfl (wpart_ok h2) rfl
          replace hX := Lib.hid (hX hL)
          obtain ⟨M, hM⟩ : ∃ M, L.set j (⟨(L.length : Nat), ((L.length : Nat) : Int) + 1, 1 + s, 1 + t, 0⟩ : PartT) = M := ⟨_, rfl⟩
          have hMl : M.length = L.length := by rw [← hM]; exact List.length_set
          rw [hM] at D6
          have hG : ∀ y z, grow L j ⟨(L.length : Nat), ((L.length : Nat) : Int) + 1, 1 + s, 1 + t, 0⟩ y z = M ++ [y] ++ [z] := fun y z => by unfold grow; rw [hM]
          replace hG := Lib.hid hG
          replace hMl := Lib.hid hMl
          clear hM hjg
          go_wp2_with fail
          refine (below_any 9 p len cap a _ D6.now).mono ?_
          rintro e w9 ⟨y1, ⟨-, h⟩, rfl, C9, g9⟩
          obtain ⟨a0, a1⟩ := h (by omega)
          obtain ⟨w06, D7⟩ := D6.drawn C9 g9
          clear h C9 g9 D6
          go_wp2_with fail
          refine (below_any 9 p len cap a _ D7.now).mono ?_
          rintro e w10 ⟨y2, ⟨-, h⟩, rfl, C9, g9⟩
          obtain ⟨b0, b1⟩ := h (by omega)
          obtain ⟨w07, D8⟩ := D7.drawn C9 g9
          clear h C9 g9 D7
          have o : w10.ownsRow w07.heap.size 33 5 (.slice (some ⟨g, 0, .none⟩) L.length c) L.length (ptcells M) := by
            have h : w10.ownsRow w07.heap.size 33 5 (.slice (some ⟨g, 0, .none⟩) L.length c) M.length (ptcells M) := D8.own.hd
            rwa [hMl.out] at h
          have hB := D8.own.bel.size
          have D9 := D8.put (own_sub D8.own (R' := [ptrow (.slice (some ⟨g, 0, .none⟩) L.length c) M]) (.cons_cons _ (.cons _ (List.Sublist.refl _))))
          have D' := Lib.hid D9
          clear D8 D9
          go_wp2_with (at_builtin; refine wpList_append_any _ rfl (.tmp 62) (.tmp 71) 24 rfl w07.heap.size 33 i0 (.agg #[.int .i64 0, .int .i64 0, .int .i64 0, .int .i64 0, .int .i64 0]) 5 40 Try.underlying24 hi hz0 hz1 hz2 rfl (by decide) (.slice (some ⟨g, 0, none⟩) L.length c) L.length (ptcells M) rfl (o.alloc _) (some ⟨w10.heap.size, 0, none⟩) 2 2 (ptcells [wpart (1 + y1), wpart (1 + y2)]) rfl rfl (fun h => by cases h) (news_two w10 (wpart (1 + y1)) (wpart (1 + y2)) _ rfl) (ptcells_one _) (by unfold maxLen; omega) (by omega) (by simp; omega) ?_; intro v' w11 hown1 hg1 hb1; have D2 := D'.out.put (ptrow_app2 (P := M) D'.out.own (by rw [hMl.out]; exact hown1) hg1 hb1); clear hown1 hg1 hb1 o D')
          rw [← hG.out] at D2
          go_roundw
          case rel => exact ⟨k + 1, w07, _, by omega, by go_num, hX.out _ _ (by omega) (by omega), by rw [grow_length]; omega, D2⟩
          case measure => simp [intOf]; omega
    · have hki : ¬ (k : Int) < n := by omega
      go_wp2_with fail
      refine (once_any 2 p len cap a _ D.now).mono ?_
      rintro e w3 ⟨b, rfl, C3, g3⟩
      obtain ⟨w03, D3⟩ := D.drawn C3 g3
      clear C3 g3 D
      cases b with
      | true =>
        have hr := ptrow_reads D3.own List.mem_cons_self rfl rfl
        have hS := specLeast_yes (some ⟨g, 0, none⟩) L.length c L w3 rfl (fun h => by cases h) hr hL
        have hall := D3.all
        have hM : lwZ L = true → MOk (lwA L) := fun h => by
          have q := of_decide_eq_true h
          unfold lwA
          rw [if_pos q]
          exact lw_mok hL q.2
        clear D3
        generalize lwA L = M at hS hM
        generalize lwZ L = z at hS hM
        go_wp2_with fail
        refine hS.mono ?_
        clear hS
        rintro e w4 ⟨A, c4, rfl, O4⟩
        cases z with
        | true =>
          have hM2 := hM rfl
          obtain ⟨g4, c5, hv⟩ := ptrow_form O4 hM2.one
          injection hv with hA h1 h2
          clear h1 h2 hM hr hL
          subst hA
          have hend2 : DrawnMobile w p (.returned (.slice (some ⟨g4, 0, none⟩) M.length c4)) w4 := ⟨_, c4, M, hM2, rfl, ptrow_reads O4 List.mem_cons_self rfl rfl, grown_trans hall (below_grown O4.bel _)⟩
          clear O4 hall
          go_wp2_with fail
          go_ret
          exact hend2
        | false =>
          have hend2 : DrawnMobile w p (.returned (.slice (some ⟨g, 0, none⟩) L.length c)) w4 := ⟨⟨g, 0, none⟩, c, L, hL, rfl, hr.keep O4.bel, grown_trans hall (below_grown O4.bel _)⟩
          clear O4 hall hM hr hL
          go_wp2_with fail
          go_ret
          exact hend2
      | false =>
        have hend := drawn_mobile hL D3
        clear D3 hL
        go_wp2_with fail
        go_ret
        exact hend

/-- What the law's draw answers. -/
def DrawnMob (B : Nat) (w : World) (e : Ending) (w' : World) : Prop :=
  ∃ (x : Addr) (c : Nat) (L : List PartT), MOk L ∧ e = .returned (.slice (some x) L.length c) ∧ PartRow w' (some x) L ∧ Below B w w'
theorem drawMobile_any (B : Nat) (a : Option Addr) (len cap : Nat) (w : World) (hB : B = w.heap.size) (hl : len ≤ 1048576) (hr : Bytes w w.heap.size a len) :
    Calls Try.prog 11 #[.slice a len cap] w (DrawnMob B w) := by
  go_enter Try.func11, Try.ntmps11
  go_wp2_with fail
  refine (new_any a len cap w hl hr).mono ?_
  rintro e w0 ⟨rfl, C0, b0, s0⟩
  have bel : ∀ w2 : World, w0.grownBy w2 (some w.heap.size) → Below B w w2 := fun w2 g => hB ▸ b0.trans (below_of_grown g (Nat.le_refl _) (by omega))
  clear b0 s0 hr hl hB
  generalize w.heap.size = p at C0 bel ⊢
  go_wp2_with fail
  refine (mobileDraw_any p len cap a _ C0).mono ?_
  rintro e w1 ⟨x, c, L, hL, rfl, r, g1⟩
  have hend : DrawnMob B w (.returned (.slice (some x) L.length c)) w1 := ⟨x, c, L, hL, rfl, r, bel _ g1⟩
  clear bel C0 r g1 hL
  go_wp2_with fail
  go_ret
  exact hend
end Go.Proofs.Ythefcbninpkncaa
