/-
  The contracts of the program's copy of a list and of its search for a ruler, which hands on lists that share memory: what it was handed is as it was.
-/
import Derived.Test.YtokengeaiknmhaaSearch
import Derived.Test.YtokengeaiknmhaaSpillOne
import Derived.Test.YtokengeaiknmhaaAppendAny
import Derived.Test.YtokengeaiknmhaaOwnMore
import Derived.Test.YtokengeaiknmhaaImplGol
import Derived.Test.YtokengeaiknmhaaImplMeas
import Derived.OwnWalk
namespace Go.Proofs.Ytokengeaiknmhaa
open Go.ChangeShapes Go.WideShapes Go.ChangeAt Go.RowKit Go.PlainAid

theorem own_room {w wr : World} {v : Value} {L : List Int} {R : List Rw} (h : Own w wr (irow v L :: R)) (h0 : 0 < L.length) : ∃ g c, v = .slice (some ⟨g, 0, .none⟩) L.length c ∧ L.length ≤ c := by
  have o : wr.ownsRow w.heap.size 3 1 v L.length (ints L) := h.hd
  rcases o.2 with ⟨-, h1⟩ | ⟨g, cap, cur, hv, -, -, hle, -⟩
  · omega
  · exact ⟨g, cap, hv, hle⟩
theorem implCopy_any {w0 w : World} {v : Value} {H : List Int} {R : List Rw} (O : Own w0 w (irow v H :: R)) (h0 : 0 < H.length) (hl : H.length ≤ 1000000000) :
    Calls Try.prog 41 #[v] w fun e w1 => ∃ u, e = .returned u ∧ Own w0 w1 (irow u H :: irow v H :: R) := by
  obtain ⟨i0, hi, hz0, hz1, hz2⟩ := info_parts Try.infoIntT
  obtain ⟨g, c, rfl⟩ := own_form O h0
  have o : w.ownsRow w0.heap.size 3 1 (.slice (some ⟨g, 0, none⟩) H.length c) H.length (ints H) := O.hd
  have hN : ∀ ad, some (⟨g, 0, none⟩ : Addr) = some ad → ∀ j u, (ints H)[j]? = some u → w.cell? (ad.add j) = some u := fun ad he => by
    injection he with he
    subst he
    exact o.cells (g := g) rfl
  have h1 := ints_one H
  have h2 := ints_length H
  have hadd : ∀ v' w', w'.ownsRow w.heap.size 3 1 v' (0 + H.length) ([] ++ ints H) → w.grownBy w' (Value.ownBlock (.slice none 0 0)) → Own w0 w' (irow v' H :: irow (.slice (some ⟨g, 0, none⟩) H.length c) H :: R) := fun v' w' o1 g1 => by
    rw [List.nil_append, Nat.zero_add] at o1
    exact O.add ((Below.refl w.heap.size w).grown g1 (Nat.le_refl _) (fun k e => by cases e)) o1
  clear O o
  generalize ints H = xs at hN h1 h2 hadd
  go_enter Try.func41, Try.ntmps41
  go_wp2_with (at_builtin; refine wpList_append_any _ rfl (.const (.slice none 0 0)) (.tmp 3) 24 rfl w.heap.size 3 i0 (.int .i64 0) 1 8 Try.underlying24 hi hz0 hz1 hz2 rfl (by decide) (.slice none 0 0) 0 [] rfl (World.ownsRow_nil _ _ _ _) (some ⟨g, 0, none⟩) H.length c xs rfl (by rw [h2, Nat.mul_one]) (fun e => by cases e) hN h1 (by unfold maxLen; omega) (by omega) (Nat.le_refl _) ?_; intro v1 w1 o1 g1 a1; have O1 := hadd v1 w1 o1 g1; clear o1 g1 a1)
  go_ret
  exact ⟨v1, rfl, O1⟩

theorem nil_is_nil (w : World) : (binOp .neq 24 (.slice none 0 0) (.slice none 0 0)).run Try.prog w = .ok (.bool false) w := by kernel_rfl
theorem row_not_nil (y : Addr) (n c : Nat) (w : World) : (binOp .neq 24 (.slice (some y) n c) (.slice none 0 0)).run Try.prog w = .ok (.bool true) w := by kernel_rfl
/-- What the search answers: nil, or a new row; the row that it was handed is as it was. -/
def FoundR (o : Option (List Int)) (w : World) (X : List Rw) (e : Ending) (w' : World) : Prop :=
  match o with
  | none => e = .returned (.slice none 0 0) ∧ Own w w' X
  | some L => ∃ g c, e = .returned (.slice (some ⟨g, 0, none⟩) L.length c) ∧ Own w w' (irow (.slice (some ⟨g, 0, none⟩) L.length c) L :: X)
theorem foundR_none {w w' : World} {X : List Rw} (h : Own w w' X) : FoundR none w X (.returned (.slice none 0 0)) w' := ⟨rfl, h⟩
theorem foundR_some {w w' : World} {X : List Rw} {L : List Int} {g c : Nat} (h : Own w w' (irow (.slice (some ⟨g, 0, none⟩) L.length c) L :: X)) : FoundR (some L) w X (.returned (.slice (some ⟨g, 0, none⟩) L.length c)) w' := ⟨g, c, rfl, h⟩
theorem foundR_back {w w' : World} {a u : Rw} {b : Rw} {Y R : List Rw} (hback : ∀ w2 Z, Own w w2 (a :: (Y ++ Z)) → Own w w2 (b :: (R ++ Z))) (h : Own w w' (u :: a :: Y)) : Own w w' (u :: b :: R) := by
  have h1 : Own w w' (a :: (Y ++ [u])) := h.perm ((List.perm_append_comm (l₁ := [u]) (l₂ := a :: Y)))
  exact (hback _ _ h1).perm (List.perm_append_comm (l₁ := b :: R) (l₂ := [u]))
theorem foundR_back0 {w w' : World} {a : Rw} {b : Rw} {Y R : List Rw} (hback : ∀ w2 Z, Own w w2 (a :: (Y ++ Z)) → Own w w2 (b :: (R ++ Z))) (h : Own w w' (a :: Y)) : Own w w' (b :: R) := by
  have := hback w' [] (by rw [List.append_nil]; exact h)
  rwa [List.append_nil] at this

set_option maxRecDepth 100000 in
set_option maxHeartbeats 4000000 in
theorem findG_any : ∀ (f n m : Nat) (H : List Int) (v : Value) (w0 w : World) (R : List Rw), n ≤ 8 → m ≤ 60 → 0 < H.length → H.length ≤ n → 0 ≤ lastL H → (m : Int) - lastL H ≤ f → lastL H ≤ 60 → Own w0 w (irow v H :: R) →
    Calls Try.prog 36 #[v, .int .i64 n, .int .i64 m, .func (.func 17) #[] #[]] w (FoundR (fr golB n m f H) w0 (irow v H :: R))
  | f, n, m, H, v, w0, w, R, hn8, hm, h0, hln, hz0, hzf, hz60, O => by
    obtain ⟨i0, hi, hj0, hj1, hj2⟩ := info_parts Try.infoIntT
    obtain ⟨g, c, rfl, hc⟩ := own_room O h0
    obtain ⟨p, hp⟩ : ∃ p, H.length = p + 1 := ⟨H.length - 1, by omega⟩
    have hx := O.cell (j := p) rfl (by omega)
    have el : H.getD p 0 = lastL H := by unfold lastL; rw [hp, Nat.add_sub_cancel]
    rw [el] at hx
    have hpi : (H.length : Int) - 1 = p := by omega
    have hpn : (p : Int) < H.length := by omega
    clear el hp
    by_cases hlen : H.length = n
    · rw [fr_end hlen]
      have r := O.row (v := .slice (some ⟨g, 0, none⟩) H.length c) (by simp) rfl rfl
      have hF := implGolomb_any (some ⟨g, 0, none⟩) c _ H w rfl (by omega) hc r
      by_cases hlast : lastL H = m
      · rcases hb : golB H with _ | _
        · rw [if_neg (fun e => by cases e.2), hlen]
          rw [hb, hlen] at hF
          rw [hlen] at hpi hpn O
          rw [hlast] at hx
          clear r hj0 hj1 hj2 hi hc h0 hln hzf
          go_enter Try.func36, Try.ntmps36
          go_wp2_with fail
          refine hF.mono ?_
          rintro e w1 ⟨rfl, b⟩
          have O1 := foundR_none (O.keep b)
          clear O hF hx
          go_wp2_with fail
          go_ret
          exact O1
        · rw [if_pos ⟨hlast, rfl⟩, hlen]
          rw [hb, hlen] at hF
          have hK := fun w1 (O1 : Own w0 w1 (irow (.slice (some ⟨g, 0, none⟩) H.length c) H :: R)) => implCopy_any O1 h0 (by omega)
          rw [hlen] at hpi hpn O hK
          rw [hlast] at hx
          have h0H : Hid (0 < H.length) := h0
          have hlH : Hid (H.length = n) := hlen
          clear r hj0 hj1 hj2 hi hc h0 hln hzf hlen
          go_enter Try.func36, Try.ntmps36
          go_wp2_with fail
          refine hF.mono ?_
          rintro e w1 ⟨rfl, b⟩
          replace hK := hK _ (O.keep b)
          clear O hF hx b
          go_wp2_with fail
          refine hK.mono ?_
          rintro e w2 ⟨u, rfl, O2⟩
          obtain ⟨g2, c2, rfl⟩ := own_form O2 h0H.out
          have O3 := foundR_some O2
          clear hK
          go_wp2_with fail
          go_ret
          exact O3
      · rw [if_neg (fun e => hlast e.1), hlen]
        rw [hlen] at hpi hpn O
        have O1 := foundR_none O
        clear r hj0 hj1 hj2 hi hc h0 hln hzf hF O
        generalize lastL H = z at hx hlast hz0 hz60
        have hd : (z == (m : Int)) = false := by simp [hlast]
        go_enter Try.func36, Try.ntmps36
        go_wp2_with fail
        go_ret
        exact O1
    · have hli : ¬ (H.length : Int) = n := by omega
      have hlb : ((H.length : Int) == (n : Int)) = false := by simp [hli]
      obtain ⟨z, hz⟩ : ∃ z, lastL H = z := ⟨_, rfl⟩
      obtain ⟨X, hX⟩ : ∃ X, fr golB n m f H = X := ⟨_, rfl⟩
      rw [hX]
      have hbig : H.length ≤ 8 := by omega
      match f with
      | 0 =>
        rw [fr_none hlen] at hX
        subst hX
        rw [hz] at hx hz0 hzf hz60
        have O1 := foundR_none O
        have hgt : ¬ z + 1 ≤ (m : Int) := by omega
        have hgt2 : (m : Int) < z + 1 := by omega
        clear hz hi hj0 hj1 hj2 O hln
        go_enter Try.func36, Try.ntmps36
        go_wp2_with fail
        refine wp_loop_rounds 1 ?_
        rw [rounds_succ]
        go_wp2_with fail
        go_ret
        exact O1
      | f + 1 =>
        have ih := findG_any f
        rw [fr_more hlen, hz] at hX
        rw [hz] at hx hz0 hzf hz60
        obtain ⟨T, hT⟩ : ∃ T, ((m : Int) - z).toNat = T := ⟨_, rfl⟩
        rw [hT] at hX
        replace hX : Hid (firstSome (fun j => fr golB n m f (H ++ [z + 1 + (j : Int)])) 0 T = X) := hX
        have hN := nil_is_nil
        have hS := row_not_nil
        clear hz
        go_enter Try.func36, Try.ntmps36
        go_wp2_with fail
        go_loopw [10] (fun i wr => ∃ (x : Int) (j : Nat), Hid (x = z + 1 + j) ∧ j ≤ T ∧ i = .int .i64 x ∧ Own w0 wr (irow (.slice (some ⟨g, 0, none⟩) H.length c) H :: R) ∧ Hid (firstSome (fun j => fr golB n m f (H ++ [z + 1 + (j : Int)])) j (T - j) = X)) (fun i _ => ((m : Int) + 1 - intOf i).toNat)
        case atStart => exact ⟨z + 1, 0, by show z + 1 = z + 1 + ((0 : Nat) : Int); omega, by omega, rfl, O, hX⟩
        case round =>
          clear O hX hx
          obtain ⟨x, j, hxH, hj, rfl, O, hX⟩ := hrel
          have hx1 := hxH.out
          by_cases hle : x ≤ (m : Int)
          · obtain ⟨q, hq⟩ : ∃ q, T - j = q + 1 := ⟨T - j - 1, by omega⟩
            have hX1 := hX.out
            rw [hq] at hX1
            have hbnd : 1 ≤ x ∧ x ≤ 60 := by omega
            have hxf : (m : Int) - x ≤ f := by omega
            obtain ⟨o, ho⟩ : ∃ o, fr golB n m f (H ++ [x]) = o := ⟨_, rfl⟩
            have ho2 : (fun j : Nat => fr golB n m f (H ++ [z + 1 + (j : Int)])) j = o := by
              show fr golB n m f (H ++ [z + 1 + (j : Int)]) = o
              rw [← hx1]; exact ho
            have hsn := lastL_snoc H x
            have ihk := fun v' W Y (h : Own w0 W (irow v' (H ++ [x]) :: Y)) => ih n m (H ++ [x]) v' w0 W Y hn8 hm (by rw [List.length_append, List.length_singleton]; omega) (by rw [List.length_append, List.length_singleton]; omega) (by rw [hsn]; omega) (by rw [hsn]; exact hxf) (by rw [hsn]; omega) h
            rw [ho] at ihk
            have hbw := O.bel.size
            have rv := O.hd
            clear ih ho hx1 hX hsn hxf
            go_wp2_with (at_builtin; refine wpList_append_spill rfl (.tmp 39) (.tmp 41) 24 rfl w0.heap.size 3 i0 (.int .i64 0) Try.underlying24 hi hj0 hj1 hj2 rfl (.slice (some ⟨g, 0, none⟩) H.length c) H.length (ints H) rfl (rv.alloc _) ⟨wr.heap.size, 0, none⟩ 1 (.int .i64 x) rfl (new_one _ _ _) rfl (by omega) (by simp; omega) ?_; intro v1 w1 o1 g1 a1 s1; obtain ⟨Y, hY, hback⟩ := O.spill o1 g1 a1 s1; replace ihk := ihk v1 w1 Y hY; clear o1 g1 a1 s1 hY O rv)
            refine ihk.mono ?_
            clear ihk
            cases o with
            | none =>
              rw [firstSome_none ho2] at hX1
              rintro e w3 ⟨rfl, O3⟩
              have O4 := foundR_back0 hback O3
              have hX2 : Hid (firstSome (fun j => fr golB n m f (H ++ [z + 1 + (j : Int)])) (j + 1) (T - (j + 1)) = X) := by
                rw [show T - (j + 1) = q by omega]; exact hX1
              clear hback O3 ho2 hX1 hq
              go_wp2_with fail
              go_roundw
              case rel => exact ⟨x + 1, j + 1, by show x + 1 = z + 1 + ((j + 1 : Nat) : Int); have := hxH.out; omega, by have := hxH.out; omega, by first | rfl | go_num, O4, hX2⟩
              case measure => simp [intOf]; omega
            | some L =>
              rw [firstSome_some ho2] at hX1
              subst hX1
              rintro e w3 ⟨g3, c3, rfl, O3⟩
              have O4 := foundR_some (foundR_back hback O3)
              clear hback O3 ho2 hq
              go_wp2_with fail
              go_ret
              exact O4
          · have e : T - j = 0 := by have := hx1; omega
            have hX1 := hX.out
            rw [e] at hX1
            have O1 := foundR_none O
            replace hX1 : none = X := hX1
            subst hX1
            clear hX e ih hx1 O
            go_wp2_with fail
            go_ret
            exact O1

set_option maxRecDepth 100000 in
set_option maxHeartbeats 4000000 in
theorem findM_any : ∀ (f n m : Nat) (H : List Int) (v : Value) (w0 w : World) (R : List Rw), n ≤ 8 → m ≤ 60 → 0 < H.length → H.length ≤ n → 0 ≤ lastL H → (m : Int) - lastL H ≤ f → lastL H ≤ 60 → Own w0 w (irow v H :: R) →
    Calls Try.prog 36 #[v, .int .i64 n, .int .i64 m, .func (.func 20) #[] #[]] w (FoundR (fr measB n m f H) w0 (irow v H :: R))
  | f, n, m, H, v, w0, w, R, hn8, hm, h0, hln, hz0, hzf, hz60, O => by
    obtain ⟨i0, hi, hj0, hj1, hj2⟩ := info_parts Try.infoIntT
    obtain ⟨g, c, rfl, hc⟩ := own_room O h0
    obtain ⟨p, hp⟩ : ∃ p, H.length = p + 1 := ⟨H.length - 1, by omega⟩
    have hx := O.cell (j := p) rfl (by omega)
    have el : H.getD p 0 = lastL H := by unfold lastL; rw [hp, Nat.add_sub_cancel]
    rw [el] at hx
    have hpi : (H.length : Int) - 1 = p := by omega
    have hpn : (p : Int) < H.length := by omega
    clear el hp
    by_cases hlen : H.length = n
    · rw [fr_end hlen]
      have r := O.row (v := .slice (some ⟨g, 0, none⟩) H.length c) (by simp) rfl rfl
      have hF := implMeasures_any (some ⟨g, 0, none⟩) c _ H w rfl (by omega) hc r
      by_cases hlast : lastL H = m
      · rcases hb : measB H with _ | _
        · rw [if_neg (fun e => by cases e.2), hlen]
          rw [hb, hlen] at hF
          rw [hlen] at hpi hpn O
          rw [hlast] at hx
          clear r hj0 hj1 hj2 hi hc h0 hln hzf
          go_enter Try.func36, Try.ntmps36
          go_wp2_with fail
          refine hF.mono ?_
          rintro e w1 ⟨rfl, b⟩
          have O1 := foundR_none (O.keep b)
          clear O hF hx
          go_wp2_with fail
          go_ret
          exact O1
        · rw [if_pos ⟨hlast, rfl⟩, hlen]
          rw [hb, hlen] at hF
          have hK := fun w1 (O1 : Own w0 w1 (irow (.slice (some ⟨g, 0, none⟩) H.length c) H :: R)) => implCopy_any O1 h0 (by omega)
          rw [hlen] at hpi hpn O hK
          rw [hlast] at hx
          have h0H : Hid (0 < H.length) := h0
          have hlH : Hid (H.length = n) := hlen
          clear r hj0 hj1 hj2 hi hc h0 hln hzf hlen
          go_enter Try.func36, Try.ntmps36
          go_wp2_with fail
          refine hF.mono ?_
          rintro e w1 ⟨rfl, b⟩
          replace hK := hK _ (O.keep b)
          clear O hF hx b
          go_wp2_with fail
          refine hK.mono ?_
          rintro e w2 ⟨u, rfl, O2⟩
          obtain ⟨g2, c2, rfl⟩ := own_form O2 h0H.out
          have O3 := foundR_some O2
          clear hK
          go_wp2_with fail
          go_ret
          exact O3
      · rw [if_neg (fun e => hlast e.1), hlen]
        rw [hlen] at hpi hpn O
        have O1 := foundR_none O
        clear r hj0 hj1 hj2 hi hc h0 hln hzf hF O
        generalize lastL H = z at hx hlast hz0 hz60
        have hd : (z == (m : Int)) = false := by simp [hlast]
        go_enter Try.func36, Try.ntmps36
        go_wp2_with fail
        go_ret
        exact O1
    · have hli : ¬ (H.length : Int) = n := by omega
      have hlb : ((H.length : Int) == (n : Int)) = false := by simp [hli]
      obtain ⟨z, hz⟩ : ∃ z, lastL H = z := ⟨_, rfl⟩
      obtain ⟨X, hX⟩ : ∃ X, fr measB n m f H = X := ⟨_, rfl⟩
      rw [hX]
      have hbig : H.length ≤ 8 := by omega
      match f with
      | 0 =>
        rw [fr_none hlen] at hX
        subst hX
        rw [hz] at hx hz0 hzf hz60
        have O1 := foundR_none O
        have hgt : ¬ z + 1 ≤ (m : Int) := by omega
        have hgt2 : (m : Int) < z + 1 := by omega
        clear hz hi hj0 hj1 hj2 O hln
        go_enter Try.func36, Try.ntmps36
        go_wp2_with fail
        refine wp_loop_rounds 1 ?_
        rw [rounds_succ]
        go_wp2_with fail
        go_ret
        exact O1
      | f + 1 =>
        have ih := findM_any f
        rw [fr_more hlen, hz] at hX
        rw [hz] at hx hz0 hzf hz60
        obtain ⟨T, hT⟩ : ∃ T, ((m : Int) - z).toNat = T := ⟨_, rfl⟩
        rw [hT] at hX
        replace hX : Hid (firstSome (fun j => fr measB n m f (H ++ [z + 1 + (j : Int)])) 0 T = X) := hX
        have hN := nil_is_nil
        have hS := row_not_nil
        clear hz
        go_enter Try.func36, Try.ntmps36
        go_wp2_with fail
        go_loopw [10] (fun i wr => ∃ (x : Int) (j : Nat), Hid (x = z + 1 + j) ∧ j ≤ T ∧ i = .int .i64 x ∧ Own w0 wr (irow (.slice (some ⟨g, 0, none⟩) H.length c) H :: R) ∧ Hid (firstSome (fun j => fr measB n m f (H ++ [z + 1 + (j : Int)])) j (T - j) = X)) (fun i _ => ((m : Int) + 1 - intOf i).toNat)
        case atStart => exact ⟨z + 1, 0, by show z + 1 = z + 1 + ((0 : Nat) : Int); omega, by omega, rfl, O, hX⟩
        case round =>
          clear O hX hx
          obtain ⟨x, j, hxH, hj, rfl, O, hX⟩ := hrel
          have hx1 := hxH.out
          by_cases hle : x ≤ (m : Int)
          · obtain ⟨q, hq⟩ : ∃ q, T - j = q + 1 := ⟨T - j - 1, by omega⟩
            have hX1 := hX.out
            rw [hq] at hX1
            have hbnd : 1 ≤ x ∧ x ≤ 60 := by omega
            have hxf : (m : Int) - x ≤ f := by omega
            obtain ⟨o, ho⟩ : ∃ o, fr measB n m f (H ++ [x]) = o := ⟨_, rfl⟩
            have ho2 : (fun j : Nat => fr measB n m f (H ++ [z + 1 + (j : Int)])) j = o := by
              show fr measB n m f (H ++ [z + 1 + (j : Int)]) = o
              rw [← hx1]; exact ho
            have hsn := lastL_snoc H x
            have ihk := fun v' W Y (h : Own w0 W (irow v' (H ++ [x]) :: Y)) => ih n m (H ++ [x]) v' w0 W Y hn8 hm (by rw [List.length_append, List.length_singleton]; omega) (by rw [List.length_append, List.length_singleton]; omega) (by rw [hsn]; omega) (by rw [hsn]; exact hxf) (by rw [hsn]; omega) h
            rw [ho] at ihk
            have hbw := O.bel.size
            have rv := O.hd
            clear ih ho hx1 hX hsn hxf
            go_wp2_with (at_builtin; refine wpList_append_spill rfl (.tmp 39) (.tmp 41) 24 rfl w0.heap.size 3 i0 (.int .i64 0) Try.underlying24 hi hj0 hj1 hj2 rfl (.slice (some ⟨g, 0, none⟩) H.length c) H.length (ints H) rfl (rv.alloc _) ⟨wr.heap.size, 0, none⟩ 1 (.int .i64 x) rfl (new_one _ _ _) rfl (by omega) (by simp; omega) ?_; intro v1 w1 o1 g1 a1 s1; obtain ⟨Y, hY, hback⟩ := O.spill o1 g1 a1 s1; replace ihk := ihk v1 w1 Y hY; clear o1 g1 a1 s1 hY O rv)
            refine ihk.mono ?_
            clear ihk
            cases o with
            | none =>
              rw [firstSome_none ho2] at hX1
              rintro e w3 ⟨rfl, O3⟩
              have O4 := foundR_back0 hback O3
              have hX2 : Hid (firstSome (fun j => fr measB n m f (H ++ [z + 1 + (j : Int)])) (j + 1) (T - (j + 1)) = X) := by
                rw [show T - (j + 1) = q by omega]; exact hX1
              clear hback O3 ho2 hX1 hq
              go_wp2_with fail
              go_roundw
              case rel => exact ⟨x + 1, j + 1, by show x + 1 = z + 1 + ((j + 1 : Nat) : Int); have := hxH.out; omega, by have := hxH.out; omega, by first | rfl | go_num, O4, hX2⟩
              case measure => simp [intOf]; omega
            | some L =>
              rw [firstSome_some ho2] at hX1
              subst hX1
              rintro e w3 ⟨g3, c3, rfl, O3⟩
              have O4 := foundR_some (foundR_back hback O3)
              clear hback O3 ho2 hq
              go_wp2_with fail
              go_ret
              exact O4
          · have e : T - j = 0 := by have := hx1; omega
            have hX1 := hX.out
            rw [e] at hX1
            have O1 := foundR_none O
            replace hX1 : none = X := hX1
            subst hX1
            clear hX e ih hx1 O
            go_wp2_with fail
            go_ret
            exact O1

end Go.Proofs.Ytokengeaiknmhaa
