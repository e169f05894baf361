/-
  The contracts of the model's search for a ruler without a length twice, and of its shortest one. Only new memory is written.
-/
import Derived.Test.YtokengeaiknmhaaShort
import Derived.Test.YtokengeaiknmhaaSpecLen
import Derived.Test.YtokengeaiknmhaaCapOwn
import Derived.OwnWalk
namespace Go.Proofs.Ytokengeaiknmhaa
open Go.ChangeShapes Go.WideShapes Go.ChangeAt Go.RowKit Go.PlainAid

/-- What the model's search answers: none, and the row that it was handed is as it was; or a row of the call's own. -/
def FoundG (o : Option (List Int)) (w : World) (r : Rw) (R : List Rw) (e : Ending) (w' : World) : Prop :=
  match o with
  | none => ∃ A c, e = .returned (.tuple #[.slice A 0 c, .bool false]) ∧ Own w w' (r :: R)
  | some L => ∃ A c, e = .returned (.tuple #[.slice A L.length c, .bool true]) ∧ Own w w' (irow (.slice A L.length c) L :: R)
theorem foundG_none {w w' : World} {r : Rw} {R : List Rw} {A : Option Addr} {c : Nat} (h : Own w w' (r :: R)) : FoundG none w r R (.returned (.tuple #[.slice A 0 c, .bool false])) w' := ⟨A, c, rfl, h⟩
theorem foundG_some {w w' : World} {r : Rw} {R : List Rw} {L : List Int} {A : Option Addr} {c : Nat} (h : Own w w' (irow (.slice A L.length c) L :: R)) : FoundG (some L) w r R (.returned (.tuple #[.slice A L.length c, .bool true])) w' := ⟨A, c, rfl, h⟩

set_option maxRecDepth 100000 in
set_option maxHeartbeats 800000 in
theorem specFind_any : ∀ (f n m : Nat) (H : List Int) (g c : Nat) (w0 w : World) (R : List Rw), n ≤ 8 → m ≤ 60 → 0 < H.length → H.length ≤ n → 0 ≤ lastL H → (m : Int) - lastL H ≤ f → lastL H ≤ 60 → Own w0 w (irow (.slice (some ⟨g, 0, none⟩) H.length c) H :: R) →
    Calls Try.prog 39 #[.slice (some ⟨g, 0, none⟩) H.length c, .int .i64 n, .int .i64 m] w (FoundG (gl n m f H) w0 (irow (.slice (some ⟨g, 0, none⟩) H.length c) H) R)
  | f, n, m, H, g, c, w0, w, R, hn8, hm, h0, hln, hz0, hzf, hz60, O => by
    obtain ⟨i0, hi, hj0, hj1, hj2⟩ := info_parts Try.infoIntT
    by_cases hlen : H.length = n
    · rw [gl_end hlen]
      have O1 := foundG_some (r := irow (.slice (some ⟨g, 0, none⟩) H.length c) H) O
      rw [hlen] at O1 ⊢
      clear hi hj0 hj1 hj2 O h0 hln hzf
      go_enter Try.func39, Try.ntmps39
      go_wp2_with fail
      go_ret2
      exact O1
    · have hli : ¬ (H.length : Int) = n := by omega
      have hlb : ((H.length : Int) == (n : Int)) = false := by simp [hli]
      obtain ⟨p, hp⟩ : ∃ p, H.length = p + 1 := ⟨H.length - 1, by omega⟩
      have hx := O.cell (j := p) rfl (by omega)
      have el : H.getD p 0 = lastL H := by unfold lastL; rw [hp, Nat.add_sub_cancel]
      rw [el] at hx
      have hpi : (H.length : Int) - 1 = p := by omega
      have hpn : (p : Int) < H.length := by omega
      clear el hp
      obtain ⟨z, hz⟩ : ∃ z, lastL H = z := ⟨_, rfl⟩
      obtain ⟨X, hX⟩ : ∃ X, gl n m f H = X := ⟨_, rfl⟩
      rw [hX]
      have hbig : H.length ≤ 8 := by omega
      match f with
      | 0 =>
        rw [gl_none hlen] at hX
        subst hX
        rw [hz] at hx hz0 hzf hz60
        have hgt : ¬ z + 1 ≤ (m : Int) := by omega
        clear hz hi hj0 hj1 hj2 hln
        go_enter Try.func39, Try.ntmps39
        go_wp2_with fail
        refine wp_loop_rounds 1 ?_
        rw [rounds_succ]
        go_wp2_with fail
        go_ret2
        exact foundG_none (O.keep ((Below.refl _ _).alloc (Nat.le_refl _) _))
      | f + 1 =>
        have ih := specFind_any f
        rw [gl_more hlen, hz] at hX
        rw [hz] at hx hz0 hzf hz60
        obtain ⟨T, hT⟩ : ∃ T, ((m : Int) - z).toNat = T := ⟨_, rfl⟩
        rw [hT] at hX
        replace hX : Hid (firstSome (fun j => if golB (H ++ [z + 1 + (j : Int)]) = true then gl n m f (H ++ [z + 1 + (j : Int)]) else none) 0 T = X) := hX
        clear hz
        go_enter Try.func39, Try.ntmps39
        go_wp2_with fail
        go_loopw [8] (fun i wr => ∃ (x : Int) (j : Nat), Hid (x = z + 1 + j) ∧ j ≤ T ∧ i = .int .i64 x ∧ Own w0 wr (irow (.slice (some ⟨g, 0, none⟩) H.length c) H :: R) ∧ Hid (firstSome (fun j => if golB (H ++ [z + 1 + (j : Int)]) = true then gl n m f (H ++ [z + 1 + (j : Int)]) else none) j (T - j) = X)) (fun i _ => ((m : Int) + 1 - intOf i).toNat)
        case atStart => exact ⟨z + 1, 0, by show z + 1 = z + 1 + ((0 : Nat) : Int); omega, by omega, rfl, O, hX⟩
        case round =>
          clear O hX hx
          obtain ⟨x, j, hxH, hj, rfl, O, hX⟩ := hrel
          have hx1 := hxH.out
          by_cases hle : x ≤ (m : Int)
          · obtain ⟨q, hq⟩ : ∃ q, T - j = q + 1 := ⟨T - j - 1, by omega⟩
            have hX1 := hX.out
            rw [hq] at hX1
            have hbnd : 1 ≤ x ∧ x ≤ 60 := by omega
            have hxf : (m : Int) - x ≤ f := by omega
            obtain ⟨J, hJ⟩ : ∃ J, H ++ [x] = J := ⟨_, rfl⟩
            have hsn := lastL_snoc H x
            have hxl : (H ++ [x]).length = H.length + 1 := by rw [List.length_append, List.length_singleton]
            obtain ⟨o, ho⟩ : ∃ o, gl n m f (H ++ [x]) = o := ⟨_, rfl⟩
            have ho2 : (fun j : Nat => if golB (H ++ [z + 1 + (j : Int)]) = true then gl n m f (H ++ [z + 1 + (j : Int)]) else none) j = if golB J = true then o else none := by
              show (if golB (H ++ [z + 1 + (j : Int)]) = true then gl n m f (H ++ [z + 1 + (j : Int)]) else none) = _
              rw [← hx1, ho, hJ]
            rw [hJ] at hsn hxl ho
            have ihk := fun g' c' W (h : Own w0 W (irow (.slice (some ⟨g', 0, none⟩) J.length c') J :: irow (.slice (some ⟨g, 0, none⟩) H.length c) H :: R)) => ih n m J g' c' w0 W _ hn8 hm (by omega) (by omega) (by rw [hsn]; omega) (by rw [hsn]; exact hxf) (by rw [hsn]; omega) h
            rw [ho] at ihk
            have hJ0 : 0 < J.length := by omega
            have hJ9 : J.length ≤ 1000000000 := by omega
            have hsz := O.bel.size
            have hE : (wr.alloc (.cells #[] 3)).ownsRow wr.heap.size 3 1 (.slice (some ⟨wr.heap.size, 0, none⟩) 0 0) 0 [] := World.ownsRow_made wr #[] 0 (Nat.le_refl _) (by decide) rfl
            clear ih ho hx1 hX hsn hxf hxl
            go_wp2_with (at_builtin; first
              | (refine wpList_append_one rfl (.tmp 31) (.tmp 33) 24 rfl w0.heap.size 3 i0 (.int .i64 0) Try.underlying24 hi hj0 hj1 hj2 rfl v' H.length _ rfl (h1.alloc _) ⟨w2.heap.size, 0, none⟩ 1 _ rfl (new_one _ _ _) rfl (by omega) (by simp; omega) ?_; intro v'' w3 hown1 hg1 hb1; replace O := O.iapp hown1 hg1 hb1; rw [hJ] at O; obtain ⟨g2, c2, rfl⟩ := own_form O hJ0; have r2 := O.row (v := .slice (some ⟨g2, 0, none⟩) J.length c2) (L := J) List.mem_cons_self rfl rfl; have hG := specGolomb_any (some ⟨g2, 0, none⟩) c2 _ J w3 rfl hJ9 r2; clear hown1 hg1 hb1 h1 r2)
              | (refine wpList_append_own _ rfl (.tmp 29) (.tmp 30) 24 rfl wr.heap.size 3 i0 (.int .i64 0) 1 8 Try.underlying24 hi hj0 hj1 hj2 rfl (by decide) (.slice (some ⟨wr.heap.size, 0, none⟩) 0 0) 0 [] rfl hE ⟨g, 0, none⟩ H.length c (ints H) rfl (by rw [ints_length, Nat.mul_one]) (O.news rfl _) (ints_one _) (by unfold maxLen; omega) (by omega) (by simp) ?_; intro v' w2 hown1 hgrow1 _; replace O := O.spread rfl hown1 hgrow1; have h1 := O.hd; have hsz2 := O.bel.size; clear hown1 hgrow1 hE))
            with_reducible refine hG.mono ?_
            clear hG
            rintro e w4 ⟨rfl, b⟩
            replace O := O.keep b
            clear b
            rcases hgb : golB J with _ | _
            · replace ho2 := ho2.trans (show (if golB J = true then o else none) = none by rw [hgb]; rfl)
              rw [firstSome_none ho2] at hX1
              have O4 := O.tl
              have hX2 : Hid (firstSome (fun j => if golB (H ++ [z + 1 + (j : Int)]) = true then gl n m f (H ++ [z + 1 + (j : Int)]) else none) (j + 1) (T - (j + 1)) = X) := by
                rw [show T - (j + 1) = q by omega]; exact hX1
              clear O ho2 hX1 hq ihk hgb
              go_wp2_with fail
              go_roundw
              case rel => exact ⟨x + 1, j + 1, by show x + 1 = z + 1 + ((j + 1 : Nat) : Int); have := hxH.out; omega, by have := hxH.out; omega, by first | rfl | go_num, O4, hX2⟩
              case measure => simp [intOf]; omega
            · replace ho2 := ho2.trans (show (if golB J = true then o else none) = o by rw [hgb]; rfl)
              replace ihk := ihk g2 c2 w4 O
              clear O hgb
              go_wp2_with fail
              with_reducible refine ihk.mono ?_
              clear ihk
              cases o with
              | none =>
                rw [firstSome_none ho2] at hX1
                rintro e w5 ⟨A5, c5, rfl, O5⟩
                have O4 := O5.tl
                have hX2 : Hid (firstSome (fun j => if golB (H ++ [z + 1 + (j : Int)]) = true then gl n m f (H ++ [z + 1 + (j : Int)]) else none) (j + 1) (T - (j + 1)) = X) := by
                  rw [show T - (j + 1) = q by omega]; exact hX1
                clear O5 ho2 hX1 hq
                go_wp2_with fail
                go_roundw
                case rel => exact ⟨x + 1, j + 1, by show x + 1 = z + 1 + ((j + 1 : Nat) : Int); have := hxH.out; omega, by have := hxH.out; omega, by first | rfl | go_num, O4, hX2⟩
                case measure => simp [intOf]; omega
              | some L =>
                rw [firstSome_some ho2] at hX1
                subst hX1
                rintro e w5 ⟨A5, c5, rfl, O5⟩
                have O4 := foundG_some (r := irow (.slice (some ⟨g, 0, none⟩) H.length c) H) (O5.perm (List.Perm.swap _ _ _)).tl
                clear O5 ho2 hq
                go_wp2_with fail
                go_ret2
                exact O4
          · have e : T - j = 0 := by have := hx1; omega
            have hX1 := hX.out
            rw [e] at hX1
            replace hX1 : none = X := hX1
            subst hX1
            clear hX e ih hx1
            go_wp2_with fail
            go_ret2
            exact foundG_none (O.keep ((Below.refl _ _).alloc (Nat.le_refl _) _))

set_option maxRecDepth 100000 in
set_option maxHeartbeats 2000000 in
theorem specShortest_any (n : Int) (w : World) : Calls Try.prog 30 #[.int .i64 n] w (Copied (shortA n) w) := by
  have kb := Below.refl w.heap.size w
  by_cases h1 : 1 ≤ n ∧ n ≤ 5
  · have hI := in_to true n 1 5 w (decide_eq_true h1)
    obtain ⟨k, rfl⟩ := Int.eq_ofNat_of_zero_le (a := n) (by omega)
    obtain ⟨g1, g2⟩ := gl_golomb k (by omega) (by omega)
    have ht := topOf_le k (by omega)
    rw [shortA_in (by omega)]
    obtain ⟨s, hs⟩ : ∃ s : Nat, (k : Int) - 1 = s := ⟨k - 1, by omega⟩
    have hsT : s ≤ topOf k := by omega
    generalize shortL k = X at g2 ⊢
    generalize topOf k = T at g1 g2 ht hsT
    go_enter Try.func30, Try.ntmps30
    go_wp2_with fail
    refine hI.mono ?_
    rintro e w1 ⟨rfl, rfl⟩
    clear hI
    go_wp2_with fail
    go_loopw [3] (fun i wr => ∃ j : Nat, j ≤ T ∧ i = .int .i64 j ∧ Below w.heap.size w wr) (fun i _ => 12 - (intOf i).toNat)
    case atStart => exact ⟨s, hsT, rfl, kb⟩
    case round =>
      clear kb hs hsT
      obtain ⟨j, hj, rfl, kb⟩ := hrel
      have O := own_one ((Own.none w).keep kb) 0
      have hF := specFind_any j k j [0] _ _ w _ [] (by omega) (by omega) (by decide) (by simp; omega) (by decide +kernel) (by rw [last_nought]; omega) (by decide +kernel) O
      go_wp2_with fail
      refine hF.mono ?_
      clear hF O
      by_cases hlt : j < T
      · rw [g1 j hlt]
        rintro e w3 ⟨A3, c3, rfl, O3⟩
        have kb3 := O3.bel
        clear O3 g1 g2
        go_wp2_with fail
        go_roundw
        case rel => exact ⟨j + 1, by omega, by go_num, kb3⟩
        case measure => simp [intOf]; omega
      · obtain rfl : j = T := by omega
        rw [g2]
        rintro e w3 ⟨A3, c3, rfl, O3⟩
        have hc := O3.copied
        clear O3 g1 g2
        go_wp2_with fail
        go_ret
        exact hc
  · have hI := in_to false n 1 5 w (decide_eq_false h1)
    have hc := (Own.none w).empty.copied
    rw [shortA_out h1]
    go_enter Try.func30, Try.ntmps30
    go_wp2_with fail
    refine hI.mono ?_
    rintro e w1 ⟨rfl, rfl⟩
    clear hI
    go_wp2_with fail
    go_ret
    exact hc
end Go.Proofs.Ytokengeaiknmhaa
