/-
  The contract of the program's least weights of a mobile. Only new memory is written.
-/
import Derived.Test.YthefcbninpkncaaImplSettle
import Derived.Test.YthefcbninpkncaaSpecLeast
namespace Go.Proofs.Ythefcbninpkncaa
open Go.ChangeShapes Go.WideShapes Go.ChangeAt Go.RowKit Go.PlainAid

theorem implCopy_p (A : Option Addr) (n c : Nat) (L : List PartT) (w : World) (hn : L.length = n) (hm : n ≤ 1048576) (hA : A = none → n = 0 ∧ c = 0) (r : PartRow w A L) :
    Calls Try.prog 31 #[.slice A n c] w (PartCopied L w) := by
  obtain ⟨i0, hi, hz0, hz1, hz2⟩ := info_parts Try.infoPartT
  have hN := ptRow_news r
  have h1 := ptcells_one L
  have h2 := ptcells_len L
  have hadd : ∀ v' w', w'.ownsRow w.heap.size 33 5 v' (0 + n) ([] ++ ptcells L) → w.grownBy w' (Value.ownBlock (.slice none 0 0)) → PartCopied L w (.returned v') w' := fun v' w' o1 g1 => by
    rw [List.nil_append, Nat.zero_add] at o1
    exact own_ptcopied hn o1 ((Below.refl w.heap.size w).grown g1 (Nat.le_refl _) (fun k e => by cases e))
  rw [hn] at h2
  clear r
  generalize ptcells L = xs at hN h1 h2 hadd
  clear hn
  go_enter Try.func31, Try.ntmps31
  go_wp2_with (at_builtin; refine wpList_append_any _ rfl (.const (.slice none 0 0)) (.tmp 3) 24 rfl w.heap.size 33 i0 (.agg #[.int .i64 0, .int .i64 0, .int .i64 0, .int .i64 0, .int .i64 0]) 5 40 Try.underlying24 hi hz0 hz1 hz2 rfl (by decide) (.slice none 0 0) 0 [] rfl (World.ownsRow_nil _ _ _ _) A n c xs rfl h2 hA hN h1 (by unfold maxLen; omega) (by omega) (Nat.le_refl _) ?_; intro v1 w1 o1 g1 a1; have O1 := hadd v1 w1 o1 g1; clear o1 g1 a1)
  go_ret
  exact O1
set_option maxHeartbeats 2000000 in
theorem implLeast_no (A : Option Addr) (n c : Nat) (L : List PartT) (w : World) (hn : L.length = n) (hm : n ≤ 1048576) (hA : A = none → n = 0 ∧ c = 0) (r : PartRow w A L) (hb : ¬ MOk L) :
    Calls Try.prog 12 #[.slice A n c] w (GivesPartB L false w) := by
  have hB := fun W (r : PartRow W A L) => implMok A n c L W hn hm r
  have hC := fun W (r : PartRow W A L) => implCopy_p A n c L W hn hm hA r
  rw [mok_no hb] at hB
  clear hb hA
  go_enter Try.func12, Try.ntmps12
  go_wp2_with fail
  refine (hB _ r).mono ?_
  rintro e w1 ⟨rfl, b⟩
  replace r := r.keep b
  clear hB
  go_wp2_with fail
  refine (hC _ r).mono ?_
  rintro e w2 ⟨A2, c2, rfl, o, b2⟩
  have O := ptrow_copy ((Own.none w).keep b) o b2
  rw [hn] at O
  clear hC r o b b2
  go_wp2_with fail
  go_ret2
  exact ptrow_givesB O false
set_option maxHeartbeats 4000000 in
theorem implLeast_yes (A : Option Addr) (n c : Nat) (L : List PartT) (w : World) (hn : L.length = n) (hA : A = none → n = 0 ∧ c = 0) (r : PartRow w A L) (hL : MOk L) :
    Calls Try.prog 12 #[.slice A n c] w (GivesPartB (lwA L) (lwZ L) w) := by
  have n15 : 1 ≤ n ∧ n ≤ 15 := by have := hL.one; have := hL.len; omega
  have hB := fun W (r : PartRow W A L) => implMok A n c L W hn (by omega) r
  have hC := fun W (r : PartRow W A L) => implCopy_p A n c L W hn (by omega) hA r
  have hE := fun (B : Option Addr) (d : Nat) W (r : PartRow W B (put L (so L 0))) => implMok B n d (put L (so L 0)) W (by rw [put_length]; exact hn) (by omega) r
  rw [mok_yes hL] at hB
  have hyes : lwOk L → lwA L = put L (so L 0) ∧ lwZ L = true ∧ mok (put L (so L 0)) = true := fun g => ⟨if_pos ⟨hL, g⟩, decide_eq_true ⟨hL, g⟩, mok_yes ((so_mok hL).2 g)⟩
  have hno : ¬ lwOk L → lwA L = L ∧ lwZ L = false ∧ mok (put L (so L 0)) = false := fun g => ⟨if_neg fun h => g h.2, decide_eq_false fun h => g h.2, mok_no fun m => g ((so_mok hL).1 m)⟩
  generalize lwA L = M at hyes hno ⊢
  generalize lwZ L = z at hyes hno ⊢
  clear hA
  go_enter Try.func12, Try.ntmps12
  go_wp2_with fail
  refine (hB _ r).mono ?_
  rintro e w1 ⟨rfl, b⟩
  have r1 := r.keep b
  clear hB
  go_wp2_with fail
  refine (hC _ r1).mono ?_
  rintro e w2 ⟨A2, c2, rfl, o, b2⟩
  have O := ptrow_copy ((Own.none w).keep b) o b2
  rw [hn] at O
  clear o b b2 r1
  obtain ⟨g, cc, hA2⟩ := ptrow_form O (by omega)
  injection hA2 with hA2 hA3 hA4
  clear hA3 hA4
  subst hA2
  have O3 : Own w w2 [ptrow (.slice (some ⟨g, 0, none⟩) n c2) (put L (wu L))] := by
    rw [put_wu]; exact O
  clear O
  have hs := inv_end L (wu L)
  rw [hn] at hs
  rw [hn]
  go_wp2_with fail
  go_loopw [5] (fun i wr => ∃ (j : Nat) (u : Nat → Int), j ≤ n ∧ i = .int .i64 ((j : Int) - 1) ∧ Inv L j u ∧ Own w wr [ptrow (.slice (some ⟨g, 0, none⟩) n c2) (put L u)]) (fun i _ => (intOf i + 1).toNat)
  case atStart => exact ⟨n, wu L, Nat.le_refl _, rfl, hs, O3⟩
  case round =>
    clear O3 hs
    obtain ⟨j, u, hj, rfl, iv, O⟩ := hrel
    rcases Nat.eq_zero_or_pos j with rfl | hpos
    · rw [inv_zero hL iv] at O
      have r2 := ptrow_reads O List.mem_cons_self rfl (by rw [put_length, hn])
      replace hE := fun W r => hE (some ⟨g, 0, none⟩) c2 W r
      by_cases g1 : lwOk L
      · obtain ⟨rfl, rfl, e3⟩ := hyes g1
        rw [e3] at hE
        clear hyes hno iv e3 hC r
        go_wp2_with fail
        refine (hE _ r2).mono ?_
        rintro e w4 ⟨rfl, b⟩
        replace O := O.keep b
        clear hE b r2
        go_wp2_with fail
        go_ret2
        exact ptrow_givesB O true
      · obtain ⟨rfl, rfl, e3⟩ := hno g1
        rw [e3] at hE
        clear hyes hno iv e3
        go_wp2_with fail
        refine (hE _ r2).mono ?_
        rintro e w4 ⟨rfl, b⟩
        replace O := O.keep b
        replace r := r.keep O.bel
        clear hE b r2
        go_wp2_with fail
        refine (hC _ r).mono ?_
        rintro e w5 ⟨A3, c3, rfl, o, b2⟩
        have O5 := own_sub (ptrow_copy O o b2) (R' := [ptrow (.slice A3 M.length c3) M]) (.cons_cons _ (List.nil_sublist _))
        rw [hn] at O5
        clear hC r o b2 O
        rw [hn]
        go_wp2_with fail
        go_ret2
        exact ptrow_givesB O5 false
    · obtain ⟨k, rfl⟩ : ∃ k, j = k + 1 := ⟨j - 1, by omega⟩
      have hk : k < L.length := by omega
      have hkn : k < n := by omega
      have hki : ((k + 1 : Nat) : Int) - 1 = (k : Int) := by omega
      rw [hki]
      have hS := implSettle hL w g n c2 hn k hk u [] wr iv O
      have iv2 := stp_inv hL iv
      generalize stp L k u = u2 at hS iv2
      clear hyes hno iv hC hE
      go_wp2_with fail
      refine hS.mono ?_
      rintro e w4 ⟨rfl, O4⟩
      clear hS
      go_wp2_with fail
      go_roundw
      case rel => exact ⟨k, u2, by omega, rfl, iv2, O4⟩
      case measure => simp [intOf]
end Go.Proofs.Ythefcbninpkncaa
