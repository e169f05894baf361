/-
  The contract of the model's count of arcs. Only new memory is written.
-/
import Derived.Test.YtfokchmmeflhiaaSpecCircle
import Derived.Test.YtfokchmmeflhiaaOwnMore
import Derived.OwnWalk
namespace Go.Proofs.Ytfokchmmeflhiaa
open Go.ChangeShapes Go.WideShapes Go.ChangeAt Go.RowKit Go.PlainAid

set_option maxRecDepth 100000 in
set_option maxHeartbeats 800000 in
theorem specArcs_any (N : Int) (A : Option Addr) (c n : Nat) (L : List Int) (w : World) (hn : L.length = n) (hm : n ≤ 1000000000) (h : IntRow w A L) :
    Calls Try.prog 23 #[.int .i64 N, .slice A n c] w (Copied (arcsA N L) w) := by
  obtain ⟨i0, hi, hj0, hj1, hj2⟩ := info_parts Try.infoIntT
  have hS := specCircle_any N A c n L w hn hm h
  rcases hb : circB N L with _ | _
  · rw [hb] at hS
    rw [arcsA_no hb]
    have O := fun q => (((Own.none w).drew q).empty).copied
    go_enter Try.func23, Try.ntmps23
    go_wp2_with fail
    refine hS.mono ?_
    clear hS
    rintro e w1 ⟨rfl, q, rfl⟩
    have O1 := O q
    clear O
    go_wp2_with fail
    go_ret
    exact O1
  · rw [hb] at hS
    rw [arcsA_yes hb]
    have hP := circB_P hb
    obtain ⟨M, rfl⟩ := Int.eq_ofNat_of_zero_le (a := N) (by have := hP.1.1.1; omega)
    have hM : 1 ≤ M ∧ M ≤ 60 := by have := hP.1.1; omega
    have hn8 : 1 ≤ n ∧ n ≤ 8 := by have := hP.1.2; omega
    have hlen : ∀ i, (arcTo (M : Int) L i).length = M := fun i => by rw [arcTo_len]; omega
    have hrow : ∀ i k, (arcRow (M : Int) L i (arcTo M L i) k).length = M := fun i k => by rw [arcRow_len, hlen]
    have hup : ∀ i k, i < n → k ≤ n → Upto (arcRow (M : Int) L i (arcTo M L i) k) 64 := fun i k g1 g2 => ((upto_to M L (by omega) i).row M L i k).more (by omega)
    have harc : ∀ i k, i < n → k < n → 0 ≤ L.getD k 0 - L.getD i 0 + M ∧ (L.getD k 0 - L.getD i 0 + M).tmod M = (arcD M L i k : Int) ∧ (arcD M L i k : Int) < M := fun i k g1 g2 => hP.arc (by omega) (by omega)
    have hval : ∀ k, k < n → 0 ≤ L.getD k 0 ∧ L.getD k 0 ≤ 59 := fun k hk => (hP.2 k (by omega)).1
    replace hlen := Lib.hid hlen
    replace hrow := Lib.hid hrow
    replace hup := Lib.hid hup
    replace harc := Lib.hid harc
    replace hval := Lib.hid hval
    clear hP hb
    go_enter Try.func23, Try.ntmps23
    go_wp2_with fail
    refine hS.mono ?_
    clear hS
    rintro e w1 ⟨rfl, q, rfl⟩
    have O := (Own.none w).drew q
    generalize w.drewN q = w1 at O ⊢
    go_wp2_with (at_make; refine wpList_make_full _ rfl _ _ 24 rfl w1.heap.size 3 i0 (.int .i64 0) 1 Try.underlying24 hi hj0 hj1 .i64 .i64 _ _ M rfl rfl rfl rfl (by rw [hj2]; omega) (by unfold maxLen; omega) (Nat.le_refl _) ?_; intro w2 hown0 hgrow0)
    replace O := O.made hown0 hgrow0
    clear hown0 hgrow0
    obtain ⟨g, hg⟩ : ∃ g, w1.heap.size = g := ⟨_, rfl⟩
    rw [hg] at O
    simp only [hg]
    have e0 : List.replicate M 0 = arcTo (M : Int) L 0 := by show _ = List.replicate (M : Int).toNat 0; rw [Int.toNat_natCast]
    rw [e0] at O
    clear hg e0
    replace h := Lib.hid h
    go_loopw [6] (fun i wr => ∃ k : Nat, k ≤ n ∧ i = .int .i64 k ∧ Own w wr [irow (.slice (some ⟨g, 0, none⟩) M M) (arcTo M L k)]) (fun i _ => n - (intOf i).toNat)
    case atStart => exact ⟨0, by omega, rfl, O⟩
    case round =>
      replace h := h.out
      clear O
      obtain ⟨i, hi', rfl, O⟩ := hrel
      have kb0 := O.bel
      by_cases hlt : i < n
      · have O0 : Own w wr [irow (.slice (some ⟨g, 0, none⟩) M M) (arcRow M L i (arcTo M L i) 0)] := O
        have hin : (i : Int) < n := by omega
        clear O
        replace h := Lib.hid h
        go_wp2_with fail
        go_loopw [7] (fun i' wr => ∃ k : Nat, k ≤ n ∧ i' = .int .i64 k ∧ Own w wr [irow (.slice (some ⟨g, 0, none⟩) M M) (arcRow M L i (arcTo M L i) k)]) (fun i' _ => n - (intOf i').toNat)
        case atStart => exact ⟨0, by omega, rfl, O0⟩
        case round =>
          clear O0 kb0
          obtain ⟨k, hk, rfl, O⟩ := hrel
          replace h := h.out
          by_cases hkn : k < n
          · obtain ⟨x, rfl, hx0, hx⟩ := h i (by omega)
            obtain ⟨y, hy, hy0, hx2⟩ := h k (by omega)
            injection hy with hy
            subst hy
            replace hx := (O.bel.cell (by rw [addr_add_block]; exact hx0)).trans hx
            replace hx2 := (O.bel.cell (by rw [addr_add_block]; exact hx0)).trans hx2
            have hki : (k : Int) < n := by omega
            by_cases hik : i = k
            · have e : arcRow (M : Int) L i (arcTo M L i) (k + 1) = arcRow M L i (arcTo M L i) k := by
                show arcStep _ _ _ _ _ = _
                unfold arcStep
                rw [if_pos hik]
              have hii : ((i : Int) != (k : Int)) = false := by simp [hik]
              rw [← e] at O
              clear hx hx2 h e hx0
              go_wp2_with fail
              go_roundw
              case rel => exact ⟨k + 1, by omega, by go_num, O⟩
              case measure => simp [intOf]; omega
            · have e : arcRow (M : Int) L i (arcTo M L i) (k + 1) = (arcRow M L i (arcTo M L i) k).set (arcD M L i k) ((arcRow M L i (arcTo M L i) k).getD (arcD M L i k) 0 + 1) := by
                show arcStep _ _ _ _ _ = _
                unfold arcStep
                rw [if_neg hik]
              have hii : ((i : Int) != (k : Int)) = true := by simp; omega
              obtain ⟨a1, a2, a3⟩ := harc.out i k hlt hkn
              have hl := hrow.out i k
              have hu := hup.out i k hlt hk (arcD M L i k)
              have v1 := hval.out i hlt
              have v2 := hval.out k hkn
              generalize arcRow (M : Int) L i (arcTo M L i) k = C at O e hl hu
              have hc := O.cell hl (show arcD (M : Int) L i k < M by omega)
              obtain ⟨-, hf, O2⟩ := O.store hl (show arcD (M : Int) L i k < M by omega) (C.getD (arcD M L i k) 0 + 1)
              rw [← e] at O2
              clear O e
              replace O2 := Lib.hid O2
              generalize C.getD (arcD M L i k) 0 = v at hc hu O2 ⊢
              generalize arcD M L i k = D at a2 a3 hc hf O2 ⊢
              generalize L.getD i 0 = zi at hx a1 a2 v1
              generalize L.getD k 0 = zk at hx2 a1 a2 v2
              clear h hx0
              have O3 := Lib.hid fun q => O2.out.drew q
              clear O2
              go_wp2_with fail
              go_quiet (fail)
              go_wp2_with fail
              have O2 := O3.out nq
              clear O3 hx hx2 hc hf
              go_roundw
              case rel => exact ⟨k + 1, by omega, by go_num, O2⟩
              case measure => simp [intOf]; omega
          · obtain rfl : k = n := by omega
            have e : arcRow (M : Int) L i (arcTo M L i) k = arcTo M L (i + 1) := by rw [← hn]; rfl
            rw [e] at O
            clear e h
            go_wp2_with fail
            go_roundw
            case rel => exact ⟨i + 1, by omega, by go_num, O⟩
            case measure => simp [intOf]; omega
      · obtain rfl : i = n := by omega
        have e : arcTo (M : Int) L i = arcsL M L := by rw [← hn]; rfl
        rw [e] at O
        have hl := hlen.out L.length
        replace hl : (arcsL (M : Int) L).length = M := hl
        have O2 : Own w wr [irow (.slice (some ⟨g, 0, none⟩) (arcsL (M : Int) L).length M) (arcsL M L)] := by rw [hl]; exact O
        have hc := O2.copied
        rw [hl] at hc
        clear O O2 h e
        go_wp2_with fail
        go_ret
        exact hc
end Go.Proofs.Ytfokchmmeflhiaa
