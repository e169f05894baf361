/-
  The contracts of the program's marks that are turned or stretched. Only new memory is written.
-/
import Derived.Test.YtfokchmmeflhiaaImplCircle
import Derived.Test.YtfokchmmeflhiaaCircMove
import Derived.Test.YtfokchmmeflhiaaLibSome
import Derived.Test.YtfokchmmeflhiaaOwnMore
import Derived.Test.YtfokchmmeflhiaaGcd
import Derived.OwnWalk
namespace Go.Proofs.Ytfokchmmeflhiaa
open Go.ChangeShapes Go.WideShapes Go.ChangeAt Go.RowKit Go.PlainAid

set_option maxRecDepth 100000 in
theorem implMoved_any (N f b : Int) (A : Option Addr) (c n : Nat) (L : List Int) (w : World) (hn : L.length = n) (hP : CircP N L) (hf : 0 ≤ f ∧ f ≤ 60) (hb : 0 ≤ b ∧ b ≤ 60) (h : IntRow w A L) :
    Calls Try.prog 32 #[.int .i64 N, .slice A n c, .int .i64 f, .int .i64 b] w (Copied (sortL (movL N f b L)) w) := by
  obtain ⟨i0, hi, hj0, hj1, hj2⟩ := info_parts Try.infoIntT
  have hn8 : 1 ≤ n ∧ n ≤ 8 := by have := hP.1.2; omega
  have hN : 1 ≤ N ∧ N ≤ 60 := hP.1.1
  have hw := Lib.hid fun k (hk : k < n) => mov_walk hP hf hb (k := k) (by omega)
  have hset := Lib.hid fun k (hk : k < n) => movTo_set N f b (L := L) (k := k) (by omega)
  have hlen := Lib.hid fun k (hk : k ≤ n) => (movTo_len N f b (L := L) (k := k) (by omega)).trans hn
  have hall := movTo_all N f b L
  have hz := movTo_zero N f b L
  rw [hn] at hall hz
  have hml := movL_len N f b L
  rw [hn] at hml
  obtain ⟨Z, hZ⟩ : ∃ Z, movL N f b L = Z := ⟨_, rfl⟩
  rw [hZ] at hall hml ⊢
  clear hZ
  replace hall := Lib.hid hall
  have hval : Hid (∀ k, k < n → 0 ≤ L.getD k 0 ∧ L.getD k 0 ≤ 59) := fun k hk => (hP.2 k (by omega)).1
  clear hP
  go_enter Try.func32, Try.ntmps32
  go_wp2_with (at_make; refine wpList_make_full _ rfl _ _ 24 rfl w.heap.size 3 i0 (.int .i64 0) 1 Try.underlying24 hi hj0 hj1 .i64 .i64 _ _ n rfl rfl rfl rfl (by rw [hj2]; omega) (by unfold maxLen; omega) (Nat.le_refl _) ?_; intro w2 hown0 hgrow0; have O := (Own.none w).made hown0 hgrow0; clear hown0 hgrow0)
  obtain ⟨g, hg⟩ : ∃ g, w.heap.size = g := ⟨_, rfl⟩
  rw [hg, ← hz] at O
  simp only [hg]
  clear hg hz
  replace hn := Lib.hid hn
  replace hml := Lib.hid hml
  go_loopw [17] (fun i wr => ∃ k : Nat, k ≤ n ∧ i = .int .i64 k ∧ Own w wr [irow (.slice (some ⟨g, 0, none⟩) n n) (movTo N f b L k)]) (fun i _ => n - (intOf i).toNat)
  case atStart => exact ⟨0, by omega, rfl, O⟩
  case round =>
    clear O
    obtain ⟨k, hk, rfl, O⟩ := hrel
    by_cases hlt : k < n
    · obtain ⟨x, rfl, hx0, hx⟩ := h k (by rw [hn.out]; exact hlt)
      replace hx := (O.bel.cell (by rw [addr_add_block]; exact hx0)).trans hx
      obtain ⟨m1, m2, m3⟩ := hw.out k hlt
      have v1 := hval.out k hlt
      obtain ⟨⟨u, hu⟩, hf0, O2⟩ := O.store (hlen.out k hk) hlt ((L.getD k 0 * f + b) % N)
      rw [hset.out k hlt] at O2
      replace O2 := Lib.hid O2
      have hki : (k : Int) < n := by omega
      clear O m3 h
      generalize L.getD k 0 = z at hx m1 m2 O2 v1
      have hN0 : ¬ N = 0 := by omega
      go_wp2_with fail
      have O3 := O2.out
      clear O2 hx hu hf0
      go_roundw
      case rel => exact ⟨k + 1, by omega, by go_num, O3⟩
      case measure => simp [intOf]; omega
    · obtain rfl : k = n := by omega
      rw [hall.out] at O
      have hki : ¬ (k : Int) < k := by omega
      have O2 : Own w wr [irow (.slice (some ⟨g, 0, none⟩) Z.length k) Z] := by rw [hml.out]; exact O
      have hS := sort_some Z (some ⟨g, 0, none⟩) k [] O2 (by rw [hml.out]; omega) (by rw [hml.out]; omega)
      rw [hml.out] at hS
      clear O O2 h
      go_wp2_with fail
      refine hS.mono ?_
      clear hS
      rintro e w3 ⟨rfl, O3⟩
      have O4 : Own w w3 [irow (.slice (some ⟨g, 0, none⟩) (sortL Z).length k) (sortL Z)] := by rw [sortL_length, hml.out]; exact O3
      have hc := O4.copied
      rw [sortL_length, hml.out] at hc
      clear O3 O4
      go_wp2_with fail
      go_ret
      exact hc

set_option maxRecDepth 100000 in
theorem implTurn_any (N b : Int) (A : Option Addr) (c n : Nat) (L : List Int) (w : World) (hn : L.length = n) (hm : n ≤ 1000000000) (h : IntRow w A L) :
    Calls Try.prog 14 #[.int .i64 N, .slice A n c, .int .i64 b] w (Copied (turnA N L b) w) := by
  have hS := implCircle_any N A c n L w hn hm h
  have hnil := fun q => own_copied (w := w) (L := []) rfl (World.ownsRow_nil _ _ _ _) (below_drewN (Below.refl w.heap.size w) q)
  go_enter Try.func14, Try.ntmps14
  rcases hb : circB N L with _ | _
  · rw [hb] at hS
    rw [turnA_no hb]
    clear h
    go_wp2_with fail
    refine hS.mono ?_
    clear hS
    rintro e w1 ⟨rfl, q, rfl⟩
    have O1 := hnil q
    clear hnil
    go_wp2_with fail
    go_ret
    exact O1
  · rw [hb] at hS
    have hP := circB_P hb
    by_cases h0 : 0 ≤ b ∧ b < N
    · rw [turnA_yes hb h0]
      have hN : 1 ≤ N ∧ N ≤ 60 := hP.1.1
      have g1 : ¬ b < 0 := by omega
      have g2 : ¬ N ≤ b := by omega
      have hM := fun W (r : IntRow W A L) => implMoved_any N 1 b A c n L W hn hP (by omega) (by omega) r
      clear hnil hP
      go_wp2_with fail
      refine hS.mono ?_
      clear hS
      rintro e w1 ⟨rfl, q, rfl⟩
      have kb := below_drewN (Below.refl w.heap.size w) q
      replace h := h.keep kb
      generalize w.drewN q = w1 at kb h ⊢
      go_wp2_with fail
      refine (hM _ h).mono ?_
      clear hM h
      rintro e w2 ⟨B, c2, rfl, o, kb2⟩
      have O := ((Own.none w).keep kb).add kb2 o
      have hc := Own.copied O
      clear O o kb kb2
      go_wp2_with fail
      go_ret
      exact hc
    · rw [turnA_out h0]
      clear h
      go_wp2_with fail
      refine hS.mono ?_
      clear hS
      rintro e w1 ⟨rfl, q, rfl⟩
      have O1 := hnil q
      clear hnil
      by_cases g1 : b < 0
      · go_wp2_with fail
        go_ret
        exact O1
      · have g2 : N ≤ b := by omega
        go_wp2_with fail
        go_ret
        exact O1

set_option maxRecDepth 100000 in
theorem implStretch_any (N b : Int) (A : Option Addr) (c n : Nat) (L : List Int) (w : World) (hn : L.length = n) (hm : n ≤ 1000000000) (h : IntRow w A L) :
    Calls Try.prog 16 #[.int .i64 N, .slice A n c, .int .i64 b] w (Copied (strA N L b) w) := by
  have hS := implCircle_any N A c n L w hn hm h
  have hnil := fun W (k : Below w.heap.size w W) => own_copied (w := w) (L := []) rfl (World.ownsRow_nil _ _ _ _) k
  go_enter Try.func16, Try.ntmps16
  rcases hb : circB N L with _ | _
  · rw [hb] at hS
    rw [strA_no hb]
    clear h
    go_wp2_with fail
    refine hS.mono ?_
    clear hS
    rintro e w1 ⟨rfl, q, rfl⟩
    have O1 := hnil _ (below_drewN (Below.refl w.heap.size w) q)
    clear hnil
    go_wp2_with fail
    go_ret
    exact O1
  · rw [hb] at hS
    have hP := circB_P hb
    by_cases h0 : 1 ≤ b ∧ b < N
    · have hN : 1 ≤ N ∧ N ≤ 60 := hP.1.1
      have g1 : ¬ b < 1 := by omega
      have g2 : ¬ N ≤ b := by omega
      have hG := fun W => implGcd_any b N W (by omega) (by omega) (by omega) (by omega)
      by_cases hg : Int.gcd b N = 1
      · rw [strA_yes hb h0 hg]
        rw [hg] at hG
        have hM := fun W (r : IntRow W A L) => implMoved_any N b 0 A c n L W hn hP (by omega) (by omega) r
        clear hnil hP hg
        go_wp2_with fail
        refine hS.mono ?_
        clear hS
        rintro e w1 ⟨rfl, q, rfl⟩
        have kb := below_drewN (Below.refl w.heap.size w) q
        replace h := h.keep kb
        generalize w.drewN q = w1 at kb h ⊢
        go_wp2_with fail
        refine (hG _).mono ?_
        clear hG
        rintro e w2 ⟨rfl, kb2⟩
        replace h := h.keep kb2
        replace kb := below_more kb kb.size kb2
        clear kb2
        go_wp2_with fail
        refine (hM _ h).mono ?_
        clear hM h
        rintro e w3 ⟨B, c2, rfl, o, kb2⟩
        have O := ((Own.none w).keep kb).add kb2 o
        have hc := Own.copied O
        clear O o kb kb2
        go_wp2_with fail
        go_ret
        exact hc
      · rw [strA_gcd hg]
        have hgp : 1 < Int.gcd b N := by
          have : Int.gcd b N ≠ 0 := fun e => by have := (Int.gcd_eq_zero_iff.1 e).1; omega
          omega
        generalize Int.gcd b N = d at hG hgp
        have hgi : (1 : Int) < d := by omega
        clear h hP hg
        go_wp2_with fail
        refine hS.mono ?_
        clear hS
        rintro e w1 ⟨rfl, q, rfl⟩
        have kb := below_drewN (Below.refl w.heap.size w) q
        generalize w.drewN q = w1 at kb ⊢
        go_wp2_with fail
        refine (hG _).mono ?_
        clear hG
        rintro e w2 ⟨rfl, kb2⟩
        have O1 := hnil _ (below_more kb kb.size kb2)
        clear hnil kb kb2
        go_wp2_with fail
        go_ret
        exact O1
    · rw [strA_out h0]
      clear h
      go_wp2_with fail
      refine hS.mono ?_
      clear hS
      rintro e w1 ⟨rfl, q, rfl⟩
      have O1 := hnil _ (below_drewN (Below.refl w.heap.size w) q)
      clear hnil
      by_cases g1 : b < 1
      · go_wp2_with fail
        go_ret
        exact O1
      · have g2 : N ≤ b := by omega
        go_wp2_with fail
        go_ret
        exact O1
end Go.Proofs.Ytfokchmmeflhiaa
