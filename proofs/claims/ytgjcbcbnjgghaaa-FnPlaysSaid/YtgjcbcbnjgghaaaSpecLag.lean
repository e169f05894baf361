/-
  The contracts of the model's count of moves and greatest lag. Only new memory is written.
-/
import Derived.Test.YtgjcbcbnjgghaaaSpecPlay
namespace Go.Proofs.Ytgjcbcbnjgghaaa
open Go.ChangeShapes Go.WideShapes Go.ChangeAt Go.RowKit Go.PlainAid

/-- A slice of these ints is answered, only new memory is written. -/
def GivesRow (P : List Int) (N : Nat) (w : World) (e : Ending) (w' : World) : Prop := ∃ (B : Option Addr) (c : Nat), e = .returned (.slice B N c) ∧ IntRow w' B P ∧ Below w.heap.size w w'
theorem Copied.row {P : List Int} {w : World} {e : Ending} {w' : World} (h : Copied P w e w') {N : Nat} (hN : P.length = N) : GivesRow P N w e w' := by
  subst hN
  obtain ⟨B, c, rfl, o, kb⟩ := h
  exact ⟨B, c, rfl, intRow_own o, kb⟩

set_option maxRecDepth 100000 in
theorem specMoves_any (h s : Int) (A : Option Addr) (c n : Nat) (L : List Int) (w : World) (hn : L.length = n) (hm : n ≤ 1000000000) (r : IntRow w A L) :
    Calls Try.prog 25 #[.int .i64 h, .int .i64 s, .slice A n c] w (SaysI (movsA h s L) w) := by
  have hS := specAll_any h s A c n L w hn hm r
  by_cases g : playP h s L
  · rw [pathA_yes g, hn] at hS
    rw [movsA_yes g, hn]
    have hS2 := hS.mono fun e w' k => Copied.row k (pathTo_len h s L n)
    obtain ⟨N, hN⟩ : ∃ N, n + 1 = N := ⟨_, rfl⟩
    rw [hN] at hS2
    have hn60 : n ≤ 60 := by have := g.2.1; omega
    have hmv := Lib.hid (movs_le h s L)
    have hNi : Hid (n + 1 = N) := Lib.hid hN
    have hN0 : ¬ (N : Int) = 0 := by omega
    have hN61 : (N : Int) ≤ 61 := by omega
    clear hS r hm g hn
    clear hN
    go_enter Try.func25, Try.ntmps25
    go_wp2_with fail
    refine hS2.mono ?_
    clear hS2
    rintro e w1 ⟨B, c2, rfl, r, kb⟩
    go_wp2_with fail
    go_loopw [8, 9] (fun m i wr => ∃ k j : Nat, k ≤ N ∧ Hid (k = j + 1) ∧ m = .int .i64 (movs h s L j) ∧ i = .int .i64 k ∧ Below w1.heap.size w1 wr) (fun _ i _ => N - (intOf i).toNat)
    case atStart => exact ⟨1, 0, by omega, Lib.hid rfl, rfl, rfl, Below.refl _ _⟩
    case round =>
      obtain ⟨k, j, hk, hkj, rfl, rfl, kb2⟩ := hrel
      by_cases hlt : k < N
      · have hki : (k : Int) < N := by omega
        have hjn : j < n := by have := hkj.out; have := hNi.out; omega
        have hji : (j : Int) < N := by have := hNi.out; omega
        have hkm : (k : Int) - 1 = j := by have := hkj.out; omega
        have hkw : IntKind.i64.wrap ((k : Int) - 1) = j := by rw [hkm, IntKind.wrap_i64]; all_goals omega
        obtain ⟨x, rfl, hx0, hx⟩ := r k (by rw [pathTo_len]; have := hNi.out; omega)
        obtain ⟨y, hy, hy0, hx2⟩ := r j (by rw [pathTo_len]; omega)
        injection hy with hy
        subst hy
        replace hx := (kb2.cell (by rw [addr_add_block]; exact hx0)).trans hx
        replace hx2 := (kb2.cell (by rw [addr_add_block]; exact hx0)).trans hx2
        rw [pathTo_get (by have := hNi.out; omega), hkj.out] at hx
        rw [pathTo_get (by omega)] at hx2
        rw [← hkj.out] at hx
        have mb := hmv.out j
        by_cases e : sh h s L (j + 1) = sh h s L j
        · have hm2 := Lib.hid (movs_same e)
          rw [hkj.out, e, ← hkj.out] at hx
          generalize sh h s L j = a at hx hx2
          clear e r hx0
          go_wp2_with fail
          go_quiet (fail)
          go_wp2_with fail
          have kb3 := kb2.trans (below_drewN (Below.refl w1.heap.size wr) nq)
          clear hx hx2
          go_roundw
          case rel => exact ⟨k + 1, j + 1, by omega, Lib.hid (by rw [hkj.out]), by rw [hm2.out], by go_num, kb3⟩
          case measure => simp [intOf]; omega
        · have hm2 := Lib.hid (movs_moved e)
          have hab : (sh h s L (j + 1) != sh h s L j) = true := bne_iff_ne.2 e
          rw [hkj.out] at hx
          generalize sh h s L (j + 1) = a at hx hab
          generalize sh h s L j = b at hx2 hab
          rw [← hkj.out] at hx
          clear e r hx0
          go_wp2_with fail
          go_quiet (fail)
          go_wp2_with fail
          have kb3 := kb2.trans (below_drewN (Below.refl w1.heap.size wr) nq)
          clear hx hx2
          go_roundw
          case rel => exact ⟨k + 1, j + 1, by omega, Lib.hid (by rw [hkj.out]), by rw [hm2.out], by go_num, kb3⟩
          case measure => simp [intOf]; omega
      · obtain rfl : k = N := by omega
        obtain rfl : j = n := by have := hkj.out; have := hNi.out; omega
        have hkk : ¬ (k : Int) < k := by omega
        have kb4 := below_more kb kb.size kb2
        clear kb kb2 r
        go_wp2_with fail
        go_ret
        exact ⟨rfl, kb4⟩
  · rw [pathA_no g] at hS
    rw [movsA_no g]
    have hS2 := hS.mono fun e w' k => Copied.row (N := 0) k rfl
    clear hS r hm g hn
    go_enter Try.func25, Try.ntmps25
    go_wp2_with fail
    refine hS2.mono ?_
    clear hS2
    rintro e w1 ⟨B, c2, rfl, r, kb⟩
    go_wp2_with fail
    refine wp_loop_rounds 1 ?_
    rw [rounds_succ]
    go_wp2_with fail
    go_ret
    exact ⟨rfl, kb⟩

set_option maxRecDepth 100000 in
theorem specLag_any (h s : Int) (A : Option Addr) (c n : Nat) (L : List Int) (w : World) (hn : L.length = n) (hm : n ≤ 1000000000) (r : IntRow w A L) :
    Calls Try.prog 26 #[.int .i64 h, .int .i64 s, .slice A n c] w (SaysI (lagsA h s L) w) := by
  have hS := specAll_any h s A c n L w hn hm r
  by_cases g : playP h s L
  · rw [pathA_yes g, hn] at hS
    rw [lagsA_yes g, hn]
    have hS2 := hS.mono fun e w' k => Copied.row k (pathTo_len h s L n)
    obtain ⟨N, hN⟩ : ∃ N, n + 1 = N := ⟨_, rfl⟩
    rw [hN] at hS2
    have hn60 : n ≤ 60 := by have := g.2.1; omega
    have hlg := Lib.hid (lag_in g)
    have hsi := Lib.hid (sh_in g)
    have hh := g.1.1
    have hxi := Lib.hid g.2.2
    have hNi : Hid (n + 1 = N) := Lib.hid hN
    have hN0 : ¬ (N : Int) = 0 := by omega
    have hN61 : (N : Int) ≤ 61 := by omega
    clear hS hm g
    clear hN
    replace hn := Lib.hid hn
    go_enter Try.func26, Try.ntmps26
    go_wp2_with fail
    refine hS2.mono ?_
    clear hS2
    rintro e w1 ⟨B, c2, rfl, p, kb⟩
    replace r := r.keep kb
    go_wp2_with fail
    go_loopw [8, 9] (fun m i wr => ∃ k j : Nat, k ≤ N ∧ Hid (k = j + 1) ∧ m = .int .i64 (lagA h s L j) ∧ i = .int .i64 k ∧ Below w1.heap.size w1 wr) (fun _ i _ => N - (intOf i).toNat)
    case atStart => exact ⟨1, 0, by omega, Lib.hid rfl, rfl, rfl, Below.refl _ _⟩
    case round =>
      obtain ⟨k, j, hk, hkj, rfl, rfl, kb2⟩ := hrel
      by_cases hlt : k < N
      · have hki : (k : Int) < N := by omega
        have hjn : j < n := by have := hkj.out; have := hNi.out; omega
        have hji : (j : Int) < n := by omega
        have hkm : (k : Int) - 1 = j := by have := hkj.out; omega
        have hkw : IntKind.i64.wrap ((k : Int) - 1) = j := by rw [hkm, IntKind.wrap_i64]; all_goals omega
        obtain ⟨x, rfl, hx0, hx⟩ := p k (by rw [pathTo_len]; have := hNi.out; omega)
        obtain ⟨y, rfl, hy0, hy⟩ := r j (by rw [hn.out]; omega)
        replace hx := (kb2.cell (by rw [addr_add_block]; exact hx0)).trans hx
        replace hy := (kb2.cell (by rw [addr_add_block]; exact hy0)).trans hy
        rw [pathTo_get (by have := hNi.out; omega), hkj.out] at hx
        rw [← hkj.out] at hx
        obtain ⟨l0, l1⟩ := hlg.out j (by rw [hn.out]; omega)
        obtain ⟨s0, s1, -⟩ := hsi.out k (by rw [hn.out]; have := hkj.out; omega)
        obtain ⟨x0, x1⟩ := hxi.out j (by rw [hn.out]; omega)
        have hm2 : Hid (lagA h s L (j + 1) = gr3 (lagA h s L j) (L.getD j 0 - sh h s L k) (sh h s L k - L.getD j 0)) := Lib.hid (by rw [hkj.out]; rfl)
        generalize lagA h s L j = g at l0 l1 hm2 ⊢
        generalize sh h s L k = a at hx s0 s1 hm2
        generalize L.getD j 0 = z at hy x0 x1 hm2
        obtain ⟨M, hM⟩ : ∃ M, gr3 g (a - z) (z - a) = M := ⟨_, rfl⟩
        have hmx := run_max3 Try.prog hM
        replace hM := Lib.hid hM
        clear p r hx0 hy0
        go_wp2_with fail
        have kb3 := kb2.trans (below_drewN (Below.refl w1.heap.size wr) 1)
        go_region
        go_wp2_with fail
        clear hx hy
        go_roundw
        case rel => exact ⟨k + 1, j + 1, by omega, Lib.hid (by rw [hkj.out]), by rw [hm2.out, gr3_swap, hM.out], by go_num, kb3⟩
        case measure => simp [intOf]; omega
      · obtain rfl : k = N := by omega
        obtain rfl : j = n := by have := hkj.out; have := hNi.out; omega
        have hkk : ¬ (k : Int) < k := by omega
        have kb4 := below_more kb kb.size kb2
        clear kb kb2 r p
        go_wp2_with fail
        go_ret
        exact ⟨rfl, kb4⟩
  · rw [pathA_no g] at hS
    rw [lagsA_no g]
    have hS2 := hS.mono fun e w' k => Copied.row (N := 0) k rfl
    clear hS r hm g hn
    go_enter Try.func26, Try.ntmps26
    go_wp2_with fail
    refine hS2.mono ?_
    clear hS2
    rintro e w1 ⟨B, c2, rfl, r, kb⟩
    go_wp2_with fail
    refine wp_loop_rounds 1 ?_
    rw [rounds_succ]
    go_wp2_with fail
    go_ret
    exact ⟨rfl, kb⟩
end Go.Proofs.Ytgjcbcbnjgghaaa
