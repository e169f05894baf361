/-
  The law on steelyards: the slider finds the load, and the marks are equally far apart.
-/
import Derived.Test.YtjgonmabmannaaaAtFix
import Derived.Test.YtjgonmabmannaaaDrawYard
import Derived.Test.YtjgonmabmannaaaBoxed
import Derived.Test.YtjgonmabmannaaaAddI
import Derived.Test.YtjgonmabmannaaaImplLev
import Derived.Test.YtjgonmabmannaaaImplMarks
import Derived.BigQuiet
import Derived.Deep.RegionLaw
import Derived.Deep.DeepCutAuto
import Derived.Deep.RegionHeld3
import Derived.Lib.Hide
namespace Go.Proofs.Ytjgonmabmannaaa
open Go.ChangeShapes Go.WideShapes Go.ChangeAt Go.RowKit Go.PlainAid

set_option maxRecDepth 100000 in
theorem steelyards_big (a : Option Addr) (len cap : Nat) (w : World) (hl : 1048576 < len) (hm : len ≤ 9223372036854775807) :
    Calls Try.prog 3 #[.slice a len cap] w fun e w' => e = .returned (.bool true) ∧ Below w.heap.size w w' := by
  have hb : (1048576 : Int) < len := by omega
  clear hm
  go_enter Try.func3, Try.ntmps3
  go_wp2_with (go_at_call 9; go_in)
  go_ret
  exact ⟨rfl, Below.refl _ _⟩

/-- What the law's calls answer of a small steelyard. -/
structure YFacts (p s e n u T B X Y : Int) (M : Nat → Int × Int) : Prop where
  mark : ∀ W : World, Calls Try.prog 12 #[agg3 p s e, .int .i64 n] W (SaysF T B true W)
  load : ∀ W : World, Calls Try.prog 13 #[agg3 p s e, .agg #[.int .i64 T, .int .i64 B]] W (SaysF n 1 true W)
  marks : ∀ W : World, Calls Try.prog 14 #[agg3 p s e, .int .i64 u, .int .i64 4] W (FractionCopied (mrks p s e u 5) W)
  get : ∀ k, k < 5 → frget (mrks p s e u 5) k = ⟨(M k).1, (M k).2⟩
  zero : M 0 = (e, 1)
  low : ∀ k, k < 5 → -1000000 ≤ (M k).1 ∧ (M k).1 ≤ 1000000
  diff : ∀ k, k < 4 → ∀ W : World, Calls Try.prog 15 #[.agg #[.int .i64 (M (k + 1)).1, .int .i64 (M (k + 1)).2], .agg #[.int .i64 (-(M k).1), .int .i64 (M k).2]] W (SaysF X Y true W)
  lev : B = 1 → ∀ W : World, Calls Try.prog 16 #[agg3 p s e, .int .i64 n, .int .i64 T] W (SaysB true W)

theorem okF_neg {t b : Int} (h : okF t b = true) : okF (-t) b = true := by
  obtain ⟨a1, a2, a3, a4, a5⟩ := (okF_iff t b).1 h
  exact (okF_iff _ _).2 ⟨by omega, by omega, a3, a4, by rw [Int.neg_gcd]; exact a5⟩
theorem yfacts {p s e n : Int} (hy : SmallY p s e) (n0 : 0 ≤ n) (n1 : n ≤ 255) {u : Int} (hu : 1 ≤ u ∧ u ≤ 9) : ∃ T B X Y M, YFacts p s e n u T B X Y M := by
  obtain ⟨hp, hs, he⟩ := hy
  have ok : okS p s e = true := (okS_iff p s e).2 ⟨by omega, by omega, by omega⟩
  have inn : ∀ k : Nat, k < 5 → 0 ≤ (k : Int) * u ∧ (k : Int) * u ≤ 2000 := fun k hk => by
    have b0 := yb (x := (k : Int)) (y := u) 20 100 (by omega) (by omega) (by omega) (by omega)
    have := Int.mul_nonneg (a := (k : Int)) (b := u) (by omega) (by omega)
    omega
  have okM : ∀ l : Int, 0 ≤ l → l ≤ 2000 → okF (mT p s e l) (mB p s e l) = true := fun l h0 h1 => by
    have b1 := yb (x := e) (y := s) 100 1000 (by omega) (by omega) (by omega) (by omega)
    have b2 := yb (x := l) (y := p) 2000 100 (by omega) (by omega) (by omega) (by omega)
    obtain ⟨e1, e2, -⟩ := mark_in ok h0 h1
    rw [e1, e2]
    exact red_ok (by omega) (by omega) (by omega) (by omega)
  refine ⟨mT p s e n, mB p s e n, redT (u * p) s, redB (u * p) s, fun k => (mT p s e (k * u), mB p s e (k * u)), ?_, ?_, ?_, ?_, ?_, ?_, ?_, ?_⟩
  · intro W
    have h := implMark_any p s e n W
    have hk : okS p s e = true ∧ 0 ≤ n ∧ n ≤ 10000 := ⟨ok, by omega, by omega⟩
    have ho := (mark_in ok n0 (by omega)).2.2
    rw [show mkT p s e n = mT p s e n from if_pos hk, show mkB p s e n = mB p s e n from if_pos hk, show mkO p s e n = true from (if_pos hk).trans ho] at h
    exact h
  · intro W
    have h := implLoad_any p s e (mT p s e n) (mB p s e n) W
    have hk : okS p s e = true ∧ okF (mT p s e n) (mB p s e n) = true := ⟨ok, okM n n0 (by omega)⟩
    obtain ⟨e1, e2, e3⟩ := ld_yes hk
    obtain ⟨r1, r2⟩ := load_back ok n0 (show n ≤ 2000 by omega)
    have hn1 : okF n 1 = true := (okF_iff n 1).2 ⟨by omega, by omega, by omega, by omega, Int.gcd_one⟩
    rw [e1, e2, e3] at h
    unfold shT shB shO at h
    rw [r1, r2, hn1] at h
    exact h
  · intro W
    have h := implMarks_any p s e u 4 W
    rw [show mkOf p s e u 4 = mrks p s e u 5 from mkOf_yes (n := 4) ok (by omega) (by omega)] at h
    exact h
  · intro k hk
    rw [mrks_get hk]; rfl
  · obtain ⟨z1, z2⟩ := mark_zero ok
    show (mT p s e (((0 : Nat) : Int) * u), mB p s e (((0 : Nat) : Int) * u)) = (e, 1)
    rw [show ((0 : Nat) : Int) * u = 0 by simp, z1, z2]
  · intro k hk
    obtain ⟨a0, a1⟩ := inn k hk
    have := (okF_iff _ _).1 (okM _ a0 a1)
    exact ⟨this.1, this.2.1⟩
  · intro k hk W
    obtain ⟨a0, a1⟩ := inn k (by omega)
    obtain ⟨b0, b1⟩ := inn (k + 1) (by omega)
    have h := implAdd_any (mT p s e ((k + 1 : Nat) * u)) (mB p s e ((k + 1 : Nat) * u)) (-mT p s e (k * u)) (mB p s e (k * u)) W (okM _ b0 b1) (okF_neg (okM _ a0 a1))
    obtain ⟨-, d1, d2, d3⟩ := mark_diff (k := k) ok (u := u) ⟨by omega, by omega⟩ (by omega)
    rw [d1, d2, d3] at h
    exact h
  · intro hB W
    obtain ⟨g1, g2, g3⟩ := mark_level ok n0 n1 hB
    have near := mark_near hp (by omega) he n0 n1 g1
    have h := implLev_any p s e n (mT p s e n) W
    rw [lvl_yes ⟨ok, ⟨by omega, by omega⟩, near⟩, decide_eq_true g1] at h
    exact h

set_option maxRecDepth 100000 in
set_option maxHeartbeats 4000000 in
theorem steelyards_any (A : Option Addr) (len cap : Nat) (w : World) (hl : len ≤ 1048576) (hr : Bytes w w.heap.size A len) :
    Calls Try.prog 3 #[.slice A len cap] w fun e w' => e = .returned (.bool true) ∧ Below w.heap.size w w' := by
  have hb : ¬ (1048576 : Int) < len := by omega
  obtain ⟨n, n0, n1, A0⟩ := at_fix w.heap.size A len cap 0 w hl (by decide) (by decide) hr
  have hD := drawYard_any w.heap.size A len cap w rfl hl hr
  clear hr hl
  obtain ⟨u, hu⟩ : ∃ u : Int, 1 + n % 9 = u := ⟨_, rfl⟩
  go_enter Try.func3, Try.ntmps3
  go_wp2_with (go_at_call 9; go_in)
  refine hD.mono ?_
  clear hD hb
  rintro en w1 ⟨p, s, e, hok, rfl, kb⟩
  obtain ⟨T, B, X, Y, M, Z⟩ := yfacts hok n0 n1 (u := u) (by omega)
  clear hok
  have y := Tri.new w1 p s e 25
  replace kb := kb.alloc kb.size (obj3 p s e 25)
  go_upto_region 4 with fail
  generalize w1.heap.size = q3 at y ⊢
  generalize w1.alloc (obj3 p s e 25) = w2 at y kb ⊢
  go_wp2_with fail
  refine (A0 _ kb).mono ?_
  rintro en w3 ⟨rfl, q1, rfl⟩
  have b := below_drewN (Below.refl w2.heap.size w2) q1
  replace y := y.under b
  replace kb := below_more kb kb.size b
  clear b A0
  generalize w2.drewN q1 = w3 at kb y ⊢
  clear q1
  have hM := Z.mark
  obtain ⟨c0, c1, c2⟩ := y.cells
  go_wp2_with fail
  refine (hM _).mono ?_
  rintro en w4 ⟨rfl, b⟩
  have f := Box.new w4 T B 29
  replace y := y.under (b.alloc b.size (.cells #[.int .i64 T, .int .i64 B] 29))
  replace kb := below_more kb kb.size (b.alloc b.size (.cells #[.int .i64 T, .int .i64 B] 29))
  clear b hM c0 c1 c2
  go_upto_region 6 with fail
  generalize w4.heap.size = q5 at f ⊢
  generalize w4.alloc (.cells #[.int .i64 T, .int .i64 B] 29) = w5 at f y kb ⊢
  have hM := Z.load
  obtain ⟨c0, c1, c2⟩ := y.cells
  obtain ⟨d0, d1⟩ := And.intro f.c0 f.c1
  go_wp2_with fail
  refine (hM _).mono ?_
  rintro en w6 ⟨rfl, b⟩
  have x := Box.new w6 n 1 29
  replace y := y.under (b.alloc b.size (.cells #[.int .i64 n, .int .i64 1] 29))
  replace f := f.under (b.alloc b.size (.cells #[.int .i64 n, .int .i64 1] 29))
  replace kb := below_more kb kb.size (b.alloc b.size (.cells #[.int .i64 n, .int .i64 1] 29))
  clear b hM c0 c1 c2 d0 d1
  go_upto_region 7 with fail
  generalize w6.heap.size = q7 at x ⊢
  generalize w6.alloc (.cells #[.int .i64 n, .int .i64 1] 29) = w7 at x f y kb ⊢
  have hM := Z.marks
  obtain ⟨c0, c1, c2⟩ := y.cells
  go_wp2_with fail
  refine (hM _).mono ?_
  rintro en w8 ⟨G, dG, rfl, o, b⟩
  replace y := y.under b
  replace f := f.under b
  replace x := x.under b
  replace kb := below_more kb kb.size b
  have hl5 := mrks_len p s e u 5
  have O := frrow_copy (Own.none w7) o b
  obtain ⟨g, c, hv⟩ := frrow_form O (by rw [hl5]; decide)
  rw [hv] at O ⊢
  rw [hl5] at O ⊢
  clear o b hM c0 c1 c2 hv
  have kb7 := O.bel
  obtain ⟨m0, m1⟩ := frrow_cell O hl5 (j := 0) (by decide)
  rw [Z.get 0 (by decide), Z.zero] at m0 m1
  dsimp only at m0 m1
  rw [Nat.zero_mul] at m0 m1
  rw [Nat.zero_add] at m1
  obtain ⟨c0, c1, c2⟩ := y.cells
  obtain ⟨d0, d1⟩ := And.intro x.c0 x.c1
  go_wp2_with fail
  go_quiet (fail)
  have b := below_drewN (Below.refl w8.heap.size w8) nq
  replace O := O.keep b
  replace f := f.under b
  replace y := y.under b
  replace kb := below_more kb kb.size b
  clear b m0 m1 c0 c1 c2 d0 d1 x kb7
  generalize w8.drewN nq = w9 at O f y kb ⊢
  have hM := fun wr (b : Below w9.heap.size w9 wr) k (hk : k < 5) => frrow_cell (O.keep b) hl5 (j := k) hk
  go_wp2_with fail
  go_loopw [10] (fun i wr => ∃ k : Nat, k ≤ 5 ∧ 2 ≤ k ∧ i = .int .i64 k ∧ Below w9.heap.size w9 wr) (fun i _ => 5 - (intOf i).toNat)
  case atStart => exact ⟨2, by decide, by decide, rfl, Below.refl _ _⟩
  case round =>
    obtain ⟨k, hk, hk2, rfl, br⟩ := hrel
    by_cases hlt : k < 5
    · obtain ⟨kb2, e2⟩ : ∃ kb2 : Nat, (k : Int) - 2 = (kb2 : Int) := ⟨k - 2, by omega⟩
      obtain ⟨ka, e1⟩ : ∃ ka : Nat, (k : Int) - 1 = (ka : Int) := ⟨k - 1, by omega⟩
      have hk1 : k = ka + 1 := by omega
      have hk3 : ka = kb2 + 1 := by omega
      have hA := Z.diff ka (by omega)
      have hA2 := Z.diff kb2 (by omega)
      rw [← hk1] at hA
      rw [← hk3] at hA2
      obtain ⟨p00, p01⟩ := hM wr br k (by omega)
      obtain ⟨p10, p11⟩ := hM wr br ka (by omega)
      obtain ⟨p20, p21⟩ := hM wr br kb2 (by omega)
      rw [Z.get k (by omega)] at p00 p01
      rw [Z.get ka (by omega)] at p10 p11
      rw [Z.get kb2 (by omega)] at p20 p21
      obtain ⟨lo1, hi1⟩ := Z.low ka (by omega)
      obtain ⟨lo2, hi2⟩ := Z.low kb2 (by omega)
      obtain ⟨t0, b0, hz0⟩ : ∃ t b, M k = (t, b) := ⟨_, _, rfl⟩
      obtain ⟨t1, b1, hz1⟩ : ∃ t b, M ka = (t, b) := ⟨_, _, rfl⟩
      obtain ⟨t2, b2, hz2⟩ : ∃ t b, M kb2 = (t, b) := ⟨_, _, rfl⟩
      rw [hz0] at hA p00 p01
      rw [hz1] at hA hA2 p10 p11 lo1 hi1
      rw [hz2] at hA2 p20 p21 lo2 hi2
      dsimp only at hA hA2 p00 p01 p10 p11 p20 p21 lo1 hi1 lo2 hi2
      have hlt5 : (k : Int) < 5 := by omega
      have i0 : k < 5 := hlt
      have i1 : ka < 5 := by omega
      have i2 : kb2 < 5 := by omega
      have j0 : IntKind.i64.wrap (k : Int) = k := IntWalk.i64_in _ (by omega)
      have j1 : IntKind.i64.wrap (ka : Int) = ka := IntWalk.i64_in _ (by omega)
      have j2 : IntKind.i64.wrap (kb2 : Int) = kb2 := IntWalk.i64_in _ (by omega)
      have j4 : (ka : Int) < 5 := by omega
      have j5 : (kb2 : Int) < 5 := by omega
      have j6 : (0 : Int) ≤ ka := by omega
      have j7 : (0 : Int) ≤ kb2 := by omega
      have j3 : (0 : Int) ≤ k := by omega
      have j8 : IntKind.i64.wrap (-t1) = -t1 := IntWalk.i64_in _ (by omega)
      have j9 : IntKind.i64.wrap (-t2) = -t2 := IntWalk.i64_in _ (by omega)
      clear hk1 hk3 hM hl5 hk hz0 hz1 hz2
      go_wp2_with fail
      have hS4 : ∀ W, Below wr.heap.size wr W → W.cell? ⟨g, k * 2, none⟩ = some (.int .i64 t0) ∧ W.cell? ⟨g, k * 2 + 1, none⟩ = some (.int .i64 b0) ∧ W.cell? ⟨g, ka * 2, none⟩ = some (.int .i64 t1) ∧ W.cell? ⟨g, ka * 2 + 1, none⟩ = some (.int .i64 b1) := fun W b => ⟨(b.cell (lt_of_cell p00)).trans p00, (b.cell (lt_of_cell p01)).trans p01, (b.cell (lt_of_cell p10)).trans p10, (b.cell (lt_of_cell p11)).trans p11⟩
      go_cut [11, 12] (fun s5 s6 wx => Boxed wr.heap.size wr X Y true s5 s6 wx)
      case first =>
        go_region_held3 (fun W => W.cell? ⟨g, k * 2, none⟩ = some (.int .i64 t0) ∧ W.cell? ⟨g, k * 2 + 1, none⟩ = some (.int .i64 b0) ∧ W.cell? ⟨g, ka * 2, none⟩ = some (.int .i64 t1) ∧ W.cell? ⟨g, ka * 2 + 1, none⟩ = some (.int .i64 b1)) (first | (with_reducible refine hS4 _ ?_; (repeat' (first | with_reducible exact Below.refl _ _ | with_reducible refine Below.drew ?_ | with_reducible refine Below.alloc ?_ ?_ _ | with_reducible refine Below.setCell ?_ ?_ _ | with_reducible refine below_more ?_ ?_ k1)); all_goals (first | (simp; done) | (simp; omega) | (have hks := k1.size; simp at hks ⊢; omega))))
          (first | (go_at_call 15; refine (hA _).mono ?_; rintro en w1 ⟨rfl, k1⟩; have hc := fun (b o : Nat) (h : b < _) => k1.cell (p := ⟨b, o, none⟩) h; have hf := fun (b o : Nat) (h : b < _) => k1.frozen (p := ⟨b, o, none⟩) h))
        all_goals
          clear hc hf hS4 hA
          go_wp2_with fail
          go_meet
          first | with_reducible refine boxed_new ?_ k1 ?_ | with_reducible refine boxed_set ?_ k1 ?_ ?_ ?_
        all_goals (repeat' (first | with_reducible exact Below.refl _ _ | with_reducible refine Below.drew ?_ | with_reducible refine Below.alloc ?_ ?_ _ | with_reducible refine Box.new_at ?_ | with_reducible refine Box.drew ?_ | with_reducible refine Box.alloc ?_ _))
        all_goals (first | omega | (simp <;> omega) | trace_state)
      case rest =>
        obtain ⟨g1, rfl, rfl, x1, kx⟩ := hcut
        replace p10 := (kx.cell (lt_of_cell p10)).trans p10
        replace p11 := (kx.cell (lt_of_cell p11)).trans p11
        replace p20 := (kx.cell (lt_of_cell p20)).trans p20
        replace p21 := (kx.cell (lt_of_cell p21)).trans p21
        replace br := below_more br br.size kx
        clear kx hS4 hA p00 p01 j0 j8 hlt5
        go_upto_region 14 with fail
        have hS5 : ∀ W, Below wc.heap.size wc W → W.cell? ⟨g, ka * 2, none⟩ = some (.int .i64 t1) ∧ W.cell? ⟨g, ka * 2 + 1, none⟩ = some (.int .i64 b1) ∧ W.cell? ⟨g, kb2 * 2, none⟩ = some (.int .i64 t2) ∧ W.cell? ⟨g, kb2 * 2 + 1, none⟩ = some (.int .i64 b2) := fun W b => ⟨(b.cell (lt_of_cell p10)).trans p10, (b.cell (lt_of_cell p11)).trans p11, (b.cell (lt_of_cell p20)).trans p20, (b.cell (lt_of_cell p21)).trans p21⟩
        go_cut [13, 14] (fun s5 s6 wx => Boxed wc.heap.size wc X Y true s5 s6 wx)
        case first =>
          go_region_held3 (fun W => W.cell? ⟨g, ka * 2, none⟩ = some (.int .i64 t1) ∧ W.cell? ⟨g, ka * 2 + 1, none⟩ = some (.int .i64 b1) ∧ W.cell? ⟨g, kb2 * 2, none⟩ = some (.int .i64 t2) ∧ W.cell? ⟨g, kb2 * 2 + 1, none⟩ = some (.int .i64 b2)) (first | (with_reducible refine hS5 _ ?_; (repeat' (first | with_reducible exact Below.refl _ _ | with_reducible refine Below.drew ?_ | with_reducible refine Below.alloc ?_ ?_ _ | with_reducible refine Below.setCell ?_ ?_ _ | with_reducible refine below_more ?_ ?_ k1)); all_goals (first | (simp; done) | (simp; omega) | (have hks := k1.size; simp at hks ⊢; omega))))
            (first | (go_at_call 15; refine (hA2 _).mono ?_; rintro en w1 ⟨rfl, k1⟩; have hc := fun (b o : Nat) (h : b < _) => k1.cell (p := ⟨b, o, none⟩) h; have hf := fun (b o : Nat) (h : b < _) => k1.frozen (p := ⟨b, o, none⟩) h))
          all_goals
            clear hc hf hS5 hA2
            go_wp2_with fail
            go_meet
            first | with_reducible refine boxed_new ?_ k1 ?_ | with_reducible refine boxed_set ?_ k1 ?_ ?_ ?_
          all_goals (repeat' (first | with_reducible exact Below.refl _ _ | with_reducible refine Below.drew ?_ | with_reducible refine Below.alloc ?_ ?_ _ | with_reducible refine Box.new_at ?_ | with_reducible refine Box.drew ?_ | with_reducible refine Box.alloc ?_ _))
          all_goals (first | omega | (simp <;> omega) | trace_state)
        case rest =>
          obtain ⟨g2, rfl, rfl, x2, kx⟩ := hcut
          replace x1 := x1.under kx
          replace br := below_more br br.size kx
          clear kx hS5 hA2 p10 p11 p20 p21 j1 j2 j3 j4 j5 j6 j7 j9 lo1 hi1 lo2 hi2 i1 i2 e1 e2
          obtain ⟨c0, c1, d0, d1⟩ := And.intro x1.c0 (And.intro x1.c1 (And.intro x2.c0 x2.c1))
          clear x1 x2
          go_wp2_with fail
          go_roundw
          case rel => exact ⟨k + 1, by omega, by omega, by go_num, br⟩
          case measure => simp [intOf]; omega
    · have hk5 : k = 5 := by omega
      subst hk5
      have ff := f.keep br f.lt
      have yy := y.keep br y.lt
      replace kb := kb.trans (br.mono kb.size)
      have hlv := Z.lev
      obtain ⟨c0, c1⟩ := And.intro ff.c0 ff.c1
      obtain ⟨d0, d1, d2⟩ := yy.cells
      clear hM O f y br ff yy hl5 Z hk hk2 hlt
      by_cases hB : B = 1
      · have hL := hlv hB
        clear hlv
        subst hB
        go_wp2_with fail
        refine (hL _).mono ?_
        rintro en wz ⟨rfl, b⟩
        replace kb := below_more kb kb.size b
        clear b hL c0 c1 d0 d1 d2
        go_wp2_with fail
        go_ret
        exact ⟨rfl, kb⟩
      · clear hlv
        go_wp2_with fail
        go_ret
        exact ⟨rfl, kb⟩
end Go.Proofs.Ytjgonmabmannaaa
