/-
  The law on sets of weights: powers of two reach furthest with one pan, powers of three with two. Where the program's functions answer as the model's do.
-/
import Derived.Test.YtjdkihinfilbkaaSetFacts
import Derived.Test.YtjdkihinfilbkaaDrawSet
import Derived.Test.YtjdkihinfilbkaaAt
import Derived.Test.YtjdkihinfilbkaaSays
namespace Go.Proofs.Ytjdkihinfilbkaa
open Go.ChangeShapes Go.WideShapes Go.ChangeAt Go.RowKit Go.PlainAid

/-- The program's six functions answer as the model's do. -/
structure Impl5 : Prop where
  hS : ∀ (L : List Int) (A : Option Addr) (c : Nat) (v : World), L.length ≤ 1048576 → IntRow v A L → Calls Try.prog 20 #[.slice A L.length c] v (SaysB (setB L) v)
  hO : ∀ (m : Int) (L : List Int) (A : Option Addr) (c : Nat) (v : World), L.length ≤ 1048576 → IntRow v A L → Calls Try.prog 16 #[.slice A L.length c, .int .i64 m] v (SaysB (oneB L m) v)
  hT : ∀ (m : Int) (L : List Int) (A : Option Addr) (c : Nat) (v : World), L.length ≤ 1048576 → IntRow v A L → Calls Try.prog 14 #[.slice A L.length c, .int .i64 m] v (SaysB (twoB L m) v)
  hR : ∀ (m : Int) (L : List Int) (A : Option Addr) (c : Nat) (v : World), L.length ≤ 1048576 → IntRow v A L → Calls Try.prog 12 #[.slice A L.length c, .int .i64 m] v (SaysI (reachI L m) v)
  hW : ∀ (m : Int) (L : List Int) (A : Option Addr) (c : Nat) (v : World), L.length ≤ 1048576 → IntRow v A L → Calls Try.prog 15 #[.slice A L.length c, .int .i64 m] v (SaysI (waysI L m) v)
  hL : ∀ (L : List Int) (A : Option Addr) (c : Nat) (v : World), L.length ≤ 1048576 → IntRow v A L → Calls Try.prog 17 #[.slice A L.length c] v (SaysI (leastI L) v)

theorem pow_small {b : Int} (hb : b = 2 ∨ b = 3) {k : Nat} (hk : k ≤ 5) : 1 ≤ b ^ k ∧ b ^ k ≤ 243 := by
  have : k = 0 ∨ k = 1 ∨ k = 2 ∨ k = 3 ∨ k = 4 ∨ k = 5 := by omega
  rcases hb with rfl | rfl <;> rcases this with rfl | rfl | rfl | rfl | rfl | rfl <;> decide

set_option maxRecDepth 100000 in
set_option maxHeartbeats 4000000 in
theorem sets_any (H : Impl5) (a : Option Addr) (len cap : Nat) (v0 : World) (hl : len ≤ 1048576) (hr : Bytes v0 v0.heap.size a len) :
    Calls Try.prog 3 #[.slice a len cap] v0 fun e w' => e = .returned (.bool true) ∧ Below v0.heap.size v0 w' := by
  obtain ⟨i0, hi, hz0, hz1, hz2⟩ := info_parts Try.infoIntT
  have hb : ¬ (1048576 : Int) < len := by omega
  have hD := drawSet_any v0.heap.size a len cap v0 rfl hl hr
  have A0 := fun v (h : Bytes v v0.heap.size a len) => at_val v0.heap.size a len cap 0 v hl (by decide) (by decide) h
  go_enter Try.func3, Try.ntmps3
  go_wp2_with (go_at_call 10; go_in)
  refine hD.mono ?_
  rintro e v1 ⟨A, c, L, hP, h5, rfl, rL, kb⟩
  clear hD hb hl
  obtain ⟨n, hn⟩ : ∃ n, L.length = n := ⟨_, rfl⟩
  have n1 : 1 ≤ n := by have := hP.1; omega
  have F := sfacts hP
  have R2 := fun A' c' v (r : IntRow v A' (pows 2 n)) => H.hR 1 (pows 2 n) A' c' v (by rw [pows_length]; omega) r
  have R3 := fun A' c' v (r : IntRow v A' (pows 3 n)) => H.hR 2 (pows 3 n) A' c' v (by rw [pows_length]; omega) r
  rw [hn] at h5
  rw [pows_two_reach n1 h5, pows_length] at R2
  have e3 := pows_three_reach n1 h5
  rw [pows_length] at R3
  generalize reachI (pows 3 n) 2 = K at R3 e3
  have LO := fun m v (r : IntRow v A L) => H.hO m L A c v (by omega) r
  have LT := fun m v (r : IntRow v A L) => H.hT m L A c v (by omega) r
  have LR := fun m v (r : IntRow v A L) => H.hR m L A c v (by omega) r
  have LW := fun m v (r : IntRow v A L) => H.hW m L A c v (by omega) r
  have LL := fun v (r : IntRow v A L) => H.hL L A c v (by omega) r
  have wb := waysI_le L
  obtain ⟨ra, hra⟩ : ∃ ra, reachI L 1 = ra := ⟨_, rfl⟩
  obtain ⟨rb, hrb⟩ : ∃ rb, reachI L 2 = rb := ⟨_, rfl⟩
  rw [hra, hrb] at F
  obtain ⟨ea, eb, a0, a1, b1, ab, least, one, two, negT, negW, sub, dec⟩ := F
  have LR1 := fun v r => LR 1 v r
  have LR2 := fun v r => LR 2 v r
  have LOa := fun v r => LO (ra + 1) v r
  have LTb := fun v r => LT (rb + 1) v r
  simp only [ea] at LR1
  simp only [eb] at LR2
  simp only [least] at LL
  simp only [one] at LOa
  simp only [two] at LTb
  rw [hn] at LO LT LR1 LR2 LOa LTb LW LL a1 b1 ⊢
  clear H hP LR hra hrb ea eb least one two
  have p2 := pow_small (b := 2) (.inl rfl) h5
  have p3 := pow_small (b := 3) (.inr rfl) h5
  have g1 := fun k (hk : k ≤ 5) => pow_small (b := 2) (.inl rfl) hk
  have g2 := fun k (hk : k ≤ 5) => pow_small (b := 3) (.inr rfl) hk
  have O0 := (Own.none v1).empty.empty.swap
  have es : (v1.alloc (.cells #[] 3)).heap.size = v1.heap.size + 1 := by simp
  rw [es] at O0
  clear es
  go_wp2_with fail
  go_loopw [5, 6, 7, 8, 9] (fun u t p q i wr => ∃ k : Nat, k ≤ n ∧ i = .int .i64 k ∧ p = .int .i64 ((2 : Int) ^ k) ∧ q = .int .i64 ((3 : Int) ^ k) ∧ Own v1 wr [irow u (pows 2 k), irow t (pows 3 k)]) (fun _ _ _ _ i _ => n - (intOf i).toNat)
  case atStart => exact ⟨0, by omega, rfl, rfl, rfl, O0⟩
  case round =>
    clear O0
    obtain ⟨k, hk, rfl, rfl, rfl, O⟩ := hrel
    by_cases hlt : k < n
    · have e2 : (2 : Int) ^ (k + 1) = 2 * 2 ^ k := by rw [Int.pow_succ, Int.mul_comm]
      have e3 : (3 : Int) ^ (k + 1) = 3 * 3 ^ k := by rw [Int.pow_succ, Int.mul_comm]
      have q2 := g1 k (by omega)
      have q3 := g2 k (by omega)
      have s2 := pows_succ 2 k
      have s3 := pows_succ 3 k
      have l2 : (pows 2 k).length ≤ 5 := by rw [pows_length]; omega
      have l3 : (pows 3 k).length ≤ 5 := by rw [pows_length]; omega
      have hsz := O.bel.size
      have h1 := O.hd
      clear LO LT LR1 LR2 LOa LTb LW LL R2 R3 A0 negT negW sub dec wb g1 g2 rL hr
      generalize (2 : Int) ^ k = P at e2 q2 s2
      generalize (3 : Int) ^ k = Q at e3 q3 s3
      generalize pows 2 k = X at O s2 l2 h1
      generalize pows 3 k = Y at O s3 l3
      go_wp2_with (at_builtin; first | (refine wpList_append_one rfl (.tmp 26) (.tmp 28) 24 rfl v1.heap.size 3 i0 (.int .i64 0) Try.underlying24 hi hz0 hz1 hz2 rfl u5 X.length _ rfl (h1.alloc _) ⟨wr.heap.size, 0, none⟩ 1 _ rfl (new_one _ _ _) rfl (by omega) (by simp; omega) ?_; intro v' w2 hown1 hg1 hb1; replace O := (O.iapp hown1 hg1 hb1).swap; rw [← s2] at O; replace hsz := O.bel.size; replace h1 := O.hd; clear hown1 hg1 hb1 s2) | (refine wpList_append_one rfl (.tmp 30) (.tmp 32) 24 rfl v1.heap.size 3 i0 (.int .i64 0) Try.underlying24 hi hz0 hz1 hz2 rfl u6 Y.length _ rfl (h1.alloc _) ⟨w2.heap.size, 0, none⟩ 1 _ rfl (new_one _ _ _) rfl (by omega) (by simp; omega) ?_; intro v'' w3 hown1 hg1 hb1; replace O := (O.iapp hown1 hg1 hb1).swap; rw [← s3] at O; clear hown1 hg1 hb1 h1 s3))
      go_wp2
      go_roundw
      case rel => exact ⟨k + 1, by omega, by go_num, by rw [e2], by rw [e3], O⟩
      case measure => simp [intOf]; omega
    · obtain rfl : k = n := by omega
      obtain ⟨B2, c2, hu⟩ := own_slice O.hd
      obtain ⟨B3, c3, hv⟩ := own_slice O.swap.hd
      replace hu : u5 = .slice B2 (pows 2 k).length c2 := hu
      replace hv : u6 = .slice B3 (pows 3 k).length c3 := hv
      rw [pows_length] at hu hv
      subst hu hv
      have r2 : IntRow wr B2 (pows 2 k) := O.row (v := .slice B2 k c2) (by simp) rfl (pows_length 2 k).symm
      have r3 : IntRow wr B3 (pows 3 k) := O.row (v := .slice B3 k c3) (by simp) rfl (pows_length 3 k).symm
      replace rL := rL.keep O.bel
      replace kb := below_more kb kb.size O.bel
      have hq1 : ((3 : Int) ^ k - 1).tdiv 2 = K := by rw [Int.tdiv_eq_ediv_of_nonneg (by omega)]; omega
      have hq2 : ((3 : Int) ^ k - 1) / 2 = K := by omega
      have hA : ra ≤ (2 : Int) ^ k - 1 := by omega
      have hB : rb ≤ K := by omega
      clear O g1 g2 hlt hk h5 n1 hn
      generalize (2 : Int) ^ k = P at p2 R2 hA a1
      generalize (3 : Int) ^ k = Q at p3 hq1 hq2 e3 b1
      generalize pows 2 k = X2 at r2 R2
      generalize pows 3 k = X3 at r3 R3
      go_wp2_with fail
      refine (LR1 _ rL).mono ?_
      rintro e w11 ⟨rfl, b⟩
      replace rL := rL.keep b
      replace r2 := r2.keep b
      replace r3 := r3.keep b
      replace kb := below_more kb kb.size b
      clear b
      go_wp2_with fail
      refine (LR2 _ rL).mono ?_
      rintro e w12 ⟨rfl, b⟩
      replace rL := rL.keep b
      replace r2 := r2.keep b
      replace r3 := r3.keep b
      replace kb := below_more kb kb.size b
      clear b
      replace hr := hr.keep kb.block
      clear LR1 LR2
      go_wp2_with fail
      refine (A0 _ hr).mono ?_
      rintro e w13 ⟨x, x0, x1, rfl, q1, rfl⟩
      have b := below_drewN (Below.refl w12.heap.size w12) q1
      replace rL := rL.keep b
      replace r2 := r2.keep b
      replace r3 := r3.keep b
      replace kb := below_more kb kb.size b
      clear A0 hr b
      generalize w12.drewN q1 = w13 at rL r2 r3 kb ⊢
      obtain ⟨m, hm⟩ : ∃ m, m = 1 + x % 50 := ⟨_, rfl⟩
      have hm1 : 1 ≤ m ∧ m ≤ 50 := by omega
      have T1 := fun v r => LT m v r
      have T2 := fun v r => LT (-m) v r
      have W1 := fun v r => LW m v r
      have W2 := fun v r => LW (-m) v r
      have O1 := fun v r => LO m v r
      simp only [negT] at T2
      simp only [negW] at W2
      have sm := sub m
      have dm := dec m
      have wm := wb m
      clear LT LW LO negT negW sub dec wb
      generalize twoB L m = tm at T1 T2 sm dm
      generalize waysI L m = xm at W1 W2 dm wm
      generalize oneB L m = om at O1 sm
      have hc : (tm = true ∧ 0 < xm ∧ om = true) ∨ (tm = true ∧ 0 < xm ∧ om = false) ∨ (tm = false ∧ ¬ 0 < xm ∧ om = false) := by
        cases tm
        · refine .inr (.inr ⟨rfl, of_decide_eq_false dm, ?_⟩)
          cases om
          · rfl
          · exact absurd (sm rfl) (by decide)
        · cases om
          · exact .inr (.inl ⟨rfl, of_decide_eq_true dm, rfl⟩)
          · exact .inl ⟨rfl, of_decide_eq_true dm, rfl⟩
      clear sm dm
      go_wp2_with fail
      rw [← hm]
      clear hm x0 x1
      rcases hc with ⟨rfl, hx, rfl⟩ | ⟨rfl, hx, rfl⟩ | ⟨rfl, hx, rfl⟩
      · refine (T1 _ rL).mono ?_
        rintro e w21 ⟨rfl, b⟩
        replace rL := rL.keep b
        replace r2 := r2.keep b
        replace r3 := r3.keep b
        replace kb := below_more kb kb.size b
        clear b
        go_wp2_with fail
        refine (T2 _ rL).mono ?_
        rintro e w22 ⟨rfl, b⟩
        replace rL := rL.keep b
        replace r2 := r2.keep b
        replace r3 := r3.keep b
        replace kb := below_more kb kb.size b
        clear b
        go_wp2_with fail
        refine (W1 _ rL).mono ?_
        rintro e w23 ⟨rfl, b⟩
        replace rL := rL.keep b
        replace r2 := r2.keep b
        replace r3 := r3.keep b
        replace kb := below_more kb kb.size b
        clear b
        go_wp2_with fail
        refine (W2 _ rL).mono ?_
        rintro e w24 ⟨rfl, b⟩
        replace rL := rL.keep b
        replace r2 := r2.keep b
        replace r3 := r3.keep b
        replace kb := below_more kb kb.size b
        clear b
        go_wp2_with fail
        refine (O1 _ rL).mono ?_
        rintro e w25 ⟨rfl, b⟩
        replace rL := rL.keep b
        replace r2 := r2.keep b
        replace r3 := r3.keep b
        replace kb := below_more kb kb.size b
        clear b
        go_wp2_with fail
        refine (T1 _ rL).mono ?_
        rintro e w26 ⟨rfl, b⟩
        replace rL := rL.keep b
        replace r2 := r2.keep b
        replace r3 := r3.keep b
        replace kb := below_more kb kb.size b
        clear b
        go_wp2_with fail
        refine (W1 _ rL).mono ?_
        rintro e w27 ⟨rfl, b⟩
        replace rL := rL.keep b
        replace r2 := r2.keep b
        replace r3 := r3.keep b
        replace kb := below_more kb kb.size b
        clear b
        go_wp2_with fail
        refine (T1 _ rL).mono ?_
        rintro e w28 ⟨rfl, b⟩
        replace rL := rL.keep b
        replace r2 := r2.keep b
        replace r3 := r3.keep b
        replace kb := below_more kb kb.size b
        clear b
        go_wp2_with fail
        refine (R2 _ _ _ r2).mono ?_
        rintro e w29 ⟨rfl, b⟩
        replace rL := rL.keep b
        replace r2 := r2.keep b
        replace r3 := r3.keep b
        replace kb := below_more kb kb.size b
        clear b
        go_wp2_with fail
        refine (R3 _ _ _ r3).mono ?_
        rintro e w30 ⟨rfl, b⟩
        replace rL := rL.keep b
        replace r2 := r2.keep b
        replace r3 := r3.keep b
        replace kb := below_more kb kb.size b
        clear b
        go_wp2_with fail
        refine (LL _ rL).mono ?_
        rintro e w31 ⟨rfl, b⟩
        replace rL := rL.keep b
        replace r2 := r2.keep b
        replace r3 := r3.keep b
        replace kb := below_more kb kb.size b
        clear b
        go_wp2_with fail
        refine (LOa _ rL).mono ?_
        rintro e w32 ⟨rfl, b⟩
        replace rL := rL.keep b
        replace r2 := r2.keep b
        replace r3 := r3.keep b
        replace kb := below_more kb kb.size b
        clear b
        go_wp2_with fail
        refine (LTb _ rL).mono ?_
        rintro e w33 ⟨rfl, b⟩
        replace rL := rL.keep b
        replace r2 := r2.keep b
        replace r3 := r3.keep b
        replace kb := below_more kb kb.size b
        clear b
        clear rL r2 r3 R2 R3 LL LOa LTb T1 T2 W1 W2 O1
        go_wp2_with fail
        go_ret
        exact ⟨by first | rfl | simp, kb⟩
      · refine (T1 _ rL).mono ?_
        rintro e w34 ⟨rfl, b⟩
        replace rL := rL.keep b
        replace r2 := r2.keep b
        replace r3 := r3.keep b
        replace kb := below_more kb kb.size b
        clear b
        go_wp2_with fail
        refine (T2 _ rL).mono ?_
        rintro e w35 ⟨rfl, b⟩
        replace rL := rL.keep b
        replace r2 := r2.keep b
        replace r3 := r3.keep b
        replace kb := below_more kb kb.size b
        clear b
        go_wp2_with fail
        refine (W1 _ rL).mono ?_
        rintro e w36 ⟨rfl, b⟩
        replace rL := rL.keep b
        replace r2 := r2.keep b
        replace r3 := r3.keep b
        replace kb := below_more kb kb.size b
        clear b
        go_wp2_with fail
        refine (W2 _ rL).mono ?_
        rintro e w37 ⟨rfl, b⟩
        replace rL := rL.keep b
        replace r2 := r2.keep b
        replace r3 := r3.keep b
        replace kb := below_more kb kb.size b
        clear b
        go_wp2_with fail
        refine (O1 _ rL).mono ?_
        rintro e w38 ⟨rfl, b⟩
        replace rL := rL.keep b
        replace r2 := r2.keep b
        replace r3 := r3.keep b
        replace kb := below_more kb kb.size b
        clear b
        go_wp2_with fail
        refine (W1 _ rL).mono ?_
        rintro e w39 ⟨rfl, b⟩
        replace rL := rL.keep b
        replace r2 := r2.keep b
        replace r3 := r3.keep b
        replace kb := below_more kb kb.size b
        clear b
        go_wp2_with fail
        refine (T1 _ rL).mono ?_
        rintro e w40 ⟨rfl, b⟩
        replace rL := rL.keep b
        replace r2 := r2.keep b
        replace r3 := r3.keep b
        replace kb := below_more kb kb.size b
        clear b
        go_wp2_with fail
        refine (R2 _ _ _ r2).mono ?_
        rintro e w41 ⟨rfl, b⟩
        replace rL := rL.keep b
        replace r2 := r2.keep b
        replace r3 := r3.keep b
        replace kb := below_more kb kb.size b
        clear b
        go_wp2_with fail
        refine (R3 _ _ _ r3).mono ?_
        rintro e w42 ⟨rfl, b⟩
        replace rL := rL.keep b
        replace r2 := r2.keep b
        replace r3 := r3.keep b
        replace kb := below_more kb kb.size b
        clear b
        go_wp2_with fail
        refine (LL _ rL).mono ?_
        rintro e w43 ⟨rfl, b⟩
        replace rL := rL.keep b
        replace r2 := r2.keep b
        replace r3 := r3.keep b
        replace kb := below_more kb kb.size b
        clear b
        go_wp2_with fail
        refine (LOa _ rL).mono ?_
        rintro e w44 ⟨rfl, b⟩
        replace rL := rL.keep b
        replace r2 := r2.keep b
        replace r3 := r3.keep b
        replace kb := below_more kb kb.size b
        clear b
        go_wp2_with fail
        refine (LTb _ rL).mono ?_
        rintro e w45 ⟨rfl, b⟩
        replace rL := rL.keep b
        replace r2 := r2.keep b
        replace r3 := r3.keep b
        replace kb := below_more kb kb.size b
        clear b
        clear rL r2 r3 R2 R3 LL LOa LTb T1 T2 W1 W2 O1
        go_wp2_with fail
        go_ret
        exact ⟨by first | rfl | simp, kb⟩
      · refine (T1 _ rL).mono ?_
        rintro e w46 ⟨rfl, b⟩
        replace rL := rL.keep b
        replace r2 := r2.keep b
        replace r3 := r3.keep b
        replace kb := below_more kb kb.size b
        clear b
        go_wp2_with fail
        refine (T2 _ rL).mono ?_
        rintro e w47 ⟨rfl, b⟩
        replace rL := rL.keep b
        replace r2 := r2.keep b
        replace r3 := r3.keep b
        replace kb := below_more kb kb.size b
        clear b
        go_wp2_with fail
        refine (W1 _ rL).mono ?_
        rintro e w48 ⟨rfl, b⟩
        replace rL := rL.keep b
        replace r2 := r2.keep b
        replace r3 := r3.keep b
        replace kb := below_more kb kb.size b
        clear b
        go_wp2_with fail
        refine (W2 _ rL).mono ?_
        rintro e w49 ⟨rfl, b⟩
        replace rL := rL.keep b
        replace r2 := r2.keep b
        replace r3 := r3.keep b
        replace kb := below_more kb kb.size b
        clear b
        go_wp2_with fail
        refine (O1 _ rL).mono ?_
        rintro e w50 ⟨rfl, b⟩
        replace rL := rL.keep b
        replace r2 := r2.keep b
        replace r3 := r3.keep b
        replace kb := below_more kb kb.size b
        clear b
        go_wp2_with fail
        refine (W1 _ rL).mono ?_
        rintro e w51 ⟨rfl, b⟩
        replace rL := rL.keep b
        replace r2 := r2.keep b
        replace r3 := r3.keep b
        replace kb := below_more kb kb.size b
        clear b
        go_wp2_with fail
        refine (T1 _ rL).mono ?_
        rintro e w52 ⟨rfl, b⟩
        replace rL := rL.keep b
        replace r2 := r2.keep b
        replace r3 := r3.keep b
        replace kb := below_more kb kb.size b
        clear b
        go_wp2_with fail
        refine (R2 _ _ _ r2).mono ?_
        rintro e w53 ⟨rfl, b⟩
        replace rL := rL.keep b
        replace r2 := r2.keep b
        replace r3 := r3.keep b
        replace kb := below_more kb kb.size b
        clear b
        go_wp2_with fail
        refine (R3 _ _ _ r3).mono ?_
        rintro e w54 ⟨rfl, b⟩
        replace rL := rL.keep b
        replace r2 := r2.keep b
        replace r3 := r3.keep b
        replace kb := below_more kb kb.size b
        clear b
        go_wp2_with fail
        refine (LL _ rL).mono ?_
        rintro e w55 ⟨rfl, b⟩
        replace rL := rL.keep b
        replace r2 := r2.keep b
        replace r3 := r3.keep b
        replace kb := below_more kb kb.size b
        clear b
        go_wp2_with fail
        refine (LOa _ rL).mono ?_
        rintro e w56 ⟨rfl, b⟩
        replace rL := rL.keep b
        replace r2 := r2.keep b
        replace r3 := r3.keep b
        replace kb := below_more kb kb.size b
        clear b
        go_wp2_with fail
        refine (LTb _ rL).mono ?_
        rintro e w57 ⟨rfl, b⟩
        replace rL := rL.keep b
        replace r2 := r2.keep b
        replace r3 := r3.keep b
        replace kb := below_more kb kb.size b
        clear b
        clear rL r2 r3 R2 R3 LL LOa LTb T1 T2 W1 W2 O1
        go_wp2_with fail
        go_ret
        exact ⟨by first | rfl | simp, kb⟩
end Go.Proofs.Ytjdkihinfilbkaa
