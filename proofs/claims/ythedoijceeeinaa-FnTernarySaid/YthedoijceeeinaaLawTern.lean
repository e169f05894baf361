/-
  The law on ternary digits: every number has its digits, and the object and the weights balance. Where the program's functions answer as the model's do.
-/
import Derived.Test.YthedoijceeeinaaTernFacts
import Derived.Test.YthedoijceeeinaaAt
import Derived.Test.YthedoijceeeinaaHas
import Derived.Test.YthedoijceeeinaaSameInts
namespace Go.Proofs.Ythedoijceeeinaa
open Go.ChangeShapes Go.WideShapes Go.ChangeAt Go.RowKit Go.PlainAid

/-- The program's five functions answer as the model's do. -/
structure Impl4 : Prop where
  hD : ∀ (n : Int) (v : World), Calls Try.prog 11 #[.int .i64 n] v (Copied (digsL n) v)
  hP : ∀ (n : Int) (v : World), Calls Try.prog 12 #[.int .i64 n] v (GivesSSB (panX n (-1)) (panX n 1) (panB n) v)
  hV : ∀ (L : List Int) (A : Option Addr) (c : Nat) (v : World), L.length ≤ 1048576 → IntRow v A L → Calls Try.prog 14 #[.slice A L.length c] v (SaysI (valueI L) v)
  hN : ∀ (L : List Int) (A : Option Addr) (c : Nat) (v : World), L.length ≤ 1048576 → IntRow v A L → Calls Try.prog 15 #[.slice A L.length c] v (Copied (negL L) v)
  hW : ∀ (n : Int) (v : World), Calls Try.prog 17 #[.int .i64 n] v (SaysI (weightsI n) v)

set_option maxRecDepth 100000 in
set_option maxHeartbeats 600000 in
theorem ternary_any (H : Impl4) (a : Option Addr) (len cap : Nat) (v0 : World) (hl : len ≤ 1048576) (hr : Bytes v0 v0.heap.size a len) :
    Calls Try.prog 3 #[.slice a len cap] v0 fun e w' => e = .returned (.bool true) ∧ Below v0.heap.size v0 w' := by
  have hb : ¬ (1048576 : Int) < len := by omega
  have A0 := fun v (h : Bytes v v0.heap.size a len) => at_val v0.heap.size a len cap 0 v hl (by decide) (by decide) h
  have A1 := fun v (h : Bytes v v0.heap.size a len) => at_val v0.heap.size a len cap 1 v hl (by decide) (by decide) h
  have kb := Below.refl v0.heap.size v0
  go_enter Try.func3, Try.ntmps3
  go_wp2_with (go_at_call 9; go_in)
  refine (A0 _ hr).mono ?_
  rintro e v1 ⟨x, x0, x1, rfl, q1, rfl⟩
  replace kb := below_drewN kb q1
  replace hr := hr.keep kb.block
  clear A0
  generalize v0.drewN q1 = v1 at kb hr ⊢
  go_wp2_with fail
  refine (A1 _ hr).mono ?_
  rintro e v2 ⟨y, y0, y1, rfl, q2, rfl⟩
  replace kb := below_drewN kb q2
  clear A1 hr
  generalize v1.drewN q2 = v2 at kb ⊢
  have m0 := Int.emod_nonneg (x * 256 + y) (b := 29524) (by decide)
  have m1 := Int.emod_lt_of_pos (x * 256 + y) (b := 29524) (by decide)
  have hn : ∃ n, n = 1 + (x * 256 + y) % 29524 := ⟨_, rfl⟩
  obtain ⟨n, hn⟩ := hn
  have F := tfacts (n := n) (by omega) (by omega)
  have D1 := H.hD n
  have D2 := H.hD (-n)
  have P1 := H.hP n
  have W1 := H.hW n
  have n0 : 1 ≤ n := by omega
  have n1 : n ≤ 29524 := by omega
  clear hb hl
  rw [F.eN] at D2
  rw [F.eB] at P1
  rw [F.eW] at W1
  generalize digsL n = D at F D1 D2
  generalize panX n (-1) = L at F P1 W1
  generalize panX n 1 = R at F P1 W1
  have V1 := fun A c v (r : IntRow v A D) => F.eV ▸ H.hV D A c v (by have := F.d1; omega) r
  have V2 := fun A c v (r : IntRow v A (negs D)) => F.eM ▸ H.hV (negs D) A c v (by rw [negs_length]; have := F.d1; omega) r
  have N1 := fun A c v (r : IntRow v A D) => F.eG ▸ H.hN D A c v (by have := F.d1; omega) r
  have S1 := fun (B B' : Option Addr) (d d' : Nat) v (r : IntRow v B (negs D)) (r' : IntRow v B' (negs D)) => sameInts_same B B' _ d d' _ v rfl (by rw [negs_length]; have := F.d1; omega) r r'
  have Hs := fun A c v u (r : IntRow v A L) (hu : u ∈ R) => has_not A _ c u L v rfl (by have := F.l1; omega) r (F.apart u hu)
  obtain ⟨d0, d1, last, l1, r1, lb, rb, hsum, -, -, -, -, -, -, -, -, -, -⟩ := F
  clear H
  go_wp2_with fail
  rw [← hn]
  clear hn m0 m1 x0 x1 y0 y1
  refine (D1 _).mono ?_
  rintro e v3 ⟨Y, cY, rfl, o, b⟩
  have T := (Own.none v2).add b o
  clear D1 o b
  go_wp2_with fail
  refine (P1 _).mono ?_
  rintro e v4 ⟨B1, c1, B2, c2, rfl, O⟩
  replace T := T.join O
  replace T : Own v2 v4 [irow (.slice B1 L.length c1) L, irow (.slice B2 R.length c2) R, irow (.slice Y D.length cY) D] := T
  clear P1 O
  have lq := fun k => sumL_take_le (by decide) lb k 10 l1
  have rq := fun k => sumL_take_le (by decide) rb k 10 r1
  have le := fun k => sumL_take (L := L) (k := k)
  have re := fun k => sumL_take (L := R) (k := k)
  have rm : ∀ k, k < R.length → R.getD k 0 ∈ R := fun k hk => by rw [List.getD_eq_getElem?_getD, List.getElem?_eq_getElem hk]; exact List.getElem_mem hk
  have lb2 := getD_of_all lb
  have rb2 := getD_of_all rb
  have dl : Hid (D.getD (D.length - 1) 0 = 1) := last
  clear lb rb last
  go_wp2_with fail
  go_loopw [8, 9] (fun s i wr => ∃ k : Nat, k ≤ L.length ∧ i = .int .i64 k ∧ s = .int .i64 (n + sumL (L.take k)) ∧ v4 = wr) (fun _ i _ => L.length - (intOf i).toNat)
  case atStart => exact ⟨0, by omega, rfl, by simp [sumL], rfl⟩
  case round =>
    obtain ⟨k, hk, rfl, rfl, rfl⟩ := hrel
    by_cases hlt : k < L.length
    · obtain ⟨u, rfl, -, hu⟩ := T.row (v := .slice B1 L.length c1) (by simp) rfl rfl k hlt
      have z := lb2 k hlt
      have q := lq k
      have e := le k hlt
      clear lq rq le re rm lb2 rb2 dl T Hs S1 N1 V1 V2 D2 W1 kb
      generalize L.getD k 0 = z0 at hu z e
      generalize sumL (L.take k) = s0 at q e
      go_wp2
      go_roundw
      case rel => exact ⟨k + 1, by omega, by go_num, by rw [e, Int.add_assoc], by first | rfl | trivial⟩
      case measure => simp [intOf]; omega
    · obtain rfl : k = L.length := by omega
      rw [sumL_all]
      have q := lq L.length
      rw [sumL_all] at q
      clear hlt hk lq lb2 le
      go_wp2_with fail
      go_loopw [8, 10] (fun s i wr => ∃ k : Nat, k ≤ R.length ∧ i = .int .i64 k ∧ s = .int .i64 (n + sumL L - sumL (R.take k)) ∧ Own v2 wr [irow (.slice B1 L.length c1) L, irow (.slice B2 R.length c2) R, irow (.slice Y D.length cY) D]) (fun _ i _ => R.length - (intOf i).toNat)
      case atStart => exact ⟨0, by omega, rfl, by simp [sumL], T⟩
      case round =>
        clear T
        obtain ⟨k, hk, rfl, rfl, T⟩ := hrel
        by_cases hlt : k < R.length
        · obtain ⟨u, rfl, -, hu⟩ := T.row (v := .slice B2 R.length c2) (by simp) rfl rfl k hlt
          have z := rb2 k hlt
          have p := rq k
          have e := re k hlt
          have hh := Hs B1 c1 wr _ (T.row (v := .slice B1 L.length c1) (by simp) rfl rfl) (rm k hlt)
          clear rq re rm rb2 dl Hs S1 N1 V1 V2 D2 W1 kb
          generalize R.getD k 0 = z0 at hu z e hh
          generalize sumL (R.take k) = s0 at p e
          go_wp2_with fail
          refine hh.mono ?_
          rintro e w5 ⟨rfl, q5, rfl⟩
          replace T := T.drew q5
          clear hh
          generalize wr.drewN q5 = w5 at T ⊢
          go_wp2
          go_roundw
          case rel => exact ⟨k + 1, by omega, by go_num, by rw [e]; congr 1; omega, T⟩
          case measure => simp [intOf]; omega
        · obtain rfl : k = R.length := by omega
          rw [sumL_all, hsum]
          clear hlt hk rq rb2 re rm Hs hsum q
          obtain ⟨m, hm⟩ : ∃ m, D.length = m + 1 := ⟨D.length - 1, by omega⟩
          have rD : IntRow wr Y D := T.row (v := .slice Y D.length cY) (by simp) rfl rfl
          have hlast := dl.out
          replace kb := below_more kb kb.size T.bel
          rw [hm] at hlast V1 N1 d1 ⊢
          obtain ⟨u, rfl, -, hu⟩ := rD m (by omega)
          replace hlast : D.getD m 0 = 1 := hlast
          rw [hlast] at hu
          have hm10 : ¬ 10 < (m : Int) + 1 := by omega
          have hm0 : ((m : Int) + 1 == 0) = false := beq_eq_false_iff_ne.2 (by omega)
          clear T dl hm d1 hlast d0
          go_wp2_with fail
          refine (V1 _ _ _ rD).mono ?_
          rintro e w5 ⟨rfl, b⟩
          replace rD := rD.keep b
          replace kb := below_more kb kb.size b
          clear V1 b hu
          go_wp2_with fail
          refine (N1 _ _ _ rD).mono ?_
          rintro e w6 ⟨Z, cZ, rfl, o, b⟩
          have rZ := intRow_own o
          replace rD := rD.keep b
          replace kb := below_more kb kb.size b
          clear o b
          go_wp2_with fail
          refine (V2 _ _ _ rZ).mono ?_
          rintro e w7 ⟨rfl, b⟩
          replace rD := rD.keep b
          replace kb := below_more kb kb.size b
          clear V2 b rZ
          go_wp2_with fail
          refine (D2 _).mono ?_
          rintro e w8 ⟨X, cX, rfl, o, b⟩
          have rX := intRow_own o
          replace rD := rD.keep b
          replace kb := below_more kb kb.size b
          clear D2 o b
          go_wp2_with fail
          refine (N1 _ _ _ rD).mono ?_
          rintro e w9 ⟨Z2, cZ2, rfl, o, b⟩
          have rZ := intRow_own o
          replace rX := rX.keep b
          replace kb := below_more kb kb.size b
          clear o b N1 rD
          go_wp2_with fail
          refine (S1 _ _ _ _ _ rX rZ).mono ?_
          rintro e w10 ⟨rfl, q6, rfl⟩
          replace kb := below_drewN kb q6
          clear S1 rX rZ
          generalize w9.drewN q6 = w10 at kb ⊢
          go_wp2_with fail
          refine (W1 _).mono ?_
          rintro e w11 ⟨rfl, b⟩
          replace kb := below_more kb kb.size b
          clear W1 b
          go_wp2_with fail
          go_ret
          exact ⟨by first | rfl | simp, kb⟩
end Go.Proofs.Ythedoijceeeinaa
