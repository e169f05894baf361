/-
  The law on weighings: exchanging the pans exchanges what the balance says, and the same coin in both pans says nothing. The walk, where the calls answer as they should.
-/
import Derived.Test.YtacfblhmijabgaaDrawWeigh
import Derived.Test.YtacfblhmijabgaaSameInts
import Derived.Test.YtacfblhmijabgaaExactThree
namespace Go.Proofs.Ytacfblhmijabgaa
open Go.ChangeShapes Go.WideShapes Go.ChangeAt Go.RowKit Go.PlainAid

/-- What the calls of the law answer. -/
structure WFacts (W L : List Int) (x z p q : Int) (f : Bool) : Prop where
  h1 : ∀ (A A' : Option Addr) (c c' : Nat) (v : World), IntRow v A W → IntRow v A' L → Calls Try.prog 12 #[.slice A W.length c, .slice A' L.length c'] v (SaysIB x true v)
  h2 : ∀ (A A' : Option Addr) (c c' : Nat) (v : World), IntRow v A W → IntRow v A' (negs L) → Calls Try.prog 12 #[.slice A W.length c, .slice A' (negs L).length c'] v (SaysIB (-x) true v)
  h3 : ∀ (A A' : Option Addr) (c c' : Nat) (v : World), IntRow v A (more W) → IntRow v A' L → Calls Try.prog 12 #[.slice A (more W).length c, .slice A' L.length c'] v (SaysIB z true v)
  hC : ∀ (A : Option Addr) (c : Nat) (v : World), IntRow v A L → Calls Try.prog 14 #[.slice A L.length c] v (SaysII p q v)
  hF : ∀ (A : Option Addr) (c : Nat) (v : World), IntRow v A L → Calls Try.prog 15 #[.int .i64 W.length, .slice A L.length c] v (SaysB f v)
  hT : ∀ (A : Option Addr) (c : Nat) (v : World), IntRow v A L → Calls Try.prog 13 #[.slice A L.length c] v (Copied (negs L) v)
  hU : ∀ (A : Option Addr) (c : Nat) (v : World), IntRow v A (negs L) → Calls Try.prog 13 #[.slice A (negs L).length c] v (Copied L v)
  hx : -1 ≤ x ∧ x ≤ 1
  hf : (f = true ∧ z = x ∧ p = q ∧ 0 < p) ∨ (f = false ∧ ¬ p = q) ∨ (f = false ∧ p = q ∧ ¬ 0 < p)

set_option maxRecDepth 100000 in
set_option maxHeartbeats 4000000 in
theorem weighings_small (hF : ∀ W L : List Int, 1 ≤ W.length → W.length ≤ 8 → L.length = W.length → (∀ z ∈ W, 0 ≤ z ∧ z ≤ 29) → (∀ z ∈ L, -1 ≤ z ∧ z ≤ 1) → ∃ (x z p q : Int) (f : Bool), WFacts W L x z p q f)
    (a : Option Addr) (len cap : Nat) (v0 : World) (hl : len ≤ 1048576) (hr : Bytes v0 v0.heap.size a len) :
    Calls Try.prog 3 #[.slice a len cap] v0 fun e w' => e = .returned (.bool true) ∧ Below v0.heap.size v0 w' := by
  obtain ⟨i0, hi, hz0, hz1, hz2⟩ := info_parts Try.infoIntT
  have hb : ¬ (1048576 : Int) < len := by omega
  have hD := drawWeighing_any v0.heap.size a len cap v0 rfl hl hr
  clear hl hr
  go_enter Try.func3, Try.ntmps3
  go_wp2_with (go_at_call 10; go_in)
  refine hD.mono ?_
  rintro e v1 ⟨A, c, W, A', c', L, n1, n2, n3, gW, gL, rfl, rW, rL, kb⟩
  obtain ⟨x, z, p, q, f, h1, h2, h3, hC, hF, hT, hU, hx, hf⟩ := hF W L n1 n2 n3 gW gL
  have hS := fun (B B' : Option Addr) (d d' : Nat) v (r : IntRow v B L) (r' : IntRow v B' L) => sameInts_same B B' _ d d' L v rfl (by omega) r r'
  have wb := getD_of_mem gW
  have hn2 : Hid (W.length ≤ 8) := n2
  clear hD gW gL hb n1 n2 n3
  go_wp2_with fail
  with_reducible refine (h1 A A' c c' _ rW rL).mono ?_
  rintro e v2 ⟨rfl, k⟩
  replace rW := rW.keep k
  replace rL := rL.keep k
  replace kb := below_more kb kb.size k
  clear h1 k
  go_wp2_with fail
  with_reducible refine (hT A' c' _ rL).mono ?_
  rintro e v3 ⟨T, ct, rfl, ot, k⟩
  have rT := intRow_own ot
  replace rW := rW.keep k
  replace rL := rL.keep k
  replace kb := below_more kb kb.size k
  clear ot k
  go_wp2_with fail
  with_reducible refine (h2 A T c ct _ rW rT).mono ?_
  rintro e v4 ⟨rfl, k⟩
  replace rW := rW.keep k
  replace rL := rL.keep k
  replace kb := below_more kb kb.size k
  clear h2 k rT
  have hown0 : (v4.alloc (.cells #[] 3)).ownsRow v4.heap.size 3 1 (.slice (some ⟨v4.heap.size, 0, none⟩) 0 0) 0 (ints []) := World.ownsRow_made v4 #[] 0 (Nat.le_refl _) (by decide) rfl
  have hb0 : Below v4.heap.size v4 (v4.alloc (.cells #[] 3)) := (Below.refl _ _).alloc (Nat.le_refl _) _
  go_wp2_with fail
  go_loopw [9, 10] (fun v i wr => ∃ k : Nat, k ≤ W.length ∧ i = .int .i64 k ∧ wr.ownsRow v4.heap.size 3 1 v k (ints (more (W.take k))) ∧ Below v4.heap.size v4 wr) (fun _ i _ => W.length - (intOf i).toNat)
  case atStart => exact ⟨0, by omega, rfl, hown0, hb0⟩
  case round =>
    clear hown0 hb0
    obtain ⟨k, hk, rfl, hown, hbel⟩ := hrel
    by_cases hlt : k < W.length
    · obtain ⟨y, rfl, hy0, hy1⟩ := rW k hlt
      have hy : wr.cell? (y.add k) = some (.int .i64 (W.getD k 0)) := (hbel.cell (by rw [addr_add_block]; exact hy0)).trans hy1
      have hz := wb k hlt
      have hsz := hbel.size
      have hmore := more_take hlt
      have h8 := hn2.out
      clear h3 hC hF hT hU hS wb rW rL kb hx hf hy1
      generalize W.getD k 0 = u at hy hz hmore
      have hw : y.block < wr.heap.size := by omega
      go_wp2_with (at_builtin; refine wpList_append_own _ rfl (.tmp 42) (.tmp 48) 24 rfl v4.heap.size 3 i0 (.int .i64 0) 1 8 Try.underlying24 hi hz0 hz1 hz2 rfl (by decide) u9 k _ rfl (hown.alloc _) ⟨wr.heap.size, 0, none⟩ 1 1 [_] rfl rfl (news_new _ [_] _) (by simp [Value.oneCell']) (by unfold maxLen; omega) (by omega) (by simp; omega) ?_; intro v' w2 hown1 hgrow1 _)
      have R := app_rel (w := v4) (Nat.le_refl _) hown hbel hown1 hgrow1
      rw [← hmore] at R
      clear hown1 hgrow1 hown hbel hmore
      obtain ⟨R1, R2⟩ := R
      go_wp2
      go_roundw
      case rel => exact ⟨k + 1, by omega, by go_num, R1, R2⟩
      case measure => simp [intOf]; omega
    · obtain rfl : k = W.length := by omega
      have e : W.take W.length = W := List.take_of_length_le (Nat.le_refl _)
      rw [e] at hown
      have hcp := own_copied (L := more W) (more_length W) hown hbel
      obtain ⟨M, cm, hv, om, bm⟩ := hcp
      injection hv with hv
      subst hv
      have rM := intRow_own om
      replace rW := rW.keep bm
      replace rL := rL.keep bm
      replace kb := below_more kb kb.size bm
      clear hown hbel om bm e wb
      go_wp2_with fail
      with_reducible refine (h3 M A' cm c' _ rM rL).mono ?_
      rintro e v5 ⟨rfl, k⟩
      replace rL := rL.keep k
      replace kb := below_more kb kb.size k
      clear h3 k rM rW
      go_wp2_with fail
      with_reducible refine (hC A' c' _ rL).mono ?_
      rintro e v6 ⟨rfl, k⟩
      replace rL := rL.keep k
      replace kb := below_more kb kb.size k
      clear hC k
      rcases hf with ⟨rfl, rfl, rfl, hp⟩ | ⟨rfl, hp⟩ | ⟨rfl, rfl, hp⟩
      all_goals
        go_wp2_with fail
        with_reducible refine (hF A' c' _ rL).mono ?_
        rintro e v7 ⟨rfl, k⟩
        replace rL := rL.keep k
        replace kb := below_more kb kb.size k
        clear k
        go_wp2_with fail
        with_reducible refine (hF A' c' _ rL).mono ?_
        rintro e v8 ⟨rfl, k⟩
        replace rL := rL.keep k
        replace kb := below_more kb kb.size k
        clear k hF
        go_wp2_with fail
        with_reducible refine (hT A' c' _ rL).mono ?_
        rintro e v9 ⟨T2, t2, rfl, o9, k⟩
        have r9 := intRow_own o9
        replace rL := rL.keep k
        replace kb := below_more kb kb.size k
        clear k hT o9
        go_wp2_with fail
        with_reducible refine (hU T2 t2 _ r9).mono ?_
        rintro e v10 ⟨U2, s2, rfl, o10, k⟩
        have r10 := intRow_own o10
        replace rL := rL.keep k
        replace kb := below_more kb kb.size k
        clear k hU o10 r9
        go_wp2_with fail
        with_reducible refine (hS U2 A' s2 c' _ r10 rL).mono ?_
        rintro e v11 ⟨rfl, qq, rfl⟩
        have kend := below_drewN kb qq
        clear hS r10 rL kb
        go_wp2_with fail
        go_ret
        exact ⟨by first | rfl | (simp; omega), kend⟩
end Go.Proofs.Ytacfblhmijabgaa
