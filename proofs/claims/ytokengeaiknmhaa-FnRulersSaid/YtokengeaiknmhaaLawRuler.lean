/-
  The law on rulers: a ruler that measures every length exactly once has at most four marks. Where the program's functions answer as the model's do.
-/
import Derived.Test.YtokengeaiknmhaaImpl7
import Derived.Test.YtokengeaiknmhaaDrawRuler
import Derived.Test.YtokengeaiknmhaaAtFix
import Derived.Test.YtokengeaiknmhaaSameInts
import Derived.Test.YtokengeaiknmhaaSays
import Derived.Test.YtokengeaiknmhaaHeldBy
import Derived.BigRegion
import Derived.BigQuiet
import Derived.Deep.RegionHeld3
namespace Go.Proofs.Ytokengeaiknmhaa
open Go.ChangeShapes Go.WideShapes Go.ChangeAt Go.RowKit Go.PlainAid

theorem six_pairs {n : Nat} (h1 : 1 ≤ n) (h6 : n ≤ 6) : ∃ t : Int, (n : Int) * ((n : Int) - 1) = t ∧ 0 ≤ t ∧ t ≤ 30 ∧ ((n * (n - 1) / 2 : Nat) : Int) = t / 2 := by
  have : n = 1 ∨ n = 2 ∨ n = 3 ∨ n = 4 ∨ n = 5 ∨ n = 6 := by omega
  rcases this with rfl | rfl | rfl | rfl | rfl | rfl <;> exact ⟨_, rfl, by decide, by decide, by decide⟩
theorem top_row : ∀ K, K < 6 → 1 ≤ K → ([.int .i64 0, .int .i64 0, .int .i64 1, .int .i64 3, .int .i64 6, .int .i64 11] : List Value)[K]? = some (.int .i64 (topOf K)) := by
  intro K h1 h2
  have : K = 1 ∨ K = 2 ∨ K = 3 ∨ K = 4 ∨ K = 5 := by omega
  rcases this with rfl | rfl | rfl | rfl | rfl <;> rfl

set_option maxRecDepth 100000 in
set_option maxHeartbeats 4000000 in
theorem rulers_any (H : Impl7) (a : Option Addr) (len cap : Nat) (v0 : World) (hl : len ≤ 1048576) (hr : Bytes v0 v0.heap.size a len) :
    Calls Try.prog 3 #[.slice a len cap] v0 fun e w' => e = .returned (.bool true) ∧ Below v0.heap.size v0 w' := by
  have hb : ¬ (1048576 : Int) < len := by omega
  have hD := drawRuler_any v0.heap.size a len cap v0 rfl hl hr
  obtain ⟨x, x0, x1, A0⟩ := at_fix v0.heap.size a len cap 0 v0 hl (by decide) (by decide) hr
  obtain ⟨y, y0, y1, A1⟩ := at_fix v0.heap.size a len cap 1 v0 hl (by decide) (by decide) hr
  clear hr
  obtain ⟨K, hK⟩ : ∃ K : Nat, (K : Int) = 1 + x % 5 := ⟨(1 + x % 5).toNat, by omega⟩
  obtain ⟨J, hJ⟩ : ∃ J : Nat, (J : Int) = 1 + y % 13 := ⟨(1 + y % 13).toNat, by omega⟩
  have hK5 : 1 ≤ K ∧ K ≤ 5 := by omega
  have hJ13 : 1 ≤ J ∧ J ≤ 13 := by omega
  go_enter Try.func3, Try.ntmps3
  go_wp2_with (go_at_call 11; go_in)
  refine hD.mono ?_
  rintro e v1 ⟨A, c, L, hG, h6, hc, rfl, rL, kb⟩
  clear hD hb hl
  have hP := gap_rul hG (by omega)
  have n1 := hP.1.1.1
  have F4 := four_marks hG h6
  have hcount := lenL_count hP
  have HL := fun v (r : IntRow v A L) => H.hL L A c v (by omega) hc r
  have HT := fun v (r : IntRow v A L) => H.hT L A c v (by omega) hc r
  have HG := fun v (r : IntRow v A L) => H.hG L A c v (by omega) hc r
  have HM := fun v (r : IntRow v A L) => H.hM L A c v (by omega) hc r
  have ML := fun B d v (g : L.length ≤ d) (r : IntRow v B (mirL L)) => H.hL (mirL L) B d v (by rw [mirL_length]; omega) (by rw [mirL_length]; exact g) r
  have MT := fun B d v (g : L.length ≤ d) (r : IntRow v B (mirL L)) => H.hT (mirL L) B d v (by rw [mirL_length]; omega) (by rw [mirL_length]; exact g) r
  have MG := fun B d v (g : L.length ≤ d) (r : IntRow v B (mirL L)) => H.hG (mirL L) B d v (by rw [mirL_length]; omega) (by rw [mirL_length]; exact g) r
  have MR := fun B d v (g : L.length ≤ d) (r : IntRow v B (mirL L)) => H.hR (mirL L) B d v (by rw [mirL_length]; omega) (by rw [mirL_length]; exact g) r
  rw [mirA_yes (decide_eq_true hP : rulB L = true)] at HT
  rw [mirror_len hP, mirL_length] at ML
  rw [mirror_mirA hP, mirL_length] at MT
  rw [mirror_gol hP, mirL_length] at MG
  rw [mirror_rulB hP, mirL_length] at MR
  obtain ⟨hSt, hSg⟩ := short_facts K (by omega) hK5.1
  have hSl := shortL_len K (by omega) hK5.1
  have hTop := topOf_le K (by omega)
  have hS := H.hS (K : Int)
  rw [shortA_in hK5] at hS
  have SG := fun B d v (g : K ≤ d) (r : IntRow v B (shortL K)) => H.hG (shortL K) B d v (by omega) (by omega) r
  rw [hSg, hSl] at SG
  have hF := H.hF (J : Int)
  rw [fewA_in hJ13] at hF
  have hFl := fewOf_le J (by omega) hJ13.1
  have hFm := few_facts J (by omega) hJ13.1
  obtain ⟨s, hs, s0, s1, hsJ⟩ := six_pairs (n := fewOf J) (by omega) (by omega)
  generalize fewOf J = F at hF hFl hFm hs hsJ
  have hrow := top_row K (by omega) hK5.1
  generalize topOf K = T at hSt hTop hrow
  have hMl := mirL_length L
  have hDl := lenL_length L
  obtain ⟨n, hn⟩ : ∃ n, L.length = n := ⟨_, rfl⟩
  obtain ⟨t, ht, t0, t1, htn⟩ := six_pairs (n := n) (by omega) (by omega)
  rw [hn] at hcount HL HT HG HM ML MT MG MR F4 h6 n1 hMl hc
  rw [← hcount] at htn
  clear H hP hG hcount hSg
  have gold : Hid (∀ B, B = golB L → B = true → ∀ D, D = measB L → D = true → n ≤ 4) := fun B e1 e2 D e3 e4 => F4 (by rw [← e1, e2]) (by rw [← e3, e4])
  clear F4
  generalize golB L = b1 at HG MG gold
  generalize measB L = b2 at HM gold
  generalize mirL L = M at HT ML MT MG MR hMl
  generalize lenL L = D at HL ML htn hDl
  generalize shortL K = S at hS SG hSt hSl
  obtain ⟨dn, hdn⟩ : ∃ dn, D.length = dn := ⟨_, rfl⟩
  have hL1 : Hid (L.length = n) := hn
  have hM1 : Hid (M.length = n) := hMl
  have hS1 : Hid (S.length = K) := hSl
  have hD1 : Hid (D.length = dn) := hdn
  rw [hn]
  rw [hdn] at htn hDl
  clear hn hMl hSl hdn
  go_wp2_with fail
  refine (HL _ rL).mono ?_
  rintro e w1 ⟨AD, cD, rfl, o, b⟩
  rw [hD1.out] at o ⊢
  have rD : IntRow w1 AD D := intRow_own o
  replace rL := rL.keep b
  replace kb := below_more kb kb.size b
  clear b o HL
  go_wp2_with fail
  refine (HT _ rL).mono ?_
  rintro e w2 ⟨AM, cM, rfl, o, b⟩
  rw [hM1.out] at o ⊢
  have rM : IntRow w2 AM M := intRow_own o
  have gM : n ≤ cM := cap_own o
  replace rL := rL.keep b
  replace rD := rD.keep b
  replace kb := below_more kb kb.size b
  clear b o HT
  replace ML := fun v r => ML AM cM v gM r
  replace MT := fun v r => MT AM cM v gM r
  replace MG := fun v r => MG AM cM v gM r
  replace MR := fun v r => MR AM cM v gM r
  clear gM
  go_wp2_with fail
  refine (A0 _ kb).mono ?_
  rintro e w3 ⟨rfl, q1, rfl⟩
  have b := below_drewN (Below.refl w2.heap.size w2) q1
  replace rL := rL.keep b
  replace rM := rM.keep b
  replace rD := rD.keep b
  replace kb := below_more kb kb.size b
  clear b
  generalize w2.drewN q1 = w3 at rL rM rD kb ⊢
  clear A0
  go_wp2_with fail
  rw [← hK]
  clear hK x0 x1
  refine (hS _).mono ?_
  rintro e w4 ⟨AS, cS, rfl, o, b⟩
  rw [hS1.out] at o ⊢
  have rS : IntRow w4 AS S := intRow_own o
  have gS : K ≤ cS := cap_own o
  replace rL := rL.keep b
  replace rM := rM.keep b
  replace rD := rD.keep b
  replace kb := below_more kb kb.size b
  clear b
  clear o hS
  replace SG := fun v r => SG AS cS v gS r
  clear gS
  obtain ⟨xS, rfl, -, hcS⟩ := rS (K - 1) (by have := hS1.out; omega)
  obtain ⟨k, hk⟩ : ∃ k, K - 1 = k := ⟨_, rfl⟩
  rw [hSt, hk] at hcS
  have b0 : Below w4.heap.size w4 w4.drew := (Below.refl w4.heap.size w4).drew
  have b1' : Below w4.heap.size w4 (w4.alloc (.cells #[.int .i64 0, .int .i64 0, .int .i64 1, .int .i64 3, .int .i64 6, .int .i64 11] 3)).drew := ((Below.refl w4.heap.size w4).alloc (Nat.le_refl _) _).drew
  have hcS0 : w4.drew.cell? (xS.add k) = some (.int .i64 T) := (b0.cell (lt_of_cell hcS)).trans hcS
  have hcS1 := (b1'.cell (lt_of_cell hcS)).trans hcS
  have hrowA : (#[.int .i64 0, .int .i64 0, .int .i64 1, .int .i64 3, .int .i64 6, .int .i64 11] : Array Value)[K]? = some (.int .i64 T) := by rw [← hrow, List.getElem?_toArray]
  have rS1 := rS.keep b1'
  have hk1 : IntKind.i64.wrap ((K : Int) - 1) = (k : Int) := by rw [IntKind.wrap_i64]; omega
  have hk2 : (k : Int) < K := by omega
  have hk3 : (K : Int) < 6 := by omega
  have hKeep : Hid (IntRow w4 A L ∧ IntRow w4 AM M ∧ IntRow w4 AD D ∧ Below v0.heap.size v0 w4 ∧ (∀ v, IntRow v A L → Calls Try.prog 17 #[.slice A n c] v (SaysB b1 v)) ∧ (∀ v, IntRow v A L → Calls Try.prog 20 #[.slice A n c] v (SaysB b2 v)) ∧ (∀ v, IntRow v AM M → Calls Try.prog 13 #[.slice AM n cM] v (Copied D v)) ∧ (∀ v, IntRow v AM M → Calls Try.prog 14 #[.slice AM n cM] v (Copied L v)) ∧ (∀ v, IntRow v AM M → Calls Try.prog 17 #[.slice AM n cM] v (SaysB b1 v)) ∧ (∀ v, IntRow v AM M → Calls Try.prog 21 #[.slice AM n cM] v (SaysB true v)) ∧ (∀ v, Calls Try.prog 18 #[.int .i64 J] v (SaysI F v)) ∧ (∀ v, Below v0.heap.size v0 v → Calls Try.prog 15 #[.slice a len cap, .int .i64 1] v fun e w' => e = .returned (.int .i64 y) ∧ ∃ q, w' = v.drewN q)) := ⟨rL, rM, rD, kb, HG, HM, ML, MT, MG, MR, hF, A1⟩
  have hNums : Hid ((J : Int) = 1 + y % 13 ∧ 0 ≤ y ∧ y ≤ 255 ∧ (1 ≤ J ∧ J ≤ 13) ∧ (2 ≤ F ∧ F ≤ 6) ∧ J ≤ F * (F - 1) / 2 ∧ (F : Int) * ((F : Int) - 1) = s ∧ 0 ≤ s ∧ s ≤ 30 ∧ ((F * (F - 1) / 2 : Nat) : Int) = s / 2 ∧ 1 ≤ n ∧ n ≤ 6 ∧ (n : Int) * ((n : Int) - 1) = t ∧ 0 ≤ t ∧ t ≤ 30 ∧ (dn : Int) = t / 2 ∧ dn ≤ 1680) := ⟨hJ, y0, y1, hJ13, hFl, hFm, hs, s0, s1, hsJ, n1, h6, ht, t0, t1, htn, hDl⟩
  clear rL rM rD kb HG HM ML MT MG MR hF A1 hJ y0 y1 hJ13 hFl hFm hs s0 s1 hsJ n1 h6 ht t0 t1 htn hDl hS1 hc hTop hSt
  go_wp2_with fail
  refine held_drew (fun W => W.cell? (xS.add k) = some (.int .i64 T)) (by kernel_rfl) (hcS0) (fun hHeld => ?_)
  refine held_take 0 (by kernel_rfl) (by kernel_rfl) (by kernel_rfl) (by kernel_rfl) hHeld ?_
  intro o ho
  simp only [List.getElem?_toArray, List.getElem?_cons_zero, Option.some.injEq] at ho
  subst ho
  refine ⟨?_, fun _ _ _ h => h, Or.inl ⟨by rfl, ?_⟩, ?_⟩
  case refine_2 =>
    intro w hSw
    (try dsimp only at hSw)
    go_simp
    try with_reducible rfl
  simp only [Act.put, List.setIfInBounds_toArray, List.set_cons_zero, List.set_cons_succ]
  refine held_take 1 (by kernel_rfl) (by kernel_rfl) (by kernel_rfl) (by kernel_rfl) hHeld ?_
  intro o ho
  simp only [List.getElem?_toArray, List.getElem?_cons_zero, List.getElem?_cons_succ, Option.some.injEq] at ho
  subst ho
  refine ⟨?_, fun _ _ _ h => h, Or.inl ⟨by rfl, ?_⟩, ?_⟩
  case refine_2 =>
    intro w hSw
    (try dsimp only at hSw)
    go_simp
    try with_reducible rfl
  simp only [Act.put, List.setIfInBounds_toArray, List.set_cons_zero, List.set_cons_succ]
  refine held_take 2 (by kernel_rfl) (by kernel_rfl) (by kernel_rfl) (by kernel_rfl) hHeld ?_
  intro o ho
  simp only [List.getElem?_toArray, List.getElem?_cons_zero, List.getElem?_cons_succ, Option.some.injEq] at ho
  subst ho
  refine ⟨?_, fun _ _ _ h => h, Or.inl ⟨by rfl, ?_⟩, ?_⟩
  case refine_2 =>
    intro w hSw
    (try dsimp only at hSw)
    go_simp
    try with_reducible rfl
  simp only [Act.put, List.setIfInBounds_toArray, List.set_cons_zero, List.set_cons_succ]
  refine held_take 3 (by kernel_rfl) (by kernel_rfl) (by kernel_rfl) (by kernel_rfl) hHeld ?_
  intro o ho
  simp only [List.getElem?_toArray, List.getElem?_cons_zero, List.getElem?_cons_succ, Option.some.injEq] at ho
  subst ho
  refine ⟨?_, fun _ _ _ h => h, Or.inl ⟨by rfl, ?_⟩, ?_⟩
  case refine_2 =>
    intro w hSw
    (try dsimp only at hSw)
    go_simp
    try with_reducible rfl
  simp only [Act.put, List.setIfInBounds_toArray, List.set_cons_zero, List.set_cons_succ]
  refine held_take 4 (by kernel_rfl) (by kernel_rfl) (by kernel_rfl) (by kernel_rfl) hHeld ?_
  intro o ho
  simp only [List.getElem?_toArray, List.getElem?_cons_zero, List.getElem?_cons_succ, Option.some.injEq] at ho
  subst ho
  refine ⟨?_, fun _ _ _ h => h, Or.inl ⟨by rfl, ?_⟩, ?_⟩
  case refine_2 =>
    intro w hSw
    (try dsimp only at hSw)
    go_simp
    try with_reducible rfl
  simp only [Act.put, List.setIfInBounds_toArray, List.set_cons_zero, List.set_cons_succ]
  refine held_take 5 (by kernel_rfl) (by kernel_rfl) (by kernel_rfl) (by kernel_rfl) hHeld ?_
  intro o ho
  simp only [List.getElem?_toArray, List.getElem?_cons_zero, List.getElem?_cons_succ, Option.some.injEq] at ho
  subst ho
  refine ⟨?_, fun _ _ _ h => h, Or.inl ⟨by rfl, ?_⟩, ?_⟩
  case refine_2 =>
    intro w hSw
    (try dsimp only at hSw)
    go_simp
    try with_reducible rfl
  simp only [Act.put, List.setIfInBounds_toArray, List.set_cons_zero, List.set_cons_succ]
  refine held_take 6 (by kernel_rfl) (by kernel_rfl) (by kernel_rfl) (by kernel_rfl) hHeld ?_
  intro o ho
  simp only [List.getElem?_toArray, List.getElem?_cons_zero, List.getElem?_cons_succ, Option.some.injEq] at ho
  subst ho
  refine ⟨?_, fun _ _ _ h => h, Or.inl ⟨by rfl, ?_⟩, ?_⟩
  case refine_2 =>
    intro w hSw
    (try dsimp only at hSw)
    go_simp
    try with_reducible rfl
  simp only [Act.put, List.setIfInBounds_toArray, List.set_cons_zero, List.set_cons_succ]
  refine held_take 7 (by kernel_rfl) (by kernel_rfl) (by kernel_rfl) (by kernel_rfl) hHeld ?_
  intro o ho
  simp only [List.getElem?_toArray, List.getElem?_cons_zero, List.getElem?_cons_succ, Option.some.injEq] at ho
  subst ho
  refine ⟨?_, fun _ _ _ h => h, Or.inl ⟨by rfl, ?_⟩, ?_⟩
  case refine_2 =>
    intro w hSw
    (try dsimp only at hSw)
    go_simp
    try with_reducible rfl
  simp only [Act.put, List.setIfInBounds_toArray, List.set_cons_zero, List.set_cons_succ]
  refine held_take 8 (by kernel_rfl) (by kernel_rfl) (by kernel_rfl) (by kernel_rfl) hHeld ?_
  intro o ho
  simp only [List.getElem?_toArray, List.getElem?_cons_zero, List.getElem?_cons_succ, Option.some.injEq] at ho
  subst ho
  refine ⟨?_, fun _ _ _ h => h, Or.inl ⟨by rfl, ?_⟩, ?_⟩
  case refine_2 =>
    intro w hSw
    (try dsimp only at hSw)
    go_simp
    try with_reducible rfl
  simp only [Act.put, List.setIfInBounds_toArray, List.set_cons_zero, List.set_cons_succ]
  refine held_take 9 (by kernel_rfl) (by kernel_rfl) (by kernel_rfl) (by kernel_rfl) hHeld ?_
  intro o ho
  simp only [List.getElem?_toArray, List.getElem?_cons_zero, List.getElem?_cons_succ, Option.some.injEq] at ho
  subst ho
  refine ⟨?_, fun _ _ _ h => h, Or.inl ⟨by rfl, ?_⟩, ?_⟩
  case refine_2 =>
    intro w hSw
    (try dsimp only at hSw)
    go_simp
    try with_reducible rfl
  simp only [Act.put, List.setIfInBounds_toArray, List.set_cons_zero, List.set_cons_succ]
  refine held_take 11 (by kernel_rfl) (by kernel_rfl) (by kernel_rfl) (by kernel_rfl) hHeld ?_
  intro o ho
  simp only [List.getElem?_toArray, List.getElem?_cons_zero, List.getElem?_cons_succ, Option.some.injEq] at ho
  subst ho
  refine ⟨?_, fun _ _ _ h => h, Or.inl ⟨by rfl, ?_⟩, ?_⟩
  case refine_2 =>
    intro w hSw
    (try dsimp only at hSw)
    go_simp
    try with_reducible rfl
  simp only [Act.put, List.setIfInBounds_toArray, List.set_cons_zero, List.set_cons_succ]
  refine held_only 10 (by kernel_rfl) (by kernel_rfl) ?_
  intro o ho K hK
  simp only [List.getElem?_toArray, List.getElem?_cons_zero, List.getElem?_cons_succ, Option.some.injEq] at ho
  subst ho
  go_simp
  refine hK.out _ _ (hcS1) (fun hHeld => ?_)
  clear hK K
  try simp only [Act.put, List.setIfInBounds_toArray, List.set_cons_zero, List.set_cons_succ]
  refine held_take 12 (by kernel_rfl) (by kernel_rfl) (by kernel_rfl) (by kernel_rfl) hHeld ?_
  intro o ho
  simp only [List.getElem?_toArray, List.getElem?_cons_zero, List.getElem?_cons_succ, Option.some.injEq] at ho
  subst ho
  refine ⟨?_, fun _ _ _ h => h, Or.inl ⟨by rfl, ?_⟩, ?_⟩
  case refine_2 =>
    intro w hSw
    (try dsimp only at hSw)
    go_simp
    try with_reducible rfl
  simp only [Act.put, List.setIfInBounds_toArray, List.set_cons_zero, List.set_cons_succ]
  refine held_only 13 (by kernel_rfl) (by kernel_rfl) ?_
  intro o ho K hK
  simp only [List.getElem?_toArray, List.getElem?_cons_zero, List.getElem?_cons_succ, Option.some.injEq] at ho
  subst ho
  go_simp
  refine hK.out _ _ (hcS1) (fun hHeld => ?_)
  clear hK K
  try simp only [Act.put, List.setIfInBounds_toArray, List.set_cons_zero, List.set_cons_succ]
  refine held_take 14 (by kernel_rfl) (by kernel_rfl) (by kernel_rfl) (by kernel_rfl) hHeld ?_
  intro o ho
  simp only [List.getElem?_toArray, List.getElem?_cons_zero, List.getElem?_cons_succ, Option.some.injEq] at ho
  subst ho
  refine ⟨?_, fun _ _ _ h => h, Or.inl ⟨by rfl, ?_⟩, ?_⟩
  case refine_2 =>
    intro w hSw
    (try dsimp only at hSw)
    go_simp
    try with_reducible rfl
  simp only [Act.put, List.setIfInBounds_toArray, List.set_cons_zero, List.set_cons_succ]
  refine held_take 15 (by kernel_rfl) (by kernel_rfl) (by kernel_rfl) (by kernel_rfl) hHeld ?_
  intro o ho
  simp only [List.getElem?_toArray, List.getElem?_cons_zero, List.getElem?_cons_succ, Option.some.injEq] at ho
  subst ho
  refine ⟨?_, fun _ _ _ h => h, Or.inl ⟨by rfl, ?_⟩, ?_⟩
  case refine_2 =>
    intro w hSw
    (try dsimp only at hSw)
    go_simp
    try with_reducible rfl
  simp only [Act.put, List.setIfInBounds_toArray, List.set_cons_zero, List.set_cons_succ]
  refine held_take 16 (by kernel_rfl) (by kernel_rfl) (by kernel_rfl) (by kernel_rfl) hHeld ?_
  intro o ho
  simp only [List.getElem?_toArray, List.getElem?_cons_zero, List.getElem?_cons_succ, Option.some.injEq] at ho
  subst ho
  refine ⟨?_, fun _ _ _ h => h, Or.inl ⟨by rfl, ?_⟩, ?_⟩
  case refine_2 =>
    intro w hSw
    (try dsimp only at hSw)
    go_simp
    try with_reducible rfl
  simp only [Act.put, List.setIfInBounds_toArray, List.set_cons_zero, List.set_cons_succ]
  refine held_take 17 (by kernel_rfl) (by kernel_rfl) (by kernel_rfl) (by kernel_rfl) hHeld ?_
  intro o ho
  simp only [List.getElem?_toArray, List.getElem?_cons_zero, List.getElem?_cons_succ, Option.some.injEq] at ho
  subst ho
  refine ⟨?_, fun _ _ _ h => h, Or.inl ⟨by rfl, ?_⟩, ?_⟩
  case refine_2 =>
    intro w hSw
    (try dsimp only at hSw)
    go_simp
    try with_reducible rfl
  simp only [Act.put, List.setIfInBounds_toArray, List.set_cons_zero, List.set_cons_succ]
  refine held_only 18 (by kernel_rfl) (by kernel_rfl) ?_
  intro o ho K hK
  simp only [List.getElem?_toArray, List.getElem?_cons_zero, List.getElem?_cons_succ, Option.some.injEq] at ho
  subst ho
  go_simp; go_at_call 17; (with_reducible refine (SG _ rS1).mono ?_); rintro e w5 ⟨rfl, b⟩; replace b := below_more b1' b1'.size b; have hcS5 := (b.cell (lt_of_cell hcS)).trans hcS; clear b0 b1' hcS0 hcS1 rS rS1 hrow hrowA SG hk1 hk2 hk3
  refine hK.out _ _ (hcS5) (fun hHeld => ?_)
  clear hK K
  try simp only [Act.put, List.setIfInBounds_toArray, List.set_cons_zero, List.set_cons_succ]
  refine held_take 19 (by kernel_rfl) (by kernel_rfl) (by kernel_rfl) (by kernel_rfl) hHeld ?_
  intro o ho
  simp only [List.getElem?_toArray, List.getElem?_cons_zero, List.getElem?_cons_succ, Option.some.injEq] at ho
  subst ho
  refine ⟨?_, fun _ _ _ h => h, Or.inl ⟨by rfl, ?_⟩, ?_⟩
  case refine_2 =>
    intro w hSw
    (try dsimp only at hSw)
    go_simp
    try with_reducible rfl
  simp only [Act.put, List.setIfInBounds_toArray, List.set_cons_zero, List.set_cons_succ]
  refine held_take 20 (by kernel_rfl) (by kernel_rfl) (by kernel_rfl) (by kernel_rfl) hHeld ?_
  intro o ho
  simp only [List.getElem?_toArray, List.getElem?_cons_zero, List.getElem?_cons_succ, Option.some.injEq] at ho
  subst ho
  refine ⟨?_, fun _ _ _ h => h, Or.inl ⟨by rfl, ?_⟩, ?_⟩
  case refine_2 =>
    intro w hSw
    (try dsimp only at hSw)
    go_simp
    try with_reducible rfl
  simp only [Act.put, List.setIfInBounds_toArray, List.set_cons_zero, List.set_cons_succ]
  refine wpAnyH_done (by kernel_rfl) ?_ _
  obtain ⟨rL, rM, rD, kb, HG, HM, ML, MT, MG, MR, hF, A1⟩ := hKeep.out
  obtain ⟨hJ, y0, y1, hJ13, hFl, hFm, hs, s0, s1, hsJ, n1, h6, ht, t0, t1, htn, hDl⟩ := hNums.out
  replace rL := rL.keep b
  replace rM := rM.keep b
  replace rD := rD.keep b
  replace kb := below_more kb kb.size b
  clear b
  clear hKeep hNums hcS hcS5 hHeld
  go_wp2_with fail
  refine (A1 _ kb).mono ?_
  rintro e w6 ⟨rfl, q2, rfl⟩
  have b := below_drewN (Below.refl w5.heap.size w5) q2
  replace rL := rL.keep b
  replace rM := rM.keep b
  replace rD := rD.keep b
  replace kb := below_more kb kb.size b
  clear b
  generalize w5.drewN q2 = w6 at rL rM rD kb ⊢
  go_wp2_with fail
  rw [← hJ]
  refine (hF _).mono ?_
  rintro e w7 ⟨rfl, b⟩
  replace rL := rL.keep b
  replace rM := rM.keep b
  replace rD := rD.keep b
  replace kb := below_more kb kb.size b
  clear b
  clear hF
  have hdB : ((dn : Int) == (t / 2)) = true := by rw [← htn]; simp
  have hJ2 : 1 + y % 13 ≤ s / 2 := by omega
  have hF2 : (2 : Int) ≤ F := by omega
  obtain ⟨hFa, hFb⟩ := hFl
  clear hsJ hFm hJ13
  go_wp2_with fail
  refine (ML _ rM).mono ?_
  rintro e w8 ⟨AE, cE, rfl, o, b⟩
  rw [hD1.out] at o ⊢
  have rE : IntRow w8 AE D := intRow_own o
  replace rL := rL.keep b
  replace rM := rM.keep b
  replace rD := rD.keep b
  replace kb := below_more kb kb.size b
  clear b
  clear o ML
  go_wp2_with fail
  refine (sameInts_same AE AD dn cE cD D w8 hD1.out (by omega) rE rD).mono ?_
  rintro e w9 ⟨rfl, q3, rfl⟩
  have b := below_drewN (Below.refl w8.heap.size w8) q3
  clear rE
  replace rL := rL.keep b
  replace rM := rM.keep b
  replace rD := rD.keep b
  replace kb := below_more kb kb.size b
  clear b
  generalize w8.drewN q3 = w9 at rL rM rD kb ⊢
  clear rD
  go_wp2_with fail
  refine (MT _ rM).mono ?_
  rintro e w10 ⟨AE, cE, rfl, o, b⟩
  rw [hL1.out] at o ⊢
  have rE : IntRow w10 AE L := intRow_own o
  replace rL := rL.keep b
  replace rM := rM.keep b
  replace kb := below_more kb kb.size b
  clear b
  clear o MT
  go_wp2_with fail
  refine (sameInts_same AE A n cE c L w10 hL1.out (by omega) rE rL).mono ?_
  rintro e w11 ⟨rfl, q4, rfl⟩
  have b := below_drewN (Below.refl w10.heap.size w10) q4
  clear rE
  replace rL := rL.keep b
  replace rM := rM.keep b
  replace kb := below_more kb kb.size b
  clear b
  generalize w10.drewN q4 = w11 at rL rM kb ⊢
  go_wp2_with fail
  refine (HG _ rL).mono ?_
  rintro e w12 ⟨rfl, b⟩
  replace rL := rL.keep b
  replace rM := rM.keep b
  replace kb := below_more kb kb.size b
  clear b
  go_wp2_with fail
  refine (MG _ rM).mono ?_
  rintro e w13 ⟨rfl, b⟩
  replace rL := rL.keep b
  replace rM := rM.keep b
  replace kb := below_more kb kb.size b
  clear b
  clear MG
  have hbb : (b1 == b1) = true := by simp
  go_wp2_with fail
  refine (HG _ rL).mono ?_
  rintro e w14 ⟨rfl, b⟩
  replace rL := rL.keep b
  replace rM := rM.keep b
  replace kb := below_more kb kb.size b
  clear b
  clear HG hbb
  have hcase : b1 = false ∨ (b1 = true ∧ b2 = false) ∨ (b1 = true ∧ b2 = true ∧ (n : Int) ≤ 4) := by
    rcases b1 with _ | _
    · exact .inl rfl
    · rcases b2 with _ | _
      · exact .inr (.inl ⟨rfl, rfl⟩)
      · exact .inr (.inr ⟨rfl, rfl, by have := gold.out true rfl rfl true rfl rfl; omega⟩)
  clear gold
  rcases hcase with rfl | ⟨rfl, rfl⟩ | ⟨rfl, rfl, h4⟩
  · go_wp2_with fail
    refine (A1 _ kb).mono ?_
    rintro e w20 ⟨rfl, q5, rfl⟩
    have b := below_drewN (Below.refl w14.heap.size w14) q5
    replace rM := rM.keep b
    replace kb := below_more kb kb.size b
    clear b
    go_wp2_with fail
    rw [← hJ]
    refine (MR _ rM).mono ?_
    rintro e w21 ⟨rfl, b⟩
    replace kb := below_more kb kb.size b
    clear b MR A1
    go_wp2_with fail
    go_ret
    exact ⟨rfl, kb⟩
  · go_wp2_with fail
    refine (HM _ rL).mono ?_
    rintro e w15 ⟨rfl, b⟩
    replace rL := rL.keep b
    replace rM := rM.keep b
    replace kb := below_more kb kb.size b
    clear b
    go_wp2_with fail
    refine (A1 _ kb).mono ?_
    rintro e w20 ⟨rfl, q5, rfl⟩
    have b := below_drewN (Below.refl w15.heap.size w15) q5
    replace rM := rM.keep b
    replace kb := below_more kb kb.size b
    clear b
    go_wp2_with fail
    rw [← hJ]
    refine (MR _ rM).mono ?_
    rintro e w21 ⟨rfl, b⟩
    replace kb := below_more kb kb.size b
    clear b MR A1
    go_wp2_with fail
    go_ret
    exact ⟨rfl, kb⟩
  · go_wp2_with fail
    refine (HM _ rL).mono ?_
    rintro e w15 ⟨rfl, b⟩
    replace rL := rL.keep b
    replace rM := rM.keep b
    replace kb := below_more kb kb.size b
    clear b
    go_wp2_with fail
    refine (A1 _ kb).mono ?_
    rintro e w20 ⟨rfl, q5, rfl⟩
    have b := below_drewN (Below.refl w15.heap.size w15) q5
    replace rM := rM.keep b
    replace kb := below_more kb kb.size b
    clear b
    go_wp2_with fail
    rw [← hJ]
    refine (MR _ rM).mono ?_
    rintro e w21 ⟨rfl, b⟩
    replace kb := below_more kb kb.size b
    clear b MR A1
    go_wp2_with fail
    go_ret
    exact ⟨rfl, kb⟩
end Go.Proofs.Ytokengeaiknmhaa
