/-
  What the calls of the law on weighings answer, for drawn coins and loads, where the program's functions answer as the model's do.
-/
import Derived.Test.YtacfblhmijabgaaLawWeigh
namespace Go.Proofs.Ytacfblhmijabgaa
open Go.ChangeShapes Go.WideShapes Go.ChangeAt Go.RowKit Go.PlainAid

/-- The program's four functions answer as the model's do. -/
structure Impl3 : Prop where
  hW : ∀ (W L : List Int) (A A' : Option Addr) (c c' : Nat) (v : World), W.length ≤ 1048576 → L.length ≤ 1048576 → IntRow v A W → IntRow v A' L → Calls Try.prog 12 #[.slice A W.length c, .slice A' L.length c'] v (SaysIB (weighI W L) (weighB W L) v)
  hC : ∀ (L : List Int) (A : Option Addr) (c : Nat) (v : World), L.length ≤ 1048576 → IntRow v A L → Calls Try.prog 14 #[.slice A L.length c] v (SaysII (cnt L 1) (cnt L (-1)) v)
  hF : ∀ (m : Int) (L : List Int) (A : Option Addr) (c : Nat) (v : World), L.length ≤ 1048576 → IntRow v A L → Calls Try.prog 15 #[.int .i64 m, .slice A L.length c] v (SaysB (fairB m L) v)
  hT : ∀ (L : List Int) (A : Option Addr) (c : Nat) (v : World), L.length ≤ 1048576 → IntRow v A L → Calls Try.prog 13 #[.slice A L.length c] v (Copied (turnL L) v)

theorem wfacts_any (H : Impl3) (W L : List Int) (n1 : 1 ≤ W.length) (n2 : W.length ≤ 8) (n3 : L.length = W.length) (gW : ∀ z ∈ W, 0 ≤ z ∧ z ≤ 29) (gL : ∀ z ∈ L, -1 ≤ z ∧ z ≤ 1) : ∃ (x z p q : Int) (f : Bool), WFacts W L x z p q f := by
  have wb := getD_of_mem gW
  have lb := getD_of_mem gL
  have cW : coinsB W = true := coinsB_yes n1 (by omega) fun j hj => by have := wb j hj; omega
  have cM : coinsB (more W) = true := coinsB_yes (by rw [more_length]; exact n1) (by rw [more_length]; omega) fun j hj => by
    rw [more_length] at hj
    have := wb j hj
    rw [more_get hj]; omega
  have sL : signsB L = true := allIn_iff.2 lb
  have sN := signsB_negs sL
  have lW : loadB (W.length : Int) L = true := loadB_yes n1 (by omega) n3 sL
  have lN : loadB (W.length : Int) (negs L) = true := loadB_yes n1 (by omega) (by rw [negs_length]; exact n3) sN
  have lM : loadB ((more W).length : Int) L = true := by rw [more_length]; exact lW
  have w1 : weighB W L = true := by unfold weighB; rw [cW, lW]; rfl
  have w2 : weighB W (negs L) = true := by unfold weighB; rw [cW, lN]; rfl
  have w3 : weighB (more W) L = true := by unfold weighB; rw [cM, lM]; rfl
  have i1 : weighI W L = signI (dot W L) := by unfold weighI; rw [w1]; rfl
  have i2 : weighI W (negs L) = -signI (dot W L) := by
    unfold weighI
    rw [w2]
    show signI (dot W (negs L)) = _
    unfold dot
    rw [negs_length, dotTo_negs, signI_neg]
  have i3 : weighI (more W) L = signI (dot W L + 7 * (cnt L 1 - cnt L (-1))) := by
    unfold weighI
    rw [w3]
    show signI (dot (more W) L) = _
    unfold dot cnt
    rw [dotTo_more lb L.length (by omega) (Nat.le_refl _)]
  have t1 : turnL L = negs L := by unfold turnL; rw [sL]; rfl
  have t2 : turnL (negs L) = L := by unfold turnL; rw [sN]; exact negs_negs L
  have lf : fairB (W.length : Int) L = (decide (cnt L 1 = cnt L (-1)) && decide (0 < cnt L 1)) := by unfold fairB; rw [lW]; rfl
  refine ⟨signI (dot W L), signI (dot W L + 7 * (cnt L 1 - cnt L (-1))), cnt L 1, cnt L (-1), fairB (W.length : Int) L, ?_, ?_, ?_, ?_, ?_, ?_, ?_, ?_, ?_⟩
  · intro A A' c c' v r r'
    have h := H.hW W L A A' c c' v (by omega) (by omega) r r'
    rw [i1, w1] at h
    exact h
  · intro A A' c c' v r r'
    have h := H.hW W (negs L) A A' c c' v (by omega) (by rw [negs_length]; omega) r r'
    rw [i2, w2] at h
    exact h
  · intro A A' c c' v r r'
    have h := H.hW (more W) L A A' c c' v (by rw [more_length]; omega) (by omega) r r'
    rw [i3, w3] at h
    exact h
  · exact fun A c v r => H.hC L A c v (by omega) r
  · exact fun A c v r => H.hF _ L A c v (by omega) r
  · intro A c v r
    have h := H.hT L A c v (by omega) r
    rw [t1] at h
    exact h
  · intro A c v r
    have h := H.hT (negs L) A c v (by rw [negs_length]; omega) r
    rw [t2] at h
    exact h
  · unfold signI
    split
    · omega
    · split <;> omega
  · rw [lf]
    by_cases e : cnt L 1 = cnt L (-1)
    · by_cases g : 0 < cnt L 1
      · exact .inl ⟨by rw [decide_eq_true e, decide_eq_true g]; rfl, by rw [e, Int.sub_self, Int.mul_zero, Int.add_zero], e, g⟩
      · exact .inr (.inr ⟨by rw [decide_eq_false g, Bool.and_false], e, g⟩)
    · exact .inr (.inl ⟨by rw [decide_eq_false e]; rfl, e⟩)

theorem weighings_any (H : Impl3) (a : Option Addr) (len cap : Nat) (w : World) (hl : len ≤ 1048576) (hr : Bytes w w.heap.size a len) :
    Calls Try.prog 3 #[.slice a len cap] w fun e w' => e = .returned (.bool true) ∧ Below w.heap.size w w' := weighings_small (wfacts_any H) a len cap w hl hr

set_option maxRecDepth 100000 in
theorem weighings_big (a : Option Addr) (len cap : Nat) (w : World) (hl : 1048576 < len) (hm : len ≤ 9223372036854775807) :
    Calls Try.prog 3 #[.slice a len cap] w fun e w' => e = .returned (.bool true) ∧ Below w.heap.size w w' := by
  have hb : (1048576 : Int) < len := by omega
  go_enter Try.func3, Try.ntmps3
  go_wp2_with (go_at_call 10; go_in)
  go_ret
  exact ⟨rfl, Below.refl _ _⟩
end Go.Proofs.Ytacfblhmijabgaa
