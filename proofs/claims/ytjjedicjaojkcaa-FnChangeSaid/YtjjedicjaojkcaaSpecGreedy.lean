/-
  The contract of the model's greedy change. Only new memory is written.
-/
import Derived.Test.YtjjedicjaojkcaaSpecSys
import Derived.Test.YtjjedicjaojkcaaCoinWays
import Derived.Test.YtjjedicjaojkcaaOwnMore
import Derived.Test.YtjjedicjaojkcaaRange
import Derived.BigQuiet
import Derived.Lib.Hide
namespace Go.Proofs.Ytjjedicjaojkcaa
open Go.ChangeShapes Go.WideShapes Go.ChangeAt Go.RowKit Go.PlainAid

/-- The j greatest coins are paid. -/
def gst (L : List Int) (r j : Nat) : List Int := (List.range L.length).map fun k => if L.length - j ≤ k then (gq L r k : Int) else 0
theorem gst_length (L : List Int) (r j : Nat) : (gst L r j).length = L.length := by unfold gst; rw [List.length_map, List.length_range]
theorem gst_get {L : List Int} {r j k : Nat} (h : k < L.length) : (gst L r j).getD k 0 = if L.length - j ≤ k then (gq L r k : Int) else 0 := by
  unfold gst
  rw [List.getD_eq_getElem?_getD, List.getElem?_map, List.getElem?_range h]; rfl
theorem gst_zero (L : List Int) (r : Nat) : List.replicate L.length 0 = gst L r 0 :=
  list_ext_getD (by rw [List.length_replicate, gst_length]) fun k hk => by
    rw [List.length_replicate] at hk
    rw [gst_get hk, if_neg (by omega), List.getD_eq_getElem?_getD, List.getElem?_replicate, if_pos hk]; rfl
theorem gst_all (L : List Int) (r : Nat) : gst L r L.length = gL L r :=
  list_ext_getD (by rw [gst_length, gL_length]) fun k hk => by
    rw [gst_length] at hk
    rw [gst_get hk, if_pos (by omega), gL_get hk]
theorem gst_set {L : List Int} {r j k : Nat} (hj : L.length = j + k + 1) : (gst L r j).set k ((remA L r j / cn L k : Nat) : Int) = gst L r (j + 1) :=
  list_ext_getD (by rw [List.length_set, gst_length, gst_length]) fun i hi => by
    rw [List.length_set, gst_length] at hi
    rw [getD_set (by rw [gst_length]; omega), gst_get hi, gst_get hi]
    by_cases e : k = i
    · subst e
      rw [if_pos rfl, if_pos (by omega)]
      unfold gq
      rw [show L.length - 1 - k = j by omega]
    · rw [if_neg e]
      by_cases h1 : L.length - j ≤ i
      · rw [if_pos h1, if_pos (by omega)]
      · rw [if_neg h1, if_neg (by omega)]
theorem remA_step {L : List Int} {r j k : Nat} (hj : L.length = j + k + 1) : remA L r (j + 1) = remA L r j % cn L k := by
  show remA L r j % cn L (L.length - 1 - j) = _
  rw [show L.length - 1 - j = k by omega]
theorem remA_le (L : List Int) (r : Nat) : ∀ j, remA L r j ≤ r
  | 0 => Nat.le_refl _
  | j + 1 => Nat.le_trans (Nat.mod_le _ _) (remA_le L r j)

theorem gL_small {L : List Int} (r : Nat) (hr : r ≤ 1000) : ∀ z ∈ gL L r, 0 ≤ z ∧ z ≤ 1000000 := fun z hz => by
  obtain ⟨k, -, rfl⟩ := List.mem_map.1 hz
  have h1 := remA_le L r (L.length - 1 - k)
  have h2 := Nat.div_le_self (remA L r (L.length - 1 - k)) (cn L k)
  show 0 ≤ ((gq L r k : Nat) : Int) ∧ ((gq L r k : Nat) : Int) ≤ 1000000
  unfold gq
  generalize remA L r (L.length - 1 - k) / cn L k = d at h2 ⊢
  omega

set_option maxHeartbeats 1000000 in
theorem specGreedy_any (A : Option Addr) (c n : Nat) (m : Int) (L : List Int) (w : World) (hn : L.length = n) (hm : n ≤ 1000000000) (h : IntRow w A L) :
    Calls Try.prog 22 #[.slice A n c, .int .i64 m] w (Copied (greA L m) w) := by
  obtain ⟨i0, hi, hz0, hz1, hz2⟩ := info_parts Try.infoIntT
  have hR := specSys_any A c n L w hn hm h
  obtain ⟨X, hX⟩ : ∃ X, greA L m = X := ⟨_, rfl⟩
  rw [hX]
  replace hX : Hid (greA L m = X) := hX
  go_enter Try.func22, Try.ntmps22
  go_wp2_with fail
  refine hR.mono ?_
  clear hR
  rintro e w1 ⟨rfl, q, rfl⟩
  have kb := below_drewN (Below.refl w.heap.size w) q
  generalize w.drewN q = w1 at kb ⊢
  have O0 := (Own.none w).keep kb
  rcases hb : sysB L with _ | _
  · obtain rfl : X = [] := hX.out.symm.trans (greA_no (by rw [hb]; simp))
    have hc := O0.empty.copied
    clear h hX hb O0 kb
    go_wp2_with fail
    go_ret
    exact hc
  · by_cases hm2 : 0 ≤ m ∧ m ≤ 1000
    · have hI := in_to true m 0 1000 w1 (decide_eq_true hm2)
      obtain ⟨r, rfl⟩ : ∃ r : Nat, m = (r : Int) := ⟨m.toNat, by omega⟩
      have hr : r ≤ 1000 := by omega
      have hP := sysB_P hb
      rw [greA_yes hb hr, ← gst_all, hn] at hX
      have hn6 := hP.1.1
      rw [hn] at hn6
      clear hb hm2
      go_wp2_with fail
      refine hI.mono ?_
      clear hI
      rintro e w2 ⟨rfl, rfl⟩
      go_wp2_with (at_make; refine wpList_make_full _ rfl _ _ 24 rfl w1.heap.size 3 i0 (.int .i64 0) 1 Try.underlying24 hi hz0 hz1 .i64 .i64 _ _ n rfl rfl rfl rfl (by rw [hz2]; omega) (by unfold maxLen; omega) (Nat.le_refl _) ?_; intro w0 hown0 hgrow0; have M1 := O0.made hown0 hgrow0; clear hown0 hgrow0)
      rw [← hn, gst_zero L r, hn] at M1
      have hsz1 := O0.bel.size
      have e0 : (r : Int) = (remA L r 0 : Nat) := rfl
      go_loopw [1, 6] (fun v i wr => ∃ j : Nat, j ≤ n ∧ i = .int .i64 ((n : Int) - 1 - j) ∧ v = .int .i64 (remA L r j : Nat) ∧ Own w wr [irow (.slice (some ⟨w1.heap.size, 0, none⟩) n n) (gst L r j)]) (fun _ i _ => (intOf i + 1).toNat)
      case atStart => exact ⟨0, by omega, by simp, rfl, M1⟩
      case round =>
        clear M1 O0 e0
        obtain ⟨j, hj, rfl, rfl, O⟩ := hrel
        by_cases hlt : j < n
        · obtain ⟨k, hk⟩ : ∃ k, n = j + k + 1 := ⟨n - 1 - j, by omega⟩
          obtain ⟨y, rfl, hy0, hy1⟩ := h k (by omega)
          have hy := (O.bel.cell (by rw [addr_add_block]; exact hy0)).trans hy1
          obtain ⟨hc1, hc2, hc3⟩ := hP.coin (k := k) (by omega)
          rw [hc1] at hy
          have hkn : (k : Int) < n := by omega
          have hki : (n : Int) - 1 - j = (k : Int) := by omega
          obtain ⟨⟨u, hu⟩, hf, O2⟩ := O.store (j := k) (by rw [gst_length]; exact hn) (by omega) (remA L r j / cn L k : Nat)
          rw [gst_set (by omega)] at O2
          have hre := remA_step (L := L) (r := r) (j := j) (k := k) (by omega)
          have hrl := remA_le L r j
          have hst : Hid (remA L r (j + 1) = remA L r j % cn L k) := hre
          rw [hki]
          have hy2 := (O2.bel.cell (by rw [addr_add_block]; exact hy0)).trans hy1
          rw [hc1] at hy2
          have hO := Lib.hid O2
          clear O O2 hy1 hre h hP hX hc1
          generalize remA L r j = a at hrl hst hO hy2 ⊢
          generalize cn L k = b at hy hc2 hc3 hst hO hy2 ⊢
          have hq0 : a / b ≤ a := Nat.div_le_self a b
          have hp0 : a % b ≤ a := Nat.mod_le a b
          have hq1 : (a : Int) / (b : Int) = ((a / b : Nat) : Int) := (Int.natCast_ediv a b).symm
          have hp1 : (a : Int) % (b : Int) = ((a % b : Nat) : Int) := (Int.natCast_emod a b).symm
          generalize a / b = q1 at hq0 hq1 hO hy2
          generalize a % b = q2 at hp0 hp1 hst
          go_wp2_with fail
          go_roundw
          case rel => exact ⟨j + 1, by omega, by go_num, by rw [hst.out, ← hp1], hO.out⟩
          case measure => simp [intOf]
        · obtain rfl : j = n := by omega
          have hc := O.copied
          rw [hX.out] at hc
          have hge : ¬ (0 : Int) ≤ (j : Int) - 1 - j := by omega
          clear h hP O
          go_wp2_with fail
          go_ret
          exact hc
    · have hI := in_to false m 0 1000 w1 (decide_eq_false hm2)
      obtain rfl : X = [] := hX.out.symm.trans (greA_no fun g => hm2 g.2)
      have hc := O0.empty.copied
      clear h hX hb O0 kb
      go_wp2_with fail
      refine hI.mono ?_
      rintro e w2 ⟨rfl, rfl⟩
      go_wp2_with fail
      go_ret
      exact hc
end Go.Proofs.Ytjjedicjaojkcaa
