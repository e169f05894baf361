/-
  The contracts of the program's two checks of the lengths. Only new memory is written.
-/
import Derived.Test.YtokengeaiknmhaaRulerLen
import Derived.Test.YtokengeaiknmhaaImplCounts
namespace Go.Proofs.Ytokengeaiknmhaa
open Go.ChangeShapes Go.WideShapes Go.ChangeAt Go.RowKit Go.PlainAid Go.Maps

theorem choose2 {n : Nat} (h : n ≤ 8) : ∃ m q : Nat, (n : Int) * ((n : Int) - 1) = (m : Int) ∧ m ≤ 56 ∧ (m : Int) / 2 = q ∧ q = n * (n - 1) / 2 := by
  have : n = 0 ∨ n = 1 ∨ n = 2 ∨ n = 3 ∨ n = 4 ∨ n = 5 ∨ n = 6 ∨ n = 7 ∨ n = 8 := by omega
  rcases this with rfl | rfl | rfl | rfl | rfl | rfl | rfl | rfl | rfl
  · exact ⟨0, 0, by decide, by decide, by decide, by decide⟩
  · exact ⟨0, 0, by decide, by decide, by decide, by decide⟩
  · exact ⟨2, 1, by decide, by decide, by decide, by decide⟩
  · exact ⟨6, 3, by decide, by decide, by decide, by decide⟩
  · exact ⟨12, 6, by decide, by decide, by decide, by decide⟩
  · exact ⟨20, 10, by decide, by decide, by decide, by decide⟩
  · exact ⟨30, 15, by decide, by decide, by decide, by decide⟩
  · exact ⟨42, 21, by decide, by decide, by decide, by decide⟩
  · exact ⟨56, 28, by decide, by decide, by decide, by decide⟩

set_option maxRecDepth 100000 in
set_option maxHeartbeats 2000000 in
theorem implGolomb_any (A : Option Addr) (c n : Nat) (L : List Int) (w : World) (hn : L.length = n) (hm : n ≤ 9223372036854775807) (hc : n ≤ c) (h : IntRow w A L) :
    Calls Try.prog 17 #[.slice A n c] w (SaysB (golB L) w) := by
  have hR := implRuler_any A c n L w hn hm h
  have hC := fun W r => implCounts_any A c n L W hn hm hc r
  obtain ⟨z, hz⟩ : ∃ z, golB L = z := ⟨_, rfl⟩
  rw [hz]
  replace hz : Hid (golB L = z) := hz
  go_enter Try.func17, Try.ntmps17
  go_wp2_with fail
  refine hR.mono ?_
  clear hR
  rintro e w1 ⟨rfl, q, rfl⟩
  have kb := below_drewN (Below.refl w.heap.size w) q
  generalize w.drewN q = w1 at kb ⊢
  rcases hb : rulB L with _ | _
  · obtain rfl : z = false := hz.out.symm.trans (golB_no hb)
    clear h hC hz hb
    go_wp2_with fail
    go_ret
    exact ⟨rfl, kb⟩
  · replace hC := hC _ (h.keep kb)
    have hg := golB_dist hb
    rw [hz.out, hn] at hg
    have hn8 := (rulB_P hb).1.1
    rw [hn] at hn8
    go_wp2_with fail
    refine hC.mono ?_
    clear hC h
    rintro e w2 (⟨hb2, -⟩ | ⟨-, B, rfl, M⟩)
    · rw [hb] at hb2; cases hb2
    obtain ⟨p, q, h1, h2, h3, h4⟩ := choose2 hn8.2
    rw [← h4] at hg
    have kb2 := kb.trans (M.bel.mono kb.size)
    generalize lens L = D at M hg
    generalize hdd : dist D = d at hg
    replace hdd : Hid (dist D = d) := hdd
    have hd : (d : Int) ≤ 1000000 := by
      have := List.countP_le_length (p := fun v : Nat => decide ((v : Int) ∈ D)) (l := List.range 61)
      rw [List.length_range] at this
      have := hdd.out
      unfold dist at this
      omega
    clear hb hz h4
    go_wp2_with (at_len; refine wpList_len_counts' (by rfl) _ _ rfl rfl M rfl ?_; rw [hdd.out])
    go_ret
    refine ⟨?_, kb2⟩
    rw [hg]
    by_cases e : d = q
    · subst e
      simp
    · have e2 : ¬ (d : Int) = q := by omega
      simp [e2]

end Go.Proofs.Ytokengeaiknmhaa
