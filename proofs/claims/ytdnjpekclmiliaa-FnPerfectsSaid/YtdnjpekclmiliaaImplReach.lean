/-
  The contract of the program's reach of a set: what the model answers, only new memory is written.
-/
import Derived.Test.YtdnjpekclmiliaaImplSums
import Derived.Test.YtdnjpekclmiliaaLibSort
import Derived.Test.YtdnjpekclmiliaaImplSetOk
import Derived.BigRegion
namespace Go.Proofs.Ytdnjpekclmiliaa
open Go.ChangeShapes Go.WideShapes Go.ChangeAt Go.RowKit Go.PlainAid

theorem sumsV_len (p : Int) (L : List Int) : (sumsV p L).length ≤ 6561 := by
  unfold sumsV
  cases hs : setB L
  · exact Nat.zero_le _
  · have h1 := sums_len p L L.length
    have h2 : (3 : Nat) ^ L.length ≤ 3 ^ 8 := Nat.pow_le_pow_right (by decide) (setB_P hs).1.2
    have h3 : (3 : Nat) ^ 8 = 6561 := by decide
    show (sumsOf (gOf p) L L.length).length ≤ 6561
    omega
theorem rAt_nil (Z : List Int) (h : Z.length = 0) : rAt Z Z.length = 0 := by rw [h]; rfl
theorem sumsV_reach (L : List Int) (p : Int) : rAt (sortL (sumsV p L)) (sumsV p L).length = reachI L p := by
  by_cases hs : setB L = true
  · by_cases hp : 1 ≤ p ∧ p ≤ 2
    · rw [reach_sorted (setB_P hs) hp]
      have e : sumsV p L = sumsL (decide (p = 2)) L := by unfold sumsV sumsL; rw [hs, gOf_of hp]; rfl
      rw [e]
    · have e : sumsV p L = [] := by
        unfold sumsV
        rw [hs, gOf_not hp]
        have hl := (setB_P hs).1
        obtain ⟨k, hk⟩ : ∃ k, L.length = k + 1 := ⟨L.length - 1, by omega⟩
        rw [hk]
        refine List.length_eq_zero_iff.1 ?_
        show (more [] (L.getD k 0) (sumsOf [] L k)).length = 0
        rw [more_length]
        exact Nat.mul_zero _
      have e2 : reachI L p = 0 := by unfold reachI; rw [hs, decide_eq_false hp]; rfl
      rw [e, e2]
      rfl
  · have hf : setB L = false := by cases h : setB L <;> simp_all
    have e : sumsV p L = [] := by unfold sumsV; rw [hf]; rfl
    have e2 : reachI L p = 0 := by unfold reachI; rw [hf]; rfl
    rw [e, e2]
    rfl

theorem implReach_any (p : Int) (A : Option Addr) (c n : Nat) (L : List Int) (w : World) (hn : L.length = n) (hm : n ≤ 1000000000) (r : IntRow w A L) :
    Calls Try.prog 31 #[.slice A n c, .int .i64 p] w (SaysI (reachI L p) w) := by
  have hU := implSums_any p A c n L w hn r (implSet_any A c n L w hn hm r)
  have hl := sumsV_len p L
  rw [← sumsV_reach]
  generalize sumsV p L = S at hU hl ⊢
  clear r hn
  obtain ⟨R, hR⟩ : ∃ R, rAt (sortL S) S.length = R := ⟨_, rfl⟩
  rw [hR]
  replace hR : Hid (rAt (sortL S) S.length = R) := hR
  go_enter Try.func31, Try.ntmps31
  go_wp2_with fail
  refine hU.mono ?_
  rintro e w1 ⟨B, d, rfl, o, b⟩
  have O : Own w w1 [irow (.slice B S.length d) S] := ⟨fun q hq => by rw [List.mem_singleton.1 hq]; exact o, List.pairwise_singleton _ _, b⟩
  have hc := sort_own S B d [] O (by omega)
  clear hU o O b
  go_wp2_with fail
  refine hc.mono ?_
  rintro e w2 ⟨rfl, O⟩
  have b := O.bel
  have hlen : (sortL S).length = S.length := sortL_length S
  have rZ : IntRow w2 B (sortL S) := O.row (v := .slice B S.length d) (by simp) rfl hlen.symm
  have r0 := rAt_le (sortL S)
  have r1 := rAt_succ (sortL S)
  have r00 : rAt (sortL S) 0 = 0 := rfl
  clear hc O
  generalize rAt (sortL S) = f at hR r0 r1 r00
  generalize sortL S = Z at rZ hlen r1
  generalize S.length = N at hlen hl hR
  go_wp2_with fail
  go_loopw [6, 16] (fun u i wr => ∃ k : Nat, k ≤ N ∧ i = .int .i64 k ∧ u = .int .i64 (f k) ∧ w2 = wr) (fun _ i _ => N - (intOf i).toNat)
  case atStart => exact ⟨0, by omega, rfl, by rw [r00], rfl⟩
  case round =>
    clear r00
    obtain ⟨k, hk, rfl, rfl, rfl⟩ := hrel
    by_cases hlt : k < N
    · obtain ⟨x, rfl, -, hx⟩ := rZ k (by omega)
      have hs := r1 k
      have hc := r0 k
      clear rZ r0 r1
      generalize Z.getD k 0 = z at hx hs
      by_cases hz : z = f k + 1
      · rw [if_pos hz] at hs
        have hs2 : Hid (f (k + 1) = z) := hs
        clear hs
        generalize f k = t at hc hz
        subst hz
        go_wp2
        go_roundw
        case rel => exact ⟨k + 1, by omega, by go_num, by rw [hs2.out], by first | rfl | trivial⟩
        case measure => simp [intOf]; omega
      · rw [if_neg hz] at hs
        have hs2 : Hid (f (k + 1) = f k) := hs
        clear hs
        generalize f k = t at hc hz hs2
        go_wp2
        go_roundw
        case rel => exact ⟨k + 1, by omega, by go_num, by rw [hs2.out], by first | rfl | trivial⟩
        case measure => simp [intOf]; omega
    · obtain rfl : k = N := by omega
      have e := hR.out
      rw [e]
      clear rZ r0 r1 hR e
      go_wp2
      go_ret
      exact ⟨rfl, b⟩

end Go.Proofs.Ytdnjpekclmiliaa
