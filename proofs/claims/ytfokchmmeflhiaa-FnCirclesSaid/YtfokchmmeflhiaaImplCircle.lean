/-
  The contract of the program's check of a circle. Nothing is written.
-/
import Derived.Test.YtfokchmmeflhiaaCircle
import Derived.BigQuiet
import Derived.Lib.Hide
namespace Go.Proofs.Ytfokchmmeflhiaa
open Go.ChangeShapes Go.WideShapes Go.ChangeAt Go.RowKit Go.PlainAid

theorem implCircle_any (N : Int) (A : Option Addr) (c n : Nat) (L : List Int) (w : World) (hn : L.length = n) (hm : n ≤ 1000000000) (h : IntRow w A L) :
    Calls Try.prog 21 #[.int .i64 N, .slice A n c] w (Quiet (circB N L) w) := by
  have hA := implAsc_any A c n L w hn hm h
  obtain ⟨b, hb⟩ : ∃ b, circB N L = b := ⟨_, rfl⟩
  rw [hb]
  replace hb := Lib.hid hb
  by_cases hl : (1 ≤ N ∧ N ≤ 60) ∧ (1 ≤ L.length ∧ L.length ≤ 8)
  · obtain ⟨x, rfl, -, hx⟩ := h 0 (by omega)
    rw [addr_add_nil] at hx
    have m1 : ¬ N < 1 := by omega
    have m2 : ¬ 60 < N := by omega
    have g1 : ¬ (n : Int) < 1 := by omega
    have g2 : ¬ 8 < (n : Int) := by omega
    have g0 : (0 : Int) < n := by omega
    have hbb := hb.out
    rw [circB_asc hl] at hbb
    obtain ⟨p, hp⟩ : ∃ p, n = p + 1 := ⟨n - 1, by omega⟩
    have hpi : (n : Int) - 1 = (p : Int) := by omega
    have hpn : (p : Int) < n := by omega
    rw [show L.length - 1 = p by omega] at hbb
    replace hbb := Lib.hid hbb
    go_enter Try.func21, Try.ntmps21
    clear hb hp
    go_wp2_with fail
    refine hA.mono ?_
    clear hA
    rintro e w1 ⟨rfl, q, rfl⟩
    rcases ha : ascB L with _ | _
    · have hbb2 := hbb.out
      rw [ha, Bool.false_and] at hbb2
      subst hbb2
      clear hbb h ha hx
      go_wp2_with fail
      go_ret
      exact ⟨rfl, q, rfl⟩
    · have hbb2 := hbb.out
      rw [ha, Bool.true_and] at hbb2
      replace h := h.keep (below_drewN (Below.refl w.heap.size w) q)
      replace hx : (w.drewN q).cell? x = some (.int .i64 (L.getD 0 0)) := hx
      obtain ⟨x', hxx, -, hy⟩ := h p (by omega)
      injection hxx with hxx
      subst hxx
      have hq : Hid (∃ p, w.drewN q = w.drewN p) := ⟨q, rfl⟩
      clear hbb h ha
      generalize L.getD 0 0 = z at hx hbb2
      generalize L.getD p 0 = y at hy hbb2
      generalize w.drewN q = w2 at hx hy hq ⊢
      by_cases g : 0 ≤ z
      · rw [decide_eq_true g, Bool.true_and] at hbb2
        by_cases g' : y < N
        · obtain rfl : b = true := hbb2.symm.trans (decide_eq_true g')
          have hd : decide (y < N) = true := decide_eq_true g'
          clear hbb2
          go_wp2_with fail
          go_ret
          exact ⟨by first | rfl | (rw [← hd]; rfl), hq.out⟩
        · obtain rfl : b = false := hbb2.symm.trans (decide_eq_false g')
          have hd : decide (y < N) = false := decide_eq_false g'
          clear hbb2
          go_wp2_with fail
          go_ret
          exact ⟨by first | rfl | (rw [← hd]; rfl), hq.out⟩
      · rw [decide_eq_false g, Bool.false_and] at hbb2
        subst hbb2
        go_wp2_with fail
        go_ret
        exact ⟨rfl, hq.out⟩
  · obtain rfl : b = false := hb.out.symm.trans (circB_out hl)
    clear hb h hA
    by_cases m1 : N < 1
    · go_enter Try.func21, Try.ntmps21
      go_wp2_with fail
      go_ret
      exact ⟨rfl, 0, rfl⟩
    · by_cases m2 : 60 < N
      · go_enter Try.func21, Try.ntmps21
        go_wp2_with fail
        go_ret
        exact ⟨rfl, 0, rfl⟩
      · by_cases g1 : (n : Int) < 1
        · go_enter Try.func21, Try.ntmps21
          go_wp2_with fail
          go_ret
          exact ⟨rfl, 0, rfl⟩
        · have g2 : 8 < (n : Int) := by omega
          go_enter Try.func21, Try.ntmps21
          go_wp2_with fail
          go_ret
          exact ⟨rfl, 0, rfl⟩
end Go.Proofs.Ytfokchmmeflhiaa
